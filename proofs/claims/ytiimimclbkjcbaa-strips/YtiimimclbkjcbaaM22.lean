import Derived.Test.YtiimimclbkjcbaaQg
import Derived.Test.YtiimimclbkjcbaaQh
import Derived.Test.YtiimimclbkjcbaaIc
import Derived.OpenShut
import Derived.ShutString
import Derived.ChangeSame
import Derived.WideShapes
namespace Go.Proofs.Ytiimimclbkjcbaa
open Go.RowKit
open Go.Proofs

theorem strips_walk (v : Wish) (hv : WishOk v) (n : Int) (hn : i64 n) (ly : Bool) (w : World) :
    Calls Try.prog 11 #[.agg (wishv v), .int .i64 n, .bool ly] w fun e w' => e = .returned (.bool true) ∧ Kp (fun _ => False) w w' := by
  cases ly
  · exact strips_stand v hv n hn w
  · exact strips_lie v hv n hn w
end Go.Proofs.Ytiimimclbkjcbaa
namespace Go.Proofs.Ytiimimclbkjcbaa
open Go.RowKit
open Go.Proofs
open Go.ChangeShapes Go.WideShapes

theorem array9 {α : Type} {cs : Array α} (h : cs.size = 9) : ∃ c0 c1 c2 c3 c4 c5 c6 c7 c8, cs = #[c0, c1, c2, c3, c4, c5, c6, c7, c8] := by
  obtain ⟨l⟩ := cs
  match l, h with
  | [c0, c1, c2, c3, c4, c5, c6, c7, c8], _ => exact ⟨c0, c1, c2, c3, c4, c5, c6, c7, c8, rfl⟩
theorem list9 {α : Type} {l : List α} (h : l.length = 9) : ∃ c0 c1 c2 c3 c4 c5 c6 c7 c8, l = [c0, c1, c2, c3, c4, c5, c6, c7, c8] := by
  match l, h with
  | [c0, c1, c2, c3, c4, c5, c6, c7, c8], _ => exact ⟨c0, c1, c2, c3, c4, c5, c6, c7, c8, rfl⟩
theorem cells_wish : Try.prog.cellsOf 32 = 9 := by kernel_rfl
theorem cells_int : Try.prog.cellsOf 3 = 1 := by kernel_rfl
theorem cells_str : Try.prog.cellsOf 9 = 1 := by kernel_rfl
section
variable {H : Type} {enc : TypeId × Value → H} {w : World} {base : Nat} {spare : Nat → Bool} {held : Bool}
theorem fld_int (n : Int) (h : (Lit.int .i64 n).wf = true) : DataW.trod enc Try.prog w base spare held 1 3 [.int .i64 n] = some (.lit (.int .i64 n), []) := by
  simp [DataW.trod, Try.underlying3, h]
theorem fld_str (s : ByteArray) (h : s.size ≤ maxLen) : DataW.trod enc Try.prog w base spare held 1 9 [.string s] = some (.lit (.string s.data.toList), []) := by
  simp [DataW.trod, Try.underlying9, h]
theorem i64_of {n : Int} (h : (Lit.int .i64 n).wf = true) : i64 n := bounds_i64 h
def wishD (H : Type) (x : Wish) : DataW H := .agg [.lit (.int .i64 x.near), .lit (.int .i64 x.births), .lit (.int .i64 x.lives), .lit (.int .i64 x.states), .lit (.int .i64 x.kind), .lit (.int .i64 x.w), .lit (.int .i64 x.h), .lit (.int .i64 x.shift), .lit (.string x.cells.data.toList)]
structure WishWf (x : Wish) : Prop where
  a0 : (Lit.int .i64 x.near).wf = true
  a1 : (Lit.int .i64 x.births).wf = true
  a2 : (Lit.int .i64 x.lives).wf = true
  a3 : (Lit.int .i64 x.states).wf = true
  a4 : (Lit.int .i64 x.kind).wf = true
  a5 : (Lit.int .i64 x.w).wf = true
  a6 : (Lit.int .i64 x.h).wf = true
  a7 : (Lit.int .i64 x.shift).wf = true
  a8 : x.cells.size ≤ maxLen
theorem WishWf.ok {x : Wish} (h : WishWf x) : WishOk x := ⟨i64_of h.a0, i64_of h.a1, i64_of h.a2, i64_of h.a3, i64_of h.a4, i64_of h.a5, i64_of h.a6, i64_of h.a7, h.a8⟩
set_option maxRecDepth 100000 in
theorem shut_wish {x : Wish} (h : WishWf x) : DataW.Trod enc Try.prog w base spare held 32 (.agg (wishv x)) (wishD H x) [] := by
  refine ⟨2, ?_⟩
  have := trod_struct_mk (enc := enc) (w := w) (base := base) (spare := spare) (held := held) (n := 1) (cs := (wishv x).toList) (xs := [(.lit (.int .i64 x.near), []), (.lit (.int .i64 x.births), []), (.lit (.int .i64 x.lives), []), (.lit (.int .i64 x.states), []), (.lit (.int .i64 x.kind), []), (.lit (.int .i64 x.w), []), (.lit (.int .i64 x.h), []), (.lit (.int .i64 x.shift), []), (.lit (.string x.cells.data.toList), [])]) Try.underlying32 (by rw [cells_wish]; rfl)
    (by simp [cells_int, cells_str, wishv, fld_int _ h.a0, fld_int _ h.a1, fld_int _ h.a2, fld_int _ h.a3, fld_int _ h.a4, fld_int _ h.a5, fld_int _ h.a6, fld_int _ h.a7, fld_str _ h.a8])
  simpa [Value.cells, wishD] using this
set_option maxRecDepth 100000 in
theorem open_wish {r : Reach} {b0 : Nat} {v : Value} {d : DataW H} {ps : List MemPlace} (hval : Value.okWide Try.prog w r b0 32 v) (hd : DataW.Trod enc Try.prog w base spare held 32 v d ps) :
    ∃ x : Wish, v = .agg (wishv x) ∧ d = wishD H x ∧ ps = [] ∧ WishWf x := by
  obtain ⟨cs, rfl, hsz⟩ := okWide_struct Try.underlying32 hval
  obtain ⟨c0, c1, c2, c3, c4, c5, c6, c7, c8, rfl⟩ := array9 (hsz.trans cells_wish)
  obtain ⟨fuel, hf⟩ := hd
  obtain ⟨xs, n, _, hx, _, hlen, hfl⟩ := DataW.trod_struct Try.underlying32 hf
  obtain ⟨y0, y1, y2, y3, y4, y5, y6, y7, y8, rfl⟩ := list9 hlen
  have g0 : DataW.trod enc Try.prog w base spare held n 3 ((((Value.agg #[c0, c1, c2, c3, c4, c5, c6, c7, c8]).cells.toList).drop 0).take (Try.prog.cellsOf 3)) = some y0 := hfl 0 _ rfl
  rw [cells_int] at g0
  have g0' : DataW.trod enc Try.prog w base spare held n 3 [c0] = some y0 := g0
  have g1 : DataW.trod enc Try.prog w base spare held n 3 ((((Value.agg #[c0, c1, c2, c3, c4, c5, c6, c7, c8]).cells.toList).drop 1).take (Try.prog.cellsOf 3)) = some y1 := hfl 1 _ rfl
  rw [cells_int] at g1
  have g1' : DataW.trod enc Try.prog w base spare held n 3 [c1] = some y1 := g1
  have g2 : DataW.trod enc Try.prog w base spare held n 3 ((((Value.agg #[c0, c1, c2, c3, c4, c5, c6, c7, c8]).cells.toList).drop 2).take (Try.prog.cellsOf 3)) = some y2 := hfl 2 _ rfl
  rw [cells_int] at g2
  have g2' : DataW.trod enc Try.prog w base spare held n 3 [c2] = some y2 := g2
  have g3 : DataW.trod enc Try.prog w base spare held n 3 ((((Value.agg #[c0, c1, c2, c3, c4, c5, c6, c7, c8]).cells.toList).drop 3).take (Try.prog.cellsOf 3)) = some y3 := hfl 3 _ rfl
  rw [cells_int] at g3
  have g3' : DataW.trod enc Try.prog w base spare held n 3 [c3] = some y3 := g3
  have g4 : DataW.trod enc Try.prog w base spare held n 3 ((((Value.agg #[c0, c1, c2, c3, c4, c5, c6, c7, c8]).cells.toList).drop 4).take (Try.prog.cellsOf 3)) = some y4 := hfl 4 _ rfl
  rw [cells_int] at g4
  have g4' : DataW.trod enc Try.prog w base spare held n 3 [c4] = some y4 := g4
  have g5 : DataW.trod enc Try.prog w base spare held n 3 ((((Value.agg #[c0, c1, c2, c3, c4, c5, c6, c7, c8]).cells.toList).drop 5).take (Try.prog.cellsOf 3)) = some y5 := hfl 5 _ rfl
  rw [cells_int] at g5
  have g5' : DataW.trod enc Try.prog w base spare held n 3 [c5] = some y5 := g5
  have g6 : DataW.trod enc Try.prog w base spare held n 3 ((((Value.agg #[c0, c1, c2, c3, c4, c5, c6, c7, c8]).cells.toList).drop 6).take (Try.prog.cellsOf 3)) = some y6 := hfl 6 _ rfl
  rw [cells_int] at g6
  have g6' : DataW.trod enc Try.prog w base spare held n 3 [c6] = some y6 := g6
  have g7 : DataW.trod enc Try.prog w base spare held n 3 ((((Value.agg #[c0, c1, c2, c3, c4, c5, c6, c7, c8]).cells.toList).drop 7).take (Try.prog.cellsOf 3)) = some y7 := hfl 7 _ rfl
  rw [cells_int] at g7
  have g7' : DataW.trod enc Try.prog w base spare held n 3 [c7] = some y7 := g7
  have g8 : DataW.trod enc Try.prog w base spare held n 9 ((((Value.agg #[c0, c1, c2, c3, c4, c5, c6, c7, c8]).cells.toList).drop 8).take (Try.prog.cellsOf 9)) = some y8 := hfl 8 _ rfl
  rw [cells_str] at g8
  have g8' : DataW.trod enc Try.prog w base spare held n 9 [c8] = some y8 := g8
  clear hfl hlen hf hsz hval g0 g1 g2 g3 g4 g5 g6 g7 g8
  obtain ⟨n0, e0, z0, k0⟩ := DataW.trod_int Try.underlying3 g0'
  obtain rfl := (List.cons.inj e0).1
  subst z0
  obtain ⟨n1, e1, z1, k1⟩ := DataW.trod_int Try.underlying3 g1'
  obtain rfl := (List.cons.inj e1).1
  subst z1
  obtain ⟨n2, e2, z2, k2⟩ := DataW.trod_int Try.underlying3 g2'
  obtain rfl := (List.cons.inj e2).1
  subst z2
  obtain ⟨n3, e3, z3, k3⟩ := DataW.trod_int Try.underlying3 g3'
  obtain rfl := (List.cons.inj e3).1
  subst z3
  obtain ⟨n4, e4, z4, k4⟩ := DataW.trod_int Try.underlying3 g4'
  obtain rfl := (List.cons.inj e4).1
  subst z4
  obtain ⟨n5, e5, z5, k5⟩ := DataW.trod_int Try.underlying3 g5'
  obtain rfl := (List.cons.inj e5).1
  subst z5
  obtain ⟨n6, e6, z6, k6⟩ := DataW.trod_int Try.underlying3 g6'
  obtain rfl := (List.cons.inj e6).1
  subst z6
  obtain ⟨n7, e7, z7, k7⟩ := DataW.trod_int Try.underlying3 g7'
  obtain rfl := (List.cons.inj e7).1
  subst z7
  obtain ⟨s, e8, z8, k8⟩ := DataW.trod_string Try.underlying9 g8'
  obtain rfl := (List.cons.inj e8).1
  subst z8
  simp at hx
  exact ⟨⟨n0, n1, n2, n3, n4, n5, n6, n7, s⟩, rfl, hx.1, hx.2, ⟨k0, k1, k2, k3, k4, k5, k6, k7, k8⟩⟩
end
end Go.Proofs.Ytiimimclbkjcbaa
