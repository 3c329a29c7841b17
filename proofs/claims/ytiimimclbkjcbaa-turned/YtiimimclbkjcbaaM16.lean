import Derived.Test.YtiimimclbkjcbaaKc
import Derived.Test.YtiimimclbkjcbaaM15
import Derived.Test.YtiimimclbkjcbaaIc
import Derived.OpenShut
import Derived.ShutString
import Derived.ChangeSame
import Derived.WideShapes
namespace Go.Proofs.Ytiimimclbkjcbaa
open Go.RowKit
open Go.Proofs

/-- Step where every pair of numbers folds. -/
theorem wstep_fold (q : Nat) (r : Pu.Rule) (x : Pu.Shape) (age : Int) (S : List Int) (n : Nat) (w : World) (h : GrAt w q (preOf r x age) x.w x.h 0 0 S) (hr : RuleOk r) (hx : Two x) (hsh : Pu.ShapeOk x) (hf : FoldOk x) (hk : x.kind = 84 ∨ x.kind = 75 ∨ x.kind = 67) (W H : Nat) (hW : x.w = W) (hH : x.h = H)
    (ha : r.around = 77 ∨ r.around = 86 ∨ r.around = 72) (h2 : 2 ≤ r.states) (h9 : r.states ≤ 9) (hS : StOk r S) (hn : n ≤ 100) (hage : 0 ≤ age) (hage2 : age + n ≤ 999999) :
    Calls Try.prog 23 #[.pointer (some ⟨q, 0, none⟩), .int .i64 n] w fun e w' => e = .returned (.int .i64 0) ∧ GrAt w' q (preOf r x (age + n)) x.w x.h 0 0 (stepN r (foldG x) W H n S) ∧ Kp (· = q) w w' := by
  exact wstep_core (foldG x) q r x age S n w h hr hx hsh (fun _ => hf) W H hW hH ha h2 h9 hS hn hage hage2 (fun T X Y _ _ _ _ => by
    unfold nbG
    rw [if_neg (fun hb : beyond x X Y => by have := hb.1; omega), if_pos (show foldsB x from hk)]
    rfl)
/-- A plan's shape folds. -/
theorem plan_fold {p : Pu.Plan} (hp : Pu.PlanOk p) : FoldOk (Pu.shapeOf p) := by
  have hw := hp.w
  have hh := hp.h
  have ht := hp.torus
  exact ⟨by show 0 ≤ p.w ∧ p.w ≤ 12; omega, by show 0 ≤ p.h ∧ p.h ≤ 12; omega, by show p.sw = 0 ∨ (0 < p.sw ∧ p.sw < p.w); omega, by show p.sh = 0 ∨ (0 < p.sh ∧ p.sh < p.h); omega, fun _ => by show 1 ≤ p.w; omega, fun _ => by show 1 ≤ p.h; omega⟩
theorem step_plan {p : Pu.Plan} (hp : Pu.PlanOk p) (hk : p.kind = 84 ∨ p.kind = 75 ∨ p.kind = 67) {W H : Nat} (hW : p.w = W) (hH : p.h = H) (rk : RuleOk (Pu.ruleOf p)) (wx : World) (q : Nat) (age : Int) (S : List Int) (n : Nat) (hn : n ≤ 100) (hS : StOk (Pu.ruleOf p) S) (h0 : 0 ≤ age) (h1 : age ≤ 1000) (hg : GrAt wx q (preOf (Pu.ruleOf p) (Pu.shapeOf p) age) p.w p.h 0 0 S) :
    Calls Try.prog 23 #[.pointer (some ⟨q, 0, none⟩), .int .i64 n] wx fun e w' => e = .returned (.int .i64 0) ∧ GrAt w' q (preOf (Pu.ruleOf p) (Pu.shapeOf p) (age + n)) p.w p.h 0 0 (stepN (Pu.ruleOf p) (foldG (Pu.shapeOf p)) W H n S) ∧ Kp (· = q) wx w' :=
  wstep_fold q (Pu.ruleOf p) (Pu.shapeOf p) age S n wx hg rk (two_plan hp) (plan_shape hp) (plan_fold hp) hk W H hW hH hp.near hp.c.1 hp.c.2 hS hn h0 (by omega)
theorem flat144 {p : Pu.Plan} (hp : Pu.PlanOk p) {W H : Nat} (hW : p.w = W) (hH : p.h = H) : H * W ≤ 144 := by
  have hw := hp.w
  have hh := hp.h
  exact Nat.mul_le_mul (show H ≤ 12 by omega) (show W ≤ 12 by omega)
theorem mirrors_steps (p : Pu.Plan) (hp : Pu.PlanOk p) (hne : p.near = 77 ∨ p.near = 86) (hk : p.kind ≠ 83) (h1 : p.sw = 0) (h2 : p.sh = 0) (W H : Nat) (hW : p.w = W) (hH : p.h = H) (rk : RuleOk (Pu.ruleOf p)) : ∃ NX, StepsBy p false W H NX := by
  have hkd := hp.kind
  have hWH := flat144 hp hW hH
  by_cases h80 : p.kind = 80
  · refine ⟨nextS (Pu.ruleOf p) (planeG (Pu.shapeOf p)) W H, ⟨fun wx q age S hS h0 h1 hg => ?_, fun S hS => nextS_ok _ hp.c.1 _ _ _ _ hS, fun Su Sw _ _ hr => ?_⟩⟩
    · exact wstep_plane q (Pu.ruleOf p) (Pu.shapeOf p) age S 1 wx hg rk (two_plan hp) (plan_shape hp) h80 W H hW hH hp.near hp.c.1 hp.c.2 hS (by omega) h0 (by omega)
    · exact mirror_next (Pu.ruleOf p) hne _ W H hWH (fun Su Sw hr X Y _ _ _ _ => plane_mirror (two_plan hp) hW hH hr X Y) Su Sw hr
  · have hk3 : p.kind = 84 ∨ p.kind = 75 ∨ p.kind = 67 := by simp at hkd; omega
    refine ⟨nextS (Pu.ruleOf p) (foldG (Pu.shapeOf p)) W H, ⟨fun wx q age S hS h0 h1 hg => ?_, fun S hS => nextS_ok _ hp.c.1 _ _ _ _ hS, fun Su Sw _ _ hr => ?_⟩⟩
    · exact step_plan hp hk3 hW hH rk wx q age S 1 (by omega) hS h0 h1 hg
    · exact mirror_next (Pu.ruleOf p) hne _ W H hWH (fun Su Sw hr X Y _ _ _ _ => foldG_mirror (two_plan hp) h1 h2 hW hH hr X Y) Su Sw hr
end Go.Proofs.Ytiimimclbkjcbaa
namespace Go.Proofs.Ytiimimclbkjcbaa
open Go.RowKit
open Go.Proofs

/-- What the neighbours are on a sphere. -/
def sphG (x : Pu.Shape) (T : List Int) (X Y : Int) : Int := nbG x ⟨0, 0, T⟩ X Y
theorem onto_in {a W : Int} (h : 0 < W) : 0 ≤ ontoP a W ∧ ontoP a W < W := by
  unfold ontoP
  split
  · omega
  · split <;> omega
theorem sphere_turn {x : Pu.Shape} (h : Two x) (hk : x.kind = 83) {W : Nat} (hW : x.w = W) (hH : x.h = W) {Su Sw : List Int} (hr : RelU true W Su Sw (W * W)) (X Y : Int) : sphG x Sw X Y = sphG x Su Y X := by
  have e : hasB x X Y = hasB x Y X := by
    unfold hasB onSideB
    rw [Bool.eq_iff_iff, hW, hH]
    simp
    omega
  have hf : ¬ foldsB x := fun hf => by unfold foldsB at hf; omega
  have hw := h.1
  unfold sphG nbG
  by_cases hb : hasB x X Y = true
  · have hb2 : hasB x Y X = true := e.symm.trans hb
    rw [if_neg (fun h : beyond x X Y => by rw [h.2] at hb; cases hb), if_neg (fun h : beyond x Y X => by rw [h.2] at hb2; cases hb2), if_neg hf, if_neg hf, if_pos hb, if_pos hb2]
    unfold hasB onSideB at hb
    obtain ⟨h1, h2, h3, h4⟩ := h
    simp at hb
    unfold getG
    simp only
    rw [rel_turn ⟨h1, h2, h3, h4⟩ hW hH hr (by omega) (by omega)]
  · have hb1 : hasB x X Y = false := by simpa using hb
    have hb2 : hasB x Y X = false := e.symm.trans hb1
    rw [if_pos (show beyond x X Y from ⟨hk, hb1⟩), if_pos (show beyond x Y X from ⟨hk, hb2⟩)]
    unfold getG
    simp only
    have o1 := onto_in (a := X) (W := W) (by omega)
    have o2 := onto_in (a := Y) (W := W) (by omega)
    have o3 := rel_turn h hW hH hr (a := ontoP Y W) (b := ontoP X W) (by omega) (by omega)
    rw [hW, hH] at o3 ⊢
    rw [o3]
theorem turned_steps (p : Pu.Plan) (hp : Pu.PlanOk p) (hk : p.kind = 80 ∨ p.kind = 83) (W : Nat) (hW : p.w = W) (hH : p.h = W) (rk : RuleOk (Pu.ruleOf p)) : ∃ NX, StepsBy p true W W NX := by
  have hWH := flat144 hp hW hH
  rcases hk with h80 | h83
  · refine ⟨nextS (Pu.ruleOf p) (planeG (Pu.shapeOf p)) W W, ⟨fun wx q age S hS h0 h1 hg => ?_, fun S hS => nextS_ok _ hp.c.1 _ _ _ _ hS, fun Su Sw _ _ hr => ?_⟩⟩
    · exact wstep_plane q (Pu.ruleOf p) (Pu.shapeOf p) age S 1 wx hg rk (two_plan hp) (plan_shape hp) h80 W W hW hH hp.near hp.c.1 hp.c.2 hS (by omega) h0 (by omega)
    · exact turn_next (Pu.ruleOf p) hp.near _ W hWH (fun Su Sw hr X Y _ _ _ _ => plane_turn (two_plan hp) hW hH hr X Y) Su Sw hr
  · refine ⟨nextS (Pu.ruleOf p) (sphG (Pu.shapeOf p)) W W, ⟨fun wx q age S hS h0 h1 hg => ?_, fun S hS => nextS_ok _ hp.c.1 _ _ _ _ hS, fun Su Sw _ _ hr => ?_⟩⟩
    · exact wstep_core (sphG (Pu.shapeOf p)) q (Pu.ruleOf p) (Pu.shapeOf p) age S 1 wx hg rk (two_plan hp) (plan_shape hp) (fun hf => by have : (Pu.shapeOf p).kind = 83 := h83; unfold foldsB at hf; omega) W W hW hH hp.near hp.c.1 hp.c.2 hS (by omega) h0 (by omega) (fun _ _ _ _ _ _ _ => rfl)
    · exact turn_next (Pu.ruleOf p) hp.near _ W hWH (fun Su Sw hr X Y _ _ _ _ => sphere_turn (two_plan hp) h83 hW hH hr X Y) Su Sw hr
end Go.Proofs.Ytiimimclbkjcbaa
namespace Go.Proofs.Ytiimimclbkjcbaa
open Go.RowKit
open Go.Proofs
open Go.ChangeShapes Go.WideShapes

theorem array9 {α : Type} {cs : Array α} (h : cs.size = 9) : ∃ c0 c1 c2 c3 c4 c5 c6 c7 c8, cs = #[c0, c1, c2, c3, c4, c5, c6, c7, c8] := by
  obtain ⟨l⟩ := cs
  match l, h with
  | [c0, c1, c2, c3, c4, c5, c6, c7, c8], _ => exact ⟨c0, c1, c2, c3, c4, c5, c6, c7, c8, rfl⟩
theorem list9 {α : Type} {l : List α} (h : l.length = 9) : ∃ c0 c1 c2 c3 c4 c5 c6 c7 c8, l = [c0, c1, c2, c3, c4, c5, c6, c7, c8] := by
  match l, h with
  | [c0, c1, c2, c3, c4, c5, c6, c7, c8], _ => exact ⟨c0, c1, c2, c3, c4, c5, c6, c7, c8, rfl⟩
theorem cells_wish : Try.prog.cellsOf 32 = 9 := by kernel_rfl
theorem cells_int : Try.prog.cellsOf 3 = 1 := by kernel_rfl
theorem cells_str : Try.prog.cellsOf 9 = 1 := by kernel_rfl
section
variable {H : Type} {enc : TypeId × Value → H} {w : World} {base : Nat} {spare : Nat → Bool} {held : Bool}
theorem fld_int (n : Int) (h : (Lit.int .i64 n).wf = true) : DataW.trod enc Try.prog w base spare held 1 3 [.int .i64 n] = some (.lit (.int .i64 n), []) := by
  simp [DataW.trod, Try.underlying3, h]
theorem fld_str (s : ByteArray) (h : s.size ≤ maxLen) : DataW.trod enc Try.prog w base spare held 1 9 [.string s] = some (.lit (.string s.data.toList), []) := by
  simp [DataW.trod, Try.underlying9, h]
theorem i64_of {n : Int} (h : (Lit.int .i64 n).wf = true) : i64 n := bounds_i64 h
def wishD (H : Type) (x : Wish) : DataW H := .agg [.lit (.int .i64 x.near), .lit (.int .i64 x.births), .lit (.int .i64 x.lives), .lit (.int .i64 x.states), .lit (.int .i64 x.kind), .lit (.int .i64 x.w), .lit (.int .i64 x.h), .lit (.int .i64 x.shift), .lit (.string x.cells.data.toList)]
structure WishWf (x : Wish) : Prop where
  a0 : (Lit.int .i64 x.near).wf = true
  a1 : (Lit.int .i64 x.births).wf = true
  a2 : (Lit.int .i64 x.lives).wf = true
  a3 : (Lit.int .i64 x.states).wf = true
  a4 : (Lit.int .i64 x.kind).wf = true
  a5 : (Lit.int .i64 x.w).wf = true
  a6 : (Lit.int .i64 x.h).wf = true
  a7 : (Lit.int .i64 x.shift).wf = true
  a8 : x.cells.size ≤ maxLen
theorem WishWf.ok {x : Wish} (h : WishWf x) : WishOk x := ⟨i64_of h.a0, i64_of h.a1, i64_of h.a2, i64_of h.a3, i64_of h.a4, i64_of h.a5, i64_of h.a6, i64_of h.a7, h.a8⟩
set_option maxRecDepth 100000 in
theorem shut_wish {x : Wish} (h : WishWf x) : DataW.Trod enc Try.prog w base spare held 32 (.agg (wishv x)) (wishD H x) [] := by
  refine ⟨2, ?_⟩
  have := trod_struct_mk (enc := enc) (w := w) (base := base) (spare := spare) (held := held) (n := 1) (cs := (wishv x).toList) (xs := [(.lit (.int .i64 x.near), []), (.lit (.int .i64 x.births), []), (.lit (.int .i64 x.lives), []), (.lit (.int .i64 x.states), []), (.lit (.int .i64 x.kind), []), (.lit (.int .i64 x.w), []), (.lit (.int .i64 x.h), []), (.lit (.int .i64 x.shift), []), (.lit (.string x.cells.data.toList), [])]) Try.underlying32 (by rw [cells_wish]; rfl)
    (by simp [cells_int, cells_str, wishv, fld_int _ h.a0, fld_int _ h.a1, fld_int _ h.a2, fld_int _ h.a3, fld_int _ h.a4, fld_int _ h.a5, fld_int _ h.a6, fld_int _ h.a7, fld_str _ h.a8])
  simpa [Value.cells, wishD] using this
set_option maxRecDepth 100000 in
theorem open_wish {r : Reach} {b0 : Nat} {v : Value} {d : DataW H} {ps : List MemPlace} (hval : Value.okWide Try.prog w r b0 32 v) (hd : DataW.Trod enc Try.prog w base spare held 32 v d ps) :
    ∃ x : Wish, v = .agg (wishv x) ∧ d = wishD H x ∧ ps = [] ∧ WishWf x := by
  obtain ⟨cs, rfl, hsz⟩ := okWide_struct Try.underlying32 hval
  obtain ⟨c0, c1, c2, c3, c4, c5, c6, c7, c8, rfl⟩ := array9 (hsz.trans cells_wish)
  obtain ⟨fuel, hf⟩ := hd
  obtain ⟨xs, n, _, hx, _, hlen, hfl⟩ := DataW.trod_struct Try.underlying32 hf
  obtain ⟨y0, y1, y2, y3, y4, y5, y6, y7, y8, rfl⟩ := list9 hlen
  have g0 : DataW.trod enc Try.prog w base spare held n 3 ((((Value.agg #[c0, c1, c2, c3, c4, c5, c6, c7, c8]).cells.toList).drop 0).take (Try.prog.cellsOf 3)) = some y0 := hfl 0 _ rfl
  rw [cells_int] at g0
  have g0' : DataW.trod enc Try.prog w base spare held n 3 [c0] = some y0 := g0
  have g1 : DataW.trod enc Try.prog w base spare held n 3 ((((Value.agg #[c0, c1, c2, c3, c4, c5, c6, c7, c8]).cells.toList).drop 1).take (Try.prog.cellsOf 3)) = some y1 := hfl 1 _ rfl
  rw [cells_int] at g1
  have g1' : DataW.trod enc Try.prog w base spare held n 3 [c1] = some y1 := g1
  have g2 : DataW.trod enc Try.prog w base spare held n 3 ((((Value.agg #[c0, c1, c2, c3, c4, c5, c6, c7, c8]).cells.toList).drop 2).take (Try.prog.cellsOf 3)) = some y2 := hfl 2 _ rfl
  rw [cells_int] at g2
  have g2' : DataW.trod enc Try.prog w base spare held n 3 [c2] = some y2 := g2
  have g3 : DataW.trod enc Try.prog w base spare held n 3 ((((Value.agg #[c0, c1, c2, c3, c4, c5, c6, c7, c8]).cells.toList).drop 3).take (Try.prog.cellsOf 3)) = some y3 := hfl 3 _ rfl
  rw [cells_int] at g3
  have g3' : DataW.trod enc Try.prog w base spare held n 3 [c3] = some y3 := g3
  have g4 : DataW.trod enc Try.prog w base spare held n 3 ((((Value.agg #[c0, c1, c2, c3, c4, c5, c6, c7, c8]).cells.toList).drop 4).take (Try.prog.cellsOf 3)) = some y4 := hfl 4 _ rfl
  rw [cells_int] at g4
  have g4' : DataW.trod enc Try.prog w base spare held n 3 [c4] = some y4 := g4
  have g5 : DataW.trod enc Try.prog w base spare held n 3 ((((Value.agg #[c0, c1, c2, c3, c4, c5, c6, c7, c8]).cells.toList).drop 5).take (Try.prog.cellsOf 3)) = some y5 := hfl 5 _ rfl
  rw [cells_int] at g5
  have g5' : DataW.trod enc Try.prog w base spare held n 3 [c5] = some y5 := g5
  have g6 : DataW.trod enc Try.prog w base spare held n 3 ((((Value.agg #[c0, c1, c2, c3, c4, c5, c6, c7, c8]).cells.toList).drop 6).take (Try.prog.cellsOf 3)) = some y6 := hfl 6 _ rfl
  rw [cells_int] at g6
  have g6' : DataW.trod enc Try.prog w base spare held n 3 [c6] = some y6 := g6
  have g7 : DataW.trod enc Try.prog w base spare held n 3 ((((Value.agg #[c0, c1, c2, c3, c4, c5, c6, c7, c8]).cells.toList).drop 7).take (Try.prog.cellsOf 3)) = some y7 := hfl 7 _ rfl
  rw [cells_int] at g7
  have g7' : DataW.trod enc Try.prog w base spare held n 3 [c7] = some y7 := g7
  have g8 : DataW.trod enc Try.prog w base spare held n 9 ((((Value.agg #[c0, c1, c2, c3, c4, c5, c6, c7, c8]).cells.toList).drop 8).take (Try.prog.cellsOf 9)) = some y8 := hfl 8 _ rfl
  rw [cells_str] at g8
  have g8' : DataW.trod enc Try.prog w base spare held n 9 [c8] = some y8 := g8
  clear hfl hlen hf hsz hval g0 g1 g2 g3 g4 g5 g6 g7 g8
  obtain ⟨n0, e0, z0, k0⟩ := DataW.trod_int Try.underlying3 g0'
  obtain rfl := (List.cons.inj e0).1
  subst z0
  obtain ⟨n1, e1, z1, k1⟩ := DataW.trod_int Try.underlying3 g1'
  obtain rfl := (List.cons.inj e1).1
  subst z1
  obtain ⟨n2, e2, z2, k2⟩ := DataW.trod_int Try.underlying3 g2'
  obtain rfl := (List.cons.inj e2).1
  subst z2
  obtain ⟨n3, e3, z3, k3⟩ := DataW.trod_int Try.underlying3 g3'
  obtain rfl := (List.cons.inj e3).1
  subst z3
  obtain ⟨n4, e4, z4, k4⟩ := DataW.trod_int Try.underlying3 g4'
  obtain rfl := (List.cons.inj e4).1
  subst z4
  obtain ⟨n5, e5, z5, k5⟩ := DataW.trod_int Try.underlying3 g5'
  obtain rfl := (List.cons.inj e5).1
  subst z5
  obtain ⟨n6, e6, z6, k6⟩ := DataW.trod_int Try.underlying3 g6'
  obtain rfl := (List.cons.inj e6).1
  subst z6
  obtain ⟨n7, e7, z7, k7⟩ := DataW.trod_int Try.underlying3 g7'
  obtain rfl := (List.cons.inj e7).1
  subst z7
  obtain ⟨s, e8, z8, k8⟩ := DataW.trod_string Try.underlying9 g8'
  obtain rfl := (List.cons.inj e8).1
  subst z8
  simp at hx
  exact ⟨⟨n0, n1, n2, n3, n4, n5, n6, n7, s⟩, rfl, hx.1, hx.2, ⟨k0, k1, k2, k3, k4, k5, k6, k7, k8⟩⟩
end
end Go.Proofs.Ytiimimclbkjcbaa
