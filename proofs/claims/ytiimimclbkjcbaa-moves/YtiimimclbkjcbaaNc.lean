import Derived.Test.YtiimimclbkjcbaaIk
import Derived.Test.YtiimimclbkjcbaaTq
import Derived.Test.YtiimimclbkjcbaaM7
namespace Go.Proofs.Ytiimimclbkjcbaa
open Go.RowKit
open Go.Proofs

/-- What is beyond an end of a side, brought back to that end. -/
def ontoP (a side : Int) : Int := if a < 0 then 0 else if side ≤ a then side - 1 else a
theorem onto_any (a side : Int) (w : World) (hs : 0 ≤ side ∧ side ≤ 12) : Calls Try.prog 92 #[.int .i64 a, .int .i64 side] w fun e w' => e = .returned (.int .i64 (ontoP a side)) ∧ w' = w := by
  unfold ontoP
  by_cases h1 : a < 0
  · rw [if_pos h1]
    go_enter Try.func92, Try.ntmps92
    go_wp2_with fail
    go_ret
    exact ⟨rfl, rfl⟩
  · rw [if_neg h1]
    by_cases h2 : side ≤ a
    · rw [if_pos h2]
      go_enter Try.func92, Try.ntmps92
      go_wp2_with fail
      go_ret
      exact ⟨rfl, rfl⟩
    · rw [if_neg h2]
      go_enter Try.func92, Try.ntmps92
      go_wp2_with fail
      go_ret
      exact ⟨rfl, rfl⟩

set_option maxHeartbeats 400000 in
theorem edge_any (s : Pu.Shape) (a b : Int) (w : World) (hw : 0 ≤ s.w ∧ s.w ≤ 12) (hh : 0 ≤ s.h ∧ s.h ≤ 12) (ha : -1 ≤ a ∧ a ≤ s.w) (hb : -1 ≤ b ∧ b ≤ s.h) :
    Calls Try.prog 87 #[.agg (shv s), .int .i64 a, .int .i64 b] w fun e w' => e = .returned (.tuple #[.int .i64 (ontoP b s.w), .int .i64 (ontoP a s.h), .bool true]) ∧ Kp (fun _ => False) w w' := by
  have H1 := hide (fun wx => onto_any b s.w wx hw)
  have H2 := hide (fun wx => onto_any a s.h wx hh)
  obtain ⟨kind, xw, xh, ws, hs, wst, hst⟩ := s
  simp only [shv] at *
  go_enter Try.func87, Try.ntmps87
  go_wp2_with fail
  refine (H1.out _).mono ?_
  rintro e w1 ⟨rfl, hw1⟩
  subst w1
  go_wp2_with fail
  refine (H2.out _).mono ?_
  rintro e w1 ⟨rfl, hw1⟩
  subst w1
  go_wp2_with fail
  go_ret3
  exact ⟨rfl, (Kp.refl _ _).alloc _⟩

set_option maxHeartbeats 400000 in
theorem nb_edge (s : Pu.Shape) (a b : Int) (w : World) (hk : s.kind = 83) (ho : hasB s a b = false) (hw : 0 ≤ s.w ∧ s.w ≤ 12) (hh : 0 ≤ s.h ∧ s.h ≤ 12) (ha : -1 ≤ a ∧ a ≤ s.w) (hb : -1 ≤ b ∧ b ≤ s.h) :
    Calls Try.prog 76 #[.agg (shv s), .int .i64 a, .int .i64 b] w fun e w' => e = .returned (.tuple #[.int .i64 (ontoP b s.w), .int .i64 (ontoP a s.h), .bool true]) ∧ Kp (fun _ => False) w w' := by
  have HF : Hid (∀ wx, Calls Try.prog 29 #[.agg #[.int .u8 83, .int .i64 s.w, .int .i64 s.h, .int .i64 s.ws, .int .i64 s.hs, .bool s.wst, .bool s.hst], .int .i64 a, .int .i64 b] wx fun e w' => e = .returned (.bool false) ∧ Kp (fun _ => False) wx w') := by
    intro wx
    have := has_any s a b wx
    rw [ho] at this
    rw [← hk]
    exact this
  have HH := hide (fun wx => edge_any s a b wx hw hh ha hb)
  have hc : (shv s)[0]? = some (.int .u8 83) := by rw [← hk]; rfl
  have HC := hide hc
  clear ho hw hh ha hb hc hk
  go_enter Try.func76, Try.ntmps76
  go_wp2_with (first
    | (refine wpList_box_row rfl 58 _ rfl (shv s) rfl ?_
       intro w1 hw1
       have A1 : Hid (w1.heap[w.heap.size]? = some (.cells (shv s) 58 (0, 0))) := by rw [hw1]; exact heap_alloc_new _ _
       have K1 : Hid (Kp (fun _ => False) w w1) := by rw [hw1]; exact (Kp.refl _ _).alloc _
       have c0 : w1.cell? ⟨w.heap.size, 0, none⟩ = some (.int .u8 83) := (cell_of_row _ _ 0 _ _ _ A1.out).trans HC.out
       have c1 : w1.cell? ⟨w.heap.size, 1, none⟩ = some (.int .i64 s.w) := cell_of_row _ _ 1 _ _ _ A1.out
       have c2 : w1.cell? ⟨w.heap.size, 2, none⟩ = some (.int .i64 s.h) := cell_of_row _ _ 2 _ _ _ A1.out
       have c3 : w1.cell? ⟨w.heap.size, 3, none⟩ = some (.int .i64 s.ws) := cell_of_row _ _ 3 _ _ _ A1.out
       have c4 : w1.cell? ⟨w.heap.size, 4, none⟩ = some (.int .i64 s.hs) := cell_of_row _ _ 4 _ _ _ A1.out
       have c5 : w1.cell? ⟨w.heap.size, 5, none⟩ = some (.bool s.wst) := cell_of_row _ _ 5 _ _ _ A1.out
       have c6 : w1.cell? ⟨w.heap.size, 6, none⟩ = some (.bool s.hst) := cell_of_row _ _ 6 _ _ _ A1.out
       clear hw1)
    | (refine wpList_load_row rfl 58 _ rfl w.heap.size rfl 58 (shv s) (0, 0) _ A1.out Try.underlying58 rfl info_shape ?_))
  refine (HF.out _).mono ?_
  rintro e w2 ⟨rfl, k2⟩
  have A2 := hide (k2.row A1.out (fun hx => hx))
  have K2 := hide (K1.out.trans k2)
  clear k2 c0 c1 c2 c3 c4 c5 c6
  go_wp2_with (refine wpList_load_row rfl 58 _ rfl w.heap.size rfl 58 (shv s) (0, 0) _ A2.out Try.underlying58 rfl info_shape ?_)
  refine (HH.out _).mono ?_
  rintro e w3 ⟨rfl, k3⟩
  have K3 := hide (K2.out.trans k3)
  clear k3
  go_wp2_with fail
  go_ret3
  exact ⟨rfl, K3.out⟩

set_option maxHeartbeats 400000 in
theorem nb_find (s : Pu.Shape) (a b X Y : Int) (f : Bool) (w : World) (hk : s.kind ≠ 83 ∨ hasB s a b = true)
    (hf : ∀ wx, Calls Try.prog 33 #[.agg (shv s), .int .i64 a, .int .i64 b] wx fun e w' => e = .returned (.tuple #[.int .i64 X, .int .i64 Y, .bool f]) ∧ Kp (fun _ => False) wx w') :
    Calls Try.prog 76 #[.agg (shv s), .int .i64 a, .int .i64 b] w fun e w' => e = .returned (.tuple #[.int .i64 X, .int .i64 Y, .bool f]) ∧ Kp (fun _ => False) w w' := by
  have HH := hide hf
  have hc : (shv s)[0]? = some (.int .u8 s.kind) := rfl
  have HC := hide hc
  clear hf hc
  by_cases e83 : s.kind = 83
  · have HF : Hid (∀ wx, Calls Try.prog 29 #[.agg #[.int .u8 83, .int .i64 s.w, .int .i64 s.h, .int .i64 s.ws, .int .i64 s.hs, .bool s.wst, .bool s.hst], .int .i64 a, .int .i64 b] wx fun e w' => e = .returned (.bool true) ∧ Kp (fun _ => False) wx w') := by
      intro wx
      have := has_any s a b wx
      rw [hk.resolve_left (fun h => h e83)] at this
      rw [← e83]
      exact this
    rw [e83] at HC
    clear hk e83
    go_enter Try.func76, Try.ntmps76
    go_wp2_with (first
      | (refine wpList_box_row rfl 58 _ rfl (shv s) rfl ?_
         intro w1 hw1
         have A1 : Hid (w1.heap[w.heap.size]? = some (.cells (shv s) 58 (0, 0))) := by rw [hw1]; exact heap_alloc_new _ _
         have K1 : Hid (Kp (fun _ => False) w w1) := by rw [hw1]; exact (Kp.refl _ _).alloc _
         have c0 : w1.cell? ⟨w.heap.size, 0, none⟩ = some (.int .u8 83) := (cell_of_row _ _ 0 _ _ _ A1.out).trans HC.out
         have c1 : w1.cell? ⟨w.heap.size, 1, none⟩ = some (.int .i64 s.w) := cell_of_row _ _ 1 _ _ _ A1.out
         have c2 : w1.cell? ⟨w.heap.size, 2, none⟩ = some (.int .i64 s.h) := cell_of_row _ _ 2 _ _ _ A1.out
         have c3 : w1.cell? ⟨w.heap.size, 3, none⟩ = some (.int .i64 s.ws) := cell_of_row _ _ 3 _ _ _ A1.out
         have c4 : w1.cell? ⟨w.heap.size, 4, none⟩ = some (.int .i64 s.hs) := cell_of_row _ _ 4 _ _ _ A1.out
         have c5 : w1.cell? ⟨w.heap.size, 5, none⟩ = some (.bool s.wst) := cell_of_row _ _ 5 _ _ _ A1.out
         have c6 : w1.cell? ⟨w.heap.size, 6, none⟩ = some (.bool s.hst) := cell_of_row _ _ 6 _ _ _ A1.out
         clear hw1)
      | (refine wpList_load_row rfl 58 _ rfl w.heap.size rfl 58 (shv s) (0, 0) _ A1.out Try.underlying58 rfl info_shape ?_))
    refine (HF.out _).mono ?_
    rintro e w2 ⟨rfl, k2⟩
    have A2 := hide (k2.row A1.out (fun hx => hx))
    have K2 := hide (K1.out.trans k2)
    clear k2 c0 c1 c2 c3 c4 c5 c6
    go_wp2_with (refine wpList_load_row rfl 58 _ rfl w.heap.size rfl 58 (shv s) (0, 0) _ A2.out Try.underlying58 rfl info_shape ?_)
    refine (HH.out _).mono ?_
    rintro e w3 ⟨rfl, k3⟩
    have K3 := hide (K2.out.trans k3)
    clear k3
    go_wp2_with fail
    go_ret3
    exact ⟨rfl, K3.out⟩
  · have b83 : (s.kind == 83) = false := by simpa using e83
    clear hk e83
    go_enter Try.func76, Try.ntmps76
    go_wp2_with (first
      | (refine wpList_box_row rfl 58 _ rfl (shv s) rfl ?_
         intro w1 hw1
         have A1 : Hid (w1.heap[w.heap.size]? = some (.cells (shv s) 58 (0, 0))) := by rw [hw1]; exact heap_alloc_new _ _
         have K1 : Hid (Kp (fun _ => False) w w1) := by rw [hw1]; exact (Kp.refl _ _).alloc _
         have c0 : w1.cell? ⟨w.heap.size, 0, none⟩ = some (.int .u8 s.kind) := (cell_of_row _ _ 0 _ _ _ A1.out).trans HC.out
         clear hw1)
      | (refine wpList_load_row rfl 58 _ rfl w.heap.size rfl 58 (shv s) (0, 0) _ A1.out Try.underlying58 rfl info_shape ?_))
    refine (HH.out _).mono ?_
    rintro e w3 ⟨rfl, k3⟩
    have K3 := hide (K1.out.trans k3)
    clear k3
    go_wp2_with fail
    go_ret3
    exact ⟨rfl, K3.out⟩

/-- Does the shape fold? -/
abbrev foldsB (x : Pu.Shape) : Prop := x.kind = 84 ∨ x.kind = 75 ∨ x.kind = 67
/-- Is (X, Y) beyond the edge of a sphere? -/
abbrev beyond (x : Pu.Shape) (X Y : Int) : Prop := x.kind = 83 ∧ hasB x X Y = false
/-- The state of the neighbour at (X, Y). -/
def nbG (x : Pu.Shape) (g : Gs) (X Y : Int) : Int :=
  if beyond x X Y then getG x.w x.h g (ontoP Y x.w) (ontoP X x.h)
  else if foldsB x then getG x.w x.h g (foldX x X Y) (foldY x X Y)
  else if hasB x X Y = true then getG x.w x.h g X Y else 0
/-- Where neighbours are asked for. -/
def NbOk (x : Pu.Shape) (X Y : Int) : Prop := (-100001 ≤ X ∧ X ≤ 100001) ∧ (-100001 ≤ Y ∧ Y ≤ 100001) ∧ (x.kind = 83 → (-1 ≤ X ∧ X ≤ x.w) ∧ (-1 ≤ Y ∧ Y ≤ x.h))

set_option maxHeartbeats 400000 in
theorem isone_core (q : Nat) (r : Pu.Rule) (x : Pu.Shape) (age : Int) (g : Gs) (X Y C R : Int) (f : Bool) (w : World) (h : GsAt w q (preOf r x age) x.w x.h g) (hr : RuleOk r) (hx : Pu.ShapeOk x)
    (lb : -9999 ≤ g.l ∧ g.l ≤ 9999) (tb : -9999 ≤ g.t ∧ g.t ≤ 9999)
    (hf : ∀ wx, Calls Try.prog 76 #[.agg (shv x), .int .i64 X, .int .i64 Y] wx fun e w' => e = .returned (.tuple #[.int .i64 C, .int .i64 R, .bool f]) ∧ Kp (fun _ => False) wx w') :
    Calls Try.prog 67 #[.pointer (some ⟨q, 0, none⟩), .int .i64 X, .int .i64 Y] w fun e w' => e = .returned (.bool ((if f = true then getG x.w x.h g C R else 0) == 1)) ∧ Kp (fun _ => False) w w' := by
  have ld := hide (fun j v => GrAt.shape h hr j v)
  have HF := hide hf
  have HG := hide (fun (wx : World) (hx' : GrAt wx q (preOf r x age) x.w x.h g.l g.t g.S) => gget_any q (preOf r x age) x.w x.h g.l g.t g.S C R wx hx' hx.w0 hx.w12 hx.h0 hx.h12 (by omega) (by omega) (by omega) (by omega))
  have H : Hid (GrAt w q (preOf r x age) x.w x.h g.l g.t g.S) := h
  clear h hf hx
  cases f with
  | false =>
    rw [if_neg (by simp)]
    go_enter Try.func67, Try.ntmps67
    go_wp2_with (refine wpList_load_at rfl 58 _ rfl q 20 rfl (shv x) ld.out _ Try.underlying58 rfl info_shape ?_)
    refine (HF.out _).mono ?_
    rintro e w1 ⟨rfl, k1⟩
    have K1 := hide k1
    clear k1
    go_wp2_with fail
    go_ret
    exact ⟨rfl, K1.out⟩
  | true =>
    rw [if_pos rfl]
    unfold getG
    generalize getP x.w x.h g.l g.t g.S C R = z at *
    obtain ⟨bz, hbz⟩ : ∃ bz, (z == 1) = bz := ⟨_, rfl⟩
    rw [hbz]
    go_enter Try.func67, Try.ntmps67
    go_wp2_with (refine wpList_load_at rfl 58 _ rfl q 20 rfl (shv x) ld.out _ Try.underlying58 rfl info_shape ?_)
    refine (HF.out _).mono ?_
    rintro e w1 ⟨rfl, k1⟩
    have G1 := hide (H.out.keep k1 (fun hx => hx))
    have K1 := hide k1
    clear k1
    go_wp2_with fail
    refine (HG.out _ G1.out).mono ?_
    rintro e w2 ⟨rfl, hw⟩
    subst w2
    go_wp2_with fail
    go_ret
    exact ⟨rfl, K1.out⟩
theorem isone_any (q : Nat) (r : Pu.Rule) (x : Pu.Shape) (age : Int) (g : Gs) (X Y : Int) (w : World) (h : GsAt w q (preOf r x age) x.w x.h g) (hr : RuleOk r) (hx : Pu.ShapeOk x) (hfo : foldsB x → FoldOk x)
    (lb : -9999 ≤ g.l ∧ g.l ≤ 9999) (tb : -9999 ≤ g.t ∧ g.t ≤ 9999) (hn : NbOk x X Y) :
    Calls Try.prog 67 #[.pointer (some ⟨q, 0, none⟩), .int .i64 X, .int .i64 Y] w fun e w' => e = .returned (.bool (nbG x g X Y == 1)) ∧ Kp (fun _ => False) w w' := by
  obtain ⟨n1, n2, n3⟩ := hn
  unfold nbG
  by_cases h1 : beyond x X Y
  · rw [if_pos h1]
    exact isone_core q r x age g X Y _ _ true w h hr hx lb tb (fun wx => nb_edge x X Y wx h1.1 h1.2 ⟨hx.w0, hx.w12⟩ ⟨hx.h0, hx.h12⟩ (n3 h1.1).1 (n3 h1.1).2)
  · rw [if_neg h1]
    have hk : x.kind ≠ 83 ∨ hasB x X Y = true := by
      by_cases e : x.kind = 83
      · right
        by_cases e2 : hasB x X Y = true
        · exact e2
        · exact absurd ⟨e, by simpa using e2⟩ h1
      · exact Or.inl e
    by_cases h2 : foldsB x
    · rw [if_pos h2]
      exact isone_core q r x age g X Y _ _ true w h hr hx lb tb (fun wx => nb_find x X Y _ _ true wx hk (fun wy => find_fold x (hfo h2) X Y wy h2 (by omega) (by omega)))
    · rw [if_neg h2]
      have k2 : x.kind = 80 ∨ x.kind = 83 := by
        have := hx.kind
        unfold foldsB at h2
        simp at this
        omega
      exact isone_core q r x age g X Y X Y (hasB x X Y) w h hr hx lb tb (fun wx => nb_find x X Y _ _ _ wx hk (fun wy => find_no x X Y wy k2))
end Go.Proofs.Ytiimimclbkjcbaa
