import Derived.Test.YthmhjjkmnnmjlaaGreatDoorM23
import Derived.Test.YthmhjjkmnnmjlaaGreatDoorM18
import Derived.Test.YthmhjjkmnnmjlaaGreatDoorM16
import Derived.Test.YthmhjjkmnnmjlaaGreatDoorM24
import Derived.Test.YthmhjjkmnnmjlaaGreatDoorM27
import Derived.Test.YthmhjjkmnnmjlaaGreatDoorM28
namespace Go.Proofs.YthmhjjkmnnmjlaaGreatDoor
open Go.RowKit
open Go.Proofs

/-- What is beyond an end of a side, brought back to that end. -/
def ontoP (a side : Int) : Int := if a < 0 then 0 else if side ≤ a then side - 1 else a
theorem onto_any (a side : Int) (w : World) (hs : 0 ≤ side ∧ side ≤ 12) : Calls Tryz.prog 140 #[.int .i64 a, .int .i64 side] w fun e w' => e = .returned (.int .i64 (ontoP a side)) ∧ w' = w := by
  unfold ontoP
  by_cases h1 : a < 0
  · rw [if_pos h1]
    go_enter Tryz.func140, Tryz.ntmps140
    go_wp2_with fail
    go_ret
    exact ⟨rfl, rfl⟩
  · rw [if_neg h1]
    by_cases h2 : side ≤ a
    · rw [if_pos h2]
      go_enter Tryz.func140, Tryz.ntmps140
      go_wp2_with fail
      go_ret
      exact ⟨rfl, rfl⟩
    · rw [if_neg h2]
      go_enter Tryz.func140, Tryz.ntmps140
      go_wp2_with fail
      go_ret
      exact ⟨rfl, rfl⟩

set_option maxHeartbeats 400000 in
theorem edge_any (s : Pu.Shape) (a b : Int) (w : World) (hw : 0 ≤ s.w ∧ s.w ≤ 12) (hh : 0 ≤ s.h ∧ s.h ≤ 12) (ha : -1 ≤ a ∧ a ≤ s.w) (hb : -1 ≤ b ∧ b ≤ s.h) :
    Calls Tryz.prog 131 #[.agg (shv s), .int .i64 a, .int .i64 b] w fun e w' => e = .returned (.tuple #[.int .i64 (ontoP b s.w), .int .i64 (ontoP a s.h), .bool true]) ∧ Kp (fun _ => False) w w' := by
  have H1 := hide (fun wx => onto_any b s.w wx hw)
  have H2 := hide (fun wx => onto_any a s.h wx hh)
  obtain ⟨kind, xw, xh, ws, hs, wst, hst⟩ := s
  simp only [shv] at *
  go_enter Tryz.func131, Tryz.ntmps131
  go_wp2_with fail
  refine (H1.out _).mono ?_
  rintro e w1 ⟨rfl, hw1⟩
  subst w1
  go_wp2_with fail
  refine (H2.out _).mono ?_
  rintro e w1 ⟨rfl, hw1⟩
  subst w1
  go_wp2_with fail
  go_ret3
  exact ⟨rfl, (Kp.refl _ _).alloc _⟩

set_option maxHeartbeats 400000 in
theorem nb_edge (s : Pu.Shape) (a b : Int) (w : World) (hk : s.kind = 83) (ho : hasB s a b = false) (hw : 0 ≤ s.w ∧ s.w ≤ 12) (hh : 0 ≤ s.h ∧ s.h ≤ 12) (ha : -1 ≤ a ∧ a ≤ s.w) (hb : -1 ≤ b ∧ b ≤ s.h) :
    Calls Tryz.prog 115 #[.agg (shv s), .int .i64 a, .int .i64 b] w fun e w' => e = .returned (.tuple #[.int .i64 (ontoP b s.w), .int .i64 (ontoP a s.h), .bool true]) ∧ Kp (fun _ => False) w w' := by
  have HF : Hid (∀ wx, Calls Tryz.prog 36 #[.agg #[.int .u8 83, .int .i64 s.w, .int .i64 s.h, .int .i64 s.ws, .int .i64 s.hs, .bool s.wst, .bool s.hst], .int .i64 a, .int .i64 b] wx fun e w' => e = .returned (.bool false) ∧ Kp (fun _ => False) wx w') := by
    intro wx
    have := has_any s a b wx
    rw [ho] at this
    rw [← hk]
    exact this
  have HH := hide (fun wx => edge_any s a b wx hw hh ha hb)
  have hc : (shv s)[0]? = some (.int .u8 83) := by rw [← hk]; rfl
  have HC := hide hc
  clear ho hw hh ha hb hc hk
  go_enter Tryz.func115, Tryz.ntmps115
  go_wp2_with (first
    | (refine wpList_box_row rfl 65 _ rfl (shv s) rfl ?_
       intro w1 hw1
       have A1 : Hid (w1.heap[w.heap.size]? = some (.cells (shv s) 65 (0, 0))) := by rw [hw1]; exact heap_alloc_new _ _
       have K1 : Hid (Kp (fun _ => False) w w1) := by rw [hw1]; exact (Kp.refl _ _).alloc _
       have c0 : w1.cell? ⟨w.heap.size, 0, none⟩ = some (.int .u8 83) := (cell_of_row _ _ 0 _ _ _ A1.out).trans HC.out
       have c1 : w1.cell? ⟨w.heap.size, 1, none⟩ = some (.int .i64 s.w) := cell_of_row _ _ 1 _ _ _ A1.out
       have c2 : w1.cell? ⟨w.heap.size, 2, none⟩ = some (.int .i64 s.h) := cell_of_row _ _ 2 _ _ _ A1.out
       have c3 : w1.cell? ⟨w.heap.size, 3, none⟩ = some (.int .i64 s.ws) := cell_of_row _ _ 3 _ _ _ A1.out
       have c4 : w1.cell? ⟨w.heap.size, 4, none⟩ = some (.int .i64 s.hs) := cell_of_row _ _ 4 _ _ _ A1.out
       have c5 : w1.cell? ⟨w.heap.size, 5, none⟩ = some (.bool s.wst) := cell_of_row _ _ 5 _ _ _ A1.out
       have c6 : w1.cell? ⟨w.heap.size, 6, none⟩ = some (.bool s.hst) := cell_of_row _ _ 6 _ _ _ A1.out
       clear hw1)
    | (refine wpList_load_row rfl 65 _ rfl w.heap.size rfl 65 (shv s) (0, 0) _ A1.out Tryz.underlying65 rfl info_shape ?_))
  refine (HF.out _).mono ?_
  rintro e w2 ⟨rfl, k2⟩
  have A2 := hide (k2.row A1.out (fun hx => hx))
  have K2 := hide (K1.out.trans k2)
  clear k2 c0 c1 c2 c3 c4 c5 c6
  go_wp2_with (refine wpList_load_row rfl 65 _ rfl w.heap.size rfl 65 (shv s) (0, 0) _ A2.out Tryz.underlying65 rfl info_shape ?_)
  refine (HH.out _).mono ?_
  rintro e w3 ⟨rfl, k3⟩
  have K3 := hide (K2.out.trans k3)
  clear k3
  go_wp2_with fail
  go_ret3
  exact ⟨rfl, K3.out⟩

set_option maxHeartbeats 400000 in
theorem nb_find (s : Pu.Shape) (a b X Y : Int) (f : Bool) (w : World) (hk : s.kind ≠ 83 ∨ hasB s a b = true)
    (hf : ∀ wx, Calls Tryz.prog 31 #[.agg (shv s), .int .i64 a, .int .i64 b] wx fun e w' => e = .returned (.tuple #[.int .i64 X, .int .i64 Y, .bool f]) ∧ Kp (fun _ => False) wx w') :
    Calls Tryz.prog 115 #[.agg (shv s), .int .i64 a, .int .i64 b] w fun e w' => e = .returned (.tuple #[.int .i64 X, .int .i64 Y, .bool f]) ∧ Kp (fun _ => False) w w' := by
  have HH := hide hf
  have hc : (shv s)[0]? = some (.int .u8 s.kind) := rfl
  have HC := hide hc
  clear hf hc
  by_cases e83 : s.kind = 83
  · have HF : Hid (∀ wx, Calls Tryz.prog 36 #[.agg #[.int .u8 83, .int .i64 s.w, .int .i64 s.h, .int .i64 s.ws, .int .i64 s.hs, .bool s.wst, .bool s.hst], .int .i64 a, .int .i64 b] wx fun e w' => e = .returned (.bool true) ∧ Kp (fun _ => False) wx w') := by
      intro wx
      have := has_any s a b wx
      rw [hk.resolve_left (fun h => h e83)] at this
      rw [← e83]
      exact this
    rw [e83] at HC
    clear hk e83
    go_enter Tryz.func115, Tryz.ntmps115
    go_wp2_with (first
      | (refine wpList_box_row rfl 65 _ rfl (shv s) rfl ?_
         intro w1 hw1
         have A1 : Hid (w1.heap[w.heap.size]? = some (.cells (shv s) 65 (0, 0))) := by rw [hw1]; exact heap_alloc_new _ _
         have K1 : Hid (Kp (fun _ => False) w w1) := by rw [hw1]; exact (Kp.refl _ _).alloc _
         have c0 : w1.cell? ⟨w.heap.size, 0, none⟩ = some (.int .u8 83) := (cell_of_row _ _ 0 _ _ _ A1.out).trans HC.out
         have c1 : w1.cell? ⟨w.heap.size, 1, none⟩ = some (.int .i64 s.w) := cell_of_row _ _ 1 _ _ _ A1.out
         have c2 : w1.cell? ⟨w.heap.size, 2, none⟩ = some (.int .i64 s.h) := cell_of_row _ _ 2 _ _ _ A1.out
         have c3 : w1.cell? ⟨w.heap.size, 3, none⟩ = some (.int .i64 s.ws) := cell_of_row _ _ 3 _ _ _ A1.out
         have c4 : w1.cell? ⟨w.heap.size, 4, none⟩ = some (.int .i64 s.hs) := cell_of_row _ _ 4 _ _ _ A1.out
         have c5 : w1.cell? ⟨w.heap.size, 5, none⟩ = some (.bool s.wst) := cell_of_row _ _ 5 _ _ _ A1.out
         have c6 : w1.cell? ⟨w.heap.size, 6, none⟩ = some (.bool s.hst) := cell_of_row _ _ 6 _ _ _ A1.out
         clear hw1)
      | (refine wpList_load_row rfl 65 _ rfl w.heap.size rfl 65 (shv s) (0, 0) _ A1.out Tryz.underlying65 rfl info_shape ?_))
    refine (HF.out _).mono ?_
    rintro e w2 ⟨rfl, k2⟩
    have A2 := hide (k2.row A1.out (fun hx => hx))
    have K2 := hide (K1.out.trans k2)
    clear k2 c0 c1 c2 c3 c4 c5 c6
    go_wp2_with (refine wpList_load_row rfl 65 _ rfl w.heap.size rfl 65 (shv s) (0, 0) _ A2.out Tryz.underlying65 rfl info_shape ?_)
    refine (HH.out _).mono ?_
    rintro e w3 ⟨rfl, k3⟩
    have K3 := hide (K2.out.trans k3)
    clear k3
    go_wp2_with fail
    go_ret3
    exact ⟨rfl, K3.out⟩
  · have b83 : (s.kind == 83) = false := by simpa using e83
    clear hk e83
    go_enter Tryz.func115, Tryz.ntmps115
    go_wp2_with (first
      | (refine wpList_box_row rfl 65 _ rfl (shv s) rfl ?_
         intro w1 hw1
         have A1 : Hid (w1.heap[w.heap.size]? = some (.cells (shv s) 65 (0, 0))) := by rw [hw1]; exact heap_alloc_new _ _
         have K1 : Hid (Kp (fun _ => False) w w1) := by rw [hw1]; exact (Kp.refl _ _).alloc _
         have c0 : w1.cell? ⟨w.heap.size, 0, none⟩ = some (.int .u8 s.kind) := (cell_of_row _ _ 0 _ _ _ A1.out).trans HC.out
         clear hw1)
      | (refine wpList_load_row rfl 65 _ rfl w.heap.size rfl 65 (shv s) (0, 0) _ A1.out Tryz.underlying65 rfl info_shape ?_))
    refine (HH.out _).mono ?_
    rintro e w3 ⟨rfl, k3⟩
    have K3 := hide (K1.out.trans k3)
    clear k3
    go_wp2_with fail
    go_ret3
    exact ⟨rfl, K3.out⟩

/-- Does the shape fold? -/
abbrev foldsB (x : Pu.Shape) : Prop := x.kind = 84 ∨ x.kind = 75 ∨ x.kind = 67
/-- Is (X, Y) beyond the edge of a sphere? -/
abbrev beyond (x : Pu.Shape) (X Y : Int) : Prop := x.kind = 83 ∧ hasB x X Y = false
/-- The state of the neighbour at (X, Y). -/
def nbG (x : Pu.Shape) (g : Gs) (X Y : Int) : Int :=
  if beyond x X Y then getG x.w x.h g (ontoP Y x.w) (ontoP X x.h)
  else if foldsB x then getG x.w x.h g (foldX x X Y) (foldY x X Y)
  else if hasB x X Y = true then getG x.w x.h g X Y else 0
/-- Where neighbours are asked for. -/
def NbOk (x : Pu.Shape) (X Y : Int) : Prop := (-100001 ≤ X ∧ X ≤ 100001) ∧ (-100001 ≤ Y ∧ Y ≤ 100001) ∧ (x.kind = 83 → (-1 ≤ X ∧ X ≤ x.w) ∧ (-1 ≤ Y ∧ Y ≤ x.h))

set_option maxHeartbeats 400000 in
theorem isone_core (q : Nat) (r : Pu.Rule) (x : Pu.Shape) (age : Int) (g : Gs) (X Y C R : Int) (f : Bool) (w : World) (h : GsAt w q (preOf r x age) x.w x.h g) (hr : RuleOk r) (hx : Pu.ShapeOk x)
    (lb : -9999 ≤ g.l ∧ g.l ≤ 9999) (tb : -9999 ≤ g.t ∧ g.t ≤ 9999)
    (hf : ∀ wx, Calls Tryz.prog 115 #[.agg (shv x), .int .i64 X, .int .i64 Y] wx fun e w' => e = .returned (.tuple #[.int .i64 C, .int .i64 R, .bool f]) ∧ Kp (fun _ => False) wx w') :
    Calls Tryz.prog 102 #[.pointer (some ⟨q, 0, none⟩), .int .i64 X, .int .i64 Y] w fun e w' => e = .returned (.bool ((if f = true then getG x.w x.h g C R else 0) == 1)) ∧ Kp (fun _ => False) w w' := by
  have ld := hide (fun j v => GrAt.shape h hr j v)
  have HF := hide hf
  have HG := hide (fun (wx : World) (hx' : GrAt wx q (preOf r x age) x.w x.h g.l g.t g.S) => gget_any q (preOf r x age) x.w x.h g.l g.t g.S C R wx hx' hx.w0 hx.w12 hx.h0 hx.h12 (by omega) (by omega) (by omega) (by omega))
  have H : Hid (GrAt w q (preOf r x age) x.w x.h g.l g.t g.S) := h
  clear h hf hx
  cases f with
  | false =>
    rw [if_neg (by simp)]
    go_enter Tryz.func102, Tryz.ntmps102
    go_wp2_with (refine wpList_load_at rfl 65 _ rfl q 20 rfl (shv x) ld.out _ Tryz.underlying65 rfl info_shape ?_)
    refine (HF.out _).mono ?_
    rintro e w1 ⟨rfl, k1⟩
    have K1 := hide k1
    clear k1
    go_wp2_with fail
    go_ret
    exact ⟨rfl, K1.out⟩
  | true =>
    rw [if_pos rfl]
    unfold getG
    generalize getP x.w x.h g.l g.t g.S C R = z at *
    obtain ⟨bz, hbz⟩ : ∃ bz, (z == 1) = bz := ⟨_, rfl⟩
    rw [hbz]
    go_enter Tryz.func102, Tryz.ntmps102
    go_wp2_with (refine wpList_load_at rfl 65 _ rfl q 20 rfl (shv x) ld.out _ Tryz.underlying65 rfl info_shape ?_)
    refine (HF.out _).mono ?_
    rintro e w1 ⟨rfl, k1⟩
    have G1 := hide (H.out.keep k1 (fun hx => hx))
    have K1 := hide k1
    clear k1
    go_wp2_with fail
    refine (HG.out _ G1.out).mono ?_
    rintro e w2 ⟨rfl, hw⟩
    subst w2
    go_wp2_with fail
    go_ret
    exact ⟨rfl, K1.out⟩
theorem isone_any (q : Nat) (r : Pu.Rule) (x : Pu.Shape) (age : Int) (g : Gs) (X Y : Int) (w : World) (h : GsAt w q (preOf r x age) x.w x.h g) (hr : RuleOk r) (hx : Pu.ShapeOk x) (hfo : foldsB x → FoldOk x)
    (lb : -9999 ≤ g.l ∧ g.l ≤ 9999) (tb : -9999 ≤ g.t ∧ g.t ≤ 9999) (hn : NbOk x X Y) :
    Calls Tryz.prog 102 #[.pointer (some ⟨q, 0, none⟩), .int .i64 X, .int .i64 Y] w fun e w' => e = .returned (.bool (nbG x g X Y == 1)) ∧ Kp (fun _ => False) w w' := by
  obtain ⟨n1, n2, n3⟩ := hn
  unfold nbG
  by_cases h1 : beyond x X Y
  · rw [if_pos h1]
    exact isone_core q r x age g X Y _ _ true w h hr hx lb tb (fun wx => nb_edge x X Y wx h1.1 h1.2 ⟨hx.w0, hx.w12⟩ ⟨hx.h0, hx.h12⟩ (n3 h1.1).1 (n3 h1.1).2)
  · rw [if_neg h1]
    have hk : x.kind ≠ 83 ∨ hasB x X Y = true := by
      by_cases e : x.kind = 83
      · right
        by_cases e2 : hasB x X Y = true
        · exact e2
        · exact absurd ⟨e, by simpa using e2⟩ h1
      · exact Or.inl e
    by_cases h2 : foldsB x
    · rw [if_pos h2]
      exact isone_core q r x age g X Y _ _ true w h hr hx lb tb (fun wx => nb_find x X Y _ _ true wx hk (fun wy => find_fold x (hfo h2) X Y wy h2 (by omega) (by omega)))
    · rw [if_neg h2]
      have k2 : x.kind = 80 ∨ x.kind = 83 := by
        have := hx.kind
        unfold foldsB at h2
        simp at this
        omega
      exact isone_core q r x age g X Y X Y (hasB x X Y) w h hr hx lb tb (fun wx => nb_find x X Y _ _ _ wx hk (fun wy => find_no x X Y wy k2))
end Go.Proofs.YthmhjjkmnnmjlaaGreatDoor
namespace Go.Proofs.YthmhjjkmnnmjlaaGreatDoor
open Go.RowKit
open Go.Proofs

theorem DocAt.c0 {w : World} {q : Nat} {r : Pu.Rule} {x : Pu.Shape} {age : Int} {l : List Cl} (h : DocAt w q r x age l) : w.cell? ⟨q, 0, none⟩ = some (.int .u8 r.around) := by
  obtain ⟨g1, g2, v, hv, s1, s2, _⟩ := h.at1
  exact (⟨hv, s1, s2⟩ : HdAt w q r x age g1 g2 v).cells.c0
theorem DocAt.c3 {w : World} {q : Nat} {r : Pu.Rule} {x : Pu.Shape} {age : Int} {l : List Cl} (h : DocAt w q r x age l) : w.cell? ⟨q, 3, none⟩ = some (.int .i64 r.states) := by
  obtain ⟨g1, g2, v, hv, s1, s2, _⟩ := h.at1
  exact (⟨hv, s1, s2⟩ : HdAt w q r x age g1 g2 v).cells.c3
theorem DocAt.c4 {w : World} {q : Nat} {r : Pu.Rule} {x : Pu.Shape} {age : Int} {l : List Cl} (h : DocAt w q r x age l) : w.cell? ⟨q, 4, none⟩ = some (.int .u8 x.kind) := by
  obtain ⟨g1, g2, v, hv, s1, s2, _⟩ := h.at1
  exact (⟨hv, s1, s2⟩ : HdAt w q r x age g1 g2 v).cells.c4
theorem DocAt.c5 {w : World} {q : Nat} {r : Pu.Rule} {x : Pu.Shape} {age : Int} {l : List Cl} (h : DocAt w q r x age l) : w.cell? ⟨q, 5, none⟩ = some (.int .i64 x.w) := by
  obtain ⟨g1, g2, v, hv, s1, s2, _⟩ := h.at1
  exact (⟨hv, s1, s2⟩ : HdAt w q r x age g1 g2 v).cells.c5
theorem DocAt.c6 {w : World} {q : Nat} {r : Pu.Rule} {x : Pu.Shape} {age : Int} {l : List Cl} (h : DocAt w q r x age l) : w.cell? ⟨q, 6, none⟩ = some (.int .i64 x.h) := by
  obtain ⟨g1, g2, v, hv, s1, s2, _⟩ := h.at1
  exact (⟨hv, s1, s2⟩ : HdAt w q r x age g1 g2 v).cells.c6
theorem DocAt.births {w : World} {q : Nat} {r : Pu.Rule} {x : Pu.Shape} {age : Int} {l : List Cl} (h : DocAt w q r x age l) : ∃ g1, w.cell? ⟨q, 1, none⟩ = some (.slice (some ⟨g1, 0, none⟩) 9 9) ∧ ∀ k : Nat, k < 9 → w.cell? ⟨g1, k, none⟩ = some (.bool (r.births.getD k false)) := by
  obtain ⟨g1, g2, v, hv, s1, s2, _⟩ := h.at1
  refine ⟨g1, (⟨hv, s1, s2⟩ : HdAt w q r x age g1 g2 v).cells.c1, fun k hk => ?_⟩
  rw [cell_of_row _ _ k _ _ _ s1.2]
  exact bv_getD _ s1.1 k hk
theorem DocAt.lives {w : World} {q : Nat} {r : Pu.Rule} {x : Pu.Shape} {age : Int} {l : List Cl} (h : DocAt w q r x age l) : ∃ g2, w.cell? ⟨q, 2, none⟩ = some (.slice (some ⟨g2, 0, none⟩) 9 9) ∧ ∀ k : Nat, k < 9 → w.cell? ⟨g2, k, none⟩ = some (.bool (r.survivals.getD k false)) := by
  obtain ⟨g1, g2, v, hv, s1, s2, _⟩ := h.at1
  refine ⟨g2, (⟨hv, s1, s2⟩ : HdAt w q r x age g1 g2 v).cells.c2, fun k hk => ?_⟩
  rw [cell_of_row _ _ k _ _ _ s2.2]
  exact bv_getD _ s2.1 k hk

set_option maxHeartbeats 2000000 in
theorem xnear_any (a dx dy : Int) (w : World) (ha : a = 77 ∨ a = 86 ∨ a = 72) (hx : -1 ≤ dx ∧ dx ≤ 1) (hy : -1 ≤ dy ∧ dy ≤ 1) :
    Calls Tryz.prog 104 #[.int .u8 a, .int .i64 dx, .int .i64 dy] w fun e w' => e = .returned (.bool (nearR a dx dy)) ∧ w' = w := by
  have h1 : dx = -1 ∨ dx = 0 ∨ dx = 1 := by omega
  have h2 : dy = -1 ∨ dy = 0 ∨ dy = 1 := by omega
  clear hx hy
  rcases ha with rfl | rfl | rfl <;> rcases h1 with rfl | rfl | rfl <;> rcases h2 with rfl | rfl | rfl
  all_goals
    go_enter Tryz.func104, Tryz.ntmps104
    go_wp2
    go_ret
    exact ⟨rfl, rfl⟩
/-- Of a sphere: the cell that (X, Y) is, which is at most one beyond an edge. -/
def ringX (n X Y : Int) : Int := if (0 ≤ X ∧ X < n) ∧ (0 ≤ Y ∧ Y < n) then X else ontoP Y n
def ringY (n X Y : Int) : Int := if (0 ≤ X ∧ X < n) ∧ (0 ≤ Y ∧ Y < n) then Y else ontoP X n
set_option maxHeartbeats 1000000 in
theorem xring_any (n X Y : Int) (w : World) (hn : 1 ≤ n ∧ n ≤ 12) :
    Calls Tryz.prog 116 #[.int .i64 n, .int .i64 X, .int .i64 Y] w fun e w' => e = .returned (.tuple #[.int .i64 (ringX n X Y), .int .i64 (ringY n X Y)]) ∧ w' = w := by
  have hX : X < 0 ∨ (0 ≤ X ∧ X < n) ∨ n ≤ X := by omega
  have hY : Y < 0 ∨ (0 ≤ Y ∧ Y < n) ∨ n ≤ Y := by omega
  obtain ⟨A, hA⟩ : ∃ A, ringX n X Y = A := ⟨_, rfl⟩
  obtain ⟨B, hB⟩ : ∃ B, ringY n X Y = B := ⟨_, rfl⟩
  rw [hA, hB]
  unfold ringX ontoP at hA
  unfold ringY ontoP at hB
  rcases hX with h1 | h1 | h1 <;> rcases hY with h2 | h2 | h2
  · obtain rfl : A = 0 := by rw [← hA]; (repeat' split) <;> omega
    obtain rfl : B = 0 := by rw [← hB]; (repeat' split) <;> omega
    clear hA hB
    go_enter Tryz.func116, Tryz.ntmps116
    go_wp2_with fail
    go_ret2
    exact ⟨rfl, rfl⟩
  · obtain rfl : A = Y := by rw [← hA]; (repeat' split) <;> omega
    obtain rfl : B = 0 := by rw [← hB]; (repeat' split) <;> omega
    clear hA hB
    go_enter Tryz.func116, Tryz.ntmps116
    go_wp2_with fail
    go_ret2
    exact ⟨rfl, rfl⟩
  · obtain rfl : A = n - 1 := by rw [← hA]; (repeat' split) <;> omega
    obtain rfl : B = 0 := by rw [← hB]; (repeat' split) <;> omega
    clear hA hB
    go_enter Tryz.func116, Tryz.ntmps116
    go_wp2_with fail
    go_ret2
    exact ⟨rfl, rfl⟩
  · obtain rfl : A = 0 := by rw [← hA]; (repeat' split) <;> omega
    obtain rfl : B = X := by rw [← hB]; (repeat' split) <;> omega
    clear hA hB
    go_enter Tryz.func116, Tryz.ntmps116
    go_wp2_with fail
    go_ret2
    exact ⟨rfl, rfl⟩
  · obtain rfl : A = X := by rw [← hA]; (repeat' split) <;> omega
    obtain rfl : B = Y := by rw [← hB]; (repeat' split) <;> omega
    clear hA hB
    go_enter Tryz.func116, Tryz.ntmps116
    go_wp2_with fail
    go_ret2
    exact ⟨rfl, rfl⟩
  · obtain rfl : A = n - 1 := by rw [← hA]; (repeat' split) <;> omega
    obtain rfl : B = X := by rw [← hB]; (repeat' split) <;> omega
    clear hA hB
    go_enter Tryz.func116, Tryz.ntmps116
    go_wp2_with fail
    go_ret2
    exact ⟨rfl, rfl⟩
  · obtain rfl : A = 0 := by rw [← hA]; (repeat' split) <;> omega
    obtain rfl : B = n - 1 := by rw [← hB]; (repeat' split) <;> omega
    clear hA hB
    go_enter Tryz.func116, Tryz.ntmps116
    go_wp2_with fail
    go_ret2
    exact ⟨rfl, rfl⟩
  · obtain rfl : A = Y := by rw [← hA]; (repeat' split) <;> omega
    obtain rfl : B = n - 1 := by rw [← hB]; (repeat' split) <;> omega
    clear hA hB
    go_enter Tryz.func116, Tryz.ntmps116
    go_wp2_with fail
    go_ret2
    exact ⟨rfl, rfl⟩
  · obtain rfl : A = n - 1 := by rw [← hA]; (repeat' split) <;> omega
    obtain rfl : B = n - 1 := by rw [← hB]; (repeat' split) <;> omega
    clear hA hB
    go_enter Tryz.func116, Tryz.ntmps116
    go_wp2_with fail
    go_ret2
    exact ⟨rfl, rfl⟩
/-- The cell that is asked for beside another. -/
def besX (x : Pu.Shape) (X Y : Int) : Int := if x.kind = 83 then ringX x.w X Y else getX x X Y
def besY (x : Pu.Shape) (X Y : Int) : Int := if x.kind = 83 then ringY x.w X Y else getY x X Y
set_option maxHeartbeats 1000000 in
theorem xbeside_any (q : Nat) (r : Pu.Rule) (x : Pu.Shape) (age : Int) (l : List Cl) (X Y : Int) (w : World) (h : DocAt w q r x age l) (hx : Pu.ShapeOk x) (hk : KindB x) (ho : OneB x) (hl : l.length ≤ 1000000) (hX : -1000000 ≤ X ∧ X ≤ 1000000) (hY : -1000000 ≤ Y ∧ Y ≤ 1000000) :
    Calls Tryz.prog 105 #[.pointer (some ⟨q, 0, none⟩), .int .i64 X, .int .i64 Y] w fun e w' => e = .returned (.int .i64 (atL l (besX x X Y) (besY x X Y))) ∧ Kp (fun _ => False) w w' := by
  have c4 := h.c4
  have c5 := h.c5
  unfold besX besY
  by_cases e : x.kind = 83
  · have hw : 1 ≤ x.w := by
      have h1 := hx.open_
      have h2 := hx.w0
      rcases Int.lt_or_le 0 x.w with h | h
      · omega
      · have := h1 (Or.inl (by omega)); omega
    have w12 := hx.w12
    have RG := hide (xring_any x.w X Y w ⟨hw, w12⟩)
    rw [if_pos e, if_pos e]
    have rb : (-1000000 ≤ ringX x.w X Y ∧ ringX x.w X Y ≤ 1000000) ∧ (-1000000 ≤ ringY x.w X Y ∧ ringY x.w X Y ≤ 1000000) := by
      unfold ringX ringY ontoP
      refine ⟨⟨?_, ?_⟩, ?_, ?_⟩ <;> (repeat' split) <;> omega
    generalize ringX x.w X Y = A at *
    generalize ringY x.w X Y = B at *
    have GT := hide (xget_any q r x age l A B w h hx hk ho hl (by omega) (by omega))
    unfold getX getY at GT
    rw [if_neg (by omega), if_neg (by omega)] at GT
    rw [e] at c4
    clear h hx hk ho e
    go_enter Tryz.func105, Tryz.ntmps105
    go_wp2_with fail
    refine RG.out.mono ?_
    rintro e w1 ⟨rfl, hw1⟩
    subst w1
    go_wp2_with fail
    refine GT.out.mono ?_
    rintro e w1 ⟨rfl, k1⟩
    have K1 := hide k1
    clear k1
    go_wp2_with fail
    go_ret
    exact ⟨rfl, K1.out⟩
  · rw [if_neg e, if_neg e]
    have b : (x.kind == 83) = false := by simpa using e
    have GT := hide (xget_any q r x age l X Y w h hx hk ho hl (by omega) (by omega))
    generalize getX x X Y = A at *
    generalize getY x X Y = B at *
    clear h hx hk ho e
    go_enter Tryz.func105, Tryz.ntmps105
    go_wp2_with fail
    refine GT.out.mono ?_
    rintro e w1 ⟨rfl, k1⟩
    have K1 := hide k1
    clear k1
    go_wp2_with fail
    go_ret
    exact ⟨rfl, K1.out⟩

set_option maxRecDepth 100000 in
set_option maxHeartbeats 1000000 in
theorem xaround_core (q : Nat) (r : Pu.Rule) (x : Pu.Shape) (age : Int) (l : List Cl) (X Y : Int) (g : Nat → Nat → Int) (w : World) (h : DocAt w q r x age l) (ha : r.around = 77 ∨ r.around = 86 ∨ r.around = 72)
    (hX : -100000 ≤ X ∧ X ≤ 100000) (hY : -100000 ≤ Y ∧ Y ≤ 100000)
    (hg : ∀ (wx : World) (a b : Nat), a < 3 → b < 3 → DocAt wx q r x age l → Calls Tryz.prog 105 #[.pointer (some ⟨q, 0, none⟩), .int .i64 (X + ((a : Int) - 1)), .int .i64 (Y + ((b : Int) - 1))] wx fun e w' => e = .returned (.int .i64 (g a b)) ∧ Kp (fun _ => False) wx w') :
    Calls Tryz.prog 78 #[.pointer (some ⟨q, 0, none⟩), .int .i64 X, .int .i64 Y] w fun e w' => e = .returned (.int .i64 (ones9 (onesW r.around g) 9)) ∧ Kp (fun _ => False) w w' := by
  have HG := hide hg
  have H := hide h
  have HC0 := hide (fun (wx : World) (hx : DocAt wx q r x age l) => hx.c0)
  have LN := hide (fun (wx : World) (dx dy : Int) (h1 : -1 ≤ dx ∧ dx ≤ 1) (h2 : -1 ≤ dy ∧ dy ≤ 1) => xnear_any r.around dx dy wx ha h1 h2)
  have HFX := hide (fun a b (ha : a < 3) => ones9_at (onesW r.around g) a b ha)
  have HLE := hide (fun n => ones9_le (onesW r.around g) n)
  have HON : Hid (∀ a b, onesW r.around g a b = (nearR r.around ((a : Int) - 1) ((b : Int) - 1) && (g a b == 1))) := fun _ _ => rfl
  have HZ : Hid (ones9 (onesW r.around g) 0 = 0) := rfl
  generalize onesW r.around g = F at *
  clear hg h ha
  go_enter Tryz.func78, Tryz.ntmps78
  go_wp2
  go_loopg [7, 8] 3 (fun gc kk dd ws => ∃ b : Nat, b ≤ 3 ∧ 3 ≤ b + gc ∧ kk = .int .i64 (ones9 F (3 * b)) ∧ dd = .int .i64 ((b : Int) - 1) ∧ Kp (fun _ => False) w ws)
  case atStart => exact ⟨0, by omega, by omega, by rw [Nat.mul_zero, HZ.out]; rfl, rfl, Kp.refl _ _⟩
  case round =>
    obtain ⟨b, s1, s2, rfl, rfl, k4⟩ := hrel
    have K4 := hide k4
    clear k4
    by_cases hb : b < 3
    · have hbb : (b : Int) - 1 ≤ 1 := by omega
      go_wp2_with fail
      obtain ⟨gQ, hgQ⟩ : ∃ g, g = gk := ⟨gk, rfl⟩
      have HGQ := hide hgQ
      obtain ⟨wQ, hwQ⟩ : ∃ u, u = wr := ⟨wr, rfl⟩
      rw [← hwQ] at K4
      go_loopg [7, 9] 3 (fun gd kk dd ws => ∃ a : Nat, a ≤ 3 ∧ 3 ≤ a + gd ∧ kk = .int .i64 (ones9 F (3 * b + a)) ∧ dd = .int .i64 ((a : Int) - 1) ∧ Kp (fun _ => False) wQ ws)
      case atStart => exact ⟨0, by omega, by omega, rfl, rfl, by rw [hwQ]; exact Kp.refl _ _⟩
      case round =>
        obtain ⟨a, q1, q2, rfl, rfl, k5⟩ := hrel
        clear hgQ
        have KQ := hide k5
        have K5 := hide (K4.out.trans k5)
        have G5 := hide (H.out.keep K5.out)
        have hle := HLE.out (3 * b + a)
        clear k5
        by_cases ha : a < 3
        · have haa : (a : Int) - 1 ≤ 1 := by omega
          have c0 := HC0.out _ G5.out
          go_wp2_with fail
          refine (LN.out _ ((a : Int) - 1) ((b : Int) - 1) (by omega) (by omega)).mono ?_
          have hon := HON.out a b
          have hfx := HFX.out a b ha
          rw [hon] at hfx
          clear hon
          have HFA := hide hfx
          clear hfx
          generalize nearR r.around ((a : Int) - 1) ((b : Int) - 1) = cb at *
          rintro e w6 ⟨rfl, hw6⟩
          subst w6
          have KQ6 := hide KQ.out
          have G6 := hide G5.out
          cases cb
          · have hfa := HFA.out
            rw [Bool.false_and, if_neg (by simp)] at hfa
            have HFA := hide hfa
            clear hfa
            go_wp2_with fail
            go_roundg (gk - 1)
            case measure => omega
            case rel => exact ⟨a + 1, by omega, by omega, by rw [show 3 * b + (a + 1) = 3 * b + a + 1 from rfl, HFA.out]; rfl, by first | rfl | (congr 1; omega), KQ6.out⟩
          · go_wp2_with fail
            refine (HG.out _ a b ha hb G6.out).mono ?_
            rintro e w7 ⟨rfl, k7⟩
            have KQ7 := hide (KQ6.out.trans k7)
            clear k7
            have hfa := HFA.out
            by_cases h1 : g a b = 1
            · rw [h1] at hfa ⊢
              rw [if_pos (by simp)] at hfa
              have HFA := hide hfa
              clear hfa h1
              go_wp2_with fail
              go_roundg (gk - 1)
              case measure => omega
              case rel => exact ⟨a + 1, by omega, by omega, by rw [show 3 * b + (a + 1) = 3 * b + a + 1 from rfl, HFA.out]; go_num, by first | rfl | (congr 1; omega), KQ7.out⟩
            · have b1 : (g a b == 1) = false := by simpa using h1
              rw [b1, if_neg (by simp)] at hfa
              have HFA := hide hfa
              clear hfa h1
              go_wp2_with fail
              go_roundg (gk - 1)
              case measure => omega
              case rel => exact ⟨a + 1, by omega, by omega, by rw [show 3 * b + (a + 1) = 3 * b + a + 1 from rfl, HFA.out]; rfl, by first | rfl | (congr 1; omega), KQ7.out⟩
        · have ea : a = 3 := by omega
          subst ea
          go_wp2_with fail
          go_roundg (gQ - 1)
          case measure => have := HGQ.out; omega
          case rel => exact ⟨b + 1, by omega, by have := HGQ.out; omega, rfl, by first | rfl | (congr 1; omega), K5.out⟩
    · have eb : b = 3 := by omega
      subst eb
      go_wp2_with fail
      go_ret
      exact ⟨rfl, K4.out⟩

set_option maxHeartbeats 1000000 in
theorem xnext_any (q : Nat) (r : Pu.Rule) (x : Pu.Shape) (age : Int) (l : List Cl) (s : Int) (k : Nat) (w : World) (h : DocAt w q r x age l) (hs : 0 ≤ s ∧ s < r.states) (h9 : r.states ≤ 9) (hk : k < 9) :
    Calls Tryz.prog 79 #[.pointer (some ⟨q, 0, none⟩), .int .i64 s, .int .i64 k] w fun e w' => e = .returned (.int .i64 (nextR r s k)) ∧ w' = w := by
  obtain ⟨g1, c1, bb⟩ := h.births
  obtain ⟨g2, c2, lb⟩ := h.lives
  have c3 := h.c3
  have b1 := bb k hk
  have b2 := lb k hk
  clear h bb lb
  unfold nextR
  generalize r.births.getD k false = vb at *
  generalize r.survivals.getD k false = vl at *
  by_cases e0 : s = 0
  · subst e0
    rw [if_pos rfl]
    cases vb
    all_goals
      go_enter Tryz.func79, Tryz.ntmps79
      go_wp2_with fail
      go_ret
      exact ⟨rfl, rfl⟩
  · rw [if_neg e0]
    have n0 : (s == 0) = false := by simpa using e0
    by_cases e1 : s = 1
    · subst e1
      cases vl
      · rw [if_neg (by simp)]
        by_cases e2 : r.states ≤ 1 + 1
        · have e3 : r.states = 2 := by omega
          rw [if_pos e2]
          rw [e3] at c3
          go_enter Tryz.func79, Tryz.ntmps79
          go_wp2_with fail
          go_ret
          exact ⟨rfl, rfl⟩
        · rw [if_neg e2]
          have n2 : (2 == r.states) = false := by rw [beq_eq_false_iff_ne]; omega
          go_enter Tryz.func79, Tryz.ntmps79
          go_wp2_with fail
          go_ret
          exact ⟨rfl, rfl⟩
      · rw [if_pos ⟨rfl, rfl⟩]
        go_enter Tryz.func79, Tryz.ntmps79
        go_wp2_with fail
        go_ret
        exact ⟨rfl, rfl⟩
    · rw [if_neg (fun hh => e1 hh.1)]
      have n1 : (s == 1) = false := by simpa using e1
      by_cases e2 : r.states ≤ s + 1
      · have e3 : r.states = s + 1 := by omega
        rw [if_pos e2]
        rw [e3] at c3
        go_enter Tryz.func79, Tryz.ntmps79
        go_wp2_with fail
        go_ret
        exact ⟨rfl, rfl⟩
      · rw [if_neg e2]
        have n2 : (s + 1 == r.states) = false := by rw [beq_eq_false_iff_ne]; omega
        go_enter Tryz.func79, Tryz.ntmps79
        go_wp2_with fail
        go_ret
        exact ⟨rfl, rfl⟩
/-- The state of the neighbour at (X, Y), by the list. -/
def nbL (x : Pu.Shape) (l : List Cl) (X Y : Int) : Int := atL l (besX x X Y) (besY x X Y)
theorem xaround_any (q : Nat) (r : Pu.Rule) (x : Pu.Shape) (age : Int) (l : List Cl) (X Y : Int) (w : World) (h : DocAt w q r x age l) (hx : Pu.ShapeOk x) (hk : KindB x) (ho : OneB x) (hl : l.length ≤ 1000000) (ha : r.around = 77 ∨ r.around = 86 ∨ r.around = 72) (hX : -100000 ≤ X ∧ X ≤ 100000) (hY : -100000 ≤ Y ∧ Y ≤ 100000) :
    Calls Tryz.prog 78 #[.pointer (some ⟨q, 0, none⟩), .int .i64 X, .int .i64 Y] w fun e w' => e = .returned (.int .i64 (ones9 (onesW r.around fun a b => nbL x l (X + ((a : Int) - 1)) (Y + ((b : Int) - 1))) 9)) ∧ Kp (fun _ => False) w w' :=
  xaround_core q r x age l X Y _ w h ha hX hY (fun wx a b _ _ hg => xbeside_any q r x age l _ _ wx hg hx hk ho hl (by omega) (by omega))
end Go.Proofs.YthmhjjkmnnmjlaaGreatDoor
