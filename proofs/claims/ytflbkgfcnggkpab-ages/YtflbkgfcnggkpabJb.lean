import Derived.Test.YtflbkgfcnggkpabJn
import Derived.Test.YtflbkgfcnggkpabIb
namespace Go.Proofs.Ytflbkgfcnggkpab
open Go.RowKit
open Go.Proofs

set_option maxHeartbeats 400000 in
theorem pcounts_any (p : Pu.Plan) (dx dy : Int) (w : World) (hx : -1 ≤ dx ∧ dx ≤ 1) (hy : -1 ≤ dy ∧ dy ≤ 1) :
    Calls Try.prog 21 #[.agg (planv p), .int .i64 dx, .int .i64 dy] w fun e w' => e = .returned (.bool (countsP p.near dx dy)) ∧ Kp (fun _ => False) w w' := by
  have hm : -1 ≤ dx * dy ∧ dx * dy ≤ 1 := by
    have h1 : dx = -1 ∨ dx = 0 ∨ dx = 1 := by omega
    rcases h1 with rfl | rfl | rfl <;> omega
  unfold countsP
  by_cases h0 : dx = 0 ∧ dy = 0
  · rw [if_pos h0]
    obtain ⟨rfl, rfl⟩ := h0
    go_enter Try.func21, Try.ntmps21
    go_wp2_with (refine wpList_box_row rfl 25 _ rfl (planv p) rfl ?_
                 intro w1 hw1
                 have K1 : Hid (Kp (fun _ => False) w w1) := by rw [hw1]; exact (Kp.refl _ _).alloc _
                 clear hw1)
    go_ret
    exact ⟨rfl, K1.out⟩
  · rw [if_neg h0]
    have hg : (dx == 0) = true ∧ (dy == 0) = false ∨ (dx == 0) = false := by
      by_cases e : dx = 0
      · left; exact ⟨by simpa using e, by simp; omega⟩
      · right; simpa using e
    clear h0
    by_cases h1 : p.near = 86
    · rw [if_pos h1]
      rcases hg with ⟨b1, b2⟩ | b1
      all_goals
        go_enter Try.func21, Try.ntmps21
        go_wp2_with (refine wpList_box_row rfl 25 _ rfl (planv p) rfl ?_
                     intro w1 hw1
                     have K1 : Hid (Kp (fun _ => False) w w1) := by rw [hw1]; exact (Kp.refl _ _).alloc _
                     have c0 : w1.cell? ⟨w.heap.size, 0, none⟩ = some (.int .u8 86) := by rw [hw1, cell_of_row _ _ 0 _ _ _ (heap_alloc_new _ _), ← h1]; rfl
                     clear hw1)
        go_ret
        exact ⟨ret_bool (by first | rfl | (rw [Bool.eq_iff_iff]; simp)), K1.out⟩
    · rw [if_neg h1]
      have n1 : (p.near == 86) = false := by simpa using h1
      by_cases h2 : p.near = 72
      · rw [if_pos h2]
        clear n1 h1
        rcases hg with ⟨b1, b2⟩ | b1
        all_goals
          go_enter Try.func21, Try.ntmps21
          go_wp2_with (refine wpList_box_row rfl 25 _ rfl (planv p) rfl ?_
                       intro w1 hw1
                       have K1 : Hid (Kp (fun _ => False) w w1) := by rw [hw1]; exact (Kp.refl _ _).alloc _
                       have c0 : w1.cell? ⟨w.heap.size, 0, none⟩ = some (.int .u8 72) := by rw [hw1, cell_of_row _ _ 0 _ _ _ (heap_alloc_new _ _), ← h2]; rfl
                       clear hw1)
          go_ret
          exact ⟨ret_bool (by first | rfl | (rw [Bool.eq_iff_iff]; simp)), K1.out⟩
      · rw [if_neg h2]
        have n2 : (p.near == 72) = false := by simpa using h2
        clear h1 h2
        rcases hg with ⟨b1, b2⟩ | b1
        all_goals
          go_enter Try.func21, Try.ntmps21
          go_wp2_with (refine wpList_box_row rfl 25 _ rfl (planv p) rfl ?_
                       intro w1 hw1
                       have K1 : Hid (Kp (fun _ => False) w w1) := by rw [hw1]; exact (Kp.refl _ _).alloc _
                       have c0 : w1.cell? ⟨w.heap.size, 0, none⟩ = some (.int .u8 p.near) := by rw [hw1, cell_of_row _ _ 0 _ _ _ (heap_alloc_new _ _)]; rfl
                       clear hw1)
          go_ret
          exact ⟨rfl, K1.out⟩

set_option maxRecDepth 100000 in
set_option maxHeartbeats 400000 in
theorem pnext_any (p : Pu.Plan) (hp : Pu.PlanOk p) (s : Int) (k : Nat) (w : World) (hs : 0 ≤ s ∧ s < p.c) (hk : k < 9) :
    Calls Try.prog 22 #[.agg (planv p), .int .i64 s, .int .i64 k] w fun e w' => e = .returned (.int .i64 (nextP p s k)) ∧ Kp (fun _ => False) w w' := by
  have hc := hp.c
  have bb := bits_bd hp
  have e1 : ((p.births : Int) / 2 ^ k).tmod 2 = ((p.births / 2 ^ k % 2 : Nat) : Int) := by
    have hnn : (0 : Int) ≤ (p.births : Int) / 2 ^ k := Int.ediv_nonneg (by omega) (Int.le_of_lt (Int.pow_pos (by omega)))
    rw [Int.tmod_eq_emod_of_nonneg hnn]
    simp
  have e2 : ((p.lives : Int) / 2 ^ k).tmod 2 = ((p.lives / 2 ^ k % 2 : Nat) : Int) := by
    have hnn : (0 : Int) ≤ (p.lives : Int) / 2 ^ k := Int.ediv_nonneg (by omega) (Int.le_of_lt (Int.pow_pos (by omega)))
    rw [Int.tmod_eq_emod_of_nonneg hnn]
    simp
  unfold nextP
  by_cases h0 : s = 0
  · subst h0
    rw [if_pos rfl, ← e1]
    clear e1 e2
    go_enter Try.func22, Try.ntmps22
    go_wp2_with (refine wpList_box_row rfl 25 _ rfl (planv p) rfl ?_
                 intro w1 hw1
                 have K1 : Hid (Kp (fun _ => False) w w1) := by rw [hw1]; exact (Kp.refl _ _).alloc _
                 have c1 : w1.cell? ⟨w.heap.size, 1, none⟩ = some (.int .i64 p.births) := by rw [hw1, cell_of_row _ _ 1 _ _ _ (heap_alloc_new _ _)]; rfl
                 clear hw1)
    go_ret
    exact ⟨rfl, K1.out⟩
  · rw [if_neg h0]
    clear e1
    have b0 : (s == 0) = false := by simpa using h0
    by_cases h1 : s = 1
    · subst h1
      clear b0
      rcases Nat.mod_two_eq_zero_or_one (p.lives / 2 ^ k) with hz | hz
      · rw [hz] at e2
        rw [if_neg (by omega)]
        have ef : (((p.lives : Int) / 2 ^ k).tmod 2 == 1) = false := by rw [e2]; rfl
        have em : Hid ((1 + 1 : Int).tmod p.c = (1 + 1) % p.c) := Int.tmod_eq_emod_of_nonneg (by omega)
        clear e2 hz
        go_enter Try.func22, Try.ntmps22
        go_wp2_with (refine wpList_box_row rfl 25 _ rfl (planv p) rfl ?_
                     intro w1 hw1
                     have K1 : Hid (Kp (fun _ => False) w w1) := by rw [hw1]; exact (Kp.refl _ _).alloc _
                     have c2 : w1.cell? ⟨w.heap.size, 2, none⟩ = some (.int .i64 p.lives) := by rw [hw1, cell_of_row _ _ 2 _ _ _ (heap_alloc_new _ _)]; rfl
                     have c3 : w1.cell? ⟨w.heap.size, 3, none⟩ = some (.int .i64 p.c) := by rw [hw1, cell_of_row _ _ 3 _ _ _ (heap_alloc_new _ _)]; rfl
                     clear hw1)
        go_ret
        exact ⟨ret_int (by first | rfl | exact em.out), K1.out⟩
      · rw [hz] at e2
        rw [if_pos ⟨rfl, hz⟩]
        have ef : (((p.lives : Int) / 2 ^ k).tmod 2 == 1) = true := by rw [e2]; rfl
        clear e2 hz
        go_enter Try.func22, Try.ntmps22
        go_wp2_with (refine wpList_box_row rfl 25 _ rfl (planv p) rfl ?_
                     intro w1 hw1
                     have K1 : Hid (Kp (fun _ => False) w w1) := by rw [hw1]; exact (Kp.refl _ _).alloc _
                     have c2 : w1.cell? ⟨w.heap.size, 2, none⟩ = some (.int .i64 p.lives) := by rw [hw1, cell_of_row _ _ 2 _ _ _ (heap_alloc_new _ _)]; rfl
                     clear hw1)
        go_ret
        exact ⟨rfl, K1.out⟩
    · rw [if_neg (by omega)]
      have b1 : (s == 1) = false := by simpa using h1
      have em : Hid ((s + 1 : Int).tmod p.c = (s + 1) % p.c) := Int.tmod_eq_emod_of_nonneg (by omega)
      clear e2 h0 h1
      go_enter Try.func22, Try.ntmps22
      go_wp2_with (refine wpList_box_row rfl 25 _ rfl (planv p) rfl ?_
                   intro w1 hw1
                   have K1 : Hid (Kp (fun _ => False) w w1) := by rw [hw1]; exact (Kp.refl _ _).alloc _
                   have c3 : w1.cell? ⟨w.heap.size, 3, none⟩ = some (.int .i64 p.c) := by rw [hw1, cell_of_row _ _ 3 _ _ _ (heap_alloc_new _ _)]; rfl
                   clear hw1)
      go_ret
      exact ⟨ret_int (by first | rfl | exact em.out), K1.out⟩

end Go.Proofs.Ytflbkgfcnggkpab
