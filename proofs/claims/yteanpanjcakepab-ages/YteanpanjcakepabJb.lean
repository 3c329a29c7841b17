import Derived.Test.YteanpanjcakepabIf
import Derived.Test.YteanpanjcakepabIb
import Derived.Test.YteanpanjcakepabJa
namespace Go.Proofs.Yteanpanjcakepab
open Go.RowKit
open Go.Proofs

/-- Does the neighbour at dx, dy count? By the law's words, and by the program's. -/
def countsP (near dx dy : Int) : Bool := if dx = 0 ∧ dy = 0 then false else if near = 86 then decide (dx * dy = 0) else if near = 72 then decide (0 ≤ dx * dy) else true
def nearR (a dx dy : Int) : Bool := if a = 77 then decide (dx ≠ 0 ∨ dy ≠ 0) else if a = 86 then ((dx == 0) != (dy == 0)) else if a = 72 then dx != -dy else false
theorem near_counts {a dx dy : Int} (ha : a = 77 ∨ a = 86 ∨ a = 72) (hx : -1 ≤ dx ∧ dx ≤ 1) (hy : -1 ≤ dy ∧ dy ≤ 1) : nearR a dx dy = countsP a dx dy := by
  have h1 : dx = -1 ∨ dx = 0 ∨ dx = 1 := by omega
  have h2 : dy = -1 ∨ dy = 0 ∨ dy = 1 := by omega
  rcases ha with rfl | rfl | rfl <;> rcases h1 with rfl | rfl | rfl <;> rcases h2 with rfl | rfl | rfl <;> decide
/-- The next state, by the law's words, and by the program's. -/
def nextP (p : Pu.Plan) (s : Int) (k : Nat) : Int := if s = 0 then ((p.births / 2 ^ k % 2 : Nat) : Int) else if s = 1 ∧ p.lives / 2 ^ k % 2 = 1 then 1 else (s + 1) % p.c
def nextR (r : Pu.Rule) (s : Int) (k : Nat) : Int := if s = 0 then (if r.births.getD k false = true then 1 else 0) else if s = 1 ∧ r.survivals.getD k false = true then 1 else if r.states ≤ s + 1 then 0 else s + 1
theorem bitB_get (b k : Nat) (h : k < 9) : (Pu.bitB b).getD k false = (b / 2 ^ k % 2 == 1) := by
  unfold Pu.bitB
  simp [List.getD, h]
theorem next_next {p : Pu.Plan} {s : Int} {k : Nat} (hs : 0 ≤ s ∧ s < p.c) (hk : k < 9) : nextR (Pu.ruleOf p) s k = nextP p s k := by
  unfold nextR nextP Pu.ruleOf
  simp only
  rw [bitB_get _ k hk, bitB_get _ k hk]
  by_cases h0 : s = 0
  · rw [if_pos h0, if_pos h0]
    rcases Nat.mod_two_eq_zero_or_one (p.births / 2 ^ k) with e | e <;> rw [e] <;> simp
  · rw [if_neg h0, if_neg h0]
    by_cases h1 : s = 1 ∧ p.lives / 2 ^ k % 2 = 1
    · rw [if_pos h1, if_pos ⟨h1.1, by simp [h1.2]⟩]
    · rw [if_neg h1, if_neg (by intro h; exact h1 ⟨h.1, by simpa using h.2⟩)]
      by_cases h2 : p.c ≤ s + 1
      · rw [if_pos h2, show s + 1 = p.c by omega, Int.emod_self]
      · rw [if_neg h2, Int.emod_eq_of_lt (by omega) (by omega)]

set_option maxHeartbeats 400000 in
theorem pcounts_any (p : Pu.Plan) (dx dy : Int) (w : World) (hx : -1 ≤ dx ∧ dx ≤ 1) (hy : -1 ≤ dy ∧ dy ≤ 1) :
    Calls Try.prog 19 #[.agg (planv p), .int .i64 dx, .int .i64 dy] w fun e w' => e = .returned (.bool (countsP p.near dx dy)) ∧ Kp (fun _ => False) w w' := by
  have hm : -1 ≤ dx * dy ∧ dx * dy ≤ 1 := by
    have h1 : dx = -1 ∨ dx = 0 ∨ dx = 1 := by omega
    rcases h1 with rfl | rfl | rfl <;> omega
  unfold countsP
  by_cases h0 : dx = 0 ∧ dy = 0
  · rw [if_pos h0]
    obtain ⟨rfl, rfl⟩ := h0
    go_enter Try.func19, Try.ntmps19
    go_wp2_with (refine wpList_box_row rfl 25 _ rfl (planv p) rfl ?_
                 intro w1 hw1
                 have K1 : Hid (Kp (fun _ => False) w w1) := by rw [hw1]; exact (Kp.refl _ _).alloc _
                 clear hw1)
    go_ret
    exact ⟨rfl, K1.out⟩
  · rw [if_neg h0]
    have hg : (dx == 0) = true ∧ (dy == 0) = false ∨ (dx == 0) = false := by
      by_cases e : dx = 0
      · left; exact ⟨by simpa using e, by simp; omega⟩
      · right; simpa using e
    clear h0
    by_cases h1 : p.near = 86
    · rw [if_pos h1]
      rcases hg with ⟨b1, b2⟩ | b1
      all_goals
        go_enter Try.func19, Try.ntmps19
        go_wp2_with (refine wpList_box_row rfl 25 _ rfl (planv p) rfl ?_
                     intro w1 hw1
                     have K1 : Hid (Kp (fun _ => False) w w1) := by rw [hw1]; exact (Kp.refl _ _).alloc _
                     have c0 : w1.cell? ⟨w.heap.size, 0, none⟩ = some (.int .u8 86) := by rw [hw1, cell_of_row _ _ 0 _ _ _ (heap_alloc_new _ _), ← h1]; rfl
                     clear hw1)
        go_ret
        exact ⟨ret_bool (by first | rfl | (rw [Bool.eq_iff_iff]; simp)), K1.out⟩
    · rw [if_neg h1]
      have n1 : (p.near == 86) = false := by simpa using h1
      by_cases h2 : p.near = 72
      · rw [if_pos h2]
        clear n1 h1
        rcases hg with ⟨b1, b2⟩ | b1
        all_goals
          go_enter Try.func19, Try.ntmps19
          go_wp2_with (refine wpList_box_row rfl 25 _ rfl (planv p) rfl ?_
                       intro w1 hw1
                       have K1 : Hid (Kp (fun _ => False) w w1) := by rw [hw1]; exact (Kp.refl _ _).alloc _
                       have c0 : w1.cell? ⟨w.heap.size, 0, none⟩ = some (.int .u8 72) := by rw [hw1, cell_of_row _ _ 0 _ _ _ (heap_alloc_new _ _), ← h2]; rfl
                       clear hw1)
          go_ret
          exact ⟨ret_bool (by first | rfl | (rw [Bool.eq_iff_iff]; simp)), K1.out⟩
      · rw [if_neg h2]
        have n2 : (p.near == 72) = false := by simpa using h2
        clear h1 h2
        rcases hg with ⟨b1, b2⟩ | b1
        all_goals
          go_enter Try.func19, Try.ntmps19
          go_wp2_with (refine wpList_box_row rfl 25 _ rfl (planv p) rfl ?_
                       intro w1 hw1
                       have K1 : Hid (Kp (fun _ => False) w w1) := by rw [hw1]; exact (Kp.refl _ _).alloc _
                       have c0 : w1.cell? ⟨w.heap.size, 0, none⟩ = some (.int .u8 p.near) := by rw [hw1, cell_of_row _ _ 0 _ _ _ (heap_alloc_new _ _)]; rfl
                       clear hw1)
          go_ret
          exact ⟨rfl, K1.out⟩

set_option maxRecDepth 100000 in
set_option maxHeartbeats 400000 in
theorem pnext_any (p : Pu.Plan) (hp : Pu.PlanOk p) (s : Int) (k : Nat) (w : World) (hs : 0 ≤ s ∧ s < p.c) (hk : k < 9) :
    Calls Try.prog 20 #[.agg (planv p), .int .i64 s, .int .i64 k] w fun e w' => e = .returned (.int .i64 (nextP p s k)) ∧ Kp (fun _ => False) w w' := by
  have hc := hp.c
  have bb := bits_bd hp
  have e1 : ((p.births : Int) / 2 ^ k).tmod 2 = ((p.births / 2 ^ k % 2 : Nat) : Int) := by
    have hnn : (0 : Int) ≤ (p.births : Int) / 2 ^ k := Int.ediv_nonneg (by omega) (Int.le_of_lt (Int.pow_pos (by omega)))
    rw [Int.tmod_eq_emod_of_nonneg hnn]
    simp
  have e2 : ((p.lives : Int) / 2 ^ k).tmod 2 = ((p.lives / 2 ^ k % 2 : Nat) : Int) := by
    have hnn : (0 : Int) ≤ (p.lives : Int) / 2 ^ k := Int.ediv_nonneg (by omega) (Int.le_of_lt (Int.pow_pos (by omega)))
    rw [Int.tmod_eq_emod_of_nonneg hnn]
    simp
  unfold nextP
  by_cases h0 : s = 0
  · subst h0
    rw [if_pos rfl, ← e1]
    clear e1 e2
    go_enter Try.func20, Try.ntmps20
    go_wp2_with (refine wpList_box_row rfl 25 _ rfl (planv p) rfl ?_
                 intro w1 hw1
                 have K1 : Hid (Kp (fun _ => False) w w1) := by rw [hw1]; exact (Kp.refl _ _).alloc _
                 have c1 : w1.cell? ⟨w.heap.size, 1, none⟩ = some (.int .i64 p.births) := by rw [hw1, cell_of_row _ _ 1 _ _ _ (heap_alloc_new _ _)]; rfl
                 clear hw1)
    go_ret
    exact ⟨rfl, K1.out⟩
  · rw [if_neg h0]
    clear e1
    have b0 : (s == 0) = false := by simpa using h0
    by_cases h1 : s = 1
    · subst h1
      clear b0
      rcases Nat.mod_two_eq_zero_or_one (p.lives / 2 ^ k) with hz | hz
      · rw [hz] at e2
        rw [if_neg (by omega)]
        have ef : (((p.lives : Int) / 2 ^ k).tmod 2 == 1) = false := by rw [e2]; rfl
        have em : Hid ((1 + 1 : Int).tmod p.c = (1 + 1) % p.c) := Int.tmod_eq_emod_of_nonneg (by omega)
        clear e2 hz
        go_enter Try.func20, Try.ntmps20
        go_wp2_with (refine wpList_box_row rfl 25 _ rfl (planv p) rfl ?_
                     intro w1 hw1
                     have K1 : Hid (Kp (fun _ => False) w w1) := by rw [hw1]; exact (Kp.refl _ _).alloc _
                     have c2 : w1.cell? ⟨w.heap.size, 2, none⟩ = some (.int .i64 p.lives) := by rw [hw1, cell_of_row _ _ 2 _ _ _ (heap_alloc_new _ _)]; rfl
                     have c3 : w1.cell? ⟨w.heap.size, 3, none⟩ = some (.int .i64 p.c) := by rw [hw1, cell_of_row _ _ 3 _ _ _ (heap_alloc_new _ _)]; rfl
                     clear hw1)
        go_ret
        exact ⟨ret_int (by first | rfl | exact em.out), K1.out⟩
      · rw [hz] at e2
        rw [if_pos ⟨rfl, hz⟩]
        have ef : (((p.lives : Int) / 2 ^ k).tmod 2 == 1) = true := by rw [e2]; rfl
        clear e2 hz
        go_enter Try.func20, Try.ntmps20
        go_wp2_with (refine wpList_box_row rfl 25 _ rfl (planv p) rfl ?_
                     intro w1 hw1
                     have K1 : Hid (Kp (fun _ => False) w w1) := by rw [hw1]; exact (Kp.refl _ _).alloc _
                     have c2 : w1.cell? ⟨w.heap.size, 2, none⟩ = some (.int .i64 p.lives) := by rw [hw1, cell_of_row _ _ 2 _ _ _ (heap_alloc_new _ _)]; rfl
                     clear hw1)
        go_ret
        exact ⟨rfl, K1.out⟩
    · rw [if_neg (by omega)]
      have b1 : (s == 1) = false := by simpa using h1
      have em : Hid ((s + 1 : Int).tmod p.c = (s + 1) % p.c) := Int.tmod_eq_emod_of_nonneg (by omega)
      clear e2 h0 h1
      go_enter Try.func20, Try.ntmps20
      go_wp2_with (refine wpList_box_row rfl 25 _ rfl (planv p) rfl ?_
                   intro w1 hw1
                   have K1 : Hid (Kp (fun _ => False) w w1) := by rw [hw1]; exact (Kp.refl _ _).alloc _
                   have c3 : w1.cell? ⟨w.heap.size, 3, none⟩ = some (.int .i64 p.c) := by rw [hw1, cell_of_row _ _ 3 _ _ _ (heap_alloc_new _ _)]; rfl
                   clear hw1)
      go_ret
      exact ⟨ret_int (by first | rfl | exact em.out), K1.out⟩

theorem rulev_around {r : Pu.Rule} : (rulev r)[0]? = some (.int .u8 r.around) := by
  unfold rulev
  simp [Array.getElem?_append]
set_option maxRecDepth 100000 in
set_option maxHeartbeats 400000 in
theorem rnear_any (r : Pu.Rule) (dx dy : Int) (w : World) (ha : r.around = 77 ∨ r.around = 86 ∨ r.around = 72) (hx : -1 ≤ dx ∧ dx ≤ 1) (hy : -1 ≤ dy ∧ dy ≤ 1) :
    Calls Try.prog 44 #[.agg (rulev r), .int .i64 dx, .int .i64 dy] w fun e w' => e = .returned (.bool (nearR r.around dx dy)) ∧ Kp (fun _ => False) w w' := by
  have HA := hide (rulev_around (r := r))
  unfold nearR
  rcases ha with h | h | h
  · rw [h] at HA ⊢
    rw [if_pos rfl]
    by_cases e : dx = 0
    · subst e
      go_enter Try.func44, Try.ntmps44
      go_wp2_with (refine wpList_box_row rfl 50 _ rfl (rulev r) rfl ?_
                   intro w1 hw1
                   have K1 : Hid (Kp (fun _ => False) w w1) := by rw [hw1]; exact (Kp.refl _ _).alloc _
                   have c0 : w1.cell? ⟨w.heap.size, 0, none⟩ = some (.int .u8 77) := by rw [hw1, cell_of_row _ _ 0 _ _ _ (heap_alloc_new _ _)]; exact HA.out
                   clear hw1)
      go_ret
      exact ⟨ret_bool (by first | rfl | (rw [Bool.eq_iff_iff]; simp)), K1.out⟩
    · have b1 : (dx != 0) = true := by simpa using e
      have E := hide e
      clear e
      go_enter Try.func44, Try.ntmps44
      go_wp2_with (refine wpList_box_row rfl 50 _ rfl (rulev r) rfl ?_
                   intro w1 hw1
                   have K1 : Hid (Kp (fun _ => False) w w1) := by rw [hw1]; exact (Kp.refl _ _).alloc _
                   have c0 : w1.cell? ⟨w.heap.size, 0, none⟩ = some (.int .u8 77) := by rw [hw1, cell_of_row _ _ 0 _ _ _ (heap_alloc_new _ _)]; exact HA.out
                   clear hw1)
      go_ret
      exact ⟨ret_bool (by symm; exact decide_eq_true (Or.inl E.out)), K1.out⟩
  · rw [h] at HA ⊢
    rw [if_neg (by omega), if_pos rfl]
    go_enter Try.func44, Try.ntmps44
    go_wp2_with (refine wpList_box_row rfl 50 _ rfl (rulev r) rfl ?_
                 intro w1 hw1
                 have K1 : Hid (Kp (fun _ => False) w w1) := by rw [hw1]; exact (Kp.refl _ _).alloc _
                 have c0 : w1.cell? ⟨w.heap.size, 0, none⟩ = some (.int .u8 86) := by rw [hw1, cell_of_row _ _ 0 _ _ _ (heap_alloc_new _ _)]; exact HA.out
                 clear hw1)
    go_ret
    exact ⟨rfl, K1.out⟩
  · rw [h] at HA ⊢
    rw [if_neg (by omega), if_neg (by omega), if_pos rfl]
    go_enter Try.func44, Try.ntmps44
    go_wp2_with (refine wpList_box_row rfl 50 _ rfl (rulev r) rfl ?_
                 intro w1 hw1
                 have K1 : Hid (Kp (fun _ => False) w w1) := by rw [hw1]; exact (Kp.refl _ _).alloc _
                 have c0 : w1.cell? ⟨w.heap.size, 0, none⟩ = some (.int .u8 72) := by rw [hw1, cell_of_row _ _ 0 _ _ _ (heap_alloc_new _ _)]; exact HA.out
                 clear hw1)
    go_ret
    exact ⟨rfl, K1.out⟩
end Go.Proofs.Yteanpanjcakepab
