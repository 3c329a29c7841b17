import Derived.Test.YtbdbkjngdhcjpaaDoorM6
import Derived.Test.YtbdbkjngdhcjpaaDoorM7
import Derived.Test.YtbdbkjngdhcjpaaDoorJa
import Derived.Test.YtbdbkjngdhcjpaaDoorPx
import Derived.Test.YtbdbkjngdhcjpaaDoorWn
namespace Go.Proofs.YtbdbkjngdhcjpaaDoor
open Go.RowKit
open Go.Proofs

/-- Does the neighbour at dx, dy count? By the law's words, and by the program's. -/
def countsP (near dx dy : Int) : Bool := if dx = 0 ∧ dy = 0 then false else if near = 86 then decide (dx * dy = 0) else if near = 72 then decide (0 ≤ dx * dy) else true
def nearR (a dx dy : Int) : Bool := if a = 77 then decide (dx ≠ 0 ∨ dy ≠ 0) else if a = 86 then ((dx == 0) != (dy == 0)) else if a = 72 then dx != -dy else false
theorem near_counts {a dx dy : Int} (ha : a = 77 ∨ a = 86 ∨ a = 72) (hx : -1 ≤ dx ∧ dx ≤ 1) (hy : -1 ≤ dy ∧ dy ≤ 1) : nearR a dx dy = countsP a dx dy := by
  have h1 : dx = -1 ∨ dx = 0 ∨ dx = 1 := by omega
  have h2 : dy = -1 ∨ dy = 0 ∨ dy = 1 := by omega
  rcases ha with rfl | rfl | rfl <;> rcases h1 with rfl | rfl | rfl <;> rcases h2 with rfl | rfl | rfl <;> decide
/-- The next state, by the law's words, and by the program's. -/
def nextP (p : Pu.Plan) (s : Int) (k : Nat) : Int := if s = 0 then ((p.births / 2 ^ k % 2 : Nat) : Int) else if s = 1 ∧ p.lives / 2 ^ k % 2 = 1 then 1 else (s + 1) % p.c
def nextR (r : Pu.Rule) (s : Int) (k : Nat) : Int := if s = 0 then (if r.births.getD k false = true then 1 else 0) else if s = 1 ∧ r.survivals.getD k false = true then 1 else if r.states ≤ s + 1 then 0 else s + 1
theorem bitB_get (b k : Nat) (h : k < 9) : (Pu.bitB b).getD k false = (b / 2 ^ k % 2 == 1) := by
  unfold Pu.bitB
  simp [List.getD, h]
theorem next_next {p : Pu.Plan} {s : Int} {k : Nat} (hs : 0 ≤ s ∧ s < p.c) (hk : k < 9) : nextR (Pu.ruleOf p) s k = nextP p s k := by
  unfold nextR nextP Pu.ruleOf
  simp only
  rw [bitB_get _ k hk, bitB_get _ k hk]
  by_cases h0 : s = 0
  · rw [if_pos h0, if_pos h0]
    rcases Nat.mod_two_eq_zero_or_one (p.births / 2 ^ k) with e | e <;> rw [e] <;> simp
  · rw [if_neg h0, if_neg h0]
    by_cases h1 : s = 1 ∧ p.lives / 2 ^ k % 2 = 1
    · rw [if_pos h1, if_pos ⟨h1.1, by simp [h1.2]⟩]
    · rw [if_neg h1, if_neg (by intro h; exact h1 ⟨h.1, by simpa using h.2⟩)]
      by_cases h2 : p.c ≤ s + 1
      · rw [if_pos h2, show s + 1 = p.c by omega, Int.emod_self]
      · rw [if_neg h2, Int.emod_eq_of_lt (by omega) (by omega)]

set_option maxRecDepth 100000 in
set_option maxHeartbeats 400000 in
theorem rnear_any (r : Pu.Rule) (dx dy : Int) (w : World) (ha : r.around = 77 ∨ r.around = 86 ∨ r.around = 72) (hx : -1 ≤ dx ∧ dx ≤ 1) (hy : -1 ≤ dy ∧ dy ≤ 1) :
    Calls Tryd.prog 79 #[.agg (rulev r), .int .i64 dx, .int .i64 dy] w fun e w' => e = .returned (.bool (nearR r.around dx dy)) ∧ Kp (fun _ => False) w w' := by
  have HA := hide (rulev_around (r := r))
  unfold nearR
  rcases ha with h | h | h
  · rw [h] at HA ⊢
    rw [if_pos rfl]
    by_cases e : dx = 0
    · subst e
      go_enter Tryd.func79, Tryd.ntmps79
      go_wp2_with (refine wpList_box_row rfl 48 _ rfl (rulev r) rfl ?_
                   intro w1 hw1
                   have K1 : Hid (Kp (fun _ => False) w w1) := by rw [hw1]; exact (Kp.refl _ _).alloc _
                   have c0 : w1.cell? ⟨w.heap.size, 0, none⟩ = some (.int .u8 77) := by rw [hw1, cell_of_row _ _ 0 _ _ _ (heap_alloc_new _ _)]; exact HA.out
                   clear hw1)
      go_ret
      exact ⟨ret_bool (by first | rfl | (rw [Bool.eq_iff_iff]; simp)), K1.out⟩
    · have b1 : (dx != 0) = true := by simpa using e
      have E := hide e
      clear e
      go_enter Tryd.func79, Tryd.ntmps79
      go_wp2_with (refine wpList_box_row rfl 48 _ rfl (rulev r) rfl ?_
                   intro w1 hw1
                   have K1 : Hid (Kp (fun _ => False) w w1) := by rw [hw1]; exact (Kp.refl _ _).alloc _
                   have c0 : w1.cell? ⟨w.heap.size, 0, none⟩ = some (.int .u8 77) := by rw [hw1, cell_of_row _ _ 0 _ _ _ (heap_alloc_new _ _)]; exact HA.out
                   clear hw1)
      go_ret
      exact ⟨ret_bool (by symm; exact decide_eq_true (Or.inl E.out)), K1.out⟩
  · rw [h] at HA ⊢
    rw [if_neg (by omega), if_pos rfl]
    go_enter Tryd.func79, Tryd.ntmps79
    go_wp2_with (refine wpList_box_row rfl 48 _ rfl (rulev r) rfl ?_
                 intro w1 hw1
                 have K1 : Hid (Kp (fun _ => False) w w1) := by rw [hw1]; exact (Kp.refl _ _).alloc _
                 have c0 : w1.cell? ⟨w.heap.size, 0, none⟩ = some (.int .u8 86) := by rw [hw1, cell_of_row _ _ 0 _ _ _ (heap_alloc_new _ _)]; exact HA.out
                 clear hw1)
    go_ret
    exact ⟨rfl, K1.out⟩
  · rw [h] at HA ⊢
    rw [if_neg (by omega), if_neg (by omega), if_pos rfl]
    go_enter Tryd.func79, Tryd.ntmps79
    go_wp2_with (refine wpList_box_row rfl 48 _ rfl (rulev r) rfl ?_
                 intro w1 hw1
                 have K1 : Hid (Kp (fun _ => False) w w1) := by rw [hw1]; exact (Kp.refl _ _).alloc _
                 have c0 : w1.cell? ⟨w.heap.size, 0, none⟩ = some (.int .u8 72) := by rw [hw1, cell_of_row _ _ 0 _ _ _ (heap_alloc_new _ _)]; exact HA.out
                 clear hw1)
    go_ret
    exact ⟨rfl, K1.out⟩
end Go.Proofs.YtbdbkjngdhcjpaaDoor
namespace Go.Proofs.YtbdbkjngdhcjpaaDoor
open Go.RowKit
open Go.Proofs

/-- How many of the first n of nine count. -/
def ones9 (f : Nat → Nat → Bool) (n : Nat) : Nat := ((List.range n).filter fun m => f (m % 3) (m / 3)).length
theorem ones9_succ (f : Nat → Nat → Bool) (n : Nat) : ones9 f (n + 1) = ones9 f n + if f (n % 3) (n / 3) = true then 1 else 0 := by
  unfold ones9
  rw [List.range_succ, List.filter_append, List.length_append]
  by_cases h : f (n % 3) (n / 3) = true <;> simp [h]
theorem ones9_le (f : Nat → Nat → Bool) (n : Nat) : ones9 f n ≤ n := by
  unfold ones9
  refine Nat.le_trans (List.length_filter_le _ _) (by simp)
theorem ones9_8 (f : Nat → Nat → Bool) (h : f 1 1 = false) : ones9 f 9 ≤ 8 := by
  have h4 := ones9_le f 4
  have e6 := ones9_succ f 5
  have e7 := ones9_succ f 6
  have e8 := ones9_succ f 7
  have e9 := ones9_succ f 8
  have e5 : ones9 f 5 = ones9 f 4 + if f 1 1 = true then 1 else 0 := ones9_succ f 4
  rw [h, if_neg (by simp), Nat.add_zero] at e5
  have : ones9 f 6 ≤ ones9 f 5 + 1 := by rw [e6]; split <;> omega
  have : ones9 f 7 ≤ ones9 f 6 + 1 := by rw [e7]; split <;> omega
  have : ones9 f 8 ≤ ones9 f 7 + 1 := by rw [e8]; split <;> omega
  have : ones9 f 9 ≤ ones9 f 8 + 1 := by rw [e9]; split <;> omega
  omega
theorem ones9_at (f : Nat → Nat → Bool) (a b : Nat) (ha : a < 3) : ones9 f (3 * b + a + 1) = ones9 f (3 * b + a) + if f a b = true then 1 else 0 := by
  rw [ones9_succ, Nat.mul_add_mod, Nat.mod_eq_of_lt ha, Nat.mul_add_div (by omega), Nat.div_eq_of_lt ha, Nat.add_zero]
theorem ones9_congr {f g : Nat → Nat → Bool} (n : Nat) (h : ∀ a b, a < 3 → 3 * b + a < n → f a b = g a b) : ones9 f n = ones9 g n := by
  unfold ones9
  congr 1
  apply List.filter_congr
  intro m hm
  have hm' := List.mem_range.1 hm
  exact h _ _ (Nat.mod_lt _ (by omega)) (by omega)
end Go.Proofs.YtbdbkjngdhcjpaaDoor
