import Derived.Test.YtflbkgfcnggkpabWn
namespace Go.Proofs.Ytflbkgfcnggkpab
open Go.RowKit
open Go.Proofs

/-- How many of the first n of nine count. -/
def ones9 (f : Nat → Nat → Bool) (n : Nat) : Nat := ((List.range n).filter fun m => f (m % 3) (m / 3)).length
theorem ones9_succ (f : Nat → Nat → Bool) (n : Nat) : ones9 f (n + 1) = ones9 f n + if f (n % 3) (n / 3) = true then 1 else 0 := by
  unfold ones9
  rw [List.range_succ, List.filter_append, List.length_append]
  by_cases h : f (n % 3) (n / 3) = true <;> simp [h]
theorem ones9_le (f : Nat → Nat → Bool) (n : Nat) : ones9 f n ≤ n := by
  unfold ones9
  refine Nat.le_trans (List.length_filter_le _ _) (by simp)
theorem ones9_8 (f : Nat → Nat → Bool) (h : f 1 1 = false) : ones9 f 9 ≤ 8 := by
  have h4 := ones9_le f 4
  have e6 := ones9_succ f 5
  have e7 := ones9_succ f 6
  have e8 := ones9_succ f 7
  have e9 := ones9_succ f 8
  have e5 : ones9 f 5 = ones9 f 4 + if f 1 1 = true then 1 else 0 := ones9_succ f 4
  rw [h, if_neg (by simp), Nat.add_zero] at e5
  have : ones9 f 6 ≤ ones9 f 5 + 1 := by rw [e6]; split <;> omega
  have : ones9 f 7 ≤ ones9 f 6 + 1 := by rw [e7]; split <;> omega
  have : ones9 f 8 ≤ ones9 f 7 + 1 := by rw [e8]; split <;> omega
  have : ones9 f 9 ≤ ones9 f 8 + 1 := by rw [e9]; split <;> omega
  omega
theorem ones9_at (f : Nat → Nat → Bool) (a b : Nat) (ha : a < 3) : ones9 f (3 * b + a + 1) = ones9 f (3 * b + a) + if f a b = true then 1 else 0 := by
  rw [ones9_succ, Nat.mul_add_mod, Nat.mod_eq_of_lt ha, Nat.mul_add_div (by omega), Nat.div_eq_of_lt ha, Nat.add_zero]
theorem ones9_congr {f g : Nat → Nat → Bool} (n : Nat) (h : ∀ a b, a < 3 → 3 * b + a < n → f a b = g a b) : ones9 f n = ones9 g n := by
  unfold ones9
  congr 1
  apply List.filter_congr
  intro m hm
  have hm' := List.mem_range.1 hm
  exact h _ _ (Nat.mod_lt _ (by omega)) (by omega)
end Go.Proofs.Ytflbkgfcnggkpab
