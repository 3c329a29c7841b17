import Derived.Test.YtflbkgfcnggkpaaGk
namespace Go.Proofs.Ytflbkgfcnggkpaa
open Go.RowKit
open Go.Proofs
theorem few_any (s : ByteArray) (w : World) (hm : s.size ≤ maxLen) : Calls Try.prog 7 #[.string s] w fun e w' => e = .returned (.bool (decide (s.size ≤ 1048576))) ∧ w' = w := by
  unfold maxLen at hm
  go_enter Try.func7, Try.ntmps7
  go_wp2_with fail
  go_ret
  exact ⟨ret_bool (by rw [Bool.eq_iff_iff]; simp; omega), rfl⟩
end Go.Proofs.Ytflbkgfcnggkpaa
