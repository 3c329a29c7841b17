import Derived.Test.YtiimimclbkjcbaaGc
import Derived.Deep.LoopGhost
namespace Go.Proofs.Ytiimimclbkjcbaa
open Go.RowKit
open Go.Proofs

/-- How many are not 0. -/
def countP (S : List Int) : Nat := (S.filter (fun v => v != 0)).length
theorem countP_snoc (S : List Int) (k : Nat) (h : k < S.length) : countP (S.take (k + 1)) = countP (S.take k) + if S[k] = 0 then 0 else 1 := by
  unfold countP
  rw [List.take_succ_eq_append_getElem h, List.filter_append, List.length_append]
  by_cases e : S[k] = 0 <;> simp [e]
theorem countP_le (S : List Int) : countP S ≤ S.length := List.length_filter_le _ _

set_option maxHeartbeats 400000 in
set_option maxRecDepth 100000 in
theorem gcount_any (q : Nat) (pre : Array Value) (gw gh l t : Int) (S : List Int) (w : World) (h : GrAt w q pre gw gh l t S) :
    Calls Try.prog 35 #[.pointer (some ⟨q, 28, none⟩)] w fun e w' => e = .returned (.int .i64 (countP S)) ∧ w' = w := by
  have HL := hide h.len
  have H := hide h
  clear h
  go_enter Try.func35, Try.ntmps35
  go_wp2
  go_loop [3, 4] (fun n i => ∃ k : Nat, k ≤ 768 ∧ i = .int .i64 k ∧ n = .int .i64 (countP (S.take k))) (fun _ i => 768 - (intOf i).toNat)
  case atStart => exact ⟨0, by omega, rfl, rfl⟩
  case round =>
    obtain ⟨k, hk, rfl, rfl⟩ := hrel
    have hcl := countP_le (S.take k)
    have hcl2 : (S.take k).length ≤ k := List.length_take_le _ _
    by_cases hlt : k < 768
    · have hc := H.out.cell k hlt
      have HS := hide (countP_snoc S k (by rw [HL.out]; exact hlt))
      by_cases e : S[k]'(by rw [HL.out]; exact hlt) = 0
      · rw [e] at hc
        go_wp2
        go_round
        case rel => exact ⟨k + 1, by omega, by go_num, by rw [HS.out, if_pos e]; rfl⟩
        case measure => simp [intOf]; omega
      · have be : (S[k]'(by rw [HL.out]; exact hlt) != 0) = true := by simpa using e
        have E := hide e
        clear e
        go_wp2
        go_round
        case rel => exact ⟨k + 1, by omega, by go_num, by rw [HS.out, if_neg E.out]; go_num⟩
        case measure => simp [intOf]; omega
    · go_wp2
      go_ret
      exact ⟨ret_int (by rw [List.take_of_length_le (by rw [HL.out]; omega)]), rfl⟩
end Go.Proofs.Ytiimimclbkjcbaa
