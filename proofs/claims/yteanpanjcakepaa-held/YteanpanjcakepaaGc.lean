import Derived.Test.YteanpanjcakepaaGb
import Derived.Deep.LoopGhost
namespace Go.Proofs.Yteanpanjcakepaa
open Go.RowKit
open Go.Proofs

theorem slotP_bd (gw gh l t x y : Int) (w0 : 0 ≤ gw) (w1 : gw ≤ 12) (h0 : 0 ≤ gh) (h1 : gh ≤ 12) : -1 ≤ slotP gw gh l t x y ∧ slotP gw gh l t x y < 768 := by
  have sw := spanP_bd w0 w1
  have sh := spanP_bd h0 h1
  have m1 := Int.emod_nonneg y (show spanP gh ≠ 0 by omega)
  have m3 := Int.emod_nonneg x (show spanP gw ≠ 0 by omega)
  have p1 : 0 ≤ y % spanP gh * spanP gw := Int.mul_nonneg m1 (by omega)
  unfold slotP
  split
  · omega
  · split <;> omega

/-- What a grid tells of a cell. -/
def getP (gw gh l t : Int) (S : List Int) (x y : Int) : Int := if slotP gw gh l t x y < 0 then 0 else S.getD (slotP gw gh l t x y).toNat 0

set_option maxHeartbeats 400000 in
theorem gget_any (q : Nat) (pre : Array Value) (gw gh l t : Int) (S : List Int) (x y : Int) (w : World) (h : GrAt w q pre gw gh l t S) (w0 : 0 ≤ gw) (w1 : gw ≤ 12) (h0 : 0 ≤ gh) (h1 : gh ≤ 12)
    (l0 : -50000000 ≤ l) (l1 : l ≤ 50000000) (t0 : -50000000 ≤ t) (t1 : t ≤ 50000000) :
    Calls Try.prog 24 #[.pointer (some ⟨q, 28, none⟩), .int .i64 x, .int .i64 y] w fun e w' => e = .returned (.int .i64 (getP gw gh l t S x y)) ∧ w' = w := by
  have hb := slotP_bd gw gh l t x y w0 w1 h0 h1
  have HS := hide (fun wx hx => slot_any q pre gw gh l t S x y wx hx w0 w1 h0 h1 l0 l1 t0 t1)
  unfold getP
  generalize slotP gw gh l t x y = z at *
  by_cases hz : z < 0
  · rw [if_pos hz]
    go_enter Try.func24, Try.ntmps24
    go_wp2_with fail
    refine (HS.out _ h).mono ?_
    rintro e w1 ⟨rfl, hw⟩
    subst w1
    go_wp2_with fail
    go_ret
    exact ⟨rfl, rfl⟩
  · rw [if_neg hz]
    obtain ⟨k, rfl⟩ := Int.eq_ofNat_of_zero_le (show 0 ≤ z by omega)
    have hk : k < 768 := by omega
    have hc := h.cell k hk
    have hl := h.len
    have HL := hide hl
    clear hl
    go_enter Try.func24, Try.ntmps24
    go_wp2_with fail
    refine (HS.out _ h).mono ?_
    rintro e w1 ⟨rfl, hw⟩
    subst w1
    go_wp2_with fail
    go_ret
    refine ⟨ret_int ?_, rfl⟩
    simp [List.getD, HL.out, hk]

/-- How many are not 0. -/
def countP (S : List Int) : Nat := (S.filter (fun v => v != 0)).length
theorem countP_snoc (S : List Int) (k : Nat) (h : k < S.length) : countP (S.take (k + 1)) = countP (S.take k) + if S[k] = 0 then 0 else 1 := by
  unfold countP
  rw [List.take_succ_eq_append_getElem h, List.filter_append, List.length_append]
  by_cases e : S[k] = 0 <;> simp [e]
theorem countP_le (S : List Int) : countP S ≤ S.length := List.length_filter_le _ _

set_option maxHeartbeats 400000 in
set_option maxRecDepth 100000 in
theorem gcount_any (q : Nat) (pre : Array Value) (gw gh l t : Int) (S : List Int) (w : World) (h : GrAt w q pre gw gh l t S) :
    Calls Try.prog 25 #[.pointer (some ⟨q, 28, none⟩)] w fun e w' => e = .returned (.int .i64 (countP S)) ∧ w' = w := by
  have HL := hide h.len
  have H := hide h
  clear h
  go_enter Try.func25, Try.ntmps25
  go_wp2
  go_loop [3, 4] (fun n i => ∃ k : Nat, k ≤ 768 ∧ i = .int .i64 k ∧ n = .int .i64 (countP (S.take k))) (fun _ i => 768 - (intOf i).toNat)
  case atStart => exact ⟨0, by omega, rfl, rfl⟩
  case round =>
    obtain ⟨k, hk, rfl, rfl⟩ := hrel
    have hcl := countP_le (S.take k)
    have hcl2 : (S.take k).length ≤ k := List.length_take_le _ _
    by_cases hlt : k < 768
    · have hc := H.out.cell k hlt
      have HS := hide (countP_snoc S k (by rw [HL.out]; exact hlt))
      by_cases e : S[k]'(by rw [HL.out]; exact hlt) = 0
      · rw [e] at hc
        go_wp2
        go_round
        case rel => exact ⟨k + 1, by omega, by go_num, by rw [HS.out, if_pos e]; rfl⟩
        case measure => simp [intOf]; omega
      · have be : (S[k]'(by rw [HL.out]; exact hlt) != 0) = true := by simpa using e
        have E := hide e
        clear e
        go_wp2
        go_round
        case rel => exact ⟨k + 1, by omega, by go_num, by rw [HS.out, if_neg E.out]; go_num⟩
        case measure => simp [intOf]; omega
    · go_wp2
      go_ret
      exact ⟨ret_int (by rw [List.take_of_length_le (by rw [HL.out]; omega)]), rfl⟩
end Go.Proofs.Yteanpanjcakepaa
