import Derived.Test.YtiimimclbkjcbaaGb
import Derived.Deep.LoopGhost
namespace Go.Proofs.Ytiimimclbkjcbaa
open Go.RowKit
open Go.Proofs

theorem slotP_bd (gw gh l t x y : Int) (w0 : 0 ≤ gw) (w1 : gw ≤ 12) (h0 : 0 ≤ gh) (h1 : gh ≤ 12) : -1 ≤ slotP gw gh l t x y ∧ slotP gw gh l t x y < 768 := by
  have sw := spanP_bd w0 w1
  have sh := spanP_bd h0 h1
  have m1 := Int.emod_nonneg y (show spanP gh ≠ 0 by omega)
  have m3 := Int.emod_nonneg x (show spanP gw ≠ 0 by omega)
  have p1 : 0 ≤ y % spanP gh * spanP gw := Int.mul_nonneg m1 (by omega)
  unfold slotP
  split
  · omega
  · split <;> omega

/-- What a grid tells of a cell. -/
def getP (gw gh l t : Int) (S : List Int) (x y : Int) : Int := if slotP gw gh l t x y < 0 then 0 else S.getD (slotP gw gh l t x y).toNat 0

set_option maxHeartbeats 400000 in
theorem gget_any (q : Nat) (pre : Array Value) (gw gh l t : Int) (S : List Int) (x y : Int) (w : World) (h : GrAt w q pre gw gh l t S) (w0 : 0 ≤ gw) (w1 : gw ≤ 12) (h0 : 0 ≤ gh) (h1 : gh ≤ 12)
    (l0 : -50000000 ≤ l) (l1 : l ≤ 50000000) (t0 : -50000000 ≤ t) (t1 : t ≤ 50000000) :
    Calls Try.prog 34 #[.pointer (some ⟨q, 28, none⟩), .int .i64 x, .int .i64 y] w fun e w' => e = .returned (.int .i64 (getP gw gh l t S x y)) ∧ w' = w := by
  have hb := slotP_bd gw gh l t x y w0 w1 h0 h1
  have HS := hide (fun wx hx => slot_any q pre gw gh l t S x y wx hx w0 w1 h0 h1 l0 l1 t0 t1)
  unfold getP
  generalize slotP gw gh l t x y = z at *
  by_cases hz : z < 0
  · rw [if_pos hz]
    go_enter Try.func34, Try.ntmps34
    go_wp2_with fail
    refine (HS.out _ h).mono ?_
    rintro e w1 ⟨rfl, hw⟩
    subst w1
    go_wp2_with fail
    go_ret
    exact ⟨rfl, rfl⟩
  · rw [if_neg hz]
    obtain ⟨k, rfl⟩ := Int.eq_ofNat_of_zero_le (show 0 ≤ z by omega)
    have hk : k < 768 := by omega
    have hc := h.cell k hk
    have hl := h.len
    have HL := hide hl
    clear hl
    go_enter Try.func34, Try.ntmps34
    go_wp2_with fail
    refine (HS.out _ h).mono ?_
    rintro e w1 ⟨rfl, hw⟩
    subst w1
    go_wp2_with fail
    go_ret
    refine ⟨ret_int ?_, rfl⟩
    simp [List.getD, HL.out, hk]
end Go.Proofs.Ytiimimclbkjcbaa
