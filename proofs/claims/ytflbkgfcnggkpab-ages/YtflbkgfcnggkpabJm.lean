import Derived.Test.YtflbkgfcnggkpabJf
import Derived.Test.YtflbkgfcnggkpabJh
import Derived.Test.YtflbkgfcnggkpabIh
namespace Go.Proofs.Ytflbkgfcnggkpab
open Go.RowKit
open Go.Proofs

/-- The wish's cells with a dead edge around them. -/
def edgeF (v : Wish) (c : Int) (W H : Nat) (x y : Nat) : Int := if 1 ≤ x ∧ x ≤ W ∧ 1 ≤ y ∧ y ≤ H then stP v c ((y - 1) * W + (x - 1)) else 0
theorem edgeF_bd (v : Wish) (c : Int) (W H x y : Nat) (hc : 2 ≤ c) : 0 ≤ edgeF v c W H x y ∧ edgeF v c W H x y < c := by
  unfold edgeF
  split
  · exact stP_bd v c _ hc
  · omega
theorem fillS_G (v : Wish) (c : Int) (k : Nat) : fillS v c k = fillG (stP v c) k := rfl
theorem flat_lt {W H i j : Nat} (hi : i < W) (hj : j < H) : j * W + i < H * W := by
  have h1 : (j + 1) * W ≤ H * W := Nat.mul_le_mul_right W hj
  rw [Nat.add_mul] at h1
  omega
theorem plane_edge (v : Wish) (p : Pu.Plan) (hp : Pu.PlanOk p) (W H i j a b : Nat) (hW : p.w = W) (hH : p.h = H) :
    planeG (Pu.shapeOf p) (fillS v p.c (H * W)) ((i : Int) + ((a : Int) - 1)) ((j : Int) + ((b : Int) - 1)) = edgeF v p.c W H (i + a) (j + b) := by
  have hw := hp.w
  have hh := hp.h
  have HW : H * W ≤ 144 := Nat.mul_le_mul (show H ≤ 12 by omega) (show W ≤ 12 by omega)
  unfold planeG edgeF
  by_cases hin : 1 ≤ i + a ∧ i + a ≤ W ∧ 1 ≤ j + b ∧ j + b ≤ H
  · rw [if_pos hin]
    have e1 : (i : Int) + ((a : Int) - 1) = ((i + a - 1 : Nat) : Int) := by omega
    have e2 : (j : Int) + ((b : Int) - 1) = ((j + b - 1 : Nat) : Int) := by omega
    rw [e1, e2]
    have hA : 0 ≤ ((i + a - 1 : Nat) : Int) ∧ ((i + a - 1 : Nat) : Int) < (Pu.shapeOf p).w := by show _ ∧ _ < p.w; omega
    have hB : 0 ≤ ((j + b - 1 : Nat) : Int) ∧ ((j + b - 1 : Nat) : Int) < (Pu.shapeOf p).h := by show _ ∧ _ < p.h; omega
    rw [if_pos (has_two (two_plan hp) hA hB).1]
    have sl := slot_two (two_plan hp) hA hB
    unfold getP
    rw [sl.1, if_neg (by omega)]
    have e3 : (((j + b - 1 : Nat) : Int) * (Pu.shapeOf p).w + ((i + a - 1 : Nat) : Int)).toNat = (j + b - 1) * W + (i + a - 1) := by
      show (((j + b - 1 : Nat) : Int) * p.w + ((i + a - 1 : Nat) : Int)).toNat = _
      rw [hW, ← Int.natCast_mul, ← Int.natCast_add]
      rfl
    rw [e3, fillS_G, fillG_at]
    have hl := flat_lt (W := W) (H := H) (i := i + a - 1) (j := j + b - 1) (by omega) (by omega)
    rw [if_pos (by omega)]
  · rw [if_neg hin]
    have hno : hasB (Pu.shapeOf p) ((i : Int) + ((a : Int) - 1)) ((j : Int) + ((b : Int) - 1)) = false := by
      unfold hasB onSideB Pu.shapeOf
      simp
      omega
    rw [hno, if_neg (by simp)]
theorem ages_eq (v : Wish) (p : Pu.Plan) (hp : Pu.PlanOk p) (W H i j : Nat) (hW : p.w = W) (hH : p.h = H) (hi : i < W) (hj : j < H) :
    (stepN (Pu.ruleOf p) (planeG (Pu.shapeOf p)) W H 1 (fillS v p.c (H * W))).getD (j * W + i) 0 = onF p (edgeF v p.c W H) i j := by
  have hw := hp.w
  have hh := hp.h
  have hc := hp.c
  have HW : H * W ≤ 144 := Nat.mul_le_mul (show H ≤ 12 by omega) (show W ≤ 12 by omega)
  have hl := flat_lt (W := W) (H := H) hi hj
  show (nextS _ _ W H (fillS v p.c (H * W))).getD (j * W + i) 0 = _
  unfold nextS
  rw [fillG_at, if_pos (by omega), nxv_at _ _ _ W i j hi]
  have e1 : (fillS v p.c (H * W)).getD (j * W + i) 0 = stP v p.c (j * W + i) := by rw [fillS_G, fillG_at, if_pos (by omega)]
  have e2 : edgeF v p.c W H (i + 1) (j + 1) = stP v p.c (j * W + i) := by
    unfold edgeF
    rw [if_pos (by omega)]
    rfl
  have e3 : ones9 (onesW (Pu.ruleOf p).around fun a b => planeG (Pu.shapeOf p) (fillS v p.c (H * W)) ((i : Int) + ((a : Int) - 1)) ((j : Int) + ((b : Int) - 1))) 9 = ones9 (onesF p (edgeF v p.c W H) i j) 9 := by
    apply ones9_congr
    intro a b ha hab
    unfold onesW onesF
    show (nearR p.near ((a : Int) - 1) ((b : Int) - 1) && (planeG (Pu.shapeOf p) (fillS v p.c (H * W)) ((i : Int) + ((a : Int) - 1)) ((j : Int) + ((b : Int) - 1)) == 1)) = _
    rw [plane_edge v p hp W H i j a b hW hH]
    rw [near_counts hp.near (by omega) (by omega)]
  rw [e3, e1]
  unfold onF
  rw [e2]
  refine next_next ?_ ?_
  · exact stP_bd v p.c _ hc.1
  · have := ones9_8 (onesF p (edgeF v p.c W H) i j) (by unfold onesF countsP; simp)
    omega
theorem fillS_ok (v : Wish) (p : Pu.Plan) (hp : Pu.PlanOk p) (k : Nat) : StOk (Pu.ruleOf p) (fillS v p.c k) := by
  have hc := hp.c
  refine ⟨by rw [fillS_G]; exact fillG_len _ _, fun m => ?_⟩
  rw [fillS_G, fillG_at]
  show 0 ≤ _ ∧ _ < p.c
  split
  · exact stP_bd v p.c _ hc.1
  · omega
theorem plan_shape {p : Pu.Plan} (hp : Pu.PlanOk p) : Pu.ShapeOk (Pu.shapeOf p) := by
  have hw := hp.w
  have hh := hp.h
  have ht := hp.torus
  refine ⟨hp.kind, ?_, hw.2, ?_, hh.2, ?_, ?_, ?_, ?_⟩
  · show 0 ≤ p.w; omega
  · show 0 ≤ p.h; omega
  · left; show p.w ≠ 0; omega
  · show 0 ≤ p.sw ∧ (p.sw = 0 ∨ p.sw < p.w); omega
  · show 0 ≤ p.sh ∧ (p.sh = 0 ∨ p.sh < p.h); omega
  · intro h
    have h2 : p.w = 0 ∨ p.h = 0 := h
    omega
end Go.Proofs.Ytflbkgfcnggkpab
