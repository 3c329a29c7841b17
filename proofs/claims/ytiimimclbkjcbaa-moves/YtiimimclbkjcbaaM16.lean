import Derived.Test.YtiimimclbkjcbaaJf
import Derived.Test.YtiimimclbkjcbaaJh
import Derived.Test.YtiimimclbkjcbaaM14
import Derived.Test.YtiimimclbkjcbaaKa
namespace Go.Proofs.Ytiimimclbkjcbaa
open Go.RowKit
open Go.Proofs

/-- The wish's cells with a dead edge around them. -/
def edgeF (v : Wish) (c : Int) (W H : Nat) (x y : Nat) : Int := if 1 ≤ x ∧ x ≤ W ∧ 1 ≤ y ∧ y ≤ H then stP v c ((y - 1) * W + (x - 1)) else 0
theorem edgeF_bd (v : Wish) (c : Int) (W H x y : Nat) (hc : 2 ≤ c) : 0 ≤ edgeF v c W H x y ∧ edgeF v c W H x y < c := by
  unfold edgeF
  split
  · exact stP_bd v c _ hc
  · omega
theorem fillS_G (v : Wish) (c : Int) (k : Nat) : fillS v c k = fillG (stP v c) k := rfl
theorem flat_lt {W H i j : Nat} (hi : i < W) (hj : j < H) : j * W + i < H * W := by
  have h1 : (j + 1) * W ≤ H * W := Nat.mul_le_mul_right W hj
  rw [Nat.add_mul] at h1
  omega
theorem plane_edge (v : Wish) (p : Pu.Plan) (hp : Pu.PlanOk p) (W H i j a b : Nat) (hW : p.w = W) (hH : p.h = H) :
    planeG (Pu.shapeOf p) (fillS v p.c (H * W)) ((i : Int) + ((a : Int) - 1)) ((j : Int) + ((b : Int) - 1)) = edgeF v p.c W H (i + a) (j + b) := by
  have hw := hp.w
  have hh := hp.h
  have HW : H * W ≤ 144 := Nat.mul_le_mul (show H ≤ 12 by omega) (show W ≤ 12 by omega)
  unfold planeG edgeF
  by_cases hin : 1 ≤ i + a ∧ i + a ≤ W ∧ 1 ≤ j + b ∧ j + b ≤ H
  · rw [if_pos hin]
    have e1 : (i : Int) + ((a : Int) - 1) = ((i + a - 1 : Nat) : Int) := by omega
    have e2 : (j : Int) + ((b : Int) - 1) = ((j + b - 1 : Nat) : Int) := by omega
    rw [e1, e2]
    have hA : 0 ≤ ((i + a - 1 : Nat) : Int) ∧ ((i + a - 1 : Nat) : Int) < (Pu.shapeOf p).w := by show _ ∧ _ < p.w; omega
    have hB : 0 ≤ ((j + b - 1 : Nat) : Int) ∧ ((j + b - 1 : Nat) : Int) < (Pu.shapeOf p).h := by show _ ∧ _ < p.h; omega
    rw [if_pos (has_two (two_plan hp) hA hB).1]
    have sl := slot_two (two_plan hp) hA hB
    unfold getP
    rw [sl.1, if_neg (by omega)]
    have e3 : (((j + b - 1 : Nat) : Int) * (Pu.shapeOf p).w + ((i + a - 1 : Nat) : Int)).toNat = (j + b - 1) * W + (i + a - 1) := by
      show (((j + b - 1 : Nat) : Int) * p.w + ((i + a - 1 : Nat) : Int)).toNat = _
      rw [hW, ← Int.natCast_mul, ← Int.natCast_add]
      rfl
    rw [e3, fillS_G, fillG_at]
    have hl := flat_lt (W := W) (H := H) (i := i + a - 1) (j := j + b - 1) (by omega) (by omega)
    rw [if_pos (by omega)]
  · rw [if_neg hin]
    have hno : hasB (Pu.shapeOf p) ((i : Int) + ((a : Int) - 1)) ((j : Int) + ((b : Int) - 1)) = false := by
      unfold hasB onSideB Pu.shapeOf
      simp
      omega
    rw [hno, if_neg (by simp)]
theorem ages_eq (v : Wish) (p : Pu.Plan) (hp : Pu.PlanOk p) (W H i j : Nat) (hW : p.w = W) (hH : p.h = H) (hi : i < W) (hj : j < H) :
    (stepN (Pu.ruleOf p) (planeG (Pu.shapeOf p)) W H 1 (fillS v p.c (H * W))).getD (j * W + i) 0 = onF p (edgeF v p.c W H) i j := by
  have hw := hp.w
  have hh := hp.h
  have hc := hp.c
  have HW : H * W ≤ 144 := Nat.mul_le_mul (show H ≤ 12 by omega) (show W ≤ 12 by omega)
  have hl := flat_lt (W := W) (H := H) hi hj
  show (nextS _ _ W H (fillS v p.c (H * W))).getD (j * W + i) 0 = _
  unfold nextS
  rw [fillG_at, if_pos (by omega), nxv_at _ _ _ W i j hi]
  have e1 : (fillS v p.c (H * W)).getD (j * W + i) 0 = stP v p.c (j * W + i) := by rw [fillS_G, fillG_at, if_pos (by omega)]
  have e2 : edgeF v p.c W H (i + 1) (j + 1) = stP v p.c (j * W + i) := by
    unfold edgeF
    rw [if_pos (by omega)]
    rfl
  have e3 : ones9 (onesW (Pu.ruleOf p).around fun a b => planeG (Pu.shapeOf p) (fillS v p.c (H * W)) ((i : Int) + ((a : Int) - 1)) ((j : Int) + ((b : Int) - 1))) 9 = ones9 (onesF p (edgeF v p.c W H) i j) 9 := by
    apply ones9_congr
    intro a b ha hab
    unfold onesW onesF
    show (nearR p.near ((a : Int) - 1) ((b : Int) - 1) && (planeG (Pu.shapeOf p) (fillS v p.c (H * W)) ((i : Int) + ((a : Int) - 1)) ((j : Int) + ((b : Int) - 1)) == 1)) = _
    rw [plane_edge v p hp W H i j a b hW hH]
    rw [near_counts hp.near (by omega) (by omega)]
  rw [e3, e1]
  unfold onF
  rw [e2]
  refine next_next ?_ ?_
  · exact stP_bd v p.c _ hc.1
  · have := ones9_8 (onesF p (edgeF v p.c W H) i j) (by unfold onesF countsP; simp)
    omega
theorem fillS_ok (v : Wish) (p : Pu.Plan) (hp : Pu.PlanOk p) (k : Nat) : StOk (Pu.ruleOf p) (fillS v p.c k) := by
  have hc := hp.c
  refine ⟨by rw [fillS_G]; exact fillG_len _ _, fun m => ?_⟩
  rw [fillS_G, fillG_at]
  show 0 ≤ _ ∧ _ < p.c
  split
  · exact stP_bd v p.c _ hc.1
  · omega
theorem plan_shape {p : Pu.Plan} (hp : Pu.PlanOk p) : Pu.ShapeOk (Pu.shapeOf p) := by
  have hw := hp.w
  have hh := hp.h
  have ht := hp.torus
  refine ⟨hp.kind, ?_, hw.2, ?_, hh.2, ?_, ?_, ?_, ?_⟩
  · show 0 ≤ p.w; omega
  · show 0 ≤ p.h; omega
  · left; show p.w ≠ 0; omega
  · show 0 ≤ p.sw ∧ (p.sw = 0 ∨ p.sw < p.w); omega
  · show 0 ≤ p.sh ∧ (p.sh = 0 ∨ p.sh < p.h); omega
  · intro h
    have h2 : p.w = 0 ∨ p.h = 0 := h
    omega
end Go.Proofs.Ytiimimclbkjcbaa
namespace Go.Proofs.Ytiimimclbkjcbaa
open Go.RowKit
open Go.Proofs

/-- A count over the nine does not hang on the order. -/
theorem ones9_sum (f : Nat → Nat → Bool) : ones9 f 9 = (if f 0 0 = true then 1 else 0) + (if f 1 0 = true then 1 else 0) + (if f 2 0 = true then 1 else 0) + (if f 0 1 = true then 1 else 0) + (if f 1 1 = true then 1 else 0) + (if f 2 1 = true then 1 else 0) + (if f 0 2 = true then 1 else 0) + (if f 1 2 = true then 1 else 0) + (if f 2 2 = true then 1 else 0) := by
  have h0 : ones9 f 0 = 0 := rfl
  have h1 := ones9_at f 0 0 (by omega)
  have h2 := ones9_at f 1 0 (by omega)
  have h3 := ones9_at f 2 0 (by omega)
  have h4 := ones9_at f 0 1 (by omega)
  have h5 := ones9_at f 1 1 (by omega)
  have h6 := ones9_at f 2 1 (by omega)
  have h7 := ones9_at f 0 2 (by omega)
  have h8 := ones9_at f 1 2 (by omega)
  have h9 := ones9_at f 2 2 (by omega)
  simp only [Nat.mul_zero, Nat.zero_add, Nat.reduceMul, Nat.reduceAdd, Nat.add_zero] at h1 h2 h3 h4 h5 h6 h7 h8 h9
  rw [h9, h8, h7, h6, h5, h4, h3, h2, h1, h0, Nat.zero_add]
theorem ones9_mirror (f g : Nat → Nat → Bool) (h : ∀ a b, a < 3 → b < 3 → f a b = g (2 - a) b) : ones9 f 9 = ones9 g 9 := by
  rw [ones9_sum, ones9_sum, h 0 0 (by omega) (by omega), h 1 0 (by omega) (by omega), h 2 0 (by omega) (by omega), h 0 1 (by omega) (by omega), h 1 1 (by omega) (by omega), h 2 1 (by omega) (by omega), h 0 2 (by omega) (by omega), h 1 2 (by omega) (by omega), h 2 2 (by omega) (by omega)]
  show _ = _
  simp only [Nat.sub_zero, Nat.reduceSub]
  omega
theorem ones9_turn (f g : Nat → Nat → Bool) (h : ∀ a b, a < 3 → b < 3 → f a b = g b a) : ones9 f 9 = ones9 g 9 := by
  rw [ones9_sum, ones9_sum, h 0 0 (by omega) (by omega), h 1 0 (by omega) (by omega), h 2 0 (by omega) (by omega), h 0 1 (by omega) (by omega), h 1 1 (by omega) (by omega), h 2 1 (by omega) (by omega), h 0 2 (by omega) (by omega), h 1 2 (by omega) (by omega), h 2 2 (by omega) (by omega)]
  omega
theorem ones9_flip (f g : Nat → Nat → Bool) (h : ∀ a b, a < 3 → b < 3 → f a b = g a (2 - b)) : ones9 f 9 = ones9 g 9 := by
  rw [ones9_sum, ones9_sum, h 0 0 (by omega) (by omega), h 1 0 (by omega) (by omega), h 2 0 (by omega) (by omega), h 0 1 (by omega) (by omega), h 1 1 (by omega) (by omega), h 2 1 (by omega) (by omega), h 0 2 (by omega) (by omega), h 1 2 (by omega) (by omega), h 2 2 (by omega) (by omega)]
  show _ = _
  simp only [Nat.sub_zero, Nat.reduceSub]
  omega
/-- M and V are the same in the mirror; all three are the same turned. -/
theorem nearR_mirror {a : Int} (ha : a = 77 ∨ a = 86) (x y : Nat) (hx : x < 3) (hy : y < 3) : nearR a ((x : Int) - 1) ((y : Int) - 1) = nearR a (((2 - x : Nat) : Int) - 1) ((y : Int) - 1) := by
  have h1 : x = 0 ∨ x = 1 ∨ x = 2 := by omega
  have h2 : y = 0 ∨ y = 1 ∨ y = 2 := by omega
  rcases ha with rfl | rfl <;> rcases h1 with rfl | rfl | rfl <;> rcases h2 with rfl | rfl | rfl <;> decide
theorem nearR_turn {a : Int} (ha : a = 77 ∨ a = 86 ∨ a = 72) (x y : Nat) (hx : x < 3) (hy : y < 3) : nearR a ((x : Int) - 1) ((y : Int) - 1) = nearR a ((y : Int) - 1) ((x : Int) - 1) := by
  have h1 : x = 0 ∨ x = 1 ∨ x = 2 := by omega
  have h2 : y = 0 ∨ y = 1 ∨ y = 2 := by omega
  rcases ha with rfl | rfl | rfl <;> rcases h1 with rfl | rfl | rfl <;> rcases h2 with rfl | rfl | rfl <;> decide

theorem nextS_at (r : Pu.Rule) (G : List Int → Int → Int → Int) (W H : Nat) (S : List Int) (i j : Nat) (hi : i < W) (hj : j < H) (hWH : H * W ≤ 144) :
    (nextS r G W H S).getD (j * W + i) 0 = nextR r (S.getD (j * W + i) 0) (ones9 (onesW r.around fun a b => G S ((i : Int) + ((a : Int) - 1)) ((j : Int) + ((b : Int) - 1))) 9) := by
  have hl := flat_lt (W := W) (H := H) hi hj
  unfold nextS
  rw [fillG_at, if_pos (by omega), nxv_at _ _ _ W i j hi]
/-- In the mirror: where Get is Get in the mirror, the next generation is the next one in the mirror. -/
theorem mirror_next (r : Pu.Rule) (ha : r.around = 77 ∨ r.around = 86) (G : List Int → Int → Int → Int) (W H : Nat) (hWH : H * W ≤ 144)
    (hG : ∀ Su Sw : List Int, RelU false W Su Sw (H * W) → ∀ X Y : Int, -1 ≤ X → X ≤ W → -1 ≤ Y → Y ≤ H → G Sw X Y = G Su ((W : Int) - 1 - X) Y) (Su Sw : List Int) (h : RelU false W Su Sw (H * W)) : RelU false W (nextS r G W H Su) (nextS r G W H Sw) (H * W) := by
  intro i j hi hij
  have hj := row_lt hi hij
  show (nextS r G W H Sw).getD (j * W + (W - 1 - i)) 0 = _
  rw [nextS_at r G W H Sw (W - 1 - i) j (by omega) hj hWH, nextS_at r G W H Su i j hi hj hWH]
  have e0 : Sw.getD (j * W + (W - 1 - i)) 0 = Su.getD (j * W + i) 0 := h i j hi hij
  rw [e0]
  congr 1
  apply ones9_mirror
  intro a b ha3 hb3
  unfold onesW
  rw [nearR_mirror ha a b ha3 hb3]
  congr 2
  show G Sw _ _ = G Su _ _
  rw [hG Su Sw h _ _ (by omega) (by omega) (by omega) (by omega)]
  congr 1
  omega
/-- Turned: where Get is Get turned, so is the next generation. -/
theorem turn_next (r : Pu.Rule) (ha : r.around = 77 ∨ r.around = 86 ∨ r.around = 72) (G : List Int → Int → Int → Int) (W : Nat) (hWH : W * W ≤ 144)
    (hG : ∀ Su Sw : List Int, RelU true W Su Sw (W * W) → ∀ X Y : Int, -1 ≤ X → X ≤ W → -1 ≤ Y → Y ≤ W → G Sw X Y = G Su Y X) (Su Sw : List Int) (h : RelU true W Su Sw (W * W)) : RelU true W (nextS r G W W Su) (nextS r G W W Sw) (W * W) := by
  intro i j hi hij
  have hj := row_lt hi hij
  show (nextS r G W W Sw).getD (i * W + j) 0 = _
  rw [nextS_at r G W W Sw j i hj hi hWH, nextS_at r G W W Su i j hi hj hWH]
  have e0 : Sw.getD (i * W + j) 0 = Su.getD (j * W + i) 0 := h i j hi hij
  rw [e0]
  congr 1
  apply ones9_turn
  intro a b ha3 hb3
  unfold onesW
  rw [nearR_turn ha a b ha3 hb3]
  congr 2
  show G Sw _ _ = G Su _ _
  rw [hG Su Sw h _ _ (by omega) (by omega) (by omega) (by omega)]
end Go.Proofs.Ytiimimclbkjcbaa
