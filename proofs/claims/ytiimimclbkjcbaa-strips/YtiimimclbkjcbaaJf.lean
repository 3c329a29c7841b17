import Derived.Test.YtiimimclbkjcbaaM11
import Derived.Test.YtiimimclbkjcbaaNg
import Derived.Test.YtiimimclbkjcbaaM8
namespace Go.Proofs.Ytiimimclbkjcbaa
open Go.RowKit
open Go.Proofs

/-- The cells of the next generation. -/
def nextS (r : Pu.Rule) (G : List Int → Int → Int → Int) (W H : Nat) (S : List Int) : List Int := fillG (nxv r (G S) S W) (H * W)
def stepN (r : Pu.Rule) (G : List Int → Int → Int → Int) (W H : Nat) : Nat → List Int → List Int
  | 0, S => S
  | n + 1, S => nextS r G W H (stepN r G W H n S)
def StOk (r : Pu.Rule) (S : List Int) : Prop := S.length = 768 ∧ ∀ k, 0 ≤ S.getD k 0 ∧ S.getD k 0 < r.states
theorem fillG_at (val : Nat → Int) (n k : Nat) : (fillG val n).getD k 0 = if k < 768 ∧ k < n then val k else 0 := by
  unfold fillG
  unfold List.getD
  rw [List.getElem?_map]
  by_cases h : k < 768
  · rw [List.getElem?_range h]
    by_cases h2 : k < n
    · rw [if_pos ⟨h, h2⟩]
      show (if k < n then val k else 0) = _
      rw [if_pos h2]
    · rw [if_neg (by omega)]
      show (if k < n then val k else 0) = _
      rw [if_neg h2]
  · rw [if_neg (by omega), List.getElem?_eq_none (by rw [List.length_range]; omega)]
    rfl
theorem nextS_ok (r : Pu.Rule) (h2 : 2 ≤ r.states) (G : List Int → Int → Int → Int) (W H : Nat) (S : List Int) (h : StOk r S) : StOk r (nextS r G W H S) := by
  refine ⟨fillG_len _ _, fun k => ?_⟩
  unfold nextS
  rw [fillG_at]
  split
  · unfold nxv
    exact nextR_bd r h2 _ _ (h.2 k).1
  · omega
theorem stepN_ok (r : Pu.Rule) (h2 : 2 ≤ r.states) (G : List Int → Int → Int → Int) (W H : Nat) (S : List Int) (h : StOk r S) : ∀ n, StOk r (stepN r G W H n S) := by
  intro n
  induction n with
  | zero => exact h
  | succ n ih => exact nextS_ok r h2 G W H _ ih

/-- What Get tells in a plane. -/
def planeG (x : Pu.Shape) (S : List Int) (X Y : Int) : Int := if hasB x X Y = true then getP x.w x.h 0 0 S X Y else 0

/-- Step, whatever the shape. -/
theorem wstep_exact (q : Nat) (r : Pu.Rule) (x : Pu.Shape) (age : Int) (g : Gs) (n : Nat) (w : World) (h : GsAt w q (preOf r x age) x.w x.h g) (hr : RuleOk r) (hx : Pu.ShapeOk x) (hfo : foldsB x → FoldOk x)
    (ha : r.around = 77 ∨ r.around = 86 ∨ r.around = 72) (h2 : 2 ≤ r.states) (h9 : r.states ≤ 9) (ho : GsOk r.states x.w x.h g) (hn : n ≤ 100) (hage : 0 ≤ age) (hage2 : age + n ≤ 999999) :
    Calls Try.prog 23 #[.pointer (some ⟨q, 0, none⟩), .int .i64 n] w fun e w' => e = .returned (.int .i64 (if (stepG r x g n).1 = true then 0 else 4)) ∧ GsAt w' q (preOf r x (if (stepG r x g n).1 = true then age + n else age)) x.w x.h (if (stepG r x g n).1 = true then (stepG r x g n).2 else g) ∧ Kp (· = q) w w' :=
  wstep_core' noS noS_len zero_grid new_any rfl q r x age g n w h hr hx hfo ha h2 h9 ho hn hage hage2
theorem getG_two {x : Pu.Shape} (hx : Two x) {W H : Nat} (hW : x.w = W) (hH : x.h = H) (S : List Int) {i j : Nat} (hi : i < W) (hj : j < H) : getG x.w x.h ⟨0, 0, S⟩ i j = S.getD (j * W + i) 0 := by
  have sl := slot_two hx (a := i) (b := j) (by rw [hW]; omega) (by rw [hH]; omega)
  have e : (j : Int) * x.w + i = ((j * W + i : Nat) : Int) := by rw [hW]; simp
  unfold getG getP
  simp only
  rw [sl.1, if_neg (by omega), e]
  rfl
theorem fillG_skip (val : Nat → Int) (k : Nat) (h : val k = 0) : fillG val (k + 1) = fillG val k := by
  unfold fillG
  apply List.map_congr_left
  intro m _
  by_cases e : m = k
  · subst e
    rw [if_pos (by omega), if_neg (by omega), h]
  · by_cases l : m < k
    · rw [if_pos l, if_pos (by omega)]
    · rw [if_neg l, if_neg (by omega)]
/-- The next generation in a shape with two sides. -/
theorem nextG_two {r : Pu.Rule} {x : Pu.Shape} (hx : Two x) {W H : Nat} (hW : x.w = W) (hH : x.h = H) (S : List Int) : nextG r x ⟨0, 0, S⟩ = (true, ⟨0, 0, nextS r (fun T => nbG x ⟨0, 0, T⟩) W H S⟩) := by
  have W12 : W ≤ 12 := by have := hx.2.1; omega
  have H12 : H ≤ 12 := by have := hx.2.2.2; omega
  have w1 := hx.1
  have h1 := hx.2.2.1
  have hA : areaG x ⟨0, 0, S⟩ = ⟨false, 0, 0, x.w - 1, x.h - 1⟩ := by
    unfold areaG areaP
    split
    · rfl
    · rw [if_neg (by omega), if_neg (by omega), if_neg (by omega), if_neg (by omega)]
  have hval : ∀ i j : Nat, i < W → j < H → valN r x ⟨0, 0, S⟩ i j = nxv r (nbG x ⟨0, 0, S⟩) S W (j * W + i) := by
    intro i j hi hj
    rw [nxv_at r _ S W i j hi]
    unfold valN
    rw [getG_two hx hW hH S hi hj]
  have row : ∀ (j : Nat), j < H → ∀ i : Nat, i ≤ W → rowX r x ⟨0, 0, S⟩ 0 (0 + (j : Int)) (true, ⟨0, 0, fillG (nxv r (nbG x ⟨0, 0, S⟩) S W) (j * W)⟩) i = (true, ⟨0, 0, fillG (nxv r (nbG x ⟨0, 0, S⟩) S W) (j * W + i)⟩) := by
    intro j hj i
    induction i with
    | zero => intro _; rfl
    | succ i ih =>
      intro hi
      have klt : j * W + i < 768 := by
        have : j * W ≤ 12 * W := Nat.mul_le_mul_right W (by omega)
        omega
      show cellN r x ⟨0, 0, S⟩ (rowX r x ⟨0, 0, S⟩ 0 (0 + (j : Int)) _ i) (0 + (i : Int)) (0 + (j : Int)) = _
      rw [ih (by omega), Int.zero_add, Int.zero_add]
      unfold cellN
      rw [if_neg (by simp), hval i j (by omega) hj]
      by_cases z : nxv r (nbG x ⟨0, 0, S⟩) S W (j * W + i) = 0
      · rw [if_pos z, show j * W + (i + 1) = (j * W + i) + 1 from rfl, fillG_skip _ _ z]
      · have sl := slot_two hx (a := i) (b := j) (by rw [hW]; omega) (by rw [hH]; omega)
        have e : (j : Int) * x.w + i = ((j * W + i : Nat) : Int) := by rw [hW]; simp
        rw [if_neg z, if_neg (by rw [near_two hx]; simp)]
        unfold putG
        simp only
        rw [sl.1, if_pos sl.2.1]
        unfold setG
        simp only
        rw [sl.1, e, Int.toNat_natCast, fillG_succ _ _ klt]
        rfl
  have all : ∀ j : Nat, j ≤ H → allX r x ⟨0, 0, S⟩ 0 0 W (true, ⟨0, 0, noS⟩) j = (true, ⟨0, 0, fillG (nxv r (nbG x ⟨0, 0, S⟩) S W) (j * W)⟩) := by
    intro j
    induction j with
    | zero =>
      intro _
      rw [Nat.zero_mul, fillG_zero]
      rfl
    | succ j ih =>
      intro hj
      show rowX r x ⟨0, 0, S⟩ 0 (0 + (j : Int)) (allX r x ⟨0, 0, S⟩ 0 0 W (true, ⟨0, 0, noS⟩) j) W = _
      rw [ih (by omega), row j (by omega) W (Nat.le_refl _), Nat.add_mul, Nat.one_mul]
  unfold nextG
  rw [hA]
  simp only
  rw [show (x.w - 1 - 0 + 1).toNat = W by omega, show (x.h - 1 - 0 + 1).toNat = H by omega]
  exact all H (Nat.le_refl _)
theorem stepG_two {r : Pu.Rule} {x : Pu.Shape} (hx : Two x) {W H : Nat} (hW : x.w = W) (hH : x.h = H) (S : List Int) : ∀ n : Nat, stepG r x ⟨0, 0, S⟩ n = (true, ⟨0, 0, stepN r (fun T => nbG x ⟨0, 0, T⟩) W H n S⟩) := by
  intro n
  induction n with
  | zero => rfl
  | succ n ih =>
    unfold stepG
    rw [ih, if_neg (by simp), nextG_two hx hW hH]
    rfl
/-- What is asked of the cells around alone tells the next generation. -/
theorem nextS_congr (r : Pu.Rule) {G G' : List Int → Int → Int → Int} {W H : Nat} (S : List Int) (h : ∀ X Y : Int, -1 ≤ X → X ≤ W → -1 ≤ Y → Y ≤ H → G S X Y = G' S X Y) : nextS r G W H S = nextS r G' W H S := by
  unfold nextS fillG
  apply List.map_congr_left
  intro m _
  by_cases hm : m < H * W
  · rw [if_pos hm, if_pos hm]
    have hW : 0 < W := by
      rcases Nat.eq_zero_or_pos W with h0 | h0
      · rw [h0] at hm; omega
      · exact h0
    have h1 : m % W < W := Nat.mod_lt _ hW
    have h2 : m / W < H := Nat.div_lt_of_lt_mul (by rw [Nat.mul_comm]; exact hm)
    unfold nxv
    congr 1
    refine ones9_congr 9 (fun a b ha hb => ?_)
    unfold onesW
    simp only
    generalize m / W = dq at *
    generalize m % W = dr at *
    rw [h _ _ (by omega) (by omega) (by omega) (by omega)]
  · rw [if_neg hm, if_neg hm]
theorem stepN_congr (r : Pu.Rule) {G G' : List Int → Int → Int → Int} {W H : Nat} (h : ∀ (S : List Int) (X Y : Int), -1 ≤ X → X ≤ W → -1 ≤ Y → Y ≤ H → G S X Y = G' S X Y) (n : Nat) (S : List Int) : stepN r G W H n S = stepN r G' W H n S := by
  induction n with
  | zero => rfl
  | succ n ih =>
    show nextS r G W H (stepN r G W H n S) = nextS r G' W H (stepN r G' W H n S)
    rw [ih]
    exact nextS_congr r _ (h _)
/-- A grid of a shape with two sides. -/
theorem ok_two {r : Pu.Rule} {x : Pu.Shape} (hx : Two x) {S : List Int} (hS : StOk r S) : GsOk r.states x.w x.h ⟨0, 0, S⟩ := by
  have h1 := hx.1
  have h2 := hx.2.1
  have h3 := hx.2.2.1
  have h4 := hx.2.2.2
  refine ⟨hS.1, by show -9999 ≤ (0 : Int) ∧ (0 : Int) ≤ 9999; omega, by show -9999 ≤ (0 : Int) ∧ (0 : Int) ≤ 9999; omega, fun _ => rfl, fun _ => rfl, fun X Y hne => ?_, hS.2⟩
  have hw : InW x.w x.h 0 0 X Y := live_win (S := S) hne
  have s1 := span1 (g := x.w) (by omega)
  have s2 := span1 (g := x.h) (by omega)
  obtain ⟨a1, a2⟩ := hw
  omega
/-- Step in a shape with two sides, where G tells the neighbours. -/
theorem wstep_core (G : List Int → Int → Int → Int) (q : Nat) (r : Pu.Rule) (x : Pu.Shape) (age : Int) (S : List Int) (n : Nat) (w : World) (h : GrAt w q (preOf r x age) x.w x.h 0 0 S) (hr : RuleOk r) (hx : Two x) (hsh : Pu.ShapeOk x) (hfo : foldsB x → FoldOk x) (W H : Nat) (hW : x.w = W) (hH : x.h = H)
    (ha : r.around = 77 ∨ r.around = 86 ∨ r.around = 72) (h2 : 2 ≤ r.states) (h9 : r.states ≤ 9) (hS : StOk r S) (hn : n ≤ 100) (hage : 0 ≤ age) (hage2 : age + n ≤ 999999)
    (hG : ∀ (T : List Int) (X Y : Int), -1 ≤ X → X ≤ W → -1 ≤ Y → Y ≤ H → nbG x ⟨0, 0, T⟩ X Y = G T X Y) :
    Calls Try.prog 23 #[.pointer (some ⟨q, 0, none⟩), .int .i64 n] w fun e w' => e = .returned (.int .i64 0) ∧ GrAt w' q (preOf r x (age + n)) x.w x.h 0 0 (stepN r G W H n S) ∧ Kp (· = q) w w' := by
  have := wstep_exact q r x age ⟨0, 0, S⟩ n w h hr hsh hfo ha h2 h9 (ok_two hx hS) hn hage hage2
  rw [stepG_two hx hW hH, stepN_congr r (G' := G) hG] at this
  exact this
theorem wstep_plane (q : Nat) (r : Pu.Rule) (x : Pu.Shape) (age : Int) (S : List Int) (n : Nat) (w : World) (h : GrAt w q (preOf r x age) x.w x.h 0 0 S) (hr : RuleOk r) (hx : Two x) (hsh : Pu.ShapeOk x) (hk : x.kind = 80) (W H : Nat) (hW : x.w = W) (hH : x.h = H)
    (ha : r.around = 77 ∨ r.around = 86 ∨ r.around = 72) (h2 : 2 ≤ r.states) (h9 : r.states ≤ 9) (hS : StOk r S) (hn : n ≤ 100) (hage : 0 ≤ age) (hage2 : age + n ≤ 999999) :
    Calls Try.prog 23 #[.pointer (some ⟨q, 0, none⟩), .int .i64 n] w fun e w' => e = .returned (.int .i64 0) ∧ GrAt w' q (preOf r x (age + n)) x.w x.h 0 0 (stepN r (planeG x) W H n S) ∧ Kp (· = q) w w' :=
  wstep_core (planeG x) q r x age S n w h hr hx hsh (fun hf => by unfold foldsB at hf; omega) W H hW hH ha h2 h9 hS hn hage hage2 (fun T X Y _ _ _ _ => by
    unfold nbG
    rw [if_neg (fun hb : beyond x X Y => by have := hb.1; omega), if_neg (fun hf : foldsB x => by unfold foldsB at hf; omega)]
    rfl)
end Go.Proofs.Ytiimimclbkjcbaa
