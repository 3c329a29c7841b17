import Derived.Test.YtiimimclbkjcbaaKc
import Derived.Test.YtiimimclbkjcbaaKe
namespace Go.Proofs.Ytiimimclbkjcbaa
open Go.RowKit
open Go.Proofs

/-- Step where every pair of numbers folds. -/
theorem wstep_fold (q : Nat) (r : Pu.Rule) (x : Pu.Shape) (age : Int) (S : List Int) (n : Nat) (w : World) (h : GrAt w q (preOf r x age) x.w x.h 0 0 S) (hr : RuleOk r) (hx : Two x) (hsh : Pu.ShapeOk x) (hf : FoldOk x) (hk : x.kind = 84 ∨ x.kind = 75 ∨ x.kind = 67) (W H : Nat) (hW : x.w = W) (hH : x.h = H)
    (ha : r.around = 77 ∨ r.around = 86 ∨ r.around = 72) (h2 : 2 ≤ r.states) (h9 : r.states ≤ 9) (hS : StOk r S) (hn : n ≤ 100) (hage : 0 ≤ age) (hage2 : age + n ≤ 999999) :
    Calls Try.prog 23 #[.pointer (some ⟨q, 0, none⟩), .int .i64 n] w fun e w' => e = .returned (.int .i64 0) ∧ GrAt w' q (preOf r x (age + n)) x.w x.h 0 0 (stepN r (foldG x) W H n S) ∧ Kp (· = q) w w' := by
  exact wstep_core (foldG x) q r x age S n w h hr hx hsh (fun _ => hf) W H hW hH ha h2 h9 hS hn hage hage2 (fun T X Y _ _ _ _ => by
    unfold nbG
    rw [if_neg (fun hb : beyond x X Y => by have := hb.1; omega), if_pos (show foldsB x from hk)]
    rfl)
/-- A plan's shape folds. -/
theorem plan_fold {p : Pu.Plan} (hp : Pu.PlanOk p) : FoldOk (Pu.shapeOf p) := by
  have hw := hp.w
  have hh := hp.h
  have ht := hp.torus
  exact ⟨by show 0 ≤ p.w ∧ p.w ≤ 12; omega, by show 0 ≤ p.h ∧ p.h ≤ 12; omega, by show p.sw = 0 ∨ (0 < p.sw ∧ p.sw < p.w); omega, by show p.sh = 0 ∨ (0 < p.sh ∧ p.sh < p.h); omega, fun _ => by show 1 ≤ p.w; omega, fun _ => by show 1 ≤ p.h; omega⟩
theorem step_plan {p : Pu.Plan} (hp : Pu.PlanOk p) (hk : p.kind = 84 ∨ p.kind = 75 ∨ p.kind = 67) {W H : Nat} (hW : p.w = W) (hH : p.h = H) (rk : RuleOk (Pu.ruleOf p)) (wx : World) (q : Nat) (age : Int) (S : List Int) (n : Nat) (hn : n ≤ 100) (hS : StOk (Pu.ruleOf p) S) (h0 : 0 ≤ age) (h1 : age ≤ 1000) (hg : GrAt wx q (preOf (Pu.ruleOf p) (Pu.shapeOf p) age) p.w p.h 0 0 S) :
    Calls Try.prog 23 #[.pointer (some ⟨q, 0, none⟩), .int .i64 n] wx fun e w' => e = .returned (.int .i64 0) ∧ GrAt w' q (preOf (Pu.ruleOf p) (Pu.shapeOf p) (age + n)) p.w p.h 0 0 (stepN (Pu.ruleOf p) (foldG (Pu.shapeOf p)) W H n S) ∧ Kp (· = q) wx w' :=
  wstep_fold q (Pu.ruleOf p) (Pu.shapeOf p) age S n wx hg rk (two_plan hp) (plan_shape hp) (plan_fold hp) hk W H hW hH hp.near hp.c.1 hp.c.2 hS hn h0 (by omega)
theorem flat144 {p : Pu.Plan} (hp : Pu.PlanOk p) {W H : Nat} (hW : p.w = W) (hH : p.h = H) : H * W ≤ 144 := by
  have hw := hp.w
  have hh := hp.h
  exact Nat.mul_le_mul (show H ≤ 12 by omega) (show W ≤ 12 by omega)
theorem mirrors_steps (p : Pu.Plan) (hp : Pu.PlanOk p) (hne : p.near = 77 ∨ p.near = 86) (hk : p.kind ≠ 83) (h1 : p.sw = 0) (h2 : p.sh = 0) (W H : Nat) (hW : p.w = W) (hH : p.h = H) (rk : RuleOk (Pu.ruleOf p)) : ∃ NX, StepsBy p false W H NX := by
  have hkd := hp.kind
  have hWH := flat144 hp hW hH
  by_cases h80 : p.kind = 80
  · refine ⟨nextS (Pu.ruleOf p) (planeG (Pu.shapeOf p)) W H, ⟨fun wx q age S hS h0 h1 hg => ?_, fun S hS => nextS_ok _ hp.c.1 _ _ _ _ hS, fun Su Sw _ _ hr => ?_⟩⟩
    · exact wstep_plane q (Pu.ruleOf p) (Pu.shapeOf p) age S 1 wx hg rk (two_plan hp) (plan_shape hp) h80 W H hW hH hp.near hp.c.1 hp.c.2 hS (by omega) h0 (by omega)
    · exact mirror_next (Pu.ruleOf p) hne _ W H hWH (fun Su Sw hr X Y _ _ _ _ => plane_mirror (two_plan hp) hW hH hr X Y) Su Sw hr
  · have hk3 : p.kind = 84 ∨ p.kind = 75 ∨ p.kind = 67 := by simp at hkd; omega
    refine ⟨nextS (Pu.ruleOf p) (foldG (Pu.shapeOf p)) W H, ⟨fun wx q age S hS h0 h1 hg => ?_, fun S hS => nextS_ok _ hp.c.1 _ _ _ _ hS, fun Su Sw _ _ hr => ?_⟩⟩
    · exact step_plan hp hk3 hW hH rk wx q age S 1 (by omega) hS h0 h1 hg
    · exact mirror_next (Pu.ruleOf p) hne _ W H hWH (fun Su Sw hr X Y _ _ _ _ => foldG_mirror (two_plan hp) h1 h2 hW hH hr X Y) Su Sw hr
end Go.Proofs.Ytiimimclbkjcbaa
namespace Go.Proofs.Ytiimimclbkjcbaa
open Go.RowKit
open Go.Proofs

theorem shiftP_eq {c k s n : Int} (_hn : 0 < n) (h : 0 ≤ c ∧ c < n) : shiftP c k s n = (c - k * s) % n := by
  unfold shiftP
  by_cases h0 : s = 0
  · rw [if_pos h0, h0, Int.mul_zero, Int.sub_zero, Int.emod_eq_of_lt h.1 h.2]
  · rw [if_neg h0]
    have e : k = k / n * n + k % n := by
      have := Int.mul_ediv_add_emod k n
      rw [Int.mul_comm] at this
      omega
    have e2 : c - k * s = (c - k % n * s) + (-(k / n * s)) * n := by
      have e3 : k * s = (k / n * n + k % n) * s := by rw [← e]
      rw [e3, Int.add_mul, Int.neg_mul, Int.mul_assoc (k / n) n s, Int.mul_comm n s, ← Int.mul_assoc]
      omega
    rw [e2, Int.add_mul_emod_self_right]
theorem emod_in (a b n : Int) : (a % n + b) % n = (a + b) % n := by
  have e : a + b = (a % n + b) + a / n * n := by
    have := Int.mul_ediv_add_emod a n
    rw [Int.mul_comm] at this
    omega
  rw [e, Int.add_mul_emod_self_right]
theorem ediv_move (y d n : Int) (hn : 0 < n) : (y + d) / n = y / n + (y % n + d) / n ∧ (y + d) % n = (y % n + d) % n := by
  have e : y + d = (y % n + d) + y / n * n := by
    have := Int.mul_ediv_add_emod y n
    rw [Int.mul_comm] at this
    omega
  constructor
  · rw [e, Int.add_mul_ediv_right _ _ (by omega)]
    omega
  · rw [emod_in]
theorem turnP_no (k n c : Int) : turnP false k n c = c := by unfold turnP; rw [if_neg (by simp)]
/-- A torus, shifted behind its columns or not at all. -/
theorem fold_torusW {x : Pu.Shape} (h : Two x) (hw : turnW x = false) (hh : turnH x = false) (h2 : x.hs = 0) (X Y : Int) : foldX x X Y = (X - Y / x.h * x.ws) % x.w ∧ foldY x X Y = Y % x.h := by
  obtain ⟨t1, t2, t3, t4⟩ := h
  unfold foldX foldY
  rw [hw, hh, turnP_no, turnP_no, shiftP_eq t1 (splitR_bd t1), shiftP_eq t3 (splitR_bd t3), h2]
  unfold splitQ splitR
  rw [if_neg (by omega), if_neg (by omega), if_neg (by omega), if_neg (by omega), Int.mul_zero, Int.sub_zero, Int.emod_emod]
  refine ⟨?_, rfl⟩
  rw [Int.sub_eq_add_neg, emod_in, ← Int.sub_eq_add_neg]
/-- A torus, shifted behind its rows or not at all. -/
theorem fold_torusH {x : Pu.Shape} (h : Two x) (hw : turnW x = false) (hh : turnH x = false) (h2 : x.ws = 0) (X Y : Int) : foldX x X Y = X % x.w ∧ foldY x X Y = (Y - X / x.w * x.hs) % x.h := by
  obtain ⟨t1, t2, t3, t4⟩ := h
  unfold foldX foldY
  rw [hw, hh, turnP_no, turnP_no, shiftP_eq t1 (splitR_bd t1), shiftP_eq t3 (splitR_bd t3), h2]
  unfold splitQ splitR
  rw [if_neg (by omega), if_neg (by omega), if_neg (by omega), if_neg (by omega), Int.mul_zero, Int.sub_zero, Int.emod_emod]
  refine ⟨rfl, ?_⟩
  rw [Int.sub_eq_add_neg, emod_in, ← Int.sub_eq_add_neg]
/-- On a torus what is moved folds alike. -/
theorem fold_moved {x : Pu.Shape} (h : Two x) (hw : turnW x = false) (hh : turnH x = false) (hs : x.ws = 0 ∨ x.hs = 0) (X Y dx dy : Int) :
    foldX x (foldX x X Y + dx) (foldY x X Y + dy) = foldX x (X + dx) (Y + dy) ∧ foldY x (foldX x X Y + dx) (foldY x X Y + dy) = foldY x (X + dx) (Y + dy) := by
  have h' := h
  obtain ⟨t1, t2, t3, t4⟩ := h'
  rcases hs with h2 | h2
  · have f := fun X Y => fold_torusH h hw hh h2 X Y
    rw [(f _ _).1, (f _ _).2, (f (X + dx) (Y + dy)).1, (f (X + dx) (Y + dy)).2, (f X Y).1, (f X Y).2]
    have m := ediv_move X dx x.w t1
    refine ⟨emod_in _ _ _, ?_⟩
    rw [m.1, Int.add_mul, Int.sub_eq_add_neg, Int.add_assoc, emod_in]
    congr 1
    omega
  · have f1 := fun X Y => (fold_torusW h hw hh h2 X Y).1
    have f2 := fun X Y => (fold_torusW h hw hh h2 X Y).2
    simp only [f1, f2]
    have m := ediv_move Y dy x.h t3
    refine ⟨?_, emod_in _ _ _⟩
    rw [m.1, Int.add_mul, Int.sub_eq_add_neg, Int.add_assoc, emod_in]
    congr 1
    omega
theorem foldG_at {x : Pu.Shape} (h : Two x) {W : Nat} (hW : x.w = W) (S : List Int) (X Y : Int) : foldG x S X Y = S.getD ((foldY x X Y).toNat * W + (foldX x X Y).toNat) 0 := by
  have b := fold_bd h X Y
  unfold foldG
  rw [getP_two h S b.1 b.2]
  congr 1
  obtain ⟨i, hi⟩ := Int.eq_ofNat_of_zero_le b.1.1
  obtain ⟨j, hj⟩ := Int.eq_ofNat_of_zero_le b.2.1
  rw [hi, hj, flat_nat W i j x.w hW]
  rfl
/-- One generation, unfolded over the whole plane, where around a folded cell lies what lies around (X, Y). -/
theorem step_unfold (r : Pu.Rule) {x : Pu.Shape} (h : Two x) {W H : Nat} (hW : x.w = W) (hH : x.h = H) (S : List Int) (X Y : Int)
    (hone : ones9 (onesW r.around fun a b => foldG x S (foldX x X Y + ((a : Int) - 1)) (foldY x X Y + ((b : Int) - 1))) 9 = ones9 (onesW r.around fun a b => foldG x S (X + ((a : Int) - 1)) (Y + ((b : Int) - 1))) 9) :
    foldG x (nextS r (foldG x) W H S) X Y = nextR r (foldG x S X Y) (ones9 (onesW r.around fun a b => foldG x S (X + ((a : Int) - 1)) (Y + ((b : Int) - 1))) 9) := by
  have b := fold_bd h X Y
  obtain ⟨t1, t2, t3, t4⟩ := h
  rw [foldG_at ⟨t1, t2, t3, t4⟩ hW, foldG_at ⟨t1, t2, t3, t4⟩ hW S X Y, ← hone]
  obtain ⟨i, hi⟩ := Int.eq_ofNat_of_zero_le b.1.1
  obtain ⟨j, hj⟩ := Int.eq_ofNat_of_zero_le b.2.1
  rw [hi, hj]
  have hWH : H * W ≤ 144 := Nat.mul_le_mul (show H ≤ 12 by omega) (show W ≤ 12 by omega)
  exact nextS_at r (foldG x) W H S i j (by omega) (by omega) hWH
theorem step_torus (r : Pu.Rule) {x : Pu.Shape} (h : Two x) (hw : turnW x = false) (hh : turnH x = false) (hs : x.ws = 0 ∨ x.hs = 0) {W H : Nat} (hW : x.w = W) (hH : x.h = H) (S : List Int) (X Y : Int) :
    foldG x (nextS r (foldG x) W H S) X Y = nextR r (foldG x S X Y) (ones9 (onesW r.around fun a b => foldG x S (X + ((a : Int) - 1)) (Y + ((b : Int) - 1))) 9) := by
  refine step_unfold r h hW hH S X Y (ones9_congr 9 fun a b _ _ => ?_)
  unfold onesW
  show (_ && (foldG x S _ _ == 1)) = (_ && (foldG x S _ _ == 1))
  unfold foldG
  rw [(fold_moved h hw hh hs X Y _ _).1, (fold_moved h hw hh hs X Y _ _).2]
theorem step_turned (r : Pu.Rule) (ha : r.around = 77 ∨ r.around = 86) {x : Pu.Shape} (h : Two x) (h1 : x.ws = 0) (h2 : x.hs = 0) {W H : Nat} (hW : x.w = W) (hH : x.h = H) (S : List Int) (X Y : Int) :
    foldG x (nextS r (foldG x) W H S) X Y = nextR r (foldG x S X Y) (ones9 (onesW r.around fun a b => foldG x S (X + ((a : Int) - 1)) (Y + ((b : Int) - 1))) 9) := by
  refine step_unfold r h hW hH S X Y ?_
  have f := fun dx dy => fold_around h h1 h2 X Y dx dy
  have g : ∀ dx dy, foldG x S (foldX x X Y + dx) (foldY x X Y + dy) = foldG x S (if turnW x = true ∧ splitQ Y x.h % 2 = 1 then X - dx else X + dx) (if turnH x = true ∧ splitQ X x.w % 2 = 1 then Y - dy else Y + dy) := fun dx dy => by
    unfold foldG
    rw [(f dx dy).1, (f dx dy).2]
  have flipY : ∀ a b : Nat, a < 3 → b < 3 → nearR r.around ((a : Int) - 1) ((b : Int) - 1) = nearR r.around ((a : Int) - 1) (((2 - b : Nat) : Int) - 1) := fun a b ha3 hb3 => by
    have hr : r.around = 77 ∨ r.around = 86 ∨ r.around = 72 := by omega
    rw [nearR_turn hr a b ha3 hb3, nearR_mirror ha b a hb3 ha3, nearR_turn hr (2 - b) a (by omega) ha3]
  by_cases c1 : turnW x = true ∧ splitQ Y x.h % 2 = 1
  · by_cases c2 : turnH x = true ∧ splitQ X x.w % 2 = 1
    · refine (ones9_mirror _ (onesW r.around fun a b => foldG x S (X + ((a : Int) - 1)) (Y - ((b : Int) - 1))) fun a b ha3 hb3 => ?_).trans (ones9_flip _ _ fun a b ha3 hb3 => ?_)
      · unfold onesW
        rw [nearR_mirror ha a b ha3 hb3]
        show (_ && (foldG x S (foldX x X Y + _) (foldY x X Y + _) == 1)) = (_ && (foldG x S _ _ == 1))
        rw [g, if_pos c1, if_pos c2]
        congr 3
        omega
      · unfold onesW
        rw [flipY a b ha3 hb3]
        show (_ && (foldG x S _ _ == 1)) = (_ && (foldG x S _ _ == 1))
        congr 3
        omega
    · refine ones9_mirror _ _ fun a b ha3 hb3 => ?_
      unfold onesW
      rw [nearR_mirror ha a b ha3 hb3]
      show (_ && (foldG x S (foldX x X Y + _) (foldY x X Y + _) == 1)) = (_ && (foldG x S _ _ == 1))
      rw [g, if_pos c1, if_neg c2]
      congr 3
      omega
  · by_cases c2 : turnH x = true ∧ splitQ X x.w % 2 = 1
    · refine ones9_flip _ _ fun a b ha3 hb3 => ?_
      unfold onesW
      rw [flipY a b ha3 hb3]
      show (_ && (foldG x S (foldX x X Y + _) (foldY x X Y + _) == 1)) = (_ && (foldG x S _ _ == 1))
      rw [g, if_neg c1, if_pos c2]
      congr 3
      omega
    · refine ones9_congr 9 fun a b _ _ => ?_
      unfold onesW
      show (_ && (foldG x S (foldX x X Y + _) (foldY x X Y + _) == 1)) = (_ && (foldG x S _ _ == 1))
      rw [g, if_neg c1, if_neg c2]
end Go.Proofs.Ytiimimclbkjcbaa
