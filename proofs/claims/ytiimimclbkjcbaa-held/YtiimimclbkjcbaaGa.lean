import Derived.Test.YtiimimclbkjcbaaWf
import Derived.Test.YtiimimclbkjcbaaInv
namespace Go.Proofs.Ytiimimclbkjcbaa
open Go.RowKit
open Go.Proofs

theorem bool_dec {p : Prop} [Decidable p] {y : Bool} (h : y = true ↔ p) : y = decide p := by
  rw [Bool.eq_iff_iff, h]; simp

def onSideB (a side : Int) : Bool := decide (side = 0 ∨ (0 ≤ a ∧ a < side))
def nearOnB (a side : Int) : Bool := decide (side ≠ 0 ∨ (-9999 ≤ a ∧ a ≤ 9999))

set_option maxHeartbeats 400000 in
theorem onSide_any (a side : Int) (w : World) : Calls Try.prog 45 #[.int .i64 a, .int .i64 side] w fun e w' => e = .returned (.bool (onSideB a side)) ∧ w' = w := by
  unfold onSideB
  by_cases h1 : side = 0
  · subst h1
    go_enter Try.func45, Try.ntmps45
    go_wp2
    go_ret
    exact ⟨ret_bool (by simp), rfl⟩
  · have b1 : (side == 0) = false := by simpa using h1
    by_cases h2 : 0 ≤ a
    · by_cases h3 : a < side
      · go_enter Try.func45, Try.ntmps45
        go_wp2
        go_ret
        exact ⟨ret_bool (by symm; apply decide_eq_true; omega), rfl⟩
      · go_enter Try.func45, Try.ntmps45
        go_wp2
        go_ret
        exact ⟨ret_bool (by symm; apply decide_eq_false; omega), rfl⟩
    · go_enter Try.func45, Try.ntmps45
      go_wp2
      go_ret
      exact ⟨ret_bool (by symm; simp; omega), rfl⟩

set_option maxHeartbeats 400000 in
theorem nearOn_any (a side : Int) (w : World) : Calls Try.prog 46 #[.int .i64 a, .int .i64 side] w fun e w' => e = .returned (.bool (nearOnB a side)) ∧ w' = w := by
  unfold nearOnB
  by_cases h1 : side = 0
  · subst h1
    by_cases h2 : -9999 ≤ a
    · by_cases h3 : a ≤ 9999
      · go_enter Try.func46, Try.ntmps46
        go_wp2
        go_ret
        exact ⟨ret_bool (by symm; apply decide_eq_true; omega), rfl⟩
      · go_enter Try.func46, Try.ntmps46
        go_wp2
        go_ret
        exact ⟨ret_bool (by symm; apply decide_eq_false; omega), rfl⟩
    · go_enter Try.func46, Try.ntmps46
      go_wp2
      go_ret
      exact ⟨ret_bool (by symm; simp; omega), rfl⟩
  · have b1 : (side != 0) = true := by simpa using h1
    go_enter Try.func46, Try.ntmps46
    go_wp2
    go_ret
    exact ⟨ret_bool (by symm; apply decide_eq_true; omega), rfl⟩

def hasB (s : Pu.Shape) (x y : Int) : Bool := onSideB x s.w && onSideB y s.h
def nearB (s : Pu.Shape) (x y : Int) : Bool := nearOnB x s.w && nearOnB y s.h

set_option maxHeartbeats 400000 in
theorem has_any (s : Pu.Shape) (x y : Int) (w : World) : Calls Try.prog 29 #[.agg (shv s), .int .i64 x, .int .i64 y] w fun e w' => e = .returned (.bool (hasB s x y)) ∧ Kp (fun _ => False) w w' := by
  obtain ⟨kind, xw, xh, ws, hs, wst, hst⟩ := s
  simp only [shv, hasB]
  cases h1 : onSideB x xw with
  | true =>
    have H1 := hide (fun wx => by have := onSide_any x xw wx; rw [h1] at this; exact this)
    clear h1
    go_enter Try.func29, Try.ntmps29
    go_wp2_with fail
    refine (H1.out _).mono ?_
    rintro e w1 ⟨rfl, hw⟩
    subst w1
    go_wp2_with fail
    refine (onSide_any y xh _).mono ?_
    rintro e w1 ⟨rfl, hw⟩
    subst w1
    go_wp2_with fail
    go_ret
    exact ⟨ret_bool (by simp), (Kp.refl _ _).alloc _⟩
  | false =>
    have H1 := hide (fun wx => by have := onSide_any x xw wx; rw [h1] at this; exact this)
    clear h1
    go_enter Try.func29, Try.ntmps29
    go_wp2_with fail
    refine (H1.out _).mono ?_
    rintro e w1 ⟨rfl, hw⟩
    subst w1
    go_wp2_with fail
    go_ret
    exact ⟨ret_bool (by simp), (Kp.refl _ _).alloc _⟩

set_option maxHeartbeats 400000 in
theorem near_any (s : Pu.Shape) (x y : Int) (w : World) : Calls Try.prog 30 #[.agg (shv s), .int .i64 x, .int .i64 y] w fun e w' => e = .returned (.bool (nearB s x y)) ∧ Kp (fun _ => False) w w' := by
  obtain ⟨kind, xw, xh, ws, hs, wst, hst⟩ := s
  simp only [shv, nearB]
  cases h1 : nearOnB x xw with
  | true =>
    have H1 := hide (fun wx => by have := nearOn_any x xw wx; rw [h1] at this; exact this)
    clear h1
    go_enter Try.func30, Try.ntmps30
    go_wp2_with fail
    refine (H1.out _).mono ?_
    rintro e w1 ⟨rfl, hw⟩
    subst w1
    go_wp2_with fail
    refine (nearOn_any y xh _).mono ?_
    rintro e w1 ⟨rfl, hw⟩
    subst w1
    go_wp2_with fail
    go_ret
    exact ⟨ret_bool (by simp), (Kp.refl _ _).alloc _⟩
  | false =>
    have H1 := hide (fun wx => by have := nearOn_any x xw wx; rw [h1] at this; exact this)
    clear h1
    go_enter Try.func30, Try.ntmps30
    go_wp2_with fail
    refine (H1.out _).mono ?_
    rintro e w1 ⟨rfl, hw⟩
    subst w1
    go_wp2_with fail
    go_ret
    exact ⟨ret_bool (by simp), (Kp.refl _ _).alloc _⟩

set_option maxHeartbeats 400000 in
theorem endless_any (s : Pu.Shape) (w : World) : Calls Try.prog 42 #[.agg (shv s)] w fun e w' => e = .returned (.bool (decide (s.w = 0 ∨ s.h = 0))) ∧ Kp (fun _ => False) w w' := by
  obtain ⟨kind, xw, xh, ws, hs, wst, hst⟩ := s
  simp only [shv]
  by_cases h1 : xw = 0
  · subst h1
    go_enter Try.func42, Try.ntmps42
    go_wp2
    go_ret
    exact ⟨ret_bool (by simp), (Kp.refl _ _).alloc _⟩
  · have b1 : (xw == 0) = false := by simpa using h1
    by_cases h2 : xh = 0
    · subst h2
      go_enter Try.func42, Try.ntmps42
      go_wp2
      go_ret
      exact ⟨ret_bool (by simp), (Kp.refl _ _).alloc _⟩
    · have b2 : (xh == 0) = false := by simpa using h2
      go_enter Try.func42, Try.ntmps42
      go_wp2
      go_ret
      exact ⟨ret_bool (by symm; apply decide_eq_false; omega), (Kp.refl _ _).alloc _⟩

def spanP (g : Int) : Int := if g = 0 then 64 else g
set_option maxHeartbeats 400000 in
theorem span_any (g : Int) (w : World) : Calls Try.prog 60 #[.int .i64 g] w fun e w' => e = .returned (.int .i64 (spanP g)) ∧ w' = w := by
  unfold spanP
  by_cases h1 : g = 0
  · subst h1
    go_enter Try.func60, Try.ntmps60
    go_wp2
    go_ret
    exact ⟨rfl, rfl⟩
  · have b1 : (g == 0) = false := by simpa using h1
    rw [if_neg h1]
    go_enter Try.func60, Try.ntmps60
    go_wp2
    go_ret
    exact ⟨rfl, rfl⟩

set_option maxHeartbeats 400000 in
theorem mod_any (a n : Int) (w : World) (h0 : 0 < n) (h1 : n ≤ 64) (h2 : -100000000 ≤ a) (h3 : a ≤ 100000000) : Calls Try.prog 61 #[.int .i64 a, .int .i64 n] w fun e w' => e = .returned (.int .i64 (a % n)) ∧ w' = w := by
  have e1 := Int.tmod_eq_emod (a := a) (b := n)
  have b1 := Int.emod_nonneg a (show n ≠ 0 by omega)
  have b2 := Int.emod_lt_of_pos a h0
  have b3 : a.tmod n = a % n ∨ a.tmod n = a % n - n ∧ a.tmod n < 0 := by
    by_cases c : 0 ≤ a ∨ n ∣ a
    · rw [if_pos c] at e1; left; omega
    · rw [if_neg c] at e1
      right
      have : (n.natAbs : Int) = n := by omega
      constructor <;> omega
  have b4 : -64 ≤ a.tmod n ∧ a.tmod n ≤ 64 := by omega
  clear e1
  by_cases ha : 0 ≤ a
  · clear b3 b4
    go_enter Try.func61, Try.ntmps61
    go_wp2
    go_ret
    exact ⟨rfl, rfl⟩
  · go_enter Try.func61, Try.ntmps61
    go_wp2
    all_goals
      go_ret
      exact ⟨ret_int (by omega), rfl⟩
end Go.Proofs.Ytiimimclbkjcbaa
