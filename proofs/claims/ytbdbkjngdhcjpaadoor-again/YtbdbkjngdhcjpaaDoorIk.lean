import Derived.Test.YtbdbkjngdhcjpaaDoorM26
import Derived.Deep.CutRange
namespace Go.Proofs.YtbdbkjngdhcjpaaDoor
open Go.RowKit
open Go.Proofs

theorem tmod_cases (a n : Int) (h : 0 < n) : (a.tmod n = a % n ∧ a.tdiv n = a / n ∧ 0 ≤ a.tmod n) ∨ (a.tmod n = a % n - n ∧ a.tdiv n = a / n + 1 ∧ a.tmod n < 0 ∧ a < 0 ∧ a % n ≠ 0) := by
  have e1 := Int.tmod_eq_emod (a := a) (b := n)
  have e2 := Int.tdiv_eq_ediv (a := a) (b := n)
  have b1 := Int.emod_nonneg a (show n ≠ 0 by omega)
  have b2 := Int.emod_lt_of_pos a h
  have e3 : n.sign = 1 := Int.sign_eq_one_of_pos h
  by_cases c : 0 ≤ a ∨ n ∣ a
  · rw [if_pos c] at e1 e2
    left
    omega
  · rw [if_neg c] at e1 e2
    have : (n.natAbs : Int) = n := by omega
    have nz : a % n ≠ 0 := fun h0 => c (Or.inr (Int.dvd_of_emod_eq_zero h0))
    right
    omega
theorem tdiv_bd (a n : Int) (h : 0 < n) (h2 : -9223372036854775808 ≤ a) (h3 : a ≤ 9223372036854775807) : -9223372036854775808 ≤ a.tdiv n ∧ a.tdiv n ≤ 9223372036854775807 ∧ -9223372036854775808 ≤ a / n ∧ a / n ≤ 9223372036854775807 := by
  have f1 : a = n * (a / n) + a % n := (Int.mul_ediv_add_emod a n).symm
  have b1 := Int.emod_nonneg a (show n ≠ 0 by omega)
  have b2 := Int.emod_lt_of_pos a h
  have c1 : -9223372036854775808 ≤ a / n := by
    rcases Int.lt_or_le (a / n) (-9223372036854775808) with hlt | hge
    · exfalso
      have : n * (a / n) ≤ n * (-9223372036854775809) := Int.mul_le_mul_of_nonneg_left (by omega) (by omega)
      have h5 : n * (-9223372036854775809) ≤ -9223372036854775809 - (n - 1) := by omega
      omega
    · exact hge
  have c2 : a / n ≤ 9223372036854775807 := by
    rcases Int.lt_or_le 9223372036854775807 (a / n) with hlt | hge
    · exfalso
      have : n * 9223372036854775808 ≤ n * (a / n) := Int.mul_le_mul_of_nonneg_left (by omega) (by omega)
      omega
    · exact hge
  rcases tmod_cases a n h with ⟨t1, t2, t3⟩ | ⟨t1, t2, t3, t4, _⟩
  · omega
  · have : a / n < 0 := Int.ediv_neg_of_neg_of_pos t4 h
    omega

set_option maxHeartbeats 400000 in
theorem mod_wide (a n : Int) (w : World) (h0 : 0 < n) (h1 : n ≤ 64) (_h2 : -9223372036854775808 ≤ a) (_h3 : a ≤ 9223372036854775807) : Calls Tryd.prog 78 #[.int .i64 a, .int .i64 n] w fun e w' => e = .returned (.int .i64 (a % n)) ∧ w' = w := by
  have b1 := Int.emod_nonneg a (show n ≠ 0 by omega)
  have b2 := Int.emod_lt_of_pos a h0
  rcases tmod_cases a n h0 with ⟨t1, _, t3⟩ | ⟨t1, _, t3, _, _⟩
  · have T1 := hide t1
    have t4 : a.tmod n ≤ 64 := by omega
    clear t1
    go_enter Tryd.func78, Tryd.ntmps78
    go_wp2
    go_ret
    exact ⟨ret_int (by first | exact T1.out | rfl), rfl⟩
  · have T1 := hide t1
    have t4 : -64 ≤ a.tmod n := by omega
    clear t1
    go_enter Tryd.func78, Tryd.ntmps78
    go_wp2
    go_ret
    exact ⟨ret_int (by have := T1.out; omega), rfl⟩
set_option maxHeartbeats 400000 in
theorem div_wide (a n : Int) (w : World) (h0 : 0 < n) (h1 : n ≤ 64) (h2 : -9223372036854775808 ≤ a) (h3 : a ≤ 9223372036854775807) : Calls Tryd.prog 98 #[.int .i64 a, .int .i64 n] w fun e w' => e = .returned (.int .i64 (a / n)) ∧ w' = w := by
  have bd := tdiv_bd a n h0 h2 h3
  rcases tmod_cases a n h0 with ⟨_, t2, t3⟩ | ⟨_, t2, t3, _, _⟩
  · have T2 := hide t2
    clear t2
    go_enter Tryd.func98, Tryd.ntmps98
    go_wp2
    go_ret
    exact ⟨ret_int (by first | exact T2.out | rfl), rfl⟩
  · have T2 := hide t2
    have b3 : -9223372036854775807 ≤ a.tdiv n := by omega
    clear t2
    go_enter Tryd.func98, Tryd.ntmps98
    go_wp2
    go_ret
    exact ⟨ret_int (by have := T2.out; omega), rfl⟩

def splitQ (a n : Int) : Int := if n = 0 then 0 else a / n
def splitR (a n : Int) : Int := if n = 0 then a else a % n
theorem split_any (a n : Int) (w : World) (h0 : 0 ≤ n) (h1 : n ≤ 12) (h2 : -9223372036854775808 ≤ a) (h3 : a ≤ 9223372036854775807) : Calls Tryd.prog 76 #[.int .i64 a, .int .i64 n] w fun e w' => e = .returned (.tuple #[.int .i64 (splitQ a n), .int .i64 (splitR a n)]) ∧ w' = w := by
  unfold splitQ splitR
  by_cases hn : n = 0
  · subst hn
    go_enter Tryd.func76, Tryd.ntmps76
    go_wp2
    go_ret2
    exact ⟨rfl, rfl⟩
  · rw [if_neg hn, if_neg hn]
    have HD := hide (fun wx => div_wide a n wx (by omega) (by omega) h2 h3)
    have HM := hide (fun wx => mod_wide a n wx (by omega) (by omega) h2 h3)
    have b1 : (n == 0) = false := by simpa using hn
    clear hn
    go_enter Tryd.func76, Tryd.ntmps76
    go_wp2_with fail
    refine (HD.out _).mono ?_
    rintro e w1 ⟨rfl, hw⟩
    subst w1
    go_wp2_with fail
    refine (HM.out _).mono ?_
    rintro e w1 ⟨rfl, hw⟩
    subst w1
    go_wp2_with fail
    go_ret2
    exact ⟨rfl, rfl⟩
def shiftP (a k s n : Int) : Int := if s = 0 then a else (a - k % n * s) % n
theorem shifted_any (a k s n : Int) (w : World) (hs : s = 0 ∨ (0 < s ∧ s < n ∧ n ≤ 12 ∧ 0 ≤ a ∧ a < n)) (h2 : -9223372036854775808 ≤ k) (h3 : k ≤ 9223372036854775807) : Calls Tryd.prog 77 #[.int .i64 a, .int .i64 k, .int .i64 s, .int .i64 n] w fun e w' => e = .returned (.int .i64 (shiftP a k s n)) ∧ w' = w := by
  unfold shiftP
  by_cases h0 : s = 0
  · subst h0
    go_enter Tryd.func77, Tryd.ntmps77
    go_wp2
    go_ret
    exact ⟨rfl, rfl⟩
  · rw [if_neg h0]
    have hs' : 0 < s ∧ s < n ∧ n ≤ 12 ∧ 0 ≤ a ∧ a < n := by omega
    have b1 : (s == 0) = false := by simpa using h0
    have m1 := Int.emod_nonneg k (show n ≠ 0 by omega)
    have m2 := Int.emod_lt_of_pos k (show 0 < n by omega)
    have p0 : 0 ≤ k % n * s := Int.mul_nonneg m1 (by omega)
    have p1 : k % n * s ≤ 144 := by
      have a1 : k % n * s ≤ 12 * s := Int.mul_le_mul_of_nonneg_right (by omega) (by omega)
      omega
    have HM := hide (fun wx => mod_wide k n wx (by omega) (by omega) h2 h3)
    have HN := hide (fun wx => mod_wide (a - k % n * s) n wx (by omega) (by omega) (by omega) (by omega))
    clear h0 hs
    generalize k % n = kn at *
    go_enter Tryd.func77, Tryd.ntmps77
    go_wp2_with fail
    refine (HM.out _).mono ?_
    rintro e w1 ⟨rfl, hw⟩
    subst w1
    go_wp2_with fail
    refine (HN.out _).mono ?_
    rintro e w1 ⟨rfl, hw⟩
    subst w1
    go_wp2_with fail
    go_ret
    exact ⟨rfl, rfl⟩

/-- Where (x, y) folds to. -/
def turnW (s : Pu.Shape) : Bool := s.wst || (s.kind == 67)
def turnH (s : Pu.Shape) : Bool := s.hst || (s.kind == 67)
def turnP (t : Bool) (k n c : Int) : Int := if t = true ∧ k % 2 = 1 then n - 1 - c else c
def foldX (s : Pu.Shape) (x y : Int) : Int := shiftP (turnP (turnW s) (splitQ y s.h) s.w (splitR x s.w)) (splitQ y s.h) s.ws s.w
def foldY (s : Pu.Shape) (x y : Int) : Int := shiftP (turnP (turnH s) (splitQ x s.w) s.h (splitR y s.h)) (splitQ x s.w) s.hs s.h
structure FoldOk (s : Pu.Shape) : Prop where
  w : 0 ≤ s.w ∧ s.w ≤ 12
  h : 0 ≤ s.h ∧ s.h ≤ 12
  ws : s.ws = 0 ∨ (0 < s.ws ∧ s.ws < s.w)
  hs : s.hs = 0 ∨ (0 < s.hs ∧ s.hs < s.h)
  tw : turnW s = true → 1 ≤ s.w
  th : turnH s = true → 1 ≤ s.h
theorem odd_tmod (k : Int) : (k.tmod 2 != 0) = decide (k % 2 = 1) := by
  rcases tmod_cases k 2 (by omega) with ⟨t1, _, t3⟩ | ⟨t1, _, t3, _, t5⟩
  · rw [t1, Bool.eq_iff_iff]; simp; omega
  · rw [t1] at t3 ⊢
    have e : k % 2 = 1 := by omega
    rw [e]
    rfl
theorem splitQ_bd {a n : Int} (h0 : 0 ≤ n) (h2 : -9223372036854775808 ≤ a) (h3 : a ≤ 9223372036854775807) : -9223372036854775808 ≤ splitQ a n ∧ splitQ a n ≤ 9223372036854775807 := by
  unfold splitQ
  split
  · omega
  · have := tdiv_bd a n (by omega) h2 h3
    omega
theorem splitR_bd {a n : Int} (h0 : 0 < n) : 0 ≤ splitR a n ∧ splitR a n < n := by
  unfold splitR
  rw [if_neg (by omega)]
  exact ⟨Int.emod_nonneg a (by omega), Int.emod_lt_of_pos a h0⟩
theorem turnP_bd {t : Bool} {k n c : Int} (h : 0 ≤ c ∧ c < n) : 0 ≤ turnP t k n c ∧ turnP t k n c < n := by
  unfold turnP
  split <;> omega

set_option maxRecDepth 100000 in
set_option maxHeartbeats 1000000 in
theorem fold_any (s : Pu.Shape) (hs : FoldOk s) (x y : Int) (w : World) (hx : -9223372036854775808 ≤ x ∧ x ≤ 9223372036854775807) (hy : -9223372036854775808 ≤ y ∧ y ≤ 9223372036854775807) :
    Calls Tryd.prog 50 #[.agg (shv s), .int .i64 x, .int .i64 y] w fun e w' => e = .returned (.tuple #[.int .i64 (foldX s x y), .int .i64 (foldY s x y)]) ∧ Kp (fun _ => False) w w' := by
  have S1 := hide (fun wx => split_any x s.w wx hs.w.1 hs.w.2 hx.1 hx.2)
  have S2 := hide (fun wx => split_any y s.h wx hs.h.1 hs.h.2 hy.1 hy.2)
  have qx := splitQ_bd hs.w.1 hx.1 hx.2
  have qy := splitQ_bd hs.h.1 hy.1 hy.2
  have cw : 1 ≤ s.w → 0 ≤ splitR x s.w ∧ splitR x s.w < s.w := fun h => splitR_bd (by omega)
  have ch : 1 ≤ s.h → 0 ≤ splitR y s.h ∧ splitR y s.h < s.h := fun h => splitR_bd (by omega)
  have S3 : Hid (∀ wx, Calls Tryd.prog 77 #[.int .i64 (turnP (turnW s) (splitQ y s.h) s.w (splitR x s.w)), .int .i64 (splitQ y s.h), .int .i64 s.ws, .int .i64 s.w] wx fun e w' => e = .returned (.int .i64 (foldX s x y)) ∧ w' = wx) := by
    intro wx
    refine shifted_any _ _ _ _ wx ?_ qy.1 qy.2
    rcases hs.ws with e | ⟨e1, e2⟩
    · exact Or.inl e
    · have := turnP_bd (t := turnW s) (k := splitQ y s.h) (cw (by omega))
      exact Or.inr ⟨e1, e2, hs.w.2, this.1, this.2⟩
  have S4 : Hid (∀ wx, Calls Tryd.prog 77 #[.int .i64 (turnP (turnH s) (splitQ x s.w) s.h (splitR y s.h)), .int .i64 (splitQ x s.w), .int .i64 s.hs, .int .i64 s.h] wx fun e w' => e = .returned (.int .i64 (foldY s x y)) ∧ w' = wx) := by
    intro wx
    refine shifted_any _ _ _ _ wx ?_ qx.1 qx.2
    rcases hs.hs with e | ⟨e1, e2⟩
    · exact Or.inl e
    · have := turnP_bd (t := turnH s) (k := splitQ x s.w) (ch (by omega))
      exact Or.inr ⟨e1, e2, hs.h.2, this.1, this.2⟩
  have hw := hs.w
  have hh := hs.h
  have tw := hs.tw
  have th := hs.th
  generalize foldX s x y = fx at *
  generalize foldY s x y = fy at *
  clear hs hx hy
  unfold turnW at S3 tw
  unfold turnH at S4 th
  obtain ⟨kind, sw, sh, ws, hs, wst, hst⟩ := s
  simp only at *
  simp only [shv]
  have oy := odd_tmod (splitQ y sh)
  have ox := odd_tmod (splitQ x sw)
  unfold turnP at S3 S4
  generalize splitQ y sh = qb at *
  generalize splitQ x sw = qa at *
  generalize splitR x sw = rx at *
  generalize splitR y sh = ry at *
  have OY := hide oy
  have OX := hide ox
  clear oy ox
  go_enter Tryd.func50, Tryd.ntmps50
  go_wp2_with fail
  refine (S1.out _).mono ?_
  rintro e w1 ⟨rfl, hw1⟩
  subst w1
  go_wp2_with fail
  refine (S2.out _).mono ?_
  rintro e w1 ⟨rfl, hw1⟩
  subst w1
  go_upto_region 3 with fail
  go_cut [12] from 14 to 79 (fun t wd => t = .bool (wst || (kind == 67)) ∧ wd = (w.alloc (.cells #[.int .u8 kind, .int .i64 sw, .int .i64 sh, .int .i64 ws, .int .i64 hs, .bool wst, .bool hst] 50)))
  case first =>
    cases wst
    · by_cases hk : kind = 67
      · subst hk
        go_wp2_with fail
        go_meet
        case rel => exact ⟨rfl, rfl⟩
      · have b1 : (kind == 67) = false := by simpa using hk
        clear hk
        go_wp2_with fail
        go_meet
        case rel => exact ⟨by rw [b1]; rfl, rfl⟩
    · go_wp2_with fail
      go_meet
      case rel => exact ⟨rfl, rfl⟩
  case rest =>
    obtain ⟨rfl, rfl⟩ := hcut
    go_upto_region 4 with fail
    go_cut [13] from 14 to 79 (fun t wd => t = .bool (hst || (kind == 67)) ∧ wd = (w.alloc (.cells #[.int .u8 kind, .int .i64 sw, .int .i64 sh, .int .i64 ws, .int .i64 hs, .bool wst, .bool hst] 50)))
    case first =>
      generalize (wst || (kind == 67)) = tc at *
      cases hst
      · by_cases hk : kind = 67
        · subst hk
          go_wp2_with fail
          go_meet
          case rel => exact ⟨rfl, rfl⟩
        · have b1 : (kind == 67) = false := by simpa using hk
          clear hk
          go_wp2_with fail
          go_meet
          case rel => exact ⟨by rw [b1]; rfl, rfl⟩
      · go_wp2_with fail
        go_meet
        case rel => exact ⟨rfl, rfl⟩
    case rest =>
      obtain ⟨rfl, rfl⟩ := hcut
      generalize (wst || (kind == 67)) = tc at *
      generalize (hst || (kind == 67)) = tr at *
      have PY : qb % 2 = 1 ∨ qb % 2 = 0 := by omega
      have PX : qa % 2 = 1 ∨ qa % 2 = 0 := by omega
      have HP : Hid (∀ k : Int, k % 2 = 1 → decide (k % 2 = 1) = true) := fun k h => decide_eq_true h
      have HQ : Hid (∀ k : Int, k % 2 = 0 → decide (k % 2 = 1) = false) := fun k h => decide_eq_false (by omega)
      cases tc
      · rw [if_neg (by simp)] at S3
        clear OY PY cw tw
        cases tr
        · rw [if_neg (by simp)] at S4
          clear OX PX ch th
          go_wp2_with fail
          refine (S3.out _).mono ?_
          rintro e w1 ⟨rfl, hw1⟩
          subst w1
          go_wp2_with fail
          refine (S4.out _).mono ?_
          rintro e w1 ⟨rfl, hw1⟩
          subst w1
          go_wp2_with fail
          go_ret2
          exact ⟨rfl, (Kp.refl _ _).alloc _⟩
        · rcases PX with px | px
          · rw [if_pos ⟨rfl, px⟩] at S4
            have ox := OX.out
            rw [HP.out _ px] at ox
            have ch' := ch (th rfl)
            clear OX px ch th
            go_wp2_with fail
            refine (S3.out _).mono ?_
            rintro e w1 ⟨rfl, hw1⟩
            subst w1
            go_wp2_with fail
            refine (S4.out _).mono ?_
            rintro e w1 ⟨rfl, hw1⟩
            subst w1
            go_wp2_with fail
            go_ret2
            exact ⟨rfl, (Kp.refl _ _).alloc _⟩
          · rw [if_neg (by omega)] at S4
            have ox := OX.out
            rw [HQ.out _ px] at ox
            clear OX px ch th
            go_wp2_with fail
            refine (S3.out _).mono ?_
            rintro e w1 ⟨rfl, hw1⟩
            subst w1
            go_wp2_with fail
            refine (S4.out _).mono ?_
            rintro e w1 ⟨rfl, hw1⟩
            subst w1
            go_wp2_with fail
            go_ret2
            exact ⟨rfl, (Kp.refl _ _).alloc _⟩
      · rcases PY with py | py
        · rw [if_pos ⟨rfl, py⟩] at S3
          have oy := OY.out
          rw [HP.out _ py] at oy
          have cw' := cw (tw rfl)
          clear OY py cw tw
          cases tr
          · rw [if_neg (by simp)] at S4
            clear OX PX ch th
            go_wp2_with fail
            refine (S3.out _).mono ?_
            rintro e w1 ⟨rfl, hw1⟩
            subst w1
            go_wp2_with fail
            refine (S4.out _).mono ?_
            rintro e w1 ⟨rfl, hw1⟩
            subst w1
            go_wp2_with fail
            go_ret2
            exact ⟨rfl, (Kp.refl _ _).alloc _⟩
          · rcases PX with px | px
            · rw [if_pos ⟨rfl, px⟩] at S4
              have ox := OX.out
              rw [HP.out _ px] at ox
              have ch' := ch (th rfl)
              clear OX px ch th
              go_wp2_with fail
              refine (S3.out _).mono ?_
              rintro e w1 ⟨rfl, hw1⟩
              subst w1
              go_wp2_with fail
              refine (S4.out _).mono ?_
              rintro e w1 ⟨rfl, hw1⟩
              subst w1
              go_wp2_with fail
              go_ret2
              exact ⟨rfl, (Kp.refl _ _).alloc _⟩
            · rw [if_neg (by omega)] at S4
              have ox := OX.out
              rw [HQ.out _ px] at ox
              clear OX px ch th
              go_wp2_with fail
              refine (S3.out _).mono ?_
              rintro e w1 ⟨rfl, hw1⟩
              subst w1
              go_wp2_with fail
              refine (S4.out _).mono ?_
              rintro e w1 ⟨rfl, hw1⟩
              subst w1
              go_wp2_with fail
              go_ret2
              exact ⟨rfl, (Kp.refl _ _).alloc _⟩
        · rw [if_neg (by omega)] at S3
          have oy := OY.out
          rw [HQ.out _ py] at oy
          clear OY py cw tw
          cases tr
          · rw [if_neg (by simp)] at S4
            clear OX PX ch th
            go_wp2_with fail
            refine (S3.out _).mono ?_
            rintro e w1 ⟨rfl, hw1⟩
            subst w1
            go_wp2_with fail
            refine (S4.out _).mono ?_
            rintro e w1 ⟨rfl, hw1⟩
            subst w1
            go_wp2_with fail
            go_ret2
            exact ⟨rfl, (Kp.refl _ _).alloc _⟩
          · rcases PX with px | px
            · rw [if_pos ⟨rfl, px⟩] at S4
              have ox := OX.out
              rw [HP.out _ px] at ox
              have ch' := ch (th rfl)
              clear OX px ch th
              go_wp2_with fail
              refine (S3.out _).mono ?_
              rintro e w1 ⟨rfl, hw1⟩
              subst w1
              go_wp2_with fail
              refine (S4.out _).mono ?_
              rintro e w1 ⟨rfl, hw1⟩
              subst w1
              go_wp2_with fail
              go_ret2
              exact ⟨rfl, (Kp.refl _ _).alloc _⟩
            · rw [if_neg (by omega)] at S4
              have ox := OX.out
              rw [HQ.out _ px] at ox
              clear OX px ch th
              go_wp2_with fail
              refine (S3.out _).mono ?_
              rintro e w1 ⟨rfl, hw1⟩
              subst w1
              go_wp2_with fail
              refine (S4.out _).mono ?_
              rintro e w1 ⟨rfl, hw1⟩
              subst w1
              go_wp2_with fail
              go_ret2
              exact ⟨rfl, (Kp.refl _ _).alloc _⟩

theorem find_fold (s : Pu.Shape) (hs : FoldOk s) (a b : Int) (w : World) (h : s.kind = 84 ∨ s.kind = 75 ∨ s.kind = 67) (hx : -9223372036854775808 ≤ a ∧ a ≤ 9223372036854775807) (hy : -9223372036854775808 ≤ b ∧ b ≤ 9223372036854775807) :
    Calls Tryd.prog 29 #[.agg (shv s), .int .i64 a, .int .i64 b] w fun e w' => e = .returned (.tuple #[.int .i64 (foldX s a b), .int .i64 (foldY s a b), .bool true]) ∧ Kp (fun _ => False) w w' := by
  have HF := hide (fun wx => folds_yes s wx h)
  have HH := hide (fun wx => fold_any s hs a b wx hx hy)
  clear h hx hy hs
  go_enter Tryd.func29, Tryd.ntmps29
  go_wp2_with (first
    | (refine wpList_box_row rfl 50 _ rfl (shv s) rfl ?_
       intro w1 hw1
       have A1 : Hid (w1.heap[w.heap.size]? = some (.cells (shv s) 50 (0, 0))) := by rw [hw1]; exact heap_alloc_new _ _
       have K1 : Hid (Kp (fun _ => False) w w1) := by rw [hw1]; exact (Kp.refl _ _).alloc _
       clear hw1)
    | (refine wpList_load_row rfl 50 _ rfl w.heap.size rfl 50 (shv s) (0, 0) _ A1.out Tryd.underlying50 rfl info_shape ?_))
  refine (HF.out _).mono ?_
  rintro e w2 ⟨rfl, k2⟩
  have A2 := hide (k2.row A1.out (fun hx => hx))
  have K2 := hide (K1.out.trans k2)
  clear k2
  go_wp2_with (refine wpList_load_row rfl 50 _ rfl w.heap.size rfl 50 (shv s) (0, 0) _ A2.out Tryd.underlying50 rfl info_shape ?_)
  refine (HH.out _).mono ?_
  rintro e w3 ⟨rfl, k3⟩
  have K3 := hide (K2.out.trans k3)
  clear k3
  go_wp2_with fail
  go_ret3
  exact ⟨rfl, K3.out⟩

/-- Get on tori, Klein bottles and cross-surfaces, at whatever numbers. -/
theorem wget_fold (q : Nat) (r : Pu.Rule) (x : Pu.Shape) (age l t : Int) (S : List Int) (a b : Int) (w : World) (h : GrAt w q (preOf r x age) x.w x.h l t S) (hr : RuleOk r) (hf : FoldOk x) (hk : x.kind = 84 ∨ x.kind = 75 ∨ x.kind = 67)
    (hx : -9223372036854775808 ≤ a ∧ a ≤ 9223372036854775807) (hy : -9223372036854775808 ≤ b ∧ b ≤ 9223372036854775807) (l0 : -50000000 ≤ l) (l1 : l ≤ 50000000) (t0 : -50000000 ≤ t) (t1 : t ≤ 50000000) :
    Calls Tryd.prog 14 #[.pointer (some ⟨q, 0, none⟩), .int .i64 a, .int .i64 b] w fun e w' => e = .returned (.int .i64 (getP x.w x.h l t S (foldX x a b) (foldY x a b))) ∧ Kp (fun _ => False) w w' := by
  have HF := hide (fun wx => find_fold x hf a b wx hk hx hy)
  have ld := hide (fun j v => h.shape hr j v)
  have HG := hide (fun (wx : World) (hx' : GrAt wx q (preOf r x age) x.w x.h l t S) => gget_any q (preOf r x age) x.w x.h l t S (foldX x a b) (foldY x a b) wx hx' hf.w.1 hf.w.2 hf.h.1 hf.h.2 l0 l1 t0 t1)
  have H := hide h
  clear h hk hx hy hf
  go_enter Tryd.func14, Tryd.ntmps14
  go_wp2_with (refine wpList_load_at rfl 50 _ rfl q 20 rfl (shv x) ld.out _ Tryd.underlying50 rfl info_shape ?_)
  refine (HF.out _).mono ?_
  rintro e w1 ⟨rfl, k1⟩
  have G1 := hide (H.out.keep k1 (fun hx => hx))
  have K1 := hide k1
  clear k1
  go_wp2_with fail
  refine (HG.out _ G1.out).mono ?_
  rintro e w2 ⟨rfl, hw⟩
  subst w2
  go_wp2_with fail
  go_ret
  exact ⟨rfl, K1.out⟩
end Go.Proofs.YtbdbkjngdhcjpaaDoor
