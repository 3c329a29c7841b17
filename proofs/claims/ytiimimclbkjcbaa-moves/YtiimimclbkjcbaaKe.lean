import Derived.Test.YtiimimclbkjcbaaM16
import Derived.Test.YtiimimclbkjcbaaIk
namespace Go.Proofs.Ytiimimclbkjcbaa
open Go.RowKit
open Go.Proofs

/-- What Get tells where every pair of numbers folds. -/
def foldG (x : Pu.Shape) (S : List Int) (X Y : Int) : Int := getP x.w x.h 0 0 S (foldX x X Y) (foldY x X Y)
theorem split_of {n q r : Int} (hn : 0 < n) (h0 : 0 ≤ r) (h1 : r < n) : splitQ (q * n + r) n = q ∧ splitR (q * n + r) n = r := by
  unfold splitQ splitR
  rw [if_neg (by omega), if_neg (by omega)]
  constructor
  · rw [Int.add_comm, Int.add_mul_ediv_right _ _ (by omega), Int.ediv_eq_zero_of_lt h0 h1, Int.zero_add]
  · rw [Int.add_comm, Int.add_mul_emod_self_right, Int.emod_eq_of_lt h0 h1]
theorem split_eq (a n : Int) (hn : 0 < n) : a = splitQ a n * n + splitR a n := by
  unfold splitQ splitR
  rw [if_neg (by omega), if_neg (by omega)]
  have := Int.mul_ediv_add_emod a n
  rw [Int.mul_comm] at this
  omega
theorem shiftP_bd {a k s n : Int} (h : 0 ≤ a ∧ a < n) : 0 ≤ shiftP a k s n ∧ shiftP a k s n < n := by
  unfold shiftP
  split
  · exact h
  · exact ⟨Int.emod_nonneg _ (by omega), Int.emod_lt_of_pos _ (by omega)⟩
theorem fold_bd {x : Pu.Shape} (h : Two x) (X Y : Int) : (0 ≤ foldX x X Y ∧ foldX x X Y < x.w) ∧ (0 ≤ foldY x X Y ∧ foldY x X Y < x.h) := by
  obtain ⟨h1, h2, h3, h4⟩ := h
  exact ⟨shiftP_bd (turnP_bd (splitR_bd h1)), shiftP_bd (turnP_bd (splitR_bd h3))⟩
theorem getP_two {x : Pu.Shape} (h : Two x) (S : List Int) {a b : Int} (ha : 0 ≤ a ∧ a < x.w) (hb : 0 ≤ b ∧ b < x.h) : getP x.w x.h 0 0 S a b = S.getD (b * x.w + a).toNat 0 := by
  have sl := slot_two h ha hb
  unfold getP
  rw [sl.1, if_neg (by omega)]
theorem flat_nat (W : Nat) (i j : Nat) (w : Int) (hw : w = W) : ((j : Int) * w + (i : Int)).toNat = j * W + i := by
  rw [hw, ← Int.natCast_mul, ← Int.natCast_add]
  rfl
/-- A cell of the second world is the first one's in the mirror. -/
theorem rel_mirror {x : Pu.Shape} (h : Two x) {W H : Nat} (hW : x.w = W) (hH : x.h = H) {Su Sw : List Int} (hr : RelU false W Su Sw (H * W)) {a b : Int} (ha : 0 ≤ a ∧ a < x.w) (hb : 0 ≤ b ∧ b < x.h) : getP x.w x.h 0 0 Sw a b = getP x.w x.h 0 0 Su (x.w - 1 - a) b := by
  obtain ⟨i, rfl⟩ := Int.eq_ofNat_of_zero_le ha.1
  obtain ⟨j, rfl⟩ := Int.eq_ofNat_of_zero_le hb.1
  have hi : i < W := by omega
  have hj : j < H := by omega
  have e : x.w - 1 - (i : Int) = ((W - 1 - i : Nat) : Int) := by omega
  rw [e, getP_two h Sw ha hb, getP_two h Su (by omega) hb, flat_nat W i j x.w hW, flat_nat W (W - 1 - i) j x.w hW]
  have hk : j * W + (W - 1 - i) < H * W := by
    have h1 : (j + 1) * W ≤ H * W := Nat.mul_le_mul_right W hj
    rw [Nat.add_mul] at h1
    omega
  have := hr (W - 1 - i) j (by omega) hk
  unfold TX TY at this
  rw [if_neg (by simp), if_neg (by simp), show W - 1 - (W - 1 - i) = i by omega] at this
  exact this
theorem rel_turn {x : Pu.Shape} (h : Two x) {W : Nat} (hW : x.w = W) (hH : x.h = W) {Su Sw : List Int} (hr : RelU true W Su Sw (W * W)) {a b : Int} (ha : 0 ≤ a ∧ a < x.w) (hb : 0 ≤ b ∧ b < x.h) : getP x.w x.h 0 0 Sw a b = getP x.w x.h 0 0 Su b a := by
  obtain ⟨i, rfl⟩ := Int.eq_ofNat_of_zero_le ha.1
  obtain ⟨j, rfl⟩ := Int.eq_ofNat_of_zero_le hb.1
  have hi : i < W := by omega
  have hj : j < W := by omega
  rw [getP_two h Sw ha hb, getP_two h Su (by omega) (by omega), flat_nat W i j x.w hW, flat_nat W j i x.w hW]
  have hk : i * W + j < W * W := by
    have h1 : (i + 1) * W ≤ W * W := Nat.mul_le_mul_right W hi
    rw [Nat.add_mul] at h1
    omega
  have := hr j i hj hk
  unfold TX TY at this
  rw [if_pos rfl, if_pos rfl] at this
  exact this
theorem plane_mirror {x : Pu.Shape} (h : Two x) {W H : Nat} (hW : x.w = W) (hH : x.h = H) {Su Sw : List Int} (hr : RelU false W Su Sw (H * W)) (X Y : Int) : planeG x Sw X Y = planeG x Su ((W : Int) - 1 - X) Y := by
  unfold planeG
  have e : hasB x X Y = hasB x ((W : Int) - 1 - X) Y := by
    unfold hasB onSideB
    obtain ⟨h1, h2, h3, h4⟩ := h
    rw [Bool.eq_iff_iff]
    simp
    omega
  rw [← e]
  by_cases hb : hasB x X Y = true
  · rw [if_pos hb, if_pos hb]
    unfold hasB onSideB at hb
    obtain ⟨h1, h2, h3, h4⟩ := h
    simp at hb
    rw [rel_mirror ⟨h1, h2, h3, h4⟩ hW hH hr (by omega) (by omega), hW]
  · rw [if_neg hb, if_neg hb]
theorem plane_turn {x : Pu.Shape} (h : Two x) {W : Nat} (hW : x.w = W) (hH : x.h = W) {Su Sw : List Int} (hr : RelU true W Su Sw (W * W)) (X Y : Int) : planeG x Sw X Y = planeG x Su Y X := by
  unfold planeG
  have e : hasB x X Y = hasB x Y X := by
    unfold hasB onSideB
    rw [Bool.eq_iff_iff, hW, hH]
    simp
    omega
  rw [← e]
  by_cases hb : hasB x X Y = true
  · rw [if_pos hb, if_pos hb]
    unfold hasB onSideB at hb
    obtain ⟨h1, h2, h3, h4⟩ := h
    simp at hb
    rw [rel_turn ⟨h1, h2, h3, h4⟩ hW hH hr (by omega) (by omega)]
  · rw [if_neg hb, if_neg hb]
theorem turnP_mirror (t : Bool) (k n c : Int) : turnP t k n (n - 1 - c) = n - 1 - turnP t k n c := by
  unfold turnP
  split <;> omega
theorem turnP_parity (t : Bool) {k k' : Int} (h : k % 2 = k' % 2) (n c : Int) : turnP t k n c = turnP t k' n c := by
  unfold turnP
  rw [h]
theorem fold_mirror {x : Pu.Shape} (h : Two x) (h1 : x.ws = 0) (h2 : x.hs = 0) (X Y : Int) : foldX x (x.w - 1 - X) Y = x.w - 1 - foldX x X Y ∧ foldY x (x.w - 1 - X) Y = foldY x X Y := by
  obtain ⟨t1, t2, t3, t4⟩ := h
  have e := split_eq X x.w t1
  have b := splitR_bd (a := X) t1
  have e2 : x.w - 1 - X = (-splitQ X x.w) * x.w + (x.w - 1 - splitR X x.w) := by
    rw [Int.neg_mul]
    omega
  have s := split_of (q := -splitQ X x.w) t1 (show 0 ≤ x.w - 1 - splitR X x.w by omega) (by omega)
  rw [← e2] at s
  unfold foldX foldY shiftP
  rw [if_pos h1, if_pos h1, if_pos h2, if_pos h2, s.1, s.2]
  exact ⟨turnP_mirror _ _ _ _, turnP_parity _ (by omega) _ _⟩
theorem foldG_mirror {x : Pu.Shape} (h : Two x) (h1 : x.ws = 0) (h2 : x.hs = 0) {W H : Nat} (hW : x.w = W) (hH : x.h = H) {Su Sw : List Int} (hr : RelU false W Su Sw (H * W)) (X Y : Int) : foldG x Sw X Y = foldG x Su ((W : Int) - 1 - X) Y := by
  unfold foldG
  have f := fold_mirror h h1 h2 X Y
  have b := fold_bd h X Y
  rw [rel_mirror h hW hH hr b.1 b.2, ← hW, f.1, f.2]

/-- The heart of it: around the cell to which (x, y) folds lies what lies around (x, y), in the mirror or not. -/
theorem fold_around {x : Pu.Shape} (h : Two x) (h1 : x.ws = 0) (h2 : x.hs = 0) (X Y dx dy : Int) :
    foldX x (foldX x X Y + dx) (foldY x X Y + dy) = foldX x (if turnW x = true ∧ splitQ Y x.h % 2 = 1 then X - dx else X + dx) (if turnH x = true ∧ splitQ X x.w % 2 = 1 then Y - dy else Y + dy) ∧
    foldY x (foldX x X Y + dx) (foldY x X Y + dy) = foldY x (if turnW x = true ∧ splitQ Y x.h % 2 = 1 then X - dx else X + dx) (if turnH x = true ∧ splitQ X x.w % 2 = 1 then Y - dy else Y + dy) := by
  obtain ⟨t1, t2, t3, t4⟩ := h
  have eX := split_eq X x.w t1
  have bX := splitR_bd (a := X) t1
  have eY := split_eq Y x.h t3
  have bY := splitR_bd (a := Y) t3
  have fX : foldX x X Y = if turnW x = true ∧ splitQ Y x.h % 2 = 1 then x.w - 1 - splitR X x.w else splitR X x.w := by unfold foldX shiftP turnP; rw [if_pos h1]
  have fY : foldY x X Y = if turnH x = true ∧ splitQ X x.w % 2 = 1 then x.h - 1 - splitR Y x.h else splitR Y x.h := by unfold foldY shiftP turnP; rw [if_pos h2]
  generalize splitQ X x.w = a at *
  generalize splitR X x.w = x0 at *
  generalize splitQ Y x.h = b at *
  generalize splitR Y x.h = y0 at *
  generalize hU : foldX x X Y + dx = U at *
  generalize hV : foldY x X Y + dy = V at *
  have eU := split_eq U x.w t1
  have bU := splitR_bd (a := U) t1
  have eV := split_eq V x.h t3
  have bV := splitR_bd (a := V) t3
  generalize hau : splitQ U x.w = a' at *
  generalize hu0 : splitR U x.w = u0 at *
  generalize hbv : splitQ V x.h = b' at *
  generalize hv0 : splitR V x.h = v0 at *
  have m1 : (a + a') * x.w = a * x.w + a' * x.w := Int.add_mul _ _ _
  have m2 : (a - a') * x.w = a * x.w - a' * x.w := Int.sub_mul _ _ _
  have m3 : (b + b') * x.h = b * x.h + b' * x.h := Int.add_mul _ _ _
  have m4 : (b - b') * x.h = b * x.h - b' * x.h := Int.sub_mul _ _ _
  have sX : ∃ A c0, splitQ (if turnW x = true ∧ b % 2 = 1 then X - dx else X + dx) x.w = A ∧ splitR (if turnW x = true ∧ b % 2 = 1 then X - dx else X + dx) x.w = c0 ∧ A % 2 = (a + a') % 2 ∧ c0 = (if turnW x = true ∧ b % 2 = 1 then x.w - 1 - u0 else u0) := by
    by_cases c : turnW x = true ∧ b % 2 = 1
    · rw [if_pos c] at fX ⊢
      have e : X - dx = (a - a') * x.w + (x.w - 1 - u0) := by omega
      have s := split_of (q := a - a') t1 (show 0 ≤ x.w - 1 - u0 by omega) (by omega)
      rw [← e] at s
      exact ⟨_, _, s.1, s.2, by omega, by rw [if_pos c]⟩
    · rw [if_neg c] at fX ⊢
      have e : X + dx = (a + a') * x.w + u0 := by omega
      have s := split_of (q := a + a') t1 bU.1 bU.2
      rw [← e] at s
      exact ⟨_, _, s.1, s.2, by omega, by rw [if_neg c]⟩
  have sY : ∃ B d0, splitQ (if turnH x = true ∧ a % 2 = 1 then Y - dy else Y + dy) x.h = B ∧ splitR (if turnH x = true ∧ a % 2 = 1 then Y - dy else Y + dy) x.h = d0 ∧ B % 2 = (b + b') % 2 ∧ d0 = (if turnH x = true ∧ a % 2 = 1 then x.h - 1 - v0 else v0) := by
    by_cases c : turnH x = true ∧ a % 2 = 1
    · rw [if_pos c] at fY ⊢
      have e : Y - dy = (b - b') * x.h + (x.h - 1 - v0) := by omega
      have s := split_of (q := b - b') t3 (show 0 ≤ x.h - 1 - v0 by omega) (by omega)
      rw [← e] at s
      exact ⟨_, _, s.1, s.2, by omega, by rw [if_pos c]⟩
    · rw [if_neg c] at fY ⊢
      have e : Y + dy = (b + b') * x.h + v0 := by omega
      have s := split_of (q := b + b') t3 bV.1 bV.2
      rw [← e] at s
      exact ⟨_, _, s.1, s.2, by omega, by rw [if_neg c]⟩
  obtain ⟨A, c0, q1, q2, q3, q4⟩ := sX
  obtain ⟨B, d0, p1, p2, p3, p4⟩ := sY
  unfold foldX foldY shiftP
  rw [if_pos h1, if_pos h1, if_pos h2, if_pos h2, q1, q2, p1, p2, hau, hu0, hbv, hv0]
  unfold turnP
  clear fX fY hU hV eX eY eU eV m1 m2 m3 m4 q1 q2 p1 p2 hau hu0 hbv hv0
  subst q4
  subst p4
  generalize turnW x = tw
  generalize turnH x = th
  have pa : a % 2 = 0 ∨ a % 2 = 1 := by omega
  have pb : b % 2 = 0 ∨ b % 2 = 1 := by omega
  have pa' : a' % 2 = 0 ∨ a' % 2 = 1 := by omega
  have pb' : b' % 2 = 0 ∨ b' % 2 = 1 := by omega
  have pA : A % 2 = 0 ∨ A % 2 = 1 := by omega
  have pB : B % 2 = 0 ∨ B % 2 = 1 := by omega
  constructor
  · cases tw
    · simp only [Bool.false_eq_true, false_and, if_false]
    · simp only [true_and]
      rcases pb with e | e <;> rcases pb' with e' | e' <;> rcases pB with e2 | e2 <;> simp only [e, e', e2] <;> simp <;> omega
  · cases th
    · simp only [Bool.false_eq_true, false_and, if_false]
    · simp only [true_and]
      rcases pa with e | e <;> rcases pa' with e' | e' <;> rcases pA with e2 | e2 <;> simp only [e, e', e2] <;> simp <;> omega
end Go.Proofs.Ytiimimclbkjcbaa
