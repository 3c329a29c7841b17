import Derived.Test.YtbdbkjngdhcjpaaDoorM10
import Derived.Test.YtbdbkjngdhcjpaaDoorInv
import Derived.Test.YtbdbkjngdhcjpaaDoorPx
namespace Go.Proofs.YtbdbkjngdhcjpaaDoor
open Go.RowKit
open Go.Proofs

/-- A text's bytes, as numbers. -/
def iL (L : List UInt8) : List Int := L.map fun b => (b.toNat : Int)
theorem iL_app (A B : List UInt8) : iL (A ++ B) = iL A ++ iL B := by unfold iL; rw [List.map_append]
theorem iL_len (A : List UInt8) : (iL A).length = A.length := by unfold iL; rw [List.length_map]
theorem fits_mk {f : Pu.Src} : ∀ {A B : List Int} {i : Nat}, Pu.Fits f i A → Pu.Fits f (i + A.length) B → Pu.Fits f i (A ++ B) := by
  intro A
  induction A with
  | nil => intro B i _ h; exact h
  | cons a A ih =>
    intro B i h1 h2
    refine ⟨h1.1, ih h1.2 ?_⟩
    rw [show i + 1 + A.length = i + (A.length + 1) by omega]
    exact h2
/-- From i to j there stands A. -/
def Ht (f : Pu.Src) (i j : Nat) (A : List UInt8) : Prop := Pu.Fits f i (iL A) ∧ j = i + A.length
theorem Ht.nil (f : Pu.Src) (i : Nat) : Ht f i i [] := ⟨trivial, rfl⟩
theorem Ht.app {f : Pu.Src} {i j k : Nat} {A B : List UInt8} (h : Ht f i j A) (h2 : Ht f j k B) : Ht f i k (A ++ B) := by
  obtain ⟨a1, a2⟩ := h
  obtain ⟨b1, b2⟩ := h2
  refine ⟨?_, by rw [List.length_append]; omega⟩
  rw [iL_app]
  refine fits_mk a1 ?_
  rw [iL_len, ← a2]
  exact b1
theorem b8_int {m : Int} (h0 : 0 ≤ m) (h1 : m < 256) : ((b8 m).toNat : Int) = m := by
  unfold b8
  rw [UInt8.toNat_ofNat']
  omega
theorem ht_one {f : Pu.Src} {i : Nat} {m : Int} (h : f i = m) (h0 : 0 ≤ m) (h1 : m < 256) : Ht f i (i + 1) [b8 m] := by
  refine ⟨⟨?_, trivial⟩, rfl⟩
  rw [h]
  exact (b8_int h0 h1).symm
theorem ht_take {m : Int} {f : Pu.Src} {i j : Nat} (h : Pu.take m f i = (j, some ())) (h0 : 0 ≤ m) (h1 : m < 256) : Ht f i j [b8 m] := by
  unfold Pu.take at h
  split at h
  · rename_i e
    simp at h
    subst h
    exact ht_one e h0 h1
  · simp at h
theorem ht_opt {m : Int} {f : Pu.Src} {i j : Nat} {b : Bool} (h : Pu.opt m f i = (j, some b)) (h0 : 0 ≤ m) (h1 : m < 256) : Ht f i j (if b = true then [b8 m] else []) := by
  unfold Pu.opt at h
  split at h
  · rename_i e
    simp at h
    obtain ⟨rfl, rfl⟩ := h
    exact ht_one e h0 h1
  · simp at h
    obtain ⟨rfl, rfl⟩ := h
    exact Ht.nil f i
theorem ht_letter {ms : List Int} {f : Pu.Src} {i j : Nat} {a : Int} (h : Pu.letter ms f i = (j, some a)) (hm : ∀ m, m ∈ ms → 0 ≤ m ∧ m < 256) : Ht f i j [b8 a] ∧ a ∈ ms := by
  unfold Pu.letter at h
  split at h
  · rename_i e
    simp at h
    obtain ⟨rfl, rfl⟩ := h
    exact ⟨ht_one rfl (hm _ e).1 (hm _ e).2, e⟩
  · simp at h
theorem ret_pos {α : Type} {a b : α} {f : Pu.Src} {i j : Nat} (h : Pu.ret a f i = (j, some b)) : i = j ∧ a = b := by
  unfold Pu.ret at h
  simp at h
  exact h
theorem digit_at {f : Pu.Src} {i : Nat} {d : Int} (h : Pu.digit f i = d) (h0 : 0 ≤ d) : f i = 48 + d ∧ d ≤ 9 := by
  unfold Pu.digit at h
  split at h
  · omega
  · omega
theorem itoa_digit {d : Int} (h0 : 0 ≤ d) (h9 : d ≤ 9) : Lib.itoa d = [b8 (48 + d)] := by
  unfold Lib.itoa
  rw [if_neg (by omega), Lib.decDigits, dif_pos (by omega)]
  unfold b8
  rw [show (48 + d).toNat = 48 + d.toNat by omega]
theorem itoa_more {v d : Int} (hv : 1 ≤ v) (h0 : 0 ≤ d) (h9 : d ≤ 9) : Lib.itoa (v * 10 + d) = Lib.itoa v ++ [b8 (48 + d)] := by
  unfold Lib.itoa
  rw [if_neg (by omega), if_neg (by omega), Lib.decDigits, dif_neg (by omega)]
  have e1 : (v * 10 + d).toNat / 10 = v.toNat := by omega
  have e2 : (v * 10 + d).toNat % 10 = d.toNat := by omega
  unfold b8
  rw [e1, e2, show (48 + d).toNat = 48 + d.toNat by omega]
def NumSt (f : Pu.Src) (i0 i : Nat) (v : Bool × Int) : Prop := (v = (false, 0) ∧ i = i0) ∨ (v.1 = true ∧ 0 ≤ v.2 ∧ Ht f i0 i (Lib.itoa v.2))
theorem ht_many {lo hi : Int} {f : Pu.Src} {i0 : Nat} : ∀ (n : Nat) (v v' : Bool × Int) (i j : Nat), Pu.many (Pu.numStep lo hi) n v f i = (j, some v') → NumSt f i0 i v → NumSt f i0 j v' := by
  intro n
  induction n with
  | zero =>
    intro v v' i j h hs
    unfold Pu.many at h
    simp at h
    obtain ⟨rfl, rfl⟩ := h
    exact hs
  | succ n ih =>
    intro v v' i j h hs
    unfold Pu.many at h
    cases e : Pu.numStep lo hi v (Pu.digit f i) with
    | none =>
      rw [e] at h
      simp at h
      obtain ⟨rfl, rfl⟩ := h
      exact hs
    | some u =>
      rw [e] at h
      refine ih u v' (i + 1) j h ?_
      unfold Pu.numStep at e
      split at e
      · simp at e
      · rename_i hc
        have eu := Option.some.inj e
        subst eu
        have hc1 : ¬ Pu.digit f i < 0 := fun x => hc (Or.inl x)
        have hc2 : ¬ (v.2 = 0 ∧ v.1 = true) := fun x => hc (Or.inr (Or.inl x))
        obtain ⟨d1, d2⟩ := digit_at (f := f) (i := i) rfl (by omega)
        generalize Pu.digit f i = d at *
        right
        refine ⟨rfl, ?_, ?_⟩
        · simp only
          rcases hs with ⟨rfl, _⟩ | ⟨_, hs, _⟩
          · simp only; omega
          · omega
        · simp only
          rcases hs with ⟨rfl, rfl⟩ | ⟨s1, s2, s3⟩
          · simp only
            rw [show (0 : Int) * 10 + d = d by omega, itoa_digit (by omega) d2]
            exact ht_one d1 (by omega) (by omega)
          · have : v.2 ≠ 0 := fun x => hc2 ⟨x, s1⟩
            rw [itoa_more (by omega) (by omega) d2]
            exact s3.app (ht_one d1 (by omega) (by omega))
theorem ht_number {lo hi : Int} {f : Pu.Src} {i j : Nat} {v : Int} (h : Pu.number lo hi f i = (j, some v)) : Ht f i j (Lib.itoa v) ∧ lo ≤ v ∧ v ≤ hi ∧ 0 ≤ v := by
  obtain ⟨k, u, h1, h2⟩ := Pu.bnd_inv h
  have := ht_many (i0 := i) 401 (false, 0) u i k h1 (Or.inl ⟨rfl, rfl⟩)
  split at h2
  · rename_i c
    simp at h2
    obtain ⟨rfl, rfl⟩ := h2
    rcases this with ⟨rfl, _⟩ | ⟨_, t1, t2⟩
    · exact absurd c.1 (by simp)
    · exact ⟨t2, c.2.1, c.2.2, t1⟩
  · simp at h2
/-- Sets. -/
structure SetSt (f : Pu.Src) (i0 i : Nat) (v : Int × List Bool) : Prop where
  lo : 0 ≤ v.1 ∧ v.1 ≤ 9
  len : v.2.length = 9
  up : ∀ k : Nat, v.1 ≤ k → v.2.getD k false = false
  txt : Ht f i0 i (Sv.setN v.2 v.1.toNat)
theorem setN_congr {v u : List Bool} : ∀ n : Nat, (∀ k, k < n → v.getD k false = u.getD k false) → Sv.setN v n = Sv.setN u n := by
  intro n
  induction n with
  | zero => intro _; rfl
  | succ n ih =>
    intro h
    unfold Sv.setN
    rw [h n (by omega), ih (fun k hk => h k (by omega))]
theorem setN_skip {v : List Bool} {a : Nat} : ∀ n : Nat, a ≤ n → (∀ k, a ≤ k → k < n → v.getD k false = false) → Sv.setN v n = Sv.setN v a := by
  intro n
  induction n with
  | zero => intro h _; have : a = 0 := by omega
            subst this; rfl
  | succ n ih =>
    intro h hf
    by_cases e : a = n + 1
    · rw [e]
    · show (if v.getD n false = true then Sv.setN v n ++ Lib.itoa n else Sv.setN v n) = _
      rw [if_neg (by rw [hf n (by omega) (by omega)]; simp)]
      exact ih (by omega) (fun k h1 h2 => hf k h1 (by omega))
theorem ht_sets {most : Int} {f : Pu.Src} {i0 : Nat} : ∀ (n : Nat) (v v' : Int × List Bool) (i j : Nat), Pu.many (Pu.setStep most) n v f i = (j, some v') → SetSt f i0 i v → SetSt f i0 j v' := by
  intro n
  induction n with
  | zero =>
    intro v v' i j h hs
    unfold Pu.many at h
    simp at h
    obtain ⟨rfl, rfl⟩ := h
    exact hs
  | succ n ih =>
    intro v v' i j h hs
    unfold Pu.many at h
    cases e : Pu.setStep most v (Pu.digit f i) with
    | none =>
      rw [e] at h
      simp at h
      obtain ⟨rfl, rfl⟩ := h
      exact hs
    | some u =>
      rw [e] at h
      refine ih u v' (i + 1) j h ?_
      unfold Pu.setStep at e
      split at e
      · simp at e
      · rename_i hc
        have eu := Option.some.inj e
        subst eu
        have hc1 : ¬ Pu.digit f i < 0 := fun x => hc (Or.inl x)
        have hc2 : ¬ Pu.digit f i < v.1 := fun x => hc (Or.inr (Or.inl x))
        have hc3 : ¬ 9 ≤ Pu.digit f i := fun x => hc (Or.inr (Or.inr (Or.inr x)))
        obtain ⟨d1, d2⟩ := digit_at (f := f) (i := i) rfl (by omega)
        generalize Pu.digit f i = d at *
        obtain ⟨m, rfl⟩ := Int.eq_ofNat_of_zero_le (show 0 ≤ d by omega)
        have lo := hs.lo
        have gt : ∀ k, (v.2.set m true).getD k false = if k = m then true else v.2.getD k false := by
          intro k
          unfold List.getD
          rw [List.getElem?_set]
          by_cases e : m = k
          · subst e
            rw [if_pos rfl, if_pos (by rw [hs.len]; omega), if_pos rfl]
            rfl
          · rw [if_neg e, if_neg (fun h => e h.symm)]
        refine ⟨by simp only; omega, by simp only [List.length_set]; exact hs.len, fun k hk => ?_, ?_⟩
        · simp only at hk ⊢
          rw [Int.toNat_natCast, gt, if_neg (by omega)]
          exact hs.up k (by omega)
        · simp only
          rw [Int.toNat_natCast, show ((m : Int) + 1).toNat = m + 1 by omega]
          unfold Sv.setN
          rw [if_pos (by rw [gt, if_pos rfl]), setN_congr (u := v.2) m (fun k hk => by rw [gt, if_neg (by omega)]), setN_skip (a := v.1.toNat) m (by omega) (fun k h1 _ => hs.up k (by omega)), itoa_digit (by omega) (by omega)]
          exact hs.txt.app (ht_one d1 (by omega) (by omega))
theorem ht_set {most : Int} {f : Pu.Src} {i j : Nat} {v : List Bool} (h : Pu.set most f i = (j, some v)) : Ht f i j (Sv.set v) := by
  obtain ⟨k, u, h1, h2⟩ := Pu.bnd_inv h
  obtain ⟨rfl, rfl⟩ := ret_pos h2
  have := ht_sets (i0 := i) 401 (0, Pu.noSet) u i k h1 ⟨by simp, rfl, fun k hk => by
    match k with
    | 0 => rfl
    | 1 => rfl
    | 2 => rfl
    | 3 => rfl
    | 4 => rfl
    | 5 => rfl
    | 6 => rfl
    | 7 => rfl
    | 8 => rfl
    | n + 9 => rfl, Ht.nil f i⟩
  unfold Sv.set
  have lo := this.lo
  rw [setN_skip (a := u.1.toNat) 9 (by omega) (fun k h1 _ => this.up k (by omega))]
  exact this.txt
theorem ht_states {f : Pu.Src} {i j : Nat} {c : Int} (h : Pu.states f i = (j, some c)) : Ht f i j (if 2 < c then [47] ++ Lib.itoa c else []) := by
  obtain ⟨k, b, h1, h2⟩ := Pu.bnd_inv h
  have a1 := ht_opt h1 (by omega) (by omega)
  cases b with
  | true =>
    rw [if_pos rfl] at a1 h2
    obtain ⟨n1, n2, _, _⟩ := ht_number h2
    rw [if_pos (by omega)]
    exact a1.app n1
  | false =>
    rw [if_neg (by simp)] at a1 h2
    obtain ⟨rfl, rfl⟩ := ret_pos h2
    rw [if_neg (by omega)]
    exact a1
theorem ht_rule {f : Pu.Src} {i j : Nat} {r : Pu.Rule} (h : Pu.rule f i = (j, some r)) : Ht f i j (Sv.ruleT r) := by
  obtain ⟨_, a, h1, h⟩ := Pu.bnd_inv h
  obtain ⟨_, _, h2, h⟩ := Pu.bnd_inv h
  obtain ⟨_, bs, h3, h⟩ := Pu.bnd_inv h
  obtain ⟨_, _, h4, h⟩ := Pu.bnd_inv h
  obtain ⟨_, _, h5, h⟩ := Pu.bnd_inv h
  obtain ⟨_, ss, h6, h⟩ := Pu.bnd_inv h
  obtain ⟨_, c, h7, h⟩ := Pu.bnd_inv h
  obtain ⟨rfl, rfl⟩ := ret_pos h
  have a1 := (ht_letter h1 (by simp)).1
  have a2 := ht_take h2 (by omega) (by omega)
  have a3 := ht_set h3
  have a4 := ht_take h4 (by omega) (by omega)
  have a5 := ht_take h5 (by omega) (by omega)
  have a6 := ht_set h6
  have a7 := ht_states h7
  have := ((((((a1.app a2).app a3).app a4).app a5).app a6).app a7)
  unfold Sv.ruleT
  simp only
  rw [show ([47, 83] : List UInt8) = [b8 47] ++ [b8 83] from rfl, show ([66] : List UInt8) = [b8 66] from rfl]
  simpa only [List.append_assoc] using this
theorem ht_shift {n : Int} {f : Pu.Src} {i j : Nat} {s : Int} (h : Pu.shift n f i = (j, some s)) : Ht f i j (Sv.behind s false) := by
  unfold Sv.behind
  rw [if_neg (by simp)]
  unfold Pu.shift at h
  split at h
  · obtain ⟨rfl, rfl⟩ := ret_pos h
    exact Ht.nil f i
  · obtain ⟨k, b, h1, h2⟩ := Pu.bnd_inv h
    have a1 := ht_opt h1 (by omega) (by omega)
    cases b with
    | true =>
      rw [if_pos rfl] at a1 h2
      obtain ⟨n1, n2, _, _⟩ := ht_number h2
      rw [if_neg (by omega)]
      exact a1.app n1
    | false =>
      rw [if_neg (by simp)] at a1 h2
      obtain ⟨rfl, rfl⟩ := ret_pos h2
      exact a1
theorem ht_width {k : Int} {f : Pu.Src} {i j : Nat} {a : Int × Int × Bool} (h : Pu.width k f i = (j, some a)) : Ht f i j (Lib.itoa a.1 ++ Sv.behind a.2.1 a.2.2) := by
  obtain ⟨m, w, h1, h2⟩ := Pu.bnd_inv h
  obtain ⟨n1, _⟩ := ht_number h1
  split at h2
  · obtain ⟨m2, b, h3, h4⟩ := Pu.bnd_inv h2
    obtain ⟨rfl, rfl⟩ := ret_pos h4
    have a1 := ht_opt h3 (by omega) (by omega)
    refine n1.app ?_
    unfold Sv.behind
    simp only
    cases b with
    | true => exact a1
    | false => exact a1
  · split at h2
    · obtain ⟨m2, s, h3, h4⟩ := Pu.bnd_inv h2
      obtain ⟨rfl, rfl⟩ := ret_pos h4
      exact n1.app (ht_shift h3)
    · obtain ⟨rfl, rfl⟩ := ret_pos h2
      exact n1.app (Ht.nil f _)
theorem ht_height {k w ws : Int} {wst : Bool} {f : Pu.Src} {i j : Nat} {a : Int × Int × Bool} (h : Pu.height k w ws wst f i = (j, some a)) : Ht f i j (Lib.itoa a.1 ++ Sv.behind a.2.1 a.2.2) := by
  obtain ⟨m, w, h1, h2⟩ := Pu.bnd_inv h
  obtain ⟨n1, _⟩ := ht_number h1
  split at h2
  · obtain ⟨m2, b, h3, h4⟩ := Pu.bnd_inv h2
    obtain ⟨rfl, rfl⟩ := ret_pos h4
    have a1 := ht_take h3 (by omega) (by omega)
    exact n1.app a1
  · split at h2
    · obtain ⟨rfl, rfl⟩ := ret_pos h2
      exact n1.app (Ht.nil f _)
    · obtain ⟨m2, s, h3, h4⟩ := Pu.bnd_inv h2
      obtain ⟨rfl, rfl⟩ := ret_pos h4
      exact n1.app (ht_shift h3)
theorem ht_shape {f : Pu.Src} {i j : Nat} {x : Pu.Shape} (h : Pu.shape f i = (j, some x)) : Ht f i j (Sv.shapeT x) := by
  obtain ⟨_, k, h1, h⟩ := Pu.bnd_inv h
  obtain ⟨_, a, h2, h⟩ := Pu.bnd_inv h
  obtain ⟨_, _, h3, h⟩ := Pu.bnd_inv h
  obtain ⟨_, b, h4, h⟩ := Pu.bnd_inv h
  obtain ⟨rfl, rfl⟩ := ret_pos h
  have a1 := (ht_letter h1 (by simp)).1
  have a2 := ht_width h2
  have a3 := ht_take h3 (by omega) (by omega)
  have a4 := ht_height h4
  exact ((a1.app a2).app a3).app a4
theorem ht_signed {m : Int} {f : Pu.Src} {i j : Nat} {v : Int} (h : Pu.signed m f i = (j, some v)) : Ht f i j (Lib.itoa v) := by
  obtain ⟨k, b, h1, h2⟩ := Pu.bnd_inv h
  have a1 := ht_opt h1 (by omega) (by omega)
  cases b with
  | true =>
    rw [if_pos rfl] at a1 h2
    obtain ⟨k2, u, h3, h4⟩ := Pu.bnd_inv h2
    obtain ⟨rfl, rfl⟩ := ret_pos h4
    obtain ⟨n1, n2, _, _⟩ := ht_number h3
    have e : Lib.itoa (-u) = [b8 45] ++ Lib.itoa u := by
      unfold Lib.itoa
      rw [if_pos (by omega), if_neg (by omega), show (-u).natAbs = u.toNat by omega]
      rfl
    rw [e]
    exact a1.app n1
  | false =>
    rw [if_neg (by simp)] at a1 h2
    have := a1.app (ht_number h2).1
    simpa using this
theorem ht_place {f : Pu.Src} {i j : Nat} {a : Int × Int} (h : Pu.place f i = (j, some a)) : Ht f i j (Sv.placeT a.1 a.2 ++ [32]) := by
  obtain ⟨_, x, h1, h⟩ := Pu.bnd_inv h
  obtain ⟨_, _, h2, h⟩ := Pu.bnd_inv h
  obtain ⟨_, y, h3, h⟩ := Pu.bnd_inv h
  obtain ⟨_, _, h4, h⟩ := Pu.bnd_inv h
  obtain ⟨rfl, rfl⟩ := ret_pos h
  exact (((ht_signed h1).app (ht_take h2 (by omega) (by omega))).app (ht_signed h3)).app (ht_take h4 (by omega) (by omega))
/-- The runs of a text, as they are written. -/
def toP (r : Pu.Run) : Nat × UInt8 := (r.count.toNat, if r.down = true then 36 else b8 (Pu.stateLetter r.state))
theorem ht_count {f : Pu.Src} {i j : Nat} {n : Int} (h : Pu.count f i = (j, some n)) : Ht f i j (if 1 < n.toNat then Lib.itoa (n.toNat : Int) else []) ∧ 1 ≤ n ∧ n ≤ 99 := by
  unfold Pu.count at h
  split at h
  · obtain ⟨n1, n2, n3, n4⟩ := ht_number h
    rw [if_pos (by omega), show ((n.toNat : Nat) : Int) = n by omega]
    exact ⟨n1, by omega, n3⟩
  · simp at h
    obtain ⟨rfl, rfl⟩ := h
    exact ⟨Ht.nil f i, by omega, by omega⟩
theorem stateL {c : Int} (hc : c ≤ 9) {m : Int} (h : m ∈ Pu.letters c) : (0 ≤ m ∧ m < 256) ∧ Pu.stateLetter (if m = 46 then 0 else m - 64) = m := by
  unfold Pu.letters at h
  rw [List.mem_map] at h
  obtain ⟨k, hk, rfl⟩ := h
  have hk := List.mem_range.1 hk
  have : ∀ k : Fin 9, (0 ≤ Pu.stateLetter (k.val : Int) ∧ Pu.stateLetter (k.val : Int) < 256) ∧ Pu.stateLetter (if Pu.stateLetter (k.val : Int) = 46 then 0 else Pu.stateLetter (k.val : Int) - 64) = Pu.stateLetter (k.val : Int) := by decide
  exact this ⟨k, by omega⟩
theorem ht_run {c : Int} (hc : c ≤ 9) {f : Pu.Src} {i j : Nat} {r : Pu.Run} (h : Pu.run c f i = (j, some r)) : Ht f i j (wr [toP r]) ∧ 1 ≤ r.count ∧ r.count ≤ 99 := by
  obtain ⟨_, n, h1, h⟩ := Pu.bnd_inv h
  obtain ⟨_, b, h2, h⟩ := Pu.bnd_inv h
  obtain ⟨a1, a2, a3⟩ := ht_count h1
  have a4 := ht_opt h2 (by omega) (by omega)
  cases b with
  | true =>
    rw [if_pos rfl] at a4 h
    obtain ⟨rfl, rfl⟩ := ret_pos h
    refine ⟨?_, a2, a3⟩
    have := a1.app a4
    show Ht f i _ ((if 1 < n.toNat then Lib.itoa (n.toNat : Int) else []) ++ [b8 36] ++ [])
    rw [List.append_nil]
    exact this
  | false =>
    rw [if_neg (by simp)] at a4 h
    obtain ⟨_, s, h3, h⟩ := Pu.bnd_inv h
    obtain ⟨rfl, rfl⟩ := ret_pos h
    obtain ⟨_, m, h4, h5⟩ := Pu.bnd_inv h3
    obtain ⟨rfl, rfl⟩ := ret_pos h5
    obtain ⟨b1, b2⟩ := ht_letter h4 (fun m hm => (stateL hc hm).1)
    refine ⟨?_, a2, a3⟩
    have := a1.app (a4.app b1)
    show Ht f i _ ((if 1 < n.toNat then Lib.itoa (n.toNat : Int) else []) ++ [b8 (Pu.stateLetter (if m = 46 then 0 else m - 64))] ++ [])
    rw [(stateL hc b2).2, List.append_nil]
    exact this
theorem ht_body {c : Int} (hc : c ≤ 9) {f : Pu.Src} : ∀ (n : Nat) (acc rs : List Pu.Run) (i j : Nat), Pu.body c n acc f i = (j, some rs) → ∃ new, rs = acc ++ new ∧ Ht f i j (wr (new.map toP) ++ [33]) ∧ f j = -1 ∧ ∀ r, r ∈ new → 1 ≤ r.count ∧ r.count ≤ 99 := by
  intro n
  induction n with
  | zero => intro acc rs i j h; simp [Pu.body] at h
  | succ n ih =>
    intro acc rs i j h
    unfold Pu.body at h
    split at h
    · simp at h
    · split at h
      · rename_i e
        split at h
        · rename_i e2
          simp at h
          obtain ⟨rfl, rfl⟩ := h
          exact ⟨[], by simp, ht_one e (by omega) (by omega), e2, by simp⟩
        · simp at h
      · rcases e : Pu.run c f i with ⟨k, _ | r⟩
        · rw [e] at h
          simp at h
        · rw [e] at h
          simp only at h
          obtain ⟨new, h1, h2, h3, h4⟩ := ih _ _ _ _ h
          obtain ⟨a1, a2, a3⟩ := ht_run hc e
          refine ⟨r :: new, by rw [h1]; simp, ?_, h3, ?_⟩
          · have := a1.app h2
            rw [← List.append_assoc, ← wr_app] at this
            exact this
          · intro q hq
            rcases List.mem_cons.1 hq with rfl | hq
            · exact ⟨a2, a3⟩
            · exact h4 q hq
/-- All of a right text. -/
theorem ht_read {f : Pu.Src} {j : Nat} {p : Pu.Parts} (h : Pu.read f = (j, some p)) : ∃ i k, Pu.head f 0 = (i, some (p.rule, p.shape, p.age)) ∧ Ht f 0 i (Sv.headT p.rule p.shape p.age ++ [32]) ∧ Ht f i k (Sv.placeT p.col p.row ++ [32]) ∧ Ht f k j (wr (p.runs.map toP) ++ [33]) ∧ f j = -1 ∧ ∀ r, r ∈ p.runs → 1 ≤ r.count ∧ r.count ≤ 99 := by
  have hp := Pu.read_inv h
  unfold Pu.read at h
  rcases e : Pu.pre f 0 with ⟨k, _ | a⟩
  · simp [e] at h
  · simp only [e] at h
    rcases e2 : Pu.body a.1.1.states 401 [] f k with ⟨j', _ | rs⟩
    · simp [e2] at h
    · simp only [e2] at h
      have hj : j' = j := (Prod.mk.inj h).1
      have hq := Option.some.inj (Prod.mk.inj h).2
      clear h
      subst hj
      subst hq
      have hc9 : a.1.1.states ≤ 9 := hp.states.2
      obtain ⟨new, n1, n2, n3, n4⟩ := ht_body hc9 401 [] rs k j' e2
      clear e2
      rw [List.nil_append] at n1
      subst n1
      obtain ⟨i, x, hx, h2⟩ := Pu.bnd_inv e
      obtain ⟨k', y, hy, h3⟩ := Pu.bnd_inv h2
      obtain ⟨rfl, rfl⟩ := ret_pos h3
      refine ⟨i, k', hx, ?_, ht_place hy, n2, n3, n4⟩
      obtain ⟨_, r, q1, hx⟩ := Pu.bnd_inv hx
      obtain ⟨_, _, q2, hx⟩ := Pu.bnd_inv hx
      obtain ⟨_, x', q3, hx⟩ := Pu.bnd_inv hx
      obtain ⟨_, _, q4, hx⟩ := Pu.bnd_inv hx
      obtain ⟨_, g, q5, hx⟩ := Pu.bnd_inv hx
      obtain ⟨_, _, q6, hx⟩ := Pu.bnd_inv hx
      obtain ⟨rfl, rfl⟩ := ret_pos hx
      exact ((((((ht_rule q1).app (ht_take q2 (by omega) (by omega))).app (ht_shape q3)).app (ht_take q4 (by omega) (by omega))).app (ht_number q5).1).app (ht_take q6 (by omega) (by omega)))
end Go.Proofs.YtbdbkjngdhcjpaaDoor
