import Derived.Test.YtbdbkjngdhcjpaaDoorXj
namespace Go.Proofs.YtbdbkjngdhcjpaaDoor
open Go.RowKit
open Go.Proofs

theorem many_none {σ : Type} {step : σ → Int → Option σ} {n : Nat} {v : σ} {f : Pu.Src} {i : Nat} (h : step v (Pu.digit f i) = none) : Pu.many step (n + 1) v f i = (i, some v) := by
  unfold Pu.many
  rw [h]
theorem many_some {σ : Type} {step : σ → Int → Option σ} {n : Nat} {v v' : σ} {f : Pu.Src} {i : Nat} (h : step v (Pu.digit f i) = some v') : Pu.many step (n + 1) v f i = Pu.many step n v' f (i + 1) := by
  conv => lhs; unfold Pu.many
  rw [h]
theorem dig_fin (f : Pu.Src) (i : Nat) : ∃ d : Fin 11, Pu.digit f i = (d.val : Int) - 1 := by
  have := Pu.digit_bd f i
  exact ⟨⟨(Pu.digit f i + 1).toNat, by omega⟩, by simp only; omega⟩
theorem t1 : ∀ d : Fin 11, Pu.numStep 1 12 (false, 0) ((d.val : Int) - 1) = if 1 ≤ (d.val : Int) - 1 then some (true, (d.val : Int) - 1) else none := by decide
theorem t2 : ∀ v : Fin 9, ∀ d : Fin 11, Pu.numStep 1 12 (true, (v.val : Int) + 1) ((d.val : Int) - 1) = if v.val = 0 ∧ 0 ≤ (d.val : Int) - 1 ∧ (d.val : Int) - 1 ≤ 2 then some (true, 10 + ((d.val : Int) - 1)) else none := by decide
theorem t3 : ∀ v : Fin 3, ∀ d : Fin 11, Pu.numStep 1 12 (true, (v.val : Int) + 10) ((d.val : Int) - 1) = none := by decide
theorem tA : ∀ v : Fin 9, ∀ d : Fin 11, Pu.numStep ((v.val : Int) + 1) ((v.val : Int) + 1) (false, 0) ((d.val : Int) - 1) = if (d.val : Int) - 1 = (v.val : Int) + 1 then some (true, (v.val : Int) + 1) else none := by decide
theorem tB : ∀ v : Fin 9, ∀ d : Fin 11, Pu.numStep ((v.val : Int) + 1) ((v.val : Int) + 1) (true, (v.val : Int) + 1) ((d.val : Int) - 1) = none := by decide
theorem tC : ∀ v : Fin 3, ∀ d : Fin 11, Pu.numStep ((v.val : Int) + 10) ((v.val : Int) + 10) (false, 0) ((d.val : Int) - 1) = if (d.val : Int) - 1 = 1 then some (true, 1) else none := by decide
theorem tD : ∀ v : Fin 3, ∀ d : Fin 11, Pu.numStep ((v.val : Int) + 10) ((v.val : Int) + 10) (true, 1) ((d.val : Int) - 1) = if (d.val : Int) - 1 = (v.val : Int) then some (true, (v.val : Int) + 10) else none := by decide
theorem tE : ∀ v : Fin 3, ∀ d : Fin 11, Pu.numStep ((v.val : Int) + 10) ((v.val : Int) + 10) (true, (v.val : Int) + 10) ((d.val : Int) - 1) = none := by decide
theorem digit_pos {f : Pu.Src} {i : Nat} {d : Int} (h : Pu.digit f i = d) (h0 : 0 ≤ d) : f i = 48 + d := by
  unfold Pu.digit at h
  split at h <;> omega
theorem number_end {lo hi : Int} {f : Pu.Src} {i j : Nat} {v : Bool × Int} (h : Pu.many (Pu.numStep lo hi) 401 (false, 0) f i = (j, some v)) : Pu.number lo hi f i = (j, if v.1 = true ∧ lo ≤ v.2 ∧ v.2 ≤ hi then some v.2 else none) := by
  unfold Pu.number
  rw [bnd_some h]

theorem number_side {f : Pu.Src} {i j : Nat} {W : Int} (h : Pu.number 1 12 f i = (j, some W)) : (1 ≤ W ∧ W ≤ 9 ∧ j = i + 1 ∧ f i = 48 + W) ∨ (10 ≤ W ∧ W ≤ 12 ∧ j = i + 2 ∧ f i = 49 ∧ f (i + 1) = 38 + W) := by
  obtain ⟨d, hd⟩ := dig_fin f i
  have h1 := t1 d
  rw [← hd] at h1
  by_cases c1 : 1 ≤ Pu.digit f i
  · rw [if_pos c1] at h1
    obtain ⟨e, he⟩ := dig_fin f (i + 1)
    have hdb := Pu.digit_bd f i
    have h2 := t2 ⟨(Pu.digit f i - 1).toNat, by omega⟩ e
    have ev : ((Pu.digit f i - 1).toNat : Int) + 1 = Pu.digit f i := by omega
    simp only [ev] at h2
    rw [← he] at h2
    by_cases c2 : (Pu.digit f i - 1).toNat = 0 ∧ 0 ≤ Pu.digit f (i + 1) ∧ Pu.digit f (i + 1) ≤ 2
    · rw [if_pos c2] at h2
      obtain ⟨g, hg⟩ := dig_fin f (i + 1 + 1)
      have h3 := t3 ⟨(Pu.digit f (i + 1)).toNat, by omega⟩ g
      have ew : ((Pu.digit f (i + 1)).toNat : Int) + 10 = 10 + Pu.digit f (i + 1) := by omega
      simp only [ew] at h3
      rw [← hg] at h3
      have hm : Pu.many (Pu.numStep 1 12) 401 (false, 0) f i = (i + 1 + 1, some (true, 10 + Pu.digit f (i + 1))) := by
        rw [many_some (n := 400) h1, many_some (n := 399) h2, many_none (n := 398) h3]
      rw [number_end hm, if_pos ⟨rfl, by simp only; omega, by simp only; omega⟩] at h
      obtain ⟨e1, e2⟩ := Prod.mk.inj h
      have e2 := Option.some.inj e2
      simp only at e2
      right
      have u1 := digit_pos (f := f) (i := i) rfl (by omega)
      have u2 := digit_pos (f := f) (i := i + 1) rfl (by omega)
      omega
    · rw [if_neg c2] at h2
      have hm : Pu.many (Pu.numStep 1 12) 401 (false, 0) f i = (i + 1, some (true, Pu.digit f i)) := by
        rw [many_some (n := 400) h1, many_none (n := 399) h2]
      rw [number_end hm, if_pos ⟨rfl, by simp only; omega, by simp only; omega⟩] at h
      obtain ⟨e1, e2⟩ := Prod.mk.inj h
      have e2 := Option.some.inj e2
      simp only at e2
      left
      have u1 := digit_pos (f := f) (i := i) rfl (by omega)
      omega
  · rw [if_neg c1] at h1
    rw [number_end (many_none (n := 400) h1), if_neg (by simp)] at h
    cases (Prod.mk.inj h).2
theorem digit_is {f : Pu.Src} {i : Nat} {d : Int} (h0 : 0 ≤ d) (h9 : d ≤ 9) : Pu.digit f i = d ↔ f i = 48 + d := by
  unfold Pu.digit
  split <;> omega
theorem number_low {W : Int} (h1 : 1 ≤ W) (h9 : W ≤ 9) (f : Pu.Src) (i : Nat) : Pu.number W W f i = if f i = 48 + W then (i + 1, some W) else (i, none) := by
  obtain ⟨d, hd⟩ := dig_fin f i
  have hA := tA ⟨(W - 1).toNat, by omega⟩ d
  have ev : ((W - 1).toNat : Int) + 1 = W := by omega
  simp only [ev] at hA
  rw [← hd] at hA
  by_cases c : f i = 48 + W
  · rw [if_pos c]
    rw [if_pos ((digit_is (by omega) h9).2 c)] at hA
    obtain ⟨e, he⟩ := dig_fin f (i + 1)
    have hB := tB ⟨(W - 1).toNat, by omega⟩ e
    simp only [ev] at hB
    rw [← he] at hB
    have hm : Pu.many (Pu.numStep W W) 401 (false, 0) f i = (i + 1, some (true, W)) := by rw [many_some (n := 400) hA, many_none (n := 399) hB]
    rw [number_end hm, if_pos ⟨rfl, Int.le_refl _, Int.le_refl _⟩]
  · rw [if_neg c]
    rw [if_neg (fun h => c ((digit_is (by omega) h9).1 h))] at hA
    rw [number_end (many_none (n := 400) hA), if_neg (by simp)]
theorem number_high {W : Int} (h1 : 10 ≤ W) (h9 : W ≤ 12) (f : Pu.Src) (i : Nat) : Pu.number W W f i = if f i = 49 then (if f (i + 1) = 38 + W then (i + 2, some W) else (i + 1, none)) else (i, none) := by
  obtain ⟨d, hd⟩ := dig_fin f i
  have hC := tC ⟨(W - 10).toNat, by omega⟩ d
  have ev : ((W - 10).toNat : Int) + 10 = W := by omega
  simp only [ev] at hC
  rw [← hd] at hC
  by_cases c : f i = 49
  · rw [if_pos c]
    rw [if_pos ((digit_is (by omega) (by omega)).2 (by omega))] at hC
    obtain ⟨e, he⟩ := dig_fin f (i + 1)
    have hD := tD ⟨(W - 10).toNat, by omega⟩ e
    simp only [ev] at hD
    rw [← he] at hD
    by_cases c2 : f (i + 1) = 38 + W
    · rw [if_pos c2]
      rw [if_pos ((digit_is (by omega) (by omega)).2 (by omega))] at hD
      obtain ⟨g, hg⟩ := dig_fin f (i + 1 + 1)
      have hE := tE ⟨(W - 10).toNat, by omega⟩ g
      simp only [ev] at hE
      rw [← hg] at hE
      have hm : Pu.many (Pu.numStep W W) 401 (false, 0) f i = (i + 1 + 1, some (true, W)) := by rw [many_some (n := 400) hC, many_some (n := 399) hD, many_none (n := 398) hE]
      rw [number_end hm, if_pos ⟨rfl, Int.le_refl _, Int.le_refl _⟩]
    · rw [if_neg c2]
      rw [if_neg (fun h => c2 (by have := (digit_is (f := f) (i := i + 1) (d := ((W - 10).toNat : Int)) (by omega) (by omega)).1 h; omega))] at hD
      have hm : Pu.many (Pu.numStep W W) 401 (false, 0) f i = (i + 1, some (true, 1)) := by rw [many_some (n := 400) hC, many_none (n := 399) hD]
      rw [number_end hm, if_neg (by simp only; omega)]
  · rw [if_neg c]
    rw [if_neg (fun h => c (by have := (digit_is (f := f) (i := i) (d := 1) (by omega) (by omega)).1 h; omega))] at hC
    rw [number_end (many_none (n := 400) hC), if_neg (by simp)]
/-- A side's own digits once more are the side once more. -/
theorem lits_side {f : Pu.Src} {i j : Nat} {W : Int} (h : Pu.number 1 12 f i = (j, some W)) (k : Nat) : lits (bytesF f i (j - i)) f k = ((Pu.number W W f k).1, (Pu.number W W f k).2.map fun _ => ()) := by
  rcases number_side h with ⟨w1, w9, rfl, e1⟩ | ⟨w1, w9, rfl, e1, e2⟩
  · rw [number_low w1 w9, show i + 1 - i = 1 by omega]
    have eb : bytesF f i 1 = [f i] := rfl
    rw [eb, e1]
    unfold lits Pu.bnd Pu.take lits Pu.ret
    by_cases c : f k = 48 + W
    · rw [if_pos c, if_pos c]; rfl
    · rw [if_neg c, if_neg c]; rfl
  · rw [number_high w1 w9, show i + 2 - i = 2 by omega]
    have eb : bytesF f i 2 = [f i, f (i + 1)] := rfl
    rw [eb, e1, e2]
    unfold lits Pu.bnd Pu.take
    by_cases c : f k = 49
    · rw [if_pos c, if_pos c]
      simp only
      unfold lits Pu.bnd Pu.take
      by_cases c2 : f (k + 1) = 38 + W
      · rw [if_pos c2, if_pos c2]; rfl
      · rw [if_neg c2, if_neg c2]; rfl
    · rw [if_neg c, if_neg c]; rfl
theorem bnd_ret {α β : Type} (a : α) (q : α → Pu.Rd β) : Pu.bnd (Pu.ret a) q = q a := rfl
theorem number_eq {W : Int} (f : Pu.Src) (k : Nat) {j : Nat} {h : Int} (e : Pu.number W W f k = (j, some h)) : h = W := by
  have := number_bd e
  omega

theorem shape_side (k : Int) (hk : k = 80 ∨ k = 84 ∨ k = 75 ∨ k = 67 ∨ k = 83) (f : Pu.Src) (i : Nat) : xshapeK k f i = Pu.bnd (Pu.bnd (Pu.width k) fun a => Pu.bnd (Pu.take 44) fun _ => Pu.bnd (Pu.height k a.1 a.2.1 a.2.2) fun b => Pu.ret (⟨k, a.1, b.1, a.2.1, b.2.1, a.2.2, b.2.2⟩ : Pu.Shape)) (fun x => Pu.bnd (Pu.take 32) fun _ => Pu.ret x) f i := by
  unfold xshapeK Pu.width
  simp only [bnd_assoc]
  rcases hn : Pu.number (Pu.leastSide k) 12 f i with ⟨j, _ | W⟩
  · rw [bnd_none hn]
  · rw [bnd_some hn]
    simp only
    rcases hk with rfl | rfl | rfl | rfl | rfl
    · rw [if_neg (by omega), if_neg (by omega)]
      unfold sideP openP Pu.height shiftIf Pu.rowLow Pu.rowHigh Pu.leastSide
      simp [bnd_assoc, bnd_ret]
    · rw [if_neg (by omega), if_pos rfl]
      unfold sideP openP Pu.height shiftIf Pu.rowLow Pu.rowHigh Pu.leastSide
      simp only [bnd_assoc, bnd_ret]
      simp only [or_true, if_true, bnd_assoc, bnd_ret, ne_eq, not_true_eq_false, false_or, true_and, show ¬ ((84 : Int) = 83) by omega, show ¬ ((84 : Int) = 75) by omega, if_false, false_and]
      congr 1
      congr 1
      funext ws
      congr 1
      funext _
      congr 1
      funext h
      by_cases c : W = 0 ∨ ¬ ws = 0
      · rw [if_pos c, if_neg (by omega)]
        rfl
      · rw [if_neg c, if_pos (by omega)]
        rw [bnd_assoc]
        rfl
    · rw [if_pos rfl]
      unfold sideP closedP Pu.height optIf Pu.rowLow Pu.rowHigh Pu.leastSide
      simp only [bnd_assoc, bnd_ret]
      simp only [show ¬ ((75 : Int) = 83) by omega, show ¬ ((75 : Int) = 80 ∨ (75 : Int) = 84) by omega, if_false, if_true, bnd_assoc, true_and]
      congr 1
      congr 1
      funext st
      congr 1
      funext _
      have er : (if W = 0 ∨ (0 : Int) ≠ 0 then (1 : Int) else 1) = 1 := by split <;> rfl
      rw [er]
      congr 1
      funext h
      cases st with
      | false => simp only [if_true, bnd_assoc, bnd_ret]
      | true => simp [bnd_ret]
    · rw [if_neg (by omega), if_neg (by omega)]
      unfold sideP closedP Pu.height optIf Pu.rowLow Pu.rowHigh Pu.leastSide
      simp [bnd_assoc, bnd_ret]
    · rw [if_neg (by omega), if_neg (by omega)]
      have hn' : Pu.number 1 12 f i = (j, some W) := hn
      have hl := lits_side hn'
      unfold sideP closedP Pu.height optIf Pu.rowLow Pu.rowHigh
      rw [if_neg (show ¬ ((83 : Int) = 80 ∨ (83 : Int) = 84) by omega)]
      simp only [bnd_assoc, bnd_ret, show ¬ ((83 : Int) = 75) by omega, if_false, if_true, false_and, ne_eq, show ¬ ((83 : Int) = 84) by omega, not_false_eq_true, true_or]
      unfold Pu.bnd
      rcases Pu.take 44 f j with ⟨j2, _ | u⟩
      · rfl
      · simp only
        rw [hl j2]
        rcases hx : Pu.number W W f j2 with ⟨j3, _ | h⟩
        · rfl
        · rw [number_eq f j2 hx]
          rfl
theorem xshape_eq (f : Pu.Src) (i : Nat) : xshapeP f i = Pu.bnd Pu.shape (fun x => Pu.bnd (Pu.take 32) fun _ => Pu.ret x) f i := by
  unfold xshapeP Pu.shape
  rw [bnd_assoc]
  rcases hl : Pu.letter [80, 84, 75, 67, 83] f i with ⟨j, _ | k⟩
  · rw [bnd_none hl, bnd_none hl]
  · rw [bnd_some hl, bnd_some hl]
    unfold Pu.letter at hl
    split at hl
    · rename_i hm
      have e2 := Option.some.inj (Prod.mk.inj hl).2
      rw [e2] at hm
      simp at hm
      exact shape_side k hm f j
    · cases (Prod.mk.inj hl).2
end Go.Proofs.YtbdbkjngdhcjpaaDoor
