import Derived.Test.YtbdbkjngdhcjpaaDoorXj
import Derived.Test.YtbdbkjngdhcjpaaDoorInv
namespace Go.Proofs.YtbdbkjngdhcjpaaDoor
open Go.RowKit
open Go.Proofs

theorem many_none {σ : Type} {step : σ → Int → Option σ} {n : Nat} {v : σ} {f : Pu.Src} {i : Nat} (h : step v (Pu.digit f i) = none) : Pu.many step (n + 1) v f i = (i, some v) := by
  unfold Pu.many
  rw [h]
theorem many_some {σ : Type} {step : σ → Int → Option σ} {n : Nat} {v v' : σ} {f : Pu.Src} {i : Nat} (h : step v (Pu.digit f i) = some v') : Pu.many step (n + 1) v f i = Pu.many step n v' f (i + 1) := by
  conv => lhs; unfold Pu.many
  rw [h]
theorem dig_fin (f : Pu.Src) (i : Nat) : ∃ d : Fin 11, Pu.digit f i = (d.val : Int) - 1 := by
  have := Pu.digit_bd f i
  exact ⟨⟨(Pu.digit f i + 1).toNat, by omega⟩, by simp only; omega⟩
theorem t1 : ∀ d : Fin 11, Pu.numStep 1 12 (false, 0) ((d.val : Int) - 1) = if 1 ≤ (d.val : Int) - 1 then some (true, (d.val : Int) - 1) else none := by decide
theorem t2 : ∀ v : Fin 9, ∀ d : Fin 11, Pu.numStep 1 12 (true, (v.val : Int) + 1) ((d.val : Int) - 1) = if v.val = 0 ∧ 0 ≤ (d.val : Int) - 1 ∧ (d.val : Int) - 1 ≤ 2 then some (true, 10 + ((d.val : Int) - 1)) else none := by decide
theorem t3 : ∀ v : Fin 3, ∀ d : Fin 11, Pu.numStep 1 12 (true, (v.val : Int) + 10) ((d.val : Int) - 1) = none := by decide
theorem tA : ∀ v : Fin 9, ∀ d : Fin 11, Pu.numStep ((v.val : Int) + 1) ((v.val : Int) + 1) (false, 0) ((d.val : Int) - 1) = if (d.val : Int) - 1 = (v.val : Int) + 1 then some (true, (v.val : Int) + 1) else none := by decide
theorem tB : ∀ v : Fin 9, ∀ d : Fin 11, Pu.numStep ((v.val : Int) + 1) ((v.val : Int) + 1) (true, (v.val : Int) + 1) ((d.val : Int) - 1) = none := by decide
theorem tC : ∀ v : Fin 3, ∀ d : Fin 11, Pu.numStep ((v.val : Int) + 10) ((v.val : Int) + 10) (false, 0) ((d.val : Int) - 1) = if (d.val : Int) - 1 = 1 then some (true, 1) else none := by decide
theorem tD : ∀ v : Fin 3, ∀ d : Fin 11, Pu.numStep ((v.val : Int) + 10) ((v.val : Int) + 10) (true, 1) ((d.val : Int) - 1) = if (d.val : Int) - 1 = (v.val : Int) then some (true, (v.val : Int) + 10) else none := by decide
theorem tE : ∀ v : Fin 3, ∀ d : Fin 11, Pu.numStep ((v.val : Int) + 10) ((v.val : Int) + 10) (true, (v.val : Int) + 10) ((d.val : Int) - 1) = none := by decide
theorem digit_pos {f : Pu.Src} {i : Nat} {d : Int} (h : Pu.digit f i = d) (h0 : 0 ≤ d) : f i = 48 + d := by
  unfold Pu.digit at h
  split at h <;> omega
theorem number_end {lo hi : Int} {f : Pu.Src} {i j : Nat} {v : Bool × Int} (h : Pu.many (Pu.numStep lo hi) 401 (false, 0) f i = (j, some v)) : Pu.number lo hi f i = (j, if v.1 = true ∧ lo ≤ v.2 ∧ v.2 ≤ hi then some v.2 else none) := by
  unfold Pu.number
  rw [bnd_some h]

theorem number_side {f : Pu.Src} {i j : Nat} {W : Int} (h : Pu.number 1 12 f i = (j, some W)) : (1 ≤ W ∧ W ≤ 9 ∧ j = i + 1 ∧ f i = 48 + W) ∨ (10 ≤ W ∧ W ≤ 12 ∧ j = i + 2 ∧ f i = 49 ∧ f (i + 1) = 38 + W) := by
  obtain ⟨d, hd⟩ := dig_fin f i
  have h1 := t1 d
  rw [← hd] at h1
  by_cases c1 : 1 ≤ Pu.digit f i
  · rw [if_pos c1] at h1
    obtain ⟨e, he⟩ := dig_fin f (i + 1)
    have hdb := Pu.digit_bd f i
    have h2 := t2 ⟨(Pu.digit f i - 1).toNat, by omega⟩ e
    have ev : ((Pu.digit f i - 1).toNat : Int) + 1 = Pu.digit f i := by omega
    simp only [ev] at h2
    rw [← he] at h2
    by_cases c2 : (Pu.digit f i - 1).toNat = 0 ∧ 0 ≤ Pu.digit f (i + 1) ∧ Pu.digit f (i + 1) ≤ 2
    · rw [if_pos c2] at h2
      obtain ⟨g, hg⟩ := dig_fin f (i + 1 + 1)
      have h3 := t3 ⟨(Pu.digit f (i + 1)).toNat, by omega⟩ g
      have ew : ((Pu.digit f (i + 1)).toNat : Int) + 10 = 10 + Pu.digit f (i + 1) := by omega
      simp only [ew] at h3
      rw [← hg] at h3
      have hm : Pu.many (Pu.numStep 1 12) 401 (false, 0) f i = (i + 1 + 1, some (true, 10 + Pu.digit f (i + 1))) := by
        rw [many_some (n := 400) h1, many_some (n := 399) h2, many_none (n := 398) h3]
      rw [number_end hm, if_pos ⟨rfl, by simp only; omega, by simp only; omega⟩] at h
      obtain ⟨e1, e2⟩ := Prod.mk.inj h
      have e2 := Option.some.inj e2
      simp only at e2
      right
      have u1 := digit_pos (f := f) (i := i) rfl (by omega)
      have u2 := digit_pos (f := f) (i := i + 1) rfl (by omega)
      omega
    · rw [if_neg c2] at h2
      have hm : Pu.many (Pu.numStep 1 12) 401 (false, 0) f i = (i + 1, some (true, Pu.digit f i)) := by
        rw [many_some (n := 400) h1, many_none (n := 399) h2]
      rw [number_end hm, if_pos ⟨rfl, by simp only; omega, by simp only; omega⟩] at h
      obtain ⟨e1, e2⟩ := Prod.mk.inj h
      have e2 := Option.some.inj e2
      simp only at e2
      left
      have u1 := digit_pos (f := f) (i := i) rfl (by omega)
      omega
  · rw [if_neg c1] at h1
    rw [number_end (many_none (n := 400) h1), if_neg (by simp)] at h
    cases (Prod.mk.inj h).2
theorem digit_is {f : Pu.Src} {i : Nat} {d : Int} (h0 : 0 ≤ d) (h9 : d ≤ 9) : Pu.digit f i = d ↔ f i = 48 + d := by
  unfold Pu.digit
  split <;> omega
theorem number_low {W : Int} (h1 : 1 ≤ W) (h9 : W ≤ 9) (f : Pu.Src) (i : Nat) : Pu.number W W f i = if f i = 48 + W then (i + 1, some W) else (i, none) := by
  obtain ⟨d, hd⟩ := dig_fin f i
  have hA := tA ⟨(W - 1).toNat, by omega⟩ d
  have ev : ((W - 1).toNat : Int) + 1 = W := by omega
  simp only [ev] at hA
  rw [← hd] at hA
  by_cases c : f i = 48 + W
  · rw [if_pos c]
    rw [if_pos ((digit_is (by omega) h9).2 c)] at hA
    obtain ⟨e, he⟩ := dig_fin f (i + 1)
    have hB := tB ⟨(W - 1).toNat, by omega⟩ e
    simp only [ev] at hB
    rw [← he] at hB
    have hm : Pu.many (Pu.numStep W W) 401 (false, 0) f i = (i + 1, some (true, W)) := by rw [many_some (n := 400) hA, many_none (n := 399) hB]
    rw [number_end hm, if_pos ⟨rfl, Int.le_refl _, Int.le_refl _⟩]
  · rw [if_neg c]
    rw [if_neg (fun h => c ((digit_is (by omega) h9).1 h))] at hA
    rw [number_end (many_none (n := 400) hA), if_neg (by simp)]
theorem number_high {W : Int} (h1 : 10 ≤ W) (h9 : W ≤ 12) (f : Pu.Src) (i : Nat) : Pu.number W W f i = if f i = 49 then (if f (i + 1) = 38 + W then (i + 2, some W) else (i + 1, none)) else (i, none) := by
  obtain ⟨d, hd⟩ := dig_fin f i
  have hC := tC ⟨(W - 10).toNat, by omega⟩ d
  have ev : ((W - 10).toNat : Int) + 10 = W := by omega
  simp only [ev] at hC
  rw [← hd] at hC
  by_cases c : f i = 49
  · rw [if_pos c]
    rw [if_pos ((digit_is (by omega) (by omega)).2 (by omega))] at hC
    obtain ⟨e, he⟩ := dig_fin f (i + 1)
    have hD := tD ⟨(W - 10).toNat, by omega⟩ e
    simp only [ev] at hD
    rw [← he] at hD
    by_cases c2 : f (i + 1) = 38 + W
    · rw [if_pos c2]
      rw [if_pos ((digit_is (by omega) (by omega)).2 (by omega))] at hD
      obtain ⟨g, hg⟩ := dig_fin f (i + 1 + 1)
      have hE := tE ⟨(W - 10).toNat, by omega⟩ g
      simp only [ev] at hE
      rw [← hg] at hE
      have hm : Pu.many (Pu.numStep W W) 401 (false, 0) f i = (i + 1 + 1, some (true, W)) := by rw [many_some (n := 400) hC, many_some (n := 399) hD, many_none (n := 398) hE]
      rw [number_end hm, if_pos ⟨rfl, Int.le_refl _, Int.le_refl _⟩]
    · rw [if_neg c2]
      rw [if_neg (fun h => c2 (by have := (digit_is (f := f) (i := i + 1) (d := ((W - 10).toNat : Int)) (by omega) (by omega)).1 h; omega))] at hD
      have hm : Pu.many (Pu.numStep W W) 401 (false, 0) f i = (i + 1, some (true, 1)) := by rw [many_some (n := 400) hC, many_none (n := 399) hD]
      rw [number_end hm, if_neg (by simp only; omega)]
  · rw [if_neg c]
    rw [if_neg (fun h => c (by have := (digit_is (f := f) (i := i) (d := 1) (by omega) (by omega)).1 h; omega))] at hC
    rw [number_end (many_none (n := 400) hC), if_neg (by simp)]
/-- A side's own digits once more are the side once more. -/
theorem lits_side {f : Pu.Src} {i j : Nat} {W : Int} (h : Pu.number 1 12 f i = (j, some W)) (k : Nat) : lits (bytesF f i (j - i)) f k = ((Pu.number W W f k).1, (Pu.number W W f k).2.map fun _ => ()) := by
  rcases number_side h with ⟨w1, w9, rfl, e1⟩ | ⟨w1, w9, rfl, e1, e2⟩
  · rw [number_low w1 w9, show i + 1 - i = 1 by omega]
    have eb : bytesF f i 1 = [f i] := rfl
    rw [eb, e1]
    unfold lits Pu.bnd Pu.take lits Pu.ret
    by_cases c : f k = 48 + W
    · rw [if_pos c, if_pos c]; rfl
    · rw [if_neg c, if_neg c]; rfl
  · rw [number_high w1 w9, show i + 2 - i = 2 by omega]
    have eb : bytesF f i 2 = [f i, f (i + 1)] := rfl
    rw [eb, e1, e2]
    unfold lits Pu.bnd Pu.take
    by_cases c : f k = 49
    · rw [if_pos c, if_pos c]
      simp only
      unfold lits Pu.bnd Pu.take
      by_cases c2 : f (k + 1) = 38 + W
      · rw [if_pos c2, if_pos c2]; rfl
      · rw [if_neg c2, if_neg c2]; rfl
    · rw [if_neg c, if_neg c]; rfl
theorem bnd_ret {α β : Type} (a : α) (q : α → Pu.Rd β) : Pu.bnd (Pu.ret a) q = q a := rfl
theorem number_eq {W : Int} (f : Pu.Src) (k : Nat) {j : Nat} {h : Int} (e : Pu.number W W f k = (j, some h)) : h = W := by
  have := number_bd e
  omega

theorem shape_side (k : Int) (hk : k = 80 ∨ k = 84 ∨ k = 75 ∨ k = 67 ∨ k = 83) (f : Pu.Src) (i : Nat) : xshapeK k f i = Pu.bnd (Pu.bnd (Pu.width k) fun a => Pu.bnd (Pu.take 44) fun _ => Pu.bnd (Pu.height k a.1 a.2.1 a.2.2) fun b => Pu.ret (⟨k, a.1, b.1, a.2.1, b.2.1, a.2.2, b.2.2⟩ : Pu.Shape)) (fun x => Pu.bnd (Pu.take 32) fun _ => Pu.ret x) f i := by
  unfold xshapeK Pu.width
  simp only [bnd_assoc]
  rcases hn : Pu.number (Pu.leastSide k) 12 f i with ⟨j, _ | W⟩
  · rw [bnd_none hn]
  · rw [bnd_some hn]
    simp only
    rcases hk with rfl | rfl | rfl | rfl | rfl
    · rw [if_neg (by omega), if_neg (by omega)]
      unfold sideP openP Pu.height shiftIf Pu.rowLow Pu.rowHigh Pu.leastSide
      simp [bnd_assoc, bnd_ret]
    · rw [if_neg (by omega), if_pos rfl]
      unfold sideP openP Pu.height shiftIf Pu.rowLow Pu.rowHigh Pu.leastSide
      simp only [bnd_assoc, bnd_ret]
      simp only [or_true, if_true, bnd_assoc, bnd_ret, ne_eq, not_true_eq_false, false_or, true_and, show ¬ ((84 : Int) = 83) by omega, show ¬ ((84 : Int) = 75) by omega, if_false, false_and]
      congr 1
      congr 1
      funext ws
      congr 1
      funext _
      congr 1
      funext h
      by_cases c : W = 0 ∨ ¬ ws = 0
      · rw [if_pos c, if_neg (by omega)]
        rfl
      · rw [if_neg c, if_pos (by omega)]
        rw [bnd_assoc]
        rfl
    · rw [if_pos rfl]
      unfold sideP closedP Pu.height optIf Pu.rowLow Pu.rowHigh Pu.leastSide
      simp only [bnd_assoc, bnd_ret]
      simp only [show ¬ ((75 : Int) = 83) by omega, show ¬ ((75 : Int) = 80 ∨ (75 : Int) = 84) by omega, if_false, if_true, bnd_assoc, true_and]
      congr 1
      congr 1
      funext st
      congr 1
      funext _
      have er : (if W = 0 ∨ (0 : Int) ≠ 0 then (1 : Int) else 1) = 1 := by split <;> rfl
      rw [er]
      congr 1
      funext h
      cases st with
      | false => simp only [if_true, bnd_assoc, bnd_ret]
      | true => simp [bnd_ret]
    · rw [if_neg (by omega), if_neg (by omega)]
      unfold sideP closedP Pu.height optIf Pu.rowLow Pu.rowHigh Pu.leastSide
      simp [bnd_assoc, bnd_ret]
    · rw [if_neg (by omega), if_neg (by omega)]
      have hn' : Pu.number 1 12 f i = (j, some W) := hn
      have hl := lits_side hn'
      unfold sideP closedP Pu.height optIf Pu.rowLow Pu.rowHigh
      rw [if_neg (show ¬ ((83 : Int) = 80 ∨ (83 : Int) = 84) by omega)]
      simp only [bnd_assoc, bnd_ret, show ¬ ((83 : Int) = 75) by omega, if_false, if_true, false_and, ne_eq, show ¬ ((83 : Int) = 84) by omega, not_false_eq_true, true_or]
      unfold Pu.bnd
      rcases Pu.take 44 f j with ⟨j2, _ | u⟩
      · rfl
      · simp only
        rw [hl j2]
        rcases hx : Pu.number W W f j2 with ⟨j3, _ | h⟩
        · rfl
        · rw [number_eq f j2 hx]
          rfl
theorem xshape_eq (f : Pu.Src) (i : Nat) : xshapeP f i = Pu.bnd Pu.shape (fun x => Pu.bnd (Pu.take 32) fun _ => Pu.ret x) f i := by
  unfold xshapeP Pu.shape
  rw [bnd_assoc]
  rcases hl : Pu.letter [80, 84, 75, 67, 83] f i with ⟨j, _ | k⟩
  · rw [bnd_none hl, bnd_none hl]
  · rw [bnd_some hl, bnd_some hl]
    unfold Pu.letter at hl
    split at hl
    · rename_i hm
      have e2 := Option.some.inj (Prod.mk.inj hl).2
      rw [e2] at hm
      simp at hm
      exact shape_side k hm f j
    · cases (Prod.mk.inj hl).2
end Go.Proofs.YtbdbkjngdhcjpaaDoor
namespace Go.Proofs.YtbdbkjngdhcjpaaDoor
open Go.RowKit
open Go.Proofs

/-- The document's text, as it is read. -/
def xtextP : Pu.Rd Pu.Parts := Pu.bnd xrule fun r => Pu.bnd xshapeP fun x => Pu.bnd (Pu.number 0 999999) fun a => Pu.bnd (Pu.take 32) fun _ => Pu.bnd (Pu.signed 9999) fun c => Pu.bnd (Pu.take 44) fun _ => Pu.bnd (Pu.signed 9999) fun y =>
  Pu.bnd (Pu.take 32) fun _ => Pu.bnd (Pu.body r.states 401 []) fun rs => Pu.ret ⟨r, x, a, c, y, rs⟩
theorem xassoc (ru : Pu.Rd Pu.Rule) (sh : Pu.Rd Pu.Shape) (nu sg : Pu.Rd Int) (t3 t4 : Pu.Rd Unit) (B : Pu.Rule → Pu.Rd (List Pu.Run)) :
    (Pu.bnd (Pu.bnd ru fun r => Pu.bnd t3 fun _ => Pu.ret r) fun r => Pu.bnd (Pu.bnd sh fun x => Pu.bnd t3 fun _ => Pu.ret x) fun x => Pu.bnd nu fun a => Pu.bnd t3 fun _ => Pu.bnd sg fun c => Pu.bnd t4 fun _ => Pu.bnd sg fun y => Pu.bnd t3 fun _ => Pu.bnd (B r) fun rs => Pu.ret (⟨r, x, a, c, y, rs⟩ : Pu.Parts)) =
    Pu.bnd (Pu.bnd (Pu.bnd ru fun r => Pu.bnd t3 fun _ => Pu.bnd sh fun x => Pu.bnd t3 fun _ => Pu.bnd nu fun a => Pu.bnd t3 fun _ => Pu.ret (r, x, a)) fun h => Pu.bnd (Pu.bnd sg fun c => Pu.bnd t4 fun _ => Pu.bnd sg fun y => Pu.bnd t3 fun _ => Pu.ret (c, y)) fun p => Pu.ret (h, p)) fun a => Pu.bnd (B a.1.1) fun rs => Pu.ret (⟨a.1.1, a.1.2.1, a.1.2.2, a.2.1, a.2.2, rs⟩ : Pu.Parts) := by
  simp only [bnd_assoc, bnd_ret]
theorem xtext_eq (f : Pu.Src) : xtextP f 0 = Pu.read f := by
  have e1 : Pu.read f = Pu.bnd Pu.pre (fun a => Pu.bnd (Pu.body a.1.1.states 401 []) fun rs => Pu.ret (⟨a.1.1, a.1.2.1, a.1.2.2, a.2.1, a.2.2, rs⟩ : Pu.Parts)) f 0 := by
    unfold Pu.read Pu.bnd
    rcases Pu.pre f 0 with ⟨i, _ | a⟩
    · rfl
    · simp only
      rcases Pu.body a.1.1.states 401 [] f i with ⟨j, _ | rs⟩ <;> rfl
  have e2 : xshapeP = Pu.bnd Pu.shape (fun x => Pu.bnd (Pu.take 32) fun _ => Pu.ret x) := by
    funext f i
    exact xshape_eq f i
  rw [e1]
  unfold xtextP
  rw [e2]
  exact congrFun (congrFun (xassoc Pu.rule Pu.shape (Pu.number 0 999999) (Pu.signed 9999) (Pu.take 32) (Pu.take 44) (fun r => Pu.body r.states 401 [])) f) 0
theorem SlB.other {w : World} {g : Nat} {l : List Bool} (h : SlB w g l) {p : Addr} (hp : g ≠ p.block) (u : Value) : SlB (w.setCell p u) g l := ⟨h.1, (Below.heap_setCell _ _ _ _ hp).trans h.2⟩
theorem take_yes1 {m : Int} {f : Pu.Src} {i : Nat} (h : f i = m) : Pu.take m f i = (i + 1, some ()) := by unfold Pu.take; rw [if_pos h]
theorem take_no1 {m : Int} {f : Pu.Src} {i : Nat} (h : ¬ f i = m) : Pu.take m f i = (i, none) := by unfold Pu.take; rw [if_neg h]
/-- The document's world, whole. -/
def vw (r : Pu.Rule) (g1 g2 : Nat) (x : Pu.Shape) (age : Int) (v : Value) : Array Value := #[.int .u8 r.around, .slice (some ⟨g1, 0, none⟩) 9 9, .slice (some ⟨g2, 0, none⟩) 9 9, .int .i64 r.states, .int .u8 x.kind, .int .i64 x.w, .int .i64 x.h, .int .i64 x.ws, .int .i64 x.hs, .bool x.wst, .bool x.hst, .int .i64 age, v]
def noShape : Pu.Shape := ⟨0, 0, 0, 0, 0, false, false⟩
def vzero : Array Value := #[.int .u8 0, .slice none 0 0, .slice none 0 0, .int .i64 0, .int .u8 0, .int .i64 0, .int .i64 0, .int .i64 0, .int .i64 0, .bool false, .bool false, .int .i64 0, .slice none 0 0]
/-- What lies behind the document's reader where it has read. -/
structure XRead (w0 w : World) (q : Nat) (p : Pu.Parts) (g1 g2 : Nat) (v : Value) : Prop where
  at1 : VAt w q (vw p.rule g1 g2 p.shape p.age v)
  b : SlB w g1 p.rule.births
  l : SlB w g2 p.rule.survivals
  own : w.ownsRow w0.heap.size 87 3 v (bsts p.shape.w p.shape.h p.col p.row p.runs).live.length (cellsv (bsts p.shape.w p.shape.h p.col p.row p.runs).live)
  n1 : w0.heap.size ≤ g1
  n2 : w0.heap.size ≤ g2
theorem xown_base {w : World} {b1 b2 : Nat} {e : TypeId} {sz : Nat} {v : Value} {n : Nat} {xs : List Value} (h : w.ownsRow b1 e sz v n xs) (hb : b2 ≤ b1) : w.ownsRow b2 e sz v n xs := by
  refine ⟨h.1, ?_⟩
  rcases h.2 with h2 | ⟨g, cap, cur, hv, hg, r⟩
  · exact Or.inl h2
  · exact Or.inr ⟨g, cap, cur, hv, Nat.le_trans hb hg, r⟩

set_option maxRecDepth 100000 in
set_option maxHeartbeats 4000000 in
theorem xtext_any (b q : Nat) (hbq : b ≠ q) (s : ByteArray) (w : World) (h : RxAt w b s 0) (hv : VAt w q vzero) (j : Nat) (o : Option Pu.Parts) (hq : Hid (Pu.read (src s) = (j, o))) :
    Calls Tryd.prog 36 #[.pointer (some ⟨b, 0, none⟩), .pointer (some ⟨q, 0, none⟩)] w fun e w' => e = .returned (.bool o.isSome) ∧ RxAt w' b s j ∧ Kp (bq b q) w w' ∧ ∀ p, o = some p → ∃ g1 g2 v, XRead w w' q p g1 g2 v := by
  have R0 := hide h
  have V0 := hide hv
  have hb := h.lt
  have hql := hv.lt
  have h0 := hq.out
  rw [← xtext_eq] at h0
  unfold xtextP at h0
  clear h hv hq
  go_enter Tryd.func36, Tryd.ntmps36
  rcases h1 : xrule (src s) 0 with ⟨j1, o1⟩
  have H1 := hide h1
  go_wp2_with fail
  refine (xrule_any b q hbq s 0 _ _ _ _ _ _ _ _ _ _ _ _ _ _ R0.out V0.out j1 o1 H1).mono ?_
  rintro e w1 ⟨rfl, r1, k1, v1⟩
  have R1 := hide r1
  have K1 := hide k1
  clear r1 k1 H1
  cases o1 with
  | none =>
    rw [bnd_none h1] at h0
    obtain ⟨e1, e2⟩ := Prod.mk.inj h0
    subst e1 e2
    clear h0 h1 v1
    go_wp2_with fail
    go_ret
    exact ⟨rfl, R1.out, K1.out, fun p e => by cases e⟩
  | some r =>
  rw [bnd_some h1] at h0
  obtain ⟨g1, g2, n1, n2, v1, b1, l1⟩ := v1 r rfl
  have V1 := hide v1
  have B1 := hide b1
  have L1 := hide l1
  have rb : 2 ≤ r.states ∧ r.states ≤ 9 := by
    unfold xrule at h1
    obtain ⟨k, a, e1, e2⟩ := Pu.bnd_inv h1
    obtain ⟨k2, a2, e3, e4⟩ := Pu.bnd_inv e2
    rw [← Pu.ret_inv e4]
    exact Pu.rule_inv e1
  have rb1 := rb.1
  have rb2 := rb.2
  clear v1 b1 l1 h1 rb
  rcases h2 : xshapeP (src s) j1 with ⟨j2, o2⟩
  have H2 := hide h2
  go_wp2_with fail
  refine (xshape_any b q hbq s j1 _ _ _ _ _ _ _ R1.out V1.out j2 o2 H2).mono ?_
  rintro e w2 ⟨rfl, r2, k2, v2⟩
  have R2 := hide r2
  have K2 := hide (K1.out.trans k2)
  have B2 := hide (B1.out.keep k2 (by unfold bq; omega))
  have L2 := hide (L1.out.keep k2 (by unfold bq; omega))
  clear r2 k2 H2 R1 K1 B1 L1 V1
  cases o2 with
  | none =>
    rw [bnd_none h2] at h0
    obtain ⟨e1, e2⟩ := Prod.mk.inj h0
    subst e1 e2
    clear h0 h2 v2
    go_wp2_with fail
    go_ret
    exact ⟨rfl, R2.out, K2.out, fun p e => by cases e⟩
  | some x =>
  rw [bnd_some h2] at h0
  have V2 := hide (v2 x rfl)
  clear v2 h2
  rcases h3 : Pu.number 0 999999 (src s) j2 with ⟨j3, o3⟩
  have H3 := hide h3
  go_wp2_with fail
  refine (xnumber_any b s j2 0 999999 _ R2.out (by omega) (by omega) (by omega) (by omega) j3 o3 H3).mono ?_
  rintro e w3 ⟨⟨x3, rfl, hx3⟩, r3, k3⟩
  have V3' := hide (V2.out.keep k3 (fun e => hbq e.symm))
  have d11 : w3.cell? ⟨q, 11, none⟩ = some (.int .i64 0) := V3'.out.cell 11
  have f11 := V3'.out.fro 11
  have V3 : Hid (VAt (w3.setCell ⟨q, 11, none⟩ (.int .i64 x3)) q (vw r g1 g2 x x3 (.slice none 0 0))) := V3'.out.put 11 _ _ rfl
  have R3 : Hid (RxAt (w3.setCell ⟨q, 11, none⟩ (.int .i64 x3)) b s j3) := r3.setOther hbq _
  have K3 : Hid (Kp (bq b q) w (w3.setCell ⟨q, 11, none⟩ (.int .i64 x3))) := (K2.out.trans k3.tobq).putq 11 _
  have B3 : Hid (SlB (w3.setCell ⟨q, 11, none⟩ (.int .i64 x3)) g1 r.births) := (B2.out.keep k3 (by omega)).other (by simp only; omega) _
  have L3 : Hid (SlB (w3.setCell ⟨q, 11, none⟩ (.int .i64 x3)) g2 r.survivals) := (L2.out.keep k3 (by omega)).other (by simp only; omega) _
  have HX3 := hide hx3
  clear r3 k3 H3 R2 K2 B2 L2 V2 hx3 V3'
  cases o3 with
  | none =>
    rw [bnd_none h3] at h0
    obtain ⟨e1, e2⟩ := Prod.mk.inj h0
    subst e1 e2
    clear h0 h3
    go_wp2_with fail
    go_ret
    exact ⟨rfl, R3.out, K3.out, fun p e => by cases e⟩
  | some age =>
  rw [bnd_some h3] at h0
  obtain rfl := HX3.out age rfl
  clear h3 HX3

  by_cases c4 : src s j3 = 32
  rotate_left
  · rw [bnd_none (take_no1 c4)] at h0
    obtain ⟨e1, e2⟩ := Prod.mk.inj h0
    subst e1 e2
    have C4 := hide c4
    clear h0 c4
    go_wp2_with fail
    refine (xone_no R3.out (by omega) C4.out).mono ?_
    rintro e w4 ⟨rfl, r4, k4⟩
    have R4 := hide r4
    have K4 := hide (K3.out.trans k4.tobq)
    clear r4 k4
    go_wp2_with fail
    go_ret
    exact ⟨rfl, R4.out, K4.out, fun p e => by cases e⟩
  rw [bnd_some (take_yes1 c4)] at h0
  have C4 := hide c4
  clear c4
  go_wp2_with fail
  refine (xone_yes R3.out (by omega) C4.out).mono ?_
  rintro e w4 ⟨rfl, r4, k4⟩
  have R4 := hide r4
  have K4 := hide (K3.out.trans (k4.tobq (q := q)))
  have V4 := hide (V3.out.keep k4 (fun e => hbq e.symm))
  have B4 := hide (B3.out.keep k4 (by omega))
  have L4 := hide (L3.out.keep k4 (by omega))
  clear r4 k4 R3 K3 V3 B3 L3 C4
  rcases h5 : Pu.signed 9999 (src s) (j3 + 1) with ⟨j5, o5⟩
  have H5 := hide h5
  go_wp2_with fail
  refine (xplace_any b s (j3 + 1) _ R4.out j5 o5 H5).mono ?_
  rintro e w5 ⟨⟨x5, rfl, hx5⟩, r5, k5⟩
  have R5 := hide r5
  have K5 := hide (K4.out.trans (k5.tobq (q := q)))
  have V5 := hide (V4.out.keep k5 (fun e => hbq e.symm))
  have B5 := hide (B4.out.keep k5 (by omega))
  have L5 := hide (L4.out.keep k5 (by omega))
  have HX5 := hide hx5
  clear r5 k5 R4 K4 V4 B4 L4 hx5 H5
  cases o5 with
  | none =>
    rw [bnd_none h5] at h0
    obtain ⟨e1, e2⟩ := Prod.mk.inj h0
    subst e1 e2
    clear h0 h5
    go_wp2_with fail
    go_ret
    exact ⟨rfl, R5.out, K5.out, fun p e => by cases e⟩
  | some colN =>
  rw [bnd_some h5] at h0
  obtain rfl := HX5.out colN rfl
  have pb5 := Pu.signed_inv (by omega) h5
  clear h5 HX5
  by_cases c6 : src s j5 = 44
  rotate_left
  · rw [bnd_none (take_no1 c6)] at h0
    obtain ⟨e1, e2⟩ := Prod.mk.inj h0
    subst e1 e2
    have C6 := hide c6
    clear h0 c6
    go_wp2_with fail
    refine (xone_no R5.out (by omega) C6.out).mono ?_
    rintro e w6 ⟨rfl, r6, k6⟩
    have R6 := hide r6
    have K6 := hide (K5.out.trans k6.tobq)
    clear r6 k6
    go_wp2_with fail
    go_ret
    exact ⟨rfl, R6.out, K6.out, fun p e => by cases e⟩
  rw [bnd_some (take_yes1 c6)] at h0
  have C6 := hide c6
  clear c6
  go_wp2_with fail
  refine (xone_yes R5.out (by omega) C6.out).mono ?_
  rintro e w6 ⟨rfl, r6, k6⟩
  have R6 := hide r6
  have K6 := hide (K5.out.trans (k6.tobq (q := q)))
  have V6 := hide (V5.out.keep k6 (fun e => hbq e.symm))
  have B6 := hide (B5.out.keep k6 (by omega))
  have L6 := hide (L5.out.keep k6 (by omega))
  clear r6 k6 R5 K5 V5 B5 L5 C6
  rcases h7 : Pu.signed 9999 (src s) (j5 + 1) with ⟨j7, o7⟩
  have H7 := hide h7
  go_wp2_with fail
  refine (xplace_any b s (j5 + 1) _ R6.out j7 o7 H7).mono ?_
  rintro e w7 ⟨⟨x7, rfl, hx7⟩, r7, k7⟩
  have R7 := hide r7
  have K7 := hide (K6.out.trans (k7.tobq (q := q)))
  have V7 := hide (V6.out.keep k7 (fun e => hbq e.symm))
  have B7 := hide (B6.out.keep k7 (by omega))
  have L7 := hide (L6.out.keep k7 (by omega))
  have HX7 := hide hx7
  clear r7 k7 R6 K6 V6 B6 L6 hx7 H7
  cases o7 with
  | none =>
    rw [bnd_none h7] at h0
    obtain ⟨e1, e2⟩ := Prod.mk.inj h0
    subst e1 e2
    clear h0 h7
    go_wp2_with fail
    go_ret
    exact ⟨rfl, R7.out, K7.out, fun p e => by cases e⟩
  | some rowN =>
  rw [bnd_some h7] at h0
  obtain rfl := HX7.out rowN rfl
  have pb7 := Pu.signed_inv (by omega) h7
  clear h7 HX7
  by_cases c8 : src s j7 = 32
  rotate_left
  · rw [bnd_none (take_no1 c8)] at h0
    obtain ⟨e1, e2⟩ := Prod.mk.inj h0
    subst e1 e2
    have C8 := hide c8
    clear h0 c8
    go_wp2_with fail
    refine (xone_no R7.out (by omega) C8.out).mono ?_
    rintro e w8 ⟨rfl, r8, k8⟩
    have R8 := hide r8
    have K8 := hide (K7.out.trans k8.tobq)
    clear r8 k8
    go_wp2_with fail
    go_ret
    exact ⟨rfl, R8.out, K8.out, fun p e => by cases e⟩
  rw [bnd_some (take_yes1 c8)] at h0
  have C8 := hide c8
  clear c8
  go_wp2_with fail
  refine (xone_yes R7.out (by omega) C8.out).mono ?_
  rintro e w8 ⟨rfl, r8, k8⟩
  have R8 := hide r8
  have K8 := hide (K7.out.trans (k8.tobq (q := q)))
  have V8 := hide (V7.out.keep k8 (fun e => hbq e.symm))
  have B8 := hide (B7.out.keep k8 (by omega))
  have L8 := hide (L7.out.keep k8 (by omega))
  clear r8 k8 R7 K7 V7 B7 L7 C8
  rcases h9 : Pu.body r.states 401 [] (src s) (j7 + 1) with ⟨j9, o9⟩
  have H9 := hide h9
  have LB := hide (fun (wx : World) (hx : RxAt wx b s (j7 + 1)) (hvx : VAt wx q (vw r g1 g2 x x3 (.slice none 0 0))) => xbody_any b q hbq s (j7 + 1) r.states x.w x.h x5 x7 _ _ _ _ _ _ _ _ _ wx hx hvx rb1 rb2 pb5.1 pb5.2 pb7.1 pb7.2 j9 o9 H9)
  have sz8 := K8.out.size
  go_wp2_with fail
  refine (LB.out _ R8.out V8.out).mono ?_
  rintro e w9 ⟨rfl, r9, k9, v9⟩
  have R9 := hide r9
  have K9 := hide (K8.out.trans k9)
  have B9 := hide (B8.out.keep k9 (by unfold bq; omega))
  have L9 := hide (L8.out.keep k9 (by unfold bq; omega))
  have V9 := hide v9
  clear r9 k9 v9 R8 K8 V8 B8 L8 LB
  go_wp2_with fail
  go_ret
  cases o9 with
  | none =>
    rw [bnd_none h9] at h0
    obtain ⟨e1, e2⟩ := Prod.mk.inj h0
    subst e1 e2
    exact ⟨rfl, R9.out, K9.out, fun p e => by cases e⟩
  | some rs =>
    rw [bnd_some h9] at h0
    obtain ⟨e1, e2⟩ := Prod.mk.inj h0
    subst e1 e2
    refine ⟨rfl, R9.out, K9.out, fun p e => ?_⟩
    obtain rfl := Option.some.inj e
    obtain ⟨v, u1, u2⟩ := V9.out rs rfl
    exact ⟨g1, g2, v, u1, B9.out, L9.out, xown_base u2 sz8, n1, n2⟩
end Go.Proofs.YtbdbkjngdhcjpaaDoor
