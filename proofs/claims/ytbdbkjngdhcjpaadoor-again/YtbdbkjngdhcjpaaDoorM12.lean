import Derived.Test.YtbdbkjngdhcjpaaDoorM11
namespace Go.Proofs.YtbdbkjngdhcjpaaDoor
open Go.RowKit
open Go.Proofs

/-- Sides of which one at the most is endless. -/
structure Side (gw gh : Int) : Prop where
  w0 : 0 ≤ gw
  w1 : gw ≤ 12
  h0 : 0 ≤ gh
  h1 : gh ≤ 12
  one : gw ≠ 0 ∨ gh ≠ 0
def InW (gw gh l t X Y : Int) : Prop := (l ≤ X ∧ X < l + spanP gw) ∧ (t ≤ Y ∧ Y < t + spanP gh)
def idx (gw gh X Y : Int) : Int := Y % spanP gh * spanP gw + X % spanP gw
theorem span_mul {gw gh : Int} (h : Side gw gh) : spanP gh * spanP gw ≤ 768 := by
  obtain ⟨w0, w1, h0, h1, one⟩ := h
  unfold spanP
  by_cases e1 : gw = 0
  · rw [if_pos e1, if_neg (by omega)]
    omega
  · rw [if_neg e1]
    by_cases e2 : gh = 0
    · rw [if_pos e2]
      omega
    · rw [if_neg e2]
      have := Int.mul_le_mul h1 w1 (by omega) (by omega : (0:Int) ≤ 12)
      omega
theorem idx_bd {gw gh : Int} (h : Side gw gh) (X Y : Int) : 0 ≤ idx gw gh X Y ∧ idx gw gh X Y < 768 := by
  have sw := spanP_bd h.w0 h.w1
  have sh := spanP_bd h.h0 h.h1
  have m := span_mul h
  unfold idx
  generalize spanP gw = n at *
  generalize spanP gh = k at *
  have a1 := Int.emod_nonneg Y (show k ≠ 0 by omega)
  have a2 := Int.emod_lt_of_pos Y (show 0 < k by omega)
  have b1 := Int.emod_nonneg X (show n ≠ 0 by omega)
  have b2 := Int.emod_lt_of_pos X (show 0 < n by omega)
  have c1 : 0 ≤ Y % k * n := Int.mul_nonneg a1 (by omega)
  have c2 : Y % k * n ≤ (k - 1) * n := Int.mul_le_mul_of_nonneg_right (by omega) (by omega)
  have c3 : (k - 1) * n = k * n - n := by rw [Int.sub_mul, Int.one_mul]
  omega
theorem slot_win {gw gh l t X Y : Int} (h : Side gw gh) (hw : InW gw gh l t X Y) : slotP gw gh l t X Y = idx gw gh X Y := by
  have b := idx_bd h X Y
  unfold InW at hw
  unfold slotP
  rw [if_neg (by omega)]
  unfold idx at *
  rw [if_neg (by omega)]
theorem slot_out {gw gh l t X Y : Int} (hw : ¬ InW gw gh l t X Y) : slotP gw gh l t X Y = -1 := by
  unfold InW at hw
  unfold slotP
  rw [if_pos (by omega)]
theorem slot_iff {gw gh l t X Y : Int} (h : Side gw gh) : 0 ≤ slotP gw gh l t X Y ↔ InW gw gh l t X Y := by
  constructor
  · intro hz
    by_cases hw : InW gw gh l t X Y
    · exact hw
    · rw [slot_out hw] at hz
      omega
  · intro hw
    rw [slot_win h hw]
    exact (idx_bd h X Y).1
theorem get_win {gw gh l t X Y : Int} (h : Side gw gh) (S : List Int) (hw : InW gw gh l t X Y) : getP gw gh l t S X Y = S.getD (idx gw gh X Y).toNat 0 := by
  have b := idx_bd h X Y
  unfold getP
  rw [slot_win h hw, if_neg (by omega)]
theorem get_out {gw gh l t X Y : Int} (S : List Int) (hw : ¬ InW gw gh l t X Y) : getP gw gh l t S X Y = 0 := by
  unfold getP
  rw [slot_out hw, if_pos (by omega)]
theorem mul_add_div {a b n : Int} (hn : 0 < n) (h0 : 0 ≤ b) (h1 : b < n) : (a * n + b) / n = a ∧ (a * n + b) % n = b := by
  constructor
  · rw [Int.add_comm, Int.add_mul_ediv_right _ _ (by omega), Int.ediv_eq_zero_of_lt h0 h1, Int.zero_add]
  · rw [Int.add_comm, Int.add_mul_emod_self_right, Int.emod_eq_of_lt h0 h1]
theorem same_mod {X X' n l : Int} (hn : 0 < n) (h1 : l ≤ X ∧ X < l + n) (h2 : l ≤ X' ∧ X' < l + n) (e : X % n = X' % n) : X = X' := by
  have a := Int.mul_ediv_add_emod X n
  have b := Int.mul_ediv_add_emod X' n
  have c : n * (X / n) - n * (X' / n) = n * (X / n - X' / n) := by rw [Int.mul_sub]
  by_cases d : X / n - X' / n = 0
  · rw [d, Int.mul_zero] at c
    omega
  · by_cases d2 : 1 ≤ X / n - X' / n
    · have := Int.mul_le_mul_of_nonneg_left d2 (show 0 ≤ n by omega)
      omega
    · have := Int.mul_le_mul_of_nonneg_left (show X / n - X' / n ≤ -1 by omega) (show 0 ≤ n by omega)
      omega
theorem idx_mod {gw gh : Int} (h : Side gw gh) {X Y X' Y' : Int} (e : idx gw gh X Y = idx gw gh X' Y') : X % spanP gw = X' % spanP gw ∧ Y % spanP gh = Y' % spanP gh := by
  have sw := spanP_bd h.w0 h.w1
  unfold idx at e
  generalize spanP gw = n at *
  generalize spanP gh = k at *
  have d1 := mul_add_div (a := Y % k) (b := X % n) (n := n) (by omega) (Int.emod_nonneg X (by omega)) (Int.emod_lt_of_pos X (by omega))
  have d2 := mul_add_div (a := Y' % k) (b := X' % n) (n := n) (by omega) (Int.emod_nonneg X' (by omega)) (Int.emod_lt_of_pos X' (by omega))
  rw [e] at d1
  exact ⟨d1.2.symm.trans d2.2, d1.1.symm.trans d2.1⟩
theorem idx_inj {gw gh : Int} (h : Side gw gh) {l t X Y X' Y' : Int} (h1 : InW gw gh l t X Y) (h2 : InW gw gh l t X' Y') (e : idx gw gh X Y = idx gw gh X' Y') : X = X' ∧ Y = Y' := by
  have sw := spanP_bd h.w0 h.w1
  have sh := spanP_bd h.h0 h.h1
  obtain ⟨e1, e2⟩ := idx_mod h e
  exact ⟨same_mod (by omega) h1.1 h2.1 e1, same_mod (by omega) h1.2 h2.2 e2⟩
/-- A cell in the window is given a state. -/
theorem get_set {gw gh : Int} (h : Side gw gh) {l t x y : Int} (S : List Int) (hl : S.length = 768) (hw : InW gw gh l t x y) (u X Y : Int) :
    getP gw gh l t (S.set (slotP gw gh l t x y).toNat u) X Y = if X = x ∧ Y = y then u else getP gw gh l t S X Y := by
  rw [slot_win h hw]
  have b := idx_bd h x y
  have b2 := idx_bd h X Y
  by_cases hW : InW gw gh l t X Y
  · rw [get_win h _ hW, get_win h _ hW]
    unfold List.getD
    rw [List.getElem?_set]
    by_cases e : X = x ∧ Y = y
    · obtain ⟨rfl, rfl⟩ := e
      rw [if_pos rfl, if_pos (by omega), if_pos ⟨rfl, rfl⟩]
      rfl
    · rw [if_neg e, if_neg]
      intro e2
      exact e ((idx_inj h hW hw (by omega)))
  · rw [get_out _ hW, get_out _ hW, if_neg]
    rintro ⟨rfl, rfl⟩
    exact hW hw
/-- For each cell there is one in the window that lies at the same place. -/
theorem rep (n l X : Int) (hn : 0 < n) : ∃ X', (l ≤ X' ∧ X' < l + n) ∧ X' % n = X % n := by
  refine ⟨l + (X - l) % n, ?_, ?_⟩
  · have := Int.emod_nonneg (X - l) (show n ≠ 0 by omega)
    have := Int.emod_lt_of_pos (X - l) hn
    omega
  · rw [Int.add_emod, Int.emod_emod, ← Int.add_emod]
    congr 1
    omega
theorem rep_win {gw gh : Int} (h : Side gw gh) (l t X Y : Int) : ∃ X' Y', InW gw gh l t X' Y' ∧ idx gw gh X' Y' = idx gw gh X Y := by
  have sw := spanP_bd h.w0 h.w1
  have sh := spanP_bd h.h0 h.h1
  obtain ⟨X', h1, e1⟩ := rep (spanP gw) l X (by omega)
  obtain ⟨Y', h2, e2⟩ := rep (spanP gh) t Y (by omega)
  exact ⟨X', Y', ⟨h1, h2⟩, by unfold idx; rw [e1, e2]⟩
/-- A window that moves to where all live cells are takes them with it. -/
theorem get_move {gw gh : Int} (h : Side gw gh) (l t l' t' : Int) (S : List Int) (hall : ∀ X Y, getP gw gh l t S X Y ≠ 0 → InW gw gh l' t' X Y) (X Y : Int) : getP gw gh l' t' S X Y = getP gw gh l t S X Y := by
  by_cases hn : InW gw gh l' t' X Y
  · rw [get_win h S hn]
    obtain ⟨X', Y', hw, e⟩ := rep_win h l t X Y
    have g := get_win h S hw
    rw [e] at g
    by_cases z : S.getD (idx gw gh X Y).toNat 0 = 0
    · rw [z]
      by_cases ho : InW gw gh l t X Y
      · rw [get_win h S ho, z]
      · rw [get_out S ho]
    · have hin := hall X' Y' (by rw [g]; exact z)
      obtain ⟨rfl, rfl⟩ := idx_inj h hin hn e
      exact g.symm
  · rw [get_out S hn]
    by_cases z : getP gw gh l t S X Y = 0
    · exact z.symm
    · exact absurd (hall X Y z) hn

/-- The box of the live cells: each live cell lies in it, and each of its edges is a live cell's. -/
theorem addB_mem (b : Bx) (x y : Int) : (addB b x y).e = false ∧ ((addB b x y).L ≤ x ∧ x ≤ (addB b x y).R ∨ b.e = false) ∧ True := by
  unfold addB
  by_cases h : b.e = true
  · rw [if_pos h]
    simp
  · rw [if_neg h]
    simp at h
    simp [h]
/-- b holds (X, Y). -/
def Hold (b : Bx) (X Y : Int) : Prop := b.e = false ∧ (b.L ≤ X ∧ X ≤ b.R) ∧ (b.T ≤ Y ∧ Y ≤ b.B)
theorem hold_add {b : Bx} {X Y : Int} (x y : Int) (h : Hold b X Y) : Hold (addB b x y) X Y := by
  obtain ⟨h1, h2, h3⟩ := h
  unfold addB Hold
  rw [if_neg (by rw [h1]; simp)]
  simp only
  refine ⟨trivial, ⟨?_, ?_⟩, ?_, ?_⟩ <;> split <;> omega
theorem hold_new (b : Bx) (x y : Int) : Hold (addB b x y) x y := by
  unfold addB Hold
  split
  · simp
  · simp only
    refine ⟨trivial, ⟨?_, ?_⟩, ?_, ?_⟩ <;> split <;> omega
theorem hold_row (G : Int → Int → Int) (l y : Int) (b : Bx) : ∀ n : Nat, (∀ X Y, Hold b X Y → Hold (liveRow G l y b n) X Y) ∧ (∀ m : Nat, m < n → G (l + m) y ≠ 0 → Hold (liveRow G l y b n) (l + m) y) := by
  intro n
  induction n with
  | zero => exact ⟨fun _ _ h => h, fun m hm => absurd hm (by omega)⟩
  | succ n ih =>
    unfold liveRow
    by_cases z : G (l + n) y = 0
    · rw [if_pos z]
      refine ⟨ih.1, fun m hm hg => ?_⟩
      by_cases e : m = n
      · subst e; exact absurd z hg
      · exact ih.2 m (by omega) hg
    · rw [if_neg z]
      refine ⟨fun X Y h => hold_add _ _ (ih.1 X Y h), fun m hm hg => ?_⟩
      by_cases e : m = n
      · subst e; exact hold_new _ _ _
      · exact hold_add _ _ (ih.2 m (by omega) hg)
theorem hold_all (G : Int → Int → Int) (l t : Int) (n : Nat) : ∀ k : Nat, ∀ m j : Nat, m < n → j < k → G (l + m) (t + j) ≠ 0 → Hold (liveAll G l t n k) (l + m) (t + j) := by
  intro k
  induction k with
  | zero => intro m j _ hj; omega
  | succ k ih =>
    intro m j hm hj hg
    unfold liveAll
    by_cases e : j = k
    · subst e
      exact (hold_row G l (t + j) _ n).2 m hm hg
    · exact (hold_row G l (t + k) _ n).1 _ _ (ih m j hm (by omega) hg)
theorem hold_live {gw gh l t : Int} (S : List Int) {X Y : Int} (hg : getP gw gh l t S X Y ≠ 0) : Hold (liveP gw gh l t S) X Y := by
  have hw : InW gw gh l t X Y := by
    by_cases h : InW gw gh l t X Y
    · exact h
    · exact absurd (get_out S h) hg
  obtain ⟨⟨h1, h2⟩, h3, h4⟩ := hw
  have e1 : X = l + ((X - l).toNat : Int) := by omega
  have e2 : Y = t + ((Y - t).toNat : Int) := by omega
  unfold liveP
  have := hold_all (getP gw gh l t S) l t (spanP gw).toNat (spanP gh).toNat (X - l).toNat (Y - t).toNat (by omega) (by omega) (by rw [← e1, ← e2]; exact hg)
  rw [← e1, ← e2] at this
  exact this
/-- What holds of each live cell's numbers holds of the box's edges. -/
def Edges (PX PY : Int → Prop) (b : Bx) : Prop := b.e = true ∨ (PX b.L ∧ PX b.R ∧ PY b.T ∧ PY b.B)
theorem edges_add {PX PY : Int → Prop} {b : Bx} {x y : Int} (h : Edges PX PY b) (hx : PX x) (hy : PY y) : Edges PX PY (addB b x y) := by
  right
  unfold addB
  by_cases e : b.e = true
  · rw [if_pos e]
    exact ⟨hx, hx, hy, hy⟩
  · rw [if_neg e]
    obtain ⟨h1, h2, h3, h4⟩ := h.resolve_left e
    simp only
    refine ⟨?_, ?_, ?_, ?_⟩ <;> split <;> assumption
theorem edges_row {PX PY : Int → Prop} (G : Int → Int → Int) (l y : Int) (b : Bx) (hb : Edges PX PY b) (n : Nat) (hall : ∀ m : Nat, m < n → G (l + m) y ≠ 0 → PX (l + m) ∧ PY y) : Edges PX PY (liveRow G l y b n) := by
  induction n with
  | zero => exact hb
  | succ n ih =>
    have := ih (fun m hm => hall m (by omega))
    unfold liveRow
    by_cases z : G (l + n) y = 0
    · rw [if_pos z]; exact this
    · rw [if_neg z]
      exact edges_add this (hall n (by omega) z).1 (hall n (by omega) z).2
theorem edges_all {PX PY : Int → Prop} (G : Int → Int → Int) (l t : Int) (n k : Nat) (hall : ∀ m j : Nat, m < n → j < k → G (l + m) (t + j) ≠ 0 → PX (l + m) ∧ PY (t + j)) : Edges PX PY (liveAll G l t n k) := by
  induction k with
  | zero => left; rfl
  | succ k ih =>
    unfold liveAll
    exact edges_row G l (t + k) _ (ih fun m j hm hj => hall m j hm (by omega)) n (fun m hm hg => hall m k hm (by omega) hg)
theorem edges_live {PX PY : Int → Prop} {gw gh l t : Int} (S : List Int) (hall : ∀ X Y, getP gw gh l t S X Y ≠ 0 → PX X ∧ PY Y) : Edges PX PY (liveP gw gh l t S) :=
  edges_all _ _ _ _ _ (fun _ _ _ _ hg => hall _ _ hg)
end Go.Proofs.YtbdbkjngdhcjpaaDoor
namespace Go.Proofs.YtbdbkjngdhcjpaaDoor
open Go.RowKit
open Go.Proofs

def getG (gw gh : Int) (g : Gs) (X Y : Int) : Int := getP gw gh g.l g.t g.S X Y
structure GsOk (c gw gh : Int) (g : Gs) : Prop where
  len : g.S.length = 768
  lb : -9999 ≤ g.l ∧ g.l ≤ 9999
  tb : -9999 ≤ g.t ∧ g.t ≤ 9999
  lw : gw ≠ 0 → g.l = 0
  th : gh ≠ 0 → g.t = 0
  live : ∀ X Y, getG gw gh g X Y ≠ 0 → (-9999 ≤ X ∧ X ≤ 9999) ∧ (-9999 ≤ Y ∧ Y ≤ 9999)
  st : ∀ k, 0 ≤ g.S.getD k 0 ∧ g.S.getD k 0 < c
/-- A cell of the shape, no farther out than a live one may be. -/
structure Spot (gw gh X Y : Int) : Prop where
  x : gw ≠ 0 → 0 ≤ X ∧ X < gw
  y : gh ≠ 0 → 0 ≤ Y ∧ Y < gh
  xb : -9999 ≤ X ∧ X ≤ 9999
  yb : -9999 ≤ Y ∧ Y ≤ 9999
/-- The live cells and this one have room. -/
def FitB (gw gh : Int) (b : Bx) : Prop := (gw = 0 → b.R - b.L < 64) ∧ (gh = 0 → b.B - b.T < 64)
def Fits (gw gh : Int) (g : Gs) (x y : Int) : Prop := FitB gw gh (addB (liveP gw gh g.l g.t g.S) x y)
theorem span0 {g : Int} (h : g = 0) : spanP g = 64 := by unfold spanP; rw [if_pos h]
theorem span1 {g : Int} (h : g ≠ 0) : spanP g = g := by unfold spanP; rw [if_neg h]
theorem live_win {gw gh l t : Int} {S : List Int} {X Y : Int} (hg : getP gw gh l t S X Y ≠ 0) : InW gw gh l t X Y := by
  by_cases h : InW gw gh l t X Y
  · exact h
  · exact absurd (get_out S h) hg
theorem fits_win {gw gh : Int} {g : Gs} {x y : Int} (hw : InW gw gh g.l g.t x y) : Fits gw gh g x y := by
  have e := edges_live (gw := gw) (gh := gh) (l := g.l) (t := g.t) g.S (PX := fun X => g.l ≤ X ∧ X < g.l + spanP gw) (PY := fun Y => g.t ≤ Y ∧ Y < g.t + spanP gh) (fun X Y hg => live_win hg)
  have e2 := (edges_add e hw.1 hw.2).resolve_left (by rw [(addB_mem _ _ _).1]; simp)
  obtain ⟨h1, h2, h3, h4⟩ := e2
  unfold Fits FitB
  generalize addB (liveP gw gh g.l g.t g.S) x y = b at *
  constructor
  · intro h
    have := span0 h
    omega
  · intro h
    have := span0 h
    omega
theorem set_st {c u : Int} {S : List Int} (h : ∀ k, 0 ≤ S.getD k 0 ∧ S.getD k 0 < c) (hu : 0 ≤ u ∧ u < c) (i : Nat) : ∀ k, 0 ≤ (S.set i u).getD k 0 ∧ (S.set i u).getD k 0 < c := by
  intro k
  have hk := h k
  unfold List.getD at *
  rw [List.getElem?_set]
  by_cases e : i = k
  · rw [if_pos e]
    split
    · simpa using hu
    · subst e
      simp
      omega
  · rw [if_neg e]
    exact hk
/-- In the window. -/
theorem set_ok {c gw gh : Int} (h : Side gw gh) {g : Gs} (ho : GsOk c gw gh g) {x y u : Int} (hs : Spot gw gh x y) (hu : 0 ≤ u ∧ u < c) (hw : InW gw gh g.l g.t x y) :
    GsOk c gw gh (setG gw gh g x y u) ∧ ∀ X Y, getG gw gh (setG gw gh g x y u) X Y = if X = x ∧ Y = y then u else getG gw gh g X Y := by
  have hg : ∀ X Y, getG gw gh (setG gw gh g x y u) X Y = if X = x ∧ Y = y then u else getG gw gh g X Y := fun X Y => get_set h g.S ho.len hw u X Y
  refine ⟨⟨?_, ho.lb, ho.tb, ho.lw, ho.th, fun X Y hne => ?_, set_st ho.st hu _⟩, hg⟩
  · show (g.S.set _ _).length = 768
    rw [List.length_set]
    exact ho.len
  · rw [hg] at hne
    by_cases e : X = x ∧ Y = y
    · obtain ⟨rfl, rfl⟩ := e
      exact ⟨hs.xb, hs.yb⟩
    · rw [if_neg e] at hne
      exact ho.live X Y hne
theorem reach_no {gw gh : Int} {g : Gs} {x y : Int} (h1 : ¬ (gw = 0 ∧ (addB (liveP gw gh g.l g.t g.S) x y).R - (addB (liveP gw gh g.l g.t g.S) x y).L < 64)) (h2 : ¬ (gh = 0 ∧ (addB (liveP gw gh g.l g.t g.S) x y).B - (addB (liveP gw gh g.l g.t g.S) x y).T < 64)) : reachG gw gh g x y = g := by
  unfold reachG
  rw [if_neg h1, if_neg h2]
/-- A window that reaches: it holds all live cells and the new one. -/
theorem reach_ok {c gw gh : Int} (h : Side gw gh) {g : Gs} (ho : GsOk c gw gh g) {x y : Int} (hs : Spot gw gh x y) (hf : Fits gw gh g x y) (hout : ¬ InW gw gh g.l g.t x y) :
    GsOk c gw gh (reachG gw gh g x y) ∧ InW gw gh (reachG gw gh g x y).l (reachG gw gh g x y).t x y ∧ ∀ X Y, getG gw gh (reachG gw gh g x y) X Y = getG gw gh g X Y := by
  have hol : ∀ X Y, getP gw gh g.l g.t g.S X Y ≠ 0 → Hold (addB (liveP gw gh g.l g.t g.S) x y) X Y := fun X Y hg => hold_add x y (hold_live g.S hg)
  have hnew := hold_new (liveP gw gh g.l g.t g.S) x y
  have ed := (edges_add (edges_live (gw := gw) (gh := gh) (l := g.l) (t := g.t) g.S (PX := fun X => -9999 ≤ X ∧ X ≤ 9999) (PY := fun Y => -9999 ≤ Y ∧ Y ≤ 9999) (fun X Y hg => ho.live X Y hg)) hs.xb hs.yb).resolve_left (by rw [(addB_mem _ _ _).1]; simp)
  obtain ⟨hf1, hf2⟩ := hf
  have hone := h.one
  have key : InW gw gh (reachG gw gh g x y).l (reachG gw gh g x y).t x y ∧ (∀ X Y, getP gw gh g.l g.t g.S X Y ≠ 0 → InW gw gh (reachG gw gh g x y).l (reachG gw gh g x y).t X Y) ∧ (-9999 ≤ (reachG gw gh g x y).l ∧ (reachG gw gh g x y).l ≤ 9999) ∧ (-9999 ≤ (reachG gw gh g x y).t ∧ (reachG gw gh g x y).t ≤ 9999) ∧ (gw ≠ 0 → (reachG gw gh g x y).l = 0) ∧ (gh ≠ 0 → (reachG gw gh g x y).t = 0) := by
    unfold reachG
    generalize addB (liveP gw gh g.l g.t g.S) x y = b at *
    obtain ⟨ed1, ed2, ed3, ed4⟩ := ed
    obtain ⟨_, n1, n2⟩ := hnew
    have lb := ho.lb
    have tb := ho.tb
    by_cases hw : gw = 0
    · have hh : gh ≠ 0 := by omega
      have sw := span0 hw
      have sh := span1 hh
      have ht := ho.th hh
      have hy := hs.y hh
      have f1 := hf1 hw
      simp only [if_pos (And.intro hw f1), if_neg (show ¬ (gh = 0 ∧ b.B - b.T < 64) by omega)]
      refine ⟨⟨by omega, by omega⟩, fun X Y hg => ?_, by omega, by omega, by omega, by omega⟩
      obtain ⟨_, a1, a2⟩ := hol X Y hg
      have := (live_win hg).2
      exact ⟨by omega, by omega⟩
    · have sw := span1 hw
      have hl := ho.lw hw
      have hx := hs.x hw
      by_cases hh : gh = 0
      · have sh := span0 hh
        have f2 := hf2 hh
        simp only [if_neg (show ¬ (gw = 0 ∧ b.R - b.L < 64) by omega), if_pos (And.intro hh f2)]
        refine ⟨⟨by omega, by omega⟩, fun X Y hg => ?_, by omega, by omega, by omega, by omega⟩
        obtain ⟨_, a1, a2⟩ := hol X Y hg
        have := (live_win hg).1
        exact ⟨by omega, by omega⟩
      · exfalso
        have sh := span1 hh
        have ht := ho.th hh
        have hy := hs.y hh
        exact hout ⟨by omega, by omega⟩
  obtain ⟨k1, k2, k3, k4, k5, k6⟩ := key
  have hS : (reachG gw gh g x y).S = g.S := rfl
  have hg : ∀ X Y, getG gw gh (reachG gw gh g x y) X Y = getG gw gh g X Y := fun X Y => get_move h g.l g.t _ _ g.S k2 X Y
  refine ⟨⟨ho.len, k3, k4, k5, k6, fun X Y hne => ?_, ho.st⟩, k1, hg⟩
  rw [hg] at hne
  exact ho.live X Y hne
theorem put_spec {c gw gh : Int} (h : Side gw gh) {g : Gs} (ho : GsOk c gw gh g) {x y u : Int} (hs : Spot gw gh x y) (hu : 0 ≤ u ∧ u < c) (hf : u = 0 ∨ Fits gw gh g x y) :
    (putG gw gh g x y u).1 = true ∧ GsOk c gw gh (putG gw gh g x y u).2 ∧ ∀ X Y, getG gw gh (putG gw gh g x y u).2 X Y = if X = x ∧ Y = y then u else getG gw gh g X Y := by
  unfold putG
  by_cases hw : InW gw gh g.l g.t x y
  · rw [if_pos ((slot_iff h).2 hw)]
    have := set_ok h ho hs hu hw
    exact ⟨rfl, this.1, this.2⟩
  · rw [if_neg (fun e => hw ((slot_iff h).1 e))]
    by_cases hz : u = 0
    · rw [if_pos hz]
      refine ⟨rfl, ho, fun X Y => ?_⟩
      by_cases e : X = x ∧ Y = y
      · obtain ⟨rfl, rfl⟩ := e
        rw [if_pos ⟨rfl, rfl⟩, hz]
        exact get_out g.S hw
      · rw [if_neg e]
    · rw [if_neg hz]
      obtain ⟨r1, r2, r3⟩ := reach_ok h ho hs (hf.resolve_left hz) hw
      rw [if_pos ((slot_iff h).2 r2)]
      have := set_ok h r1 hs hu r2
      refine ⟨rfl, this.1, fun X Y => ?_⟩
      rw [this.2 X Y, r3 X Y]
theorem put_fail {gw gh : Int} (h : Side gw gh) {g : Gs} {x y u : Int} (hf : ¬ (u = 0 ∨ Fits gw gh g x y)) : putG gw gh g x y u = (false, g) := by
  have hz : ¬ u = 0 := fun e => hf (Or.inl e)
  have hf' : ¬ Fits gw gh g x y := fun e => hf (Or.inr e)
  have hw : ¬ InW gw gh g.l g.t x y := fun e => hf' (fits_win e)
  have hone := h.one
  have hr : reachG gw gh g x y = g := by
    have nf : ¬ FitB gw gh (addB (liveP gw gh g.l g.t g.S) x y) := hf'
    apply reach_no
    · rintro ⟨e1, e2⟩
      exact nf ⟨fun _ => e2, fun e3 => by omega⟩
    · rintro ⟨e1, e2⟩
      exact nf ⟨fun e3 => by omega, fun _ => e2⟩
  unfold putG
  rw [if_neg (fun e => hw ((slot_iff h).1 e)), if_neg hz, hr, if_neg (fun e => hw ((slot_iff h).1 e))]
theorem gs_empty {c gw gh : Int} (hc : 0 < c) (h : Side gw gh) (S : List Int) (hS : S.length = 768) (h0 : ∀ k, S.getD k 0 = 0) : GsOk c gw gh ⟨0, 0, S⟩ ∧ ∀ X Y, getG gw gh ⟨0, 0, S⟩ X Y = 0 := by
  have hg : ∀ X Y, getG gw gh ⟨0, 0, S⟩ X Y = 0 := fun X Y => by
    unfold getG
    by_cases hw : InW gw gh 0 0 X Y
    · show getP gw gh 0 0 S X Y = 0
      rw [get_win h S hw]
      exact h0 _
    · exact get_out S hw
  exact ⟨⟨hS, by show -9999 ≤ (0 : Int) ∧ (0 : Int) ≤ 9999; omega, by show -9999 ≤ (0 : Int) ∧ (0 : Int) ≤ 9999; omega, fun _ => rfl, fun _ => rfl, fun X Y hne => absurd (hg X Y) hne, fun k => by rw [h0 k]; omega⟩, hg⟩
theorem side_of {x : Pu.Shape} (h : Pu.ShapeOk x) : Side x.w x.h := ⟨h.w0, h.w12, h.h0, h.h12, h.one⟩
theorem spot_of {x : Pu.Shape} (h : Pu.ShapeOk x) {X Y : Int} (h1 : hasB x X Y = true) (h2 : nearB x X Y = true) : Spot x.w x.h X Y := by
  have w0 := h.w0
  have w12 := h.w12
  have h0 := h.h0
  have h12 := h.h12
  unfold hasB onSideB at h1
  unfold nearB nearOnB at h2
  simp at h1 h2
  refine ⟨fun e => ?_, fun e => ?_, ?_, ?_⟩ <;> omega
end Go.Proofs.YtbdbkjngdhcjpaaDoor
