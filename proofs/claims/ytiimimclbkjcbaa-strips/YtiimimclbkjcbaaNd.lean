import Derived.Test.YtiimimclbkjcbaaNc
import Derived.Test.YtiimimclbkjcbaaJc
namespace Go.Proofs.Ytiimimclbkjcbaa
open Go.RowKit
open Go.Proofs

/-- The cells that may be live in the next generation. -/
def areaP (x : Pu.Shape) (b : Bx) : Bx :=
  if b.e = true then ⟨false, 0, 0, x.w - 1, x.h - 1⟩
  else ⟨false, if x.w = 0 then b.L - 1 else 0, if x.h = 0 then b.T - 1 else 0, if x.w = 0 then b.R + 1 else x.w - 1, if x.h = 0 then b.B + 1 else x.h - 1⟩
/-- What follows at (X, Y). -/
def valN (r : Pu.Rule) (x : Pu.Shape) (g : Gs) (X Y : Int) : Int := nextR r (getG x.w x.h g X Y) (ones9 (onesW r.around fun a b => nbG x g (X + ((a : Int) - 1)) (Y + ((b : Int) - 1))) 9)
/-- The cells of the next generation, one more. -/
def cellN (r : Pu.Rule) (x : Pu.Shape) (g : Gs) (p : Bool × Gs) (X Y : Int) : Bool × Gs :=
  if p.1 = false then p else if valN r x g X Y = 0 then p else if nearB x X Y = false then (false, p.2) else putG x.w x.h p.2 X Y (valN r x g X Y)
def rowX (r : Pu.Rule) (x : Pu.Shape) (g : Gs) (X0 Y : Int) (p : Bool × Gs) : Nat → Bool × Gs
  | 0 => p
  | k + 1 => cellN r x g (rowX r x g X0 Y p k) (X0 + k) Y
def allX (r : Pu.Rule) (x : Pu.Shape) (g : Gs) (X0 Y0 : Int) (n : Nat) (p : Bool × Gs) : Nat → Bool × Gs
  | 0 => p
  | k + 1 => rowX r x g X0 (Y0 + k) (allX r x g X0 Y0 n p k) n
def areaG (x : Pu.Shape) (g : Gs) : Bx := areaP x (liveP x.w x.h g.l g.t g.S)
/-- The next generation; false, if it finds no room. -/
def nextG (r : Pu.Rule) (x : Pu.Shape) (g : Gs) : Bool × Gs :=
  allX r x g (areaG x g).L (areaG x g).T ((areaG x g).R - (areaG x g).L + 1).toNat (true, ⟨0, 0, noS⟩) ((areaG x g).B - (areaG x g).T + 1).toNat
theorem cellN_stop {r : Pu.Rule} {x : Pu.Shape} {g : Gs} {p : Bool × Gs} (h : p.1 = false) (X Y : Int) : cellN r x g p X Y = p := by
  unfold cellN
  rw [if_pos h]
theorem rowX_stop {r : Pu.Rule} {x : Pu.Shape} {g : Gs} {X0 Y : Int} {p : Bool × Gs} {k : Nat} (h : (rowX r x g X0 Y p k).1 = false) : ∀ m : Nat, k ≤ m → rowX r x g X0 Y p m = rowX r x g X0 Y p k := by
  intro m hm
  induction m with
  | zero => have : k = 0 := by omega
            subst this; rfl
  | succ m ih =>
    by_cases e : k = m + 1
    · rw [e]
    · have := ih (by omega)
      show cellN r x g (rowX r x g X0 Y p m) _ _ = _
      rw [this]
      exact cellN_stop h _ _
theorem rowX_id {r : Pu.Rule} {x : Pu.Shape} {g : Gs} {X0 Y : Int} {p : Bool × Gs} (h : p.1 = false) (m : Nat) : rowX r x g X0 Y p m = p := rowX_stop (k := 0) h m (Nat.zero_le _)
theorem allX_stop {r : Pu.Rule} {x : Pu.Shape} {g : Gs} {X0 Y0 : Int} {n : Nat} {p : Bool × Gs} {k : Nat} (h : (allX r x g X0 Y0 n p k).1 = false) : ∀ m : Nat, k ≤ m → allX r x g X0 Y0 n p m = allX r x g X0 Y0 n p k := by
  intro m hm
  induction m with
  | zero => have : k = 0 := by omega
            subst this; rfl
  | succ m ih =>
    by_cases e : k = m + 1
    · rw [e]
    · have := ih (by omega)
      show rowX r x g X0 (Y0 + m) (allX r x g X0 Y0 n p m) n = _
      rw [this]
      exact rowX_id h _
/-- Where one cell finds no room, nothing else is put. -/
theorem allX_cut {r : Pu.Rule} {x : Pu.Shape} {g : Gs} {X0 Y0 : Int} {n : Nat} {p : Bool × Gs} {j i : Nat} (hi : i ≤ n) (h : (rowX r x g X0 (Y0 + j) (allX r x g X0 Y0 n p j) i).1 = false) (m : Nat) (hm : j < m) : allX r x g X0 Y0 n p m = rowX r x g X0 (Y0 + j) (allX r x g X0 Y0 n p j) i := by
  have e1 : allX r x g X0 Y0 n p (j + 1) = rowX r x g X0 (Y0 + j) (allX r x g X0 Y0 n p j) i := rowX_stop h n hi
  rw [← e1]
  exact allX_stop (by rw [e1]; exact h) m hm
theorem valN_bd {r : Pu.Rule} (h2 : 2 ≤ r.states) {x : Pu.Shape} {g : Gs} (ho : GsOk r.states x.w x.h g) (X Y : Int) : 0 ≤ valN r x g X Y ∧ valN r x g X Y < r.states := by
  unfold valN
  refine nextR_bd r h2 _ _ ?_
  unfold getG getP
  split
  · omega
  · exact (ho.st _).1
theorem cellN_ok {r : Pu.Rule} (h2 : 2 ≤ r.states) {x : Pu.Shape} (hx : Pu.ShapeOk x) {g : Gs} (ho : GsOk r.states x.w x.h g) {p : Bool × Gs} (hp : GsOk r.states x.w x.h p.2) {X Y : Int} (hh : hasB x X Y = true) : GsOk r.states x.w x.h (cellN r x g p X Y).2 := by
  unfold cellN
  split
  · exact hp
  · split
    · exact hp
    · split
      · exact hp
      · rename_i h1 h2' h3
        have hs := spot_of hx hh (by simpa using h3)
        have hu := valN_bd h2 ho X Y
        by_cases hf : valN r x g X Y = 0 ∨ Fits x.w x.h p.2 X Y
        · exact (put_spec (side_of hx) hp hs hu hf).2.1
        · rw [put_fail (side_of hx) hf]
          exact hp
theorem rowX_ok {r : Pu.Rule} (h2 : 2 ≤ r.states) {x : Pu.Shape} (hx : Pu.ShapeOk x) {g : Gs} (ho : GsOk r.states x.w x.h g) {p : Bool × Gs} (hp : GsOk r.states x.w x.h p.2) {X0 Y : Int} : ∀ k : Nat, (∀ i : Nat, i < k → hasB x (X0 + i) Y = true) → GsOk r.states x.w x.h (rowX r x g X0 Y p k).2 := by
  intro k
  induction k with
  | zero => intro _; exact hp
  | succ k ih =>
    intro hh
    exact cellN_ok h2 hx ho (ih fun i hi => hh i (by omega)) (hh k (by omega))
theorem allX_ok {r : Pu.Rule} (h2 : 2 ≤ r.states) {x : Pu.Shape} (hx : Pu.ShapeOk x) {g : Gs} (ho : GsOk r.states x.w x.h g) {p : Bool × Gs} (hp : GsOk r.states x.w x.h p.2) {X0 Y0 : Int} {n : Nat} : ∀ k : Nat, (∀ i j : Nat, i < n → j < k → hasB x (X0 + i) (Y0 + j) = true) → GsOk r.states x.w x.h (allX r x g X0 Y0 n p k).2 := by
  intro k
  induction k with
  | zero => intro _; exact hp
  | succ k ih =>
    intro hh
    exact rowX_ok h2 hx ho (ih fun i j hi hj => hh i j hi (by omega)) n (fun i hi => hh i k hi (by omega))
/-- The area's edges, and that its cells are cells of the shape. -/
theorem area_bd {c : Int} {x : Pu.Shape} (hx : Pu.ShapeOk x) {g : Gs} (ho : GsOk c x.w x.h g) :
    (-10000 ≤ (areaG x g).L ∧ (areaG x g).L ≤ 10000) ∧ (-10000 ≤ (areaG x g).T ∧ (areaG x g).T ≤ 10000) ∧ (-10000 ≤ (areaG x g).R ∧ (areaG x g).R ≤ 10000) ∧ (-10000 ≤ (areaG x g).B ∧ (areaG x g).B ≤ 10000) := by
  have ed := edges_live (gw := x.w) (gh := x.h) (l := g.l) (t := g.t) g.S (PX := fun X => -9999 ≤ X ∧ X ≤ 9999) (PY := fun Y => -9999 ≤ Y ∧ Y ≤ 9999) (fun X Y hg => ho.live X Y hg)
  have w0 := hx.w0
  have w12 := hx.w12
  have h0 := hx.h0
  have h12 := hx.h12
  unfold areaG areaP
  generalize liveP x.w x.h g.l g.t g.S = b at *
  by_cases e : b.e = true
  · rw [if_pos e]
    simp only
    omega
  · rw [if_neg e]
    obtain ⟨e1, e2, e3, e4⟩ := ed.resolve_left e
    simp only
    refine ⟨⟨?_, ?_⟩, ⟨?_, ?_⟩, ⟨?_, ?_⟩, ?_, ?_⟩ <;> split <;> omega
theorem area_has {x : Pu.Shape} (hx : Pu.ShapeOk x) (g : Gs) {X Y : Int} (h1 : (areaG x g).L ≤ X ∧ X ≤ (areaG x g).R) (h2 : (areaG x g).T ≤ Y ∧ Y ≤ (areaG x g).B) : hasB x X Y = true := by
  have w0 := hx.w0
  have h0 := hx.h0
  unfold hasB onSideB
  unfold areaG areaP at h1 h2
  generalize liveP x.w x.h g.l g.t g.S = b at *
  rw [Bool.and_eq_true, decide_eq_true_iff, decide_eq_true_iff]
  by_cases e : b.e = true
  · rw [if_pos e] at h1 h2
    simp only at h1 h2
    omega
  · rw [if_neg e] at h1 h2
    simp only at h1 h2
    constructor
    · by_cases z : x.w = 0
      · exact Or.inl z
      · rw [if_neg z, if_neg z] at h1
        right; omega
    · by_cases z : x.h = 0
      · exact Or.inl z
      · rw [if_neg z, if_neg z] at h2
        right; omega
theorem empty_ok {c : Int} (hc : 0 < c) {x : Pu.Shape} (hx : Pu.ShapeOk x) : GsOk c x.w x.h ⟨0, 0, noS⟩ := (gs_empty hc (side_of hx) noS noS_len noS_zero).1
theorem nextG_ok {r : Pu.Rule} (h2 : 2 ≤ r.states) {x : Pu.Shape} (hx : Pu.ShapeOk x) {g : Gs} (ho : GsOk r.states x.w x.h g) : GsOk r.states x.w x.h (nextG r x g).2 :=
  allX_ok h2 hx ho (p := (true, ⟨0, 0, noS⟩)) (empty_ok (by omega) hx) _ (fun i j hi hj => area_has hx g (by omega) (by omega))
/-- n generations; false, if one of them finds no room. -/
def stepG (r : Pu.Rule) (x : Pu.Shape) (g : Gs) : Nat → Bool × Gs
  | 0 => (true, g)
  | n + 1 => if (stepG r x g n).1 = false then stepG r x g n else nextG r x (stepG r x g n).2
theorem stepG_stop {r : Pu.Rule} {x : Pu.Shape} {g : Gs} {k : Nat} (h : (stepG r x g k).1 = false) : ∀ m : Nat, k ≤ m → stepG r x g m = stepG r x g k := by
  intro m hm
  induction m with
  | zero => have : k = 0 := by omega
            subst this; rfl
  | succ m ih =>
    by_cases e : k = m + 1
    · rw [e]
    · have := ih (by omega)
      show (if (stepG r x g m).1 = false then stepG r x g m else _) = _
      rw [if_pos (by rw [this]; exact h), this]
theorem stepG_ok {r : Pu.Rule} (h2 : 2 ≤ r.states) {x : Pu.Shape} (hx : Pu.ShapeOk x) {g : Gs} (ho : GsOk r.states x.w x.h g) : ∀ n : Nat, GsOk r.states x.w x.h (stepG r x g n).2 := by
  intro n
  induction n with
  | zero => exact ho
  | succ n ih =>
    unfold stepG
    split
    · exact ih
    · exact nextG_ok h2 hx ih
end Go.Proofs.Ytiimimclbkjcbaa
