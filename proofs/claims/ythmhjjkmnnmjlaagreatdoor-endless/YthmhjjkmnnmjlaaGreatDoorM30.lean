import Derived.Test.YthmhjjkmnnmjlaaGreatDoorM29
import Derived.Test.YthmhjjkmnnmjlaaGreatDoorM28
import Derived.Test.YthmhjjkmnnmjlaaGreatDoorM21
import Derived.Test.YthmhjjkmnnmjlaaGreatDoorM26
import Derived.Test.YthmhjjkmnnmjlaaGreatDoorM19
import Derived.Deep.CutRange
namespace Go.Proofs.YthmhjjkmnnmjlaaGreatDoor
open Go.RowKit
open Go.Proofs

/-- The cells that may be live in the next generation. -/
def areaP (x : Pu.Shape) (b : Bx) : Bx :=
  if b.e = true then ⟨false, 0, 0, x.w - 1, x.h - 1⟩
  else ⟨false, if x.w = 0 then b.L - 1 else 0, if x.h = 0 then b.T - 1 else 0, if x.w = 0 then b.R + 1 else x.w - 1, if x.h = 0 then b.B + 1 else x.h - 1⟩
/-- What follows at (X, Y). -/
def valN (r : Pu.Rule) (x : Pu.Shape) (g : Gs) (X Y : Int) : Int := nextR r (getG x.w x.h g X Y) (ones9 (onesW r.around fun a b => nbG x g (X + ((a : Int) - 1)) (Y + ((b : Int) - 1))) 9)
/-- The cells of the next generation, one more. -/
def cellN (r : Pu.Rule) (x : Pu.Shape) (g : Gs) (p : Bool × Gs) (X Y : Int) : Bool × Gs :=
  if p.1 = false then p else if valN r x g X Y = 0 then p else if nearB x X Y = false then (false, p.2) else putG x.w x.h p.2 X Y (valN r x g X Y)
def rowX (r : Pu.Rule) (x : Pu.Shape) (g : Gs) (X0 Y : Int) (p : Bool × Gs) : Nat → Bool × Gs
  | 0 => p
  | k + 1 => cellN r x g (rowX r x g X0 Y p k) (X0 + k) Y
def allX (r : Pu.Rule) (x : Pu.Shape) (g : Gs) (X0 Y0 : Int) (n : Nat) (p : Bool × Gs) : Nat → Bool × Gs
  | 0 => p
  | k + 1 => rowX r x g X0 (Y0 + k) (allX r x g X0 Y0 n p k) n
def areaG (x : Pu.Shape) (g : Gs) : Bx := areaP x (liveP x.w x.h g.l g.t g.S)
/-- The next generation; false, if it finds no room. -/
def nextG (r : Pu.Rule) (x : Pu.Shape) (g : Gs) : Bool × Gs :=
  allX r x g (areaG x g).L (areaG x g).T ((areaG x g).R - (areaG x g).L + 1).toNat (true, ⟨0, 0, noS⟩) ((areaG x g).B - (areaG x g).T + 1).toNat
theorem cellN_stop {r : Pu.Rule} {x : Pu.Shape} {g : Gs} {p : Bool × Gs} (h : p.1 = false) (X Y : Int) : cellN r x g p X Y = p := by
  unfold cellN
  rw [if_pos h]
theorem rowX_stop {r : Pu.Rule} {x : Pu.Shape} {g : Gs} {X0 Y : Int} {p : Bool × Gs} {k : Nat} (h : (rowX r x g X0 Y p k).1 = false) : ∀ m : Nat, k ≤ m → rowX r x g X0 Y p m = rowX r x g X0 Y p k := by
  intro m hm
  induction m with
  | zero => have : k = 0 := by omega
            subst this; rfl
  | succ m ih =>
    by_cases e : k = m + 1
    · rw [e]
    · have := ih (by omega)
      show cellN r x g (rowX r x g X0 Y p m) _ _ = _
      rw [this]
      exact cellN_stop h _ _
theorem rowX_id {r : Pu.Rule} {x : Pu.Shape} {g : Gs} {X0 Y : Int} {p : Bool × Gs} (h : p.1 = false) (m : Nat) : rowX r x g X0 Y p m = p := rowX_stop (k := 0) h m (Nat.zero_le _)
theorem allX_stop {r : Pu.Rule} {x : Pu.Shape} {g : Gs} {X0 Y0 : Int} {n : Nat} {p : Bool × Gs} {k : Nat} (h : (allX r x g X0 Y0 n p k).1 = false) : ∀ m : Nat, k ≤ m → allX r x g X0 Y0 n p m = allX r x g X0 Y0 n p k := by
  intro m hm
  induction m with
  | zero => have : k = 0 := by omega
            subst this; rfl
  | succ m ih =>
    by_cases e : k = m + 1
    · rw [e]
    · have := ih (by omega)
      show rowX r x g X0 (Y0 + m) (allX r x g X0 Y0 n p m) n = _
      rw [this]
      exact rowX_id h _
/-- Where one cell finds no room, nothing else is put. -/
theorem allX_cut {r : Pu.Rule} {x : Pu.Shape} {g : Gs} {X0 Y0 : Int} {n : Nat} {p : Bool × Gs} {j i : Nat} (hi : i ≤ n) (h : (rowX r x g X0 (Y0 + j) (allX r x g X0 Y0 n p j) i).1 = false) (m : Nat) (hm : j < m) : allX r x g X0 Y0 n p m = rowX r x g X0 (Y0 + j) (allX r x g X0 Y0 n p j) i := by
  have e1 : allX r x g X0 Y0 n p (j + 1) = rowX r x g X0 (Y0 + j) (allX r x g X0 Y0 n p j) i := rowX_stop h n hi
  rw [← e1]
  exact allX_stop (by rw [e1]; exact h) m hm
theorem valN_bd {r : Pu.Rule} (h2 : 2 ≤ r.states) {x : Pu.Shape} {g : Gs} (ho : GsOk r.states x.w x.h g) (X Y : Int) : 0 ≤ valN r x g X Y ∧ valN r x g X Y < r.states := by
  unfold valN
  refine nextR_bd r h2 _ _ ?_
  unfold getG getP
  split
  · omega
  · exact (ho.st _).1
theorem cellN_ok {r : Pu.Rule} (h2 : 2 ≤ r.states) {x : Pu.Shape} (hx : Pu.ShapeOk x) {g : Gs} (ho : GsOk r.states x.w x.h g) {p : Bool × Gs} (hp : GsOk r.states x.w x.h p.2) {X Y : Int} (hh : hasB x X Y = true) : GsOk r.states x.w x.h (cellN r x g p X Y).2 := by
  unfold cellN
  split
  · exact hp
  · split
    · exact hp
    · split
      · exact hp
      · rename_i h1 h2' h3
        have hs := spot_of hx hh (by simpa using h3)
        have hu := valN_bd h2 ho X Y
        by_cases hf : valN r x g X Y = 0 ∨ Fits x.w x.h p.2 X Y
        · exact (put_spec (side_of hx) hp hs hu hf).2.1
        · rw [put_fail (side_of hx) hf]
          exact hp
theorem rowX_ok {r : Pu.Rule} (h2 : 2 ≤ r.states) {x : Pu.Shape} (hx : Pu.ShapeOk x) {g : Gs} (ho : GsOk r.states x.w x.h g) {p : Bool × Gs} (hp : GsOk r.states x.w x.h p.2) {X0 Y : Int} : ∀ k : Nat, (∀ i : Nat, i < k → hasB x (X0 + i) Y = true) → GsOk r.states x.w x.h (rowX r x g X0 Y p k).2 := by
  intro k
  induction k with
  | zero => intro _; exact hp
  | succ k ih =>
    intro hh
    exact cellN_ok h2 hx ho (ih fun i hi => hh i (by omega)) (hh k (by omega))
theorem allX_ok {r : Pu.Rule} (h2 : 2 ≤ r.states) {x : Pu.Shape} (hx : Pu.ShapeOk x) {g : Gs} (ho : GsOk r.states x.w x.h g) {p : Bool × Gs} (hp : GsOk r.states x.w x.h p.2) {X0 Y0 : Int} {n : Nat} : ∀ k : Nat, (∀ i j : Nat, i < n → j < k → hasB x (X0 + i) (Y0 + j) = true) → GsOk r.states x.w x.h (allX r x g X0 Y0 n p k).2 := by
  intro k
  induction k with
  | zero => intro _; exact hp
  | succ k ih =>
    intro hh
    exact rowX_ok h2 hx ho (ih fun i j hi hj => hh i j hi (by omega)) n (fun i hi => hh i k hi (by omega))
/-- The area's edges, and that its cells are cells of the shape. -/
theorem area_bd {c : Int} {x : Pu.Shape} (hx : Pu.ShapeOk x) {g : Gs} (ho : GsOk c x.w x.h g) :
    (-10000 ≤ (areaG x g).L ∧ (areaG x g).L ≤ 10000) ∧ (-10000 ≤ (areaG x g).T ∧ (areaG x g).T ≤ 10000) ∧ (-10000 ≤ (areaG x g).R ∧ (areaG x g).R ≤ 10000) ∧ (-10000 ≤ (areaG x g).B ∧ (areaG x g).B ≤ 10000) := by
  have ed := edges_live (gw := x.w) (gh := x.h) (l := g.l) (t := g.t) g.S (PX := fun X => -9999 ≤ X ∧ X ≤ 9999) (PY := fun Y => -9999 ≤ Y ∧ Y ≤ 9999) (fun X Y hg => ho.live X Y hg)
  have w0 := hx.w0
  have w12 := hx.w12
  have h0 := hx.h0
  have h12 := hx.h12
  unfold areaG areaP
  generalize liveP x.w x.h g.l g.t g.S = b at *
  by_cases e : b.e = true
  · rw [if_pos e]
    simp only
    omega
  · rw [if_neg e]
    obtain ⟨e1, e2, e3, e4⟩ := ed.resolve_left e
    simp only
    refine ⟨⟨?_, ?_⟩, ⟨?_, ?_⟩, ⟨?_, ?_⟩, ?_, ?_⟩ <;> split <;> omega
theorem area_has {x : Pu.Shape} (hx : Pu.ShapeOk x) (g : Gs) {X Y : Int} (h1 : (areaG x g).L ≤ X ∧ X ≤ (areaG x g).R) (h2 : (areaG x g).T ≤ Y ∧ Y ≤ (areaG x g).B) : hasB x X Y = true := by
  have w0 := hx.w0
  have h0 := hx.h0
  unfold hasB onSideB
  unfold areaG areaP at h1 h2
  generalize liveP x.w x.h g.l g.t g.S = b at *
  rw [Bool.and_eq_true, decide_eq_true_iff, decide_eq_true_iff]
  by_cases e : b.e = true
  · rw [if_pos e] at h1 h2
    simp only at h1 h2
    omega
  · rw [if_neg e] at h1 h2
    simp only at h1 h2
    constructor
    · by_cases z : x.w = 0
      · exact Or.inl z
      · rw [if_neg z, if_neg z] at h1
        right; omega
    · by_cases z : x.h = 0
      · exact Or.inl z
      · rw [if_neg z, if_neg z] at h2
        right; omega
theorem empty_ok {c : Int} (hc : 0 < c) {x : Pu.Shape} (hx : Pu.ShapeOk x) : GsOk c x.w x.h ⟨0, 0, noS⟩ := (gs_empty hc (side_of hx) noS noS_len noS_zero).1
theorem nextG_ok {r : Pu.Rule} (h2 : 2 ≤ r.states) {x : Pu.Shape} (hx : Pu.ShapeOk x) {g : Gs} (ho : GsOk r.states x.w x.h g) : GsOk r.states x.w x.h (nextG r x g).2 :=
  allX_ok h2 hx ho (p := (true, ⟨0, 0, noS⟩)) (empty_ok (by omega) hx) _ (fun i j hi hj => area_has hx g (by omega) (by omega))
/-- n generations; false, if one of them finds no room. -/
def stepG (r : Pu.Rule) (x : Pu.Shape) (g : Gs) : Nat → Bool × Gs
  | 0 => (true, g)
  | n + 1 => if (stepG r x g n).1 = false then stepG r x g n else nextG r x (stepG r x g n).2
theorem stepG_stop {r : Pu.Rule} {x : Pu.Shape} {g : Gs} {k : Nat} (h : (stepG r x g k).1 = false) : ∀ m : Nat, k ≤ m → stepG r x g m = stepG r x g k := by
  intro m hm
  induction m with
  | zero => have : k = 0 := by omega
            subst this; rfl
  | succ m ih =>
    by_cases e : k = m + 1
    · rw [e]
    · have := ih (by omega)
      show (if (stepG r x g m).1 = false then stepG r x g m else _) = _
      rw [if_pos (by rw [this]; exact h), this]
theorem stepG_ok {r : Pu.Rule} (h2 : 2 ≤ r.states) {x : Pu.Shape} (hx : Pu.ShapeOk x) {g : Gs} (ho : GsOk r.states x.w x.h g) : ∀ n : Nat, GsOk r.states x.w x.h (stepG r x g n).2 := by
  intro n
  induction n with
  | zero => exact ho
  | succ n ih =>
    unfold stepG
    split
    · exact ih
    · exact nextG_ok h2 hx ih
end Go.Proofs.YthmhjjkmnnmjlaaGreatDoor
namespace Go.Proofs.YthmhjjkmnnmjlaaGreatDoor
open Go.RowKit
open Go.Proofs

/-- What follows at (X, Y), by the list. -/
def valL (r : Pu.Rule) (x : Pu.Shape) (l : List Cl) (X Y : Int) : Int := nextR r (atL l X Y) (ones9 (onesW r.around fun a b => nbL x l (X + ((a : Int) - 1)) (Y + ((b : Int) - 1))) 9)
def cellL (r : Pu.Rule) (x : Pu.Shape) (l : List Cl) (X Y : Int) : List Cl := if 0 < valL r x l X Y then [(X, Y, valL r x l X Y)] else []
def rowL (r : Pu.Rule) (x : Pu.Shape) (l : List Cl) (X0 Y : Int) : Nat → List Cl
  | 0 => []
  | k + 1 => rowL r x l X0 Y k ++ cellL r x l (X0 + k) Y
def allL (r : Pu.Rule) (x : Pu.Shape) (l : List Cl) (X0 Y0 : Int) (n : Nat) : Nat → List Cl
  | 0 => []
  | k + 1 => allL r x l X0 Y0 n k ++ rowL r x l X0 (Y0 + k) n
/-- The box of a list of live cells. -/
def bxL (l : List Cl) : Bx := if l = [] then ⟨true, 0, 0, 0, 0⟩ else ⟨false, (boxL l).1, (boxL l).2.2.1, (boxL l).2.1, (boxL l).2.2.2⟩
def areaL (x : Pu.Shape) (l : List Cl) : Bx := areaP x (bxL l)
/-- The live cells of the next generation. -/
def genL (r : Pu.Rule) (x : Pu.Shape) (l : List Cl) : List Cl := allL r x l (areaL x l).L (areaL x l).T ((areaL x l).R - (areaL x l).L + 1).toNat ((areaL x l).B - (areaL x l).T + 1).toNat
theorem area_same {r : Pu.Rule} {x : Pu.Shape} {g : Gs} {l : List Cl} (h : Alike r x g l) : areaG x g = areaL x l := by
  unfold areaG areaL bxL
  by_cases e : l = []
  · subst e
    have := box_none h.same
    unfold areaP
    rw [if_pos this, if_pos rfl, if_pos rfl]
  · rw [if_neg e, box_same h.same h.nz e]
/-- Where neighbours are asked for. -/
def NbIn (x : Pu.Shape) (X Y : Int) : Prop := x.kind = 83 → (-1 ≤ X ∧ X ≤ x.w) ∧ (-1 ≤ Y ∧ Y ≤ x.h)
theorem nb_same {r : Pu.Rule} {x : Pu.Shape} (hx : Pu.ShapeOk x) (sq : x.kind = 83 → x.h = x.w) {g : Gs} {l : List Cl} (h : Alike r x g l) (X Y : Int) : nbG x g X Y = nbL x l X Y := by
  have out : hasB x X Y = false → atL l X Y = 0 := by
    intro hb
    by_cases z : atL l X Y = 0
    · exact z
    · obtain ⟨d, hd, e1, e2⟩ := atL_ne z
      obtain ⟨_, m1, m2⟩ := h.mem d hd
      rw [e1] at m1
      rw [e2] at m2
      unfold hasB at hb
      rw [m1, m2] at hb
      cases hb
  unfold nbG nbL besX besY
  by_cases e83 : x.kind = 83
  · have hw := sq e83
    rw [if_pos e83, if_pos e83]
    have hpos : x.w ≠ 0 := by
      intro e
      have := hx.open_ (Or.inl e)
      omega
    have hiff : hasB x X Y = true ↔ (0 ≤ X ∧ X < x.w) ∧ (0 ≤ Y ∧ Y < x.w) := by
      unfold hasB onSideB
      rw [Bool.and_eq_true, decide_eq_true_iff, decide_eq_true_iff, hw]
      omega
    unfold ringX ringY
    by_cases hb : hasB x X Y = true
    · rw [if_neg (fun h : beyond x X Y => by rw [h.2] at hb; cases hb), if_neg (fun hf : foldsB x => by unfold foldsB at hf; omega), if_pos hb, if_pos (hiff.1 hb), if_pos (hiff.1 hb)]
      exact h.same X Y
    · have hb' : hasB x X Y = false := by simpa using hb
      rw [if_pos (show beyond x X Y from ⟨e83, hb'⟩), if_neg (fun hh => hb (hiff.2 hh)), if_neg (fun hh => hb (hiff.2 hh)), h.same, hw]
  · rw [if_neg (fun hb : beyond x X Y => e83 hb.1), if_neg e83, if_neg e83]
    unfold getX getY
    by_cases hf : foldsB x
    · rw [if_pos hf, if_pos (show x.kind = 84 ∨ x.kind = 75 ∨ x.kind = 67 from hf), if_pos (show x.kind = 84 ∨ x.kind = 75 ∨ x.kind = 67 from hf), h.same]
    · rw [if_neg hf, if_neg (show ¬ (x.kind = 84 ∨ x.kind = 75 ∨ x.kind = 67) from hf), if_neg (show ¬ (x.kind = 84 ∨ x.kind = 75 ∨ x.kind = 67) from hf)]
      by_cases hb : hasB x X Y = true
      · rw [if_pos hb, h.same]
      · rw [if_neg hb, out (by simpa using hb)]
theorem val_same {r : Pu.Rule} {x : Pu.Shape} (hx : Pu.ShapeOk x) (sq : x.kind = 83 → x.h = x.w) {g : Gs} {l : List Cl} (h : Alike r x g l) (X Y : Int) : valN r x g X Y = valL r x l X Y := by
  unfold valN valL
  have e : (fun a b : Nat => nbG x g (X + ((a : Int) - 1)) (Y + ((b : Int) - 1))) = fun a b : Nat => nbL x l (X + ((a : Int) - 1)) (Y + ((b : Int) - 1)) := by
    funext a b
    exact nb_same hx sq h _ _
  rw [e, h.same]
/-- The list as it is built. -/
structure Gn (r : Pu.Rule) (x : Pu.Shape) (a b : Int) (p : Bool × Gs) (m : List Cl) : Prop where
  ord : Ord a b m
  mem : ∀ d, d ∈ m → (1 ≤ d.2.2 ∧ d.2.2 < r.states) ∧ onSideB d.1 x.w = true ∧ onSideB d.2.1 x.h = true
  ok : GsOk r.states x.w x.h p.2
  tidy : Tidy x.w x.h p.2.S
  yes : p.1 = true → Same x.w x.h p.2 m ∧ Rm x.w x.h m
  no : p.1 = false → ¬ Rm x.w x.h m
theorem gn_cell {r : Pu.Rule} (h2 : 2 ≤ r.states) {x : Pu.Shape} (hx : Pu.ShapeOk x) (sq : x.kind = 83 → x.h = x.w) {g : Gs} {l : List Cl} (h : Alike r x g l) {a b : Int} {p : Bool × Gs} {m : List Cl} (hg : Gn r x a b p m) (hh : hasB x a b = true) : Gn r x (a + 1) b (cellN r x g p a b) (m ++ cellL r x l a b) := by
  have hv := val_same hx sq h a b
  have vb := valN_bd h2 h.gs a b
  unfold cellN cellL
  rw [← hv]
  generalize valN r x g a b = v at *
  have ord' : Ord (a + 1) b m := ⟨fun d hd => (by have := hg.ord.ahead d hd; omega), hg.ord.once⟩
  by_cases z : v = 0
  · rw [if_neg (by omega : ¬ 0 < v), List.append_nil, if_pos z, ite_self]
    exact ⟨ord', hg.mem, hg.ok, hg.tidy, hg.yes, hg.no⟩
  · rw [if_pos (by omega : 0 < v), if_neg z]
    have hnew : ∀ d, d ∈ m → ¬ (d.1 = a ∧ d.2.1 = b) := fun d hd => by have := hg.ord.ahead d hd; omega
    have ord2 : Ord (a + 1) b (m ++ [(a, b, v)]) := by
      refine ⟨fun d hd => ?_, once_snoc hg.ord.once hnew⟩
      rcases List.mem_append.1 hd with hd | hd
      · exact ord'.ahead d hd
      · simp at hd
        subst hd
        exact Or.inr ⟨rfl, show a < a + 1 by omega⟩
    have mem2 : ∀ d, d ∈ m ++ [(a, b, v)] → (1 ≤ d.2.2 ∧ d.2.2 < r.states) ∧ onSideB d.1 x.w = true ∧ onSideB d.2.1 x.h = true := by
      intro d hd
      rcases List.mem_append.1 hd with hd | hd
      · exact hg.mem d hd
      · simp at hd
        subst hd
        unfold hasB at hh
        rw [Bool.and_eq_true] at hh
        exact ⟨by simp only; omega, hh.1, hh.2⟩
    have nz : ∀ d, d ∈ m → d.2.2 ≠ 0 := fun d hd => by have := (hg.mem d hd).1; omega
    by_cases e1 : p.1 = false
    · rw [if_pos e1]
      refine ⟨ord2, mem2, hg.ok, hg.tidy, fun ht => ?_, fun _ hh => hg.no e1 (hh.mono fun c hc => List.mem_append_left _ hc)⟩
      rw [e1] at ht
      cases ht
    · rw [if_neg e1]
      obtain ⟨s1, s2⟩ := hg.yes (by simpa using e1)
      have F := fits_iff s1 nz s2 a b v
      by_cases e4 : nearB x a b = false
      · rw [if_pos e4]
        refine ⟨ord2, mem2, hg.ok, hg.tidy, fun ht => by simp at ht, fun _ hh => ?_⟩
        have := (F.2 hh).1
        rw [e4] at this
        cases this
      · rw [if_neg e4]
        have e4' : nearB x a b = true := by simpa using e4
        have sp := spot_of hx hh e4'
        by_cases e5 : Fits x.w x.h p.2 a b
        · obtain ⟨p1, p2, p3⟩ := put_spec (side_of hx) hg.ok sp vb (Or.inr e5) (u := v)
          refine ⟨ord2, mem2, p2, tidy_put (side_of hx) hg.tidy a b v, fun _ => ⟨fun X Y => ?_, F.1 ⟨e4', e5⟩⟩, fun hf => ?_⟩
          · rw [p3, atL_snoc _ _ _ _ _ _ hnew, s1]
          · rw [p1] at hf
            cases hf
        · rw [put_fail (side_of hx) (fun hh => hh.elim (fun hh => z hh) e5)]
          exact ⟨ord2, mem2, hg.ok, hg.tidy, fun ht => by simp at ht, fun _ hh => e5 (F.2 hh).2⟩
theorem gn_row {r : Pu.Rule} (h2 : 2 ≤ r.states) {x : Pu.Shape} (hx : Pu.ShapeOk x) (sq : x.kind = 83 → x.h = x.w) {g : Gs} {l : List Cl} (h : Alike r x g l) {a b : Int} {p : Bool × Gs} {m : List Cl} (hg : Gn r x a b p m) : ∀ k : Nat, (∀ i : Nat, i < k → hasB x (a + i) b = true) → Gn r x (a + k) b (rowX r x g a b p k) (m ++ rowL r x l a b k) := by
  intro k
  induction k with
  | zero =>
    intro _
    show Gn r x (a + ((0 : Nat) : Int)) b p (m ++ [])
    rw [List.append_nil]
    simpa using hg
  | succ k ih =>
    intro hh
    have i1 := ih (fun i hi => hh i (by omega))
    have i2 := gn_cell h2 hx sq h i1 (hh k (by omega))
    rw [List.append_assoc] at i2
    have e : a + (k : Int) + 1 = a + ((k + 1 : Nat) : Int) := by omega
    rw [e] at i2
    exact i2
theorem gn_all {r : Pu.Rule} (h2 : 2 ≤ r.states) {x : Pu.Shape} (hx : Pu.ShapeOk x) (sq : x.kind = 83 → x.h = x.w) {g : Gs} {l : List Cl} (h : Alike r x g l) {a b : Int} {n : Nat} {p : Bool × Gs} (hg : Gn r x a b p []) : ∀ k : Nat, (∀ i j : Nat, i < n → j < k → hasB x (a + i) (b + j) = true) → Gn r x a (b + k) (allX r x g a b n p k) (allL r x l a b n k) := by
  intro k
  induction k with
  | zero =>
    intro _
    show Gn r x a (b + ((0 : Nat) : Int)) p []
    simpa using hg
  | succ k ih =>
    intro hh
    have i1 := ih (fun i j hi hj => hh i j hi (by omega))
    have i2 := gn_row h2 hx sq h i1 n (fun i hi => hh i k hi (by omega))
    refine ⟨⟨fun d hd => ?_, i2.ord.once⟩, i2.mem, i2.ok, i2.tidy, i2.yes, i2.no⟩
    have := i2.ord.ahead d hd
    omega
/-- The next generation: both find room, or neither; and then they are alike. -/
theorem gen_alike {r : Pu.Rule} (h2 : 2 ≤ r.states) {x : Pu.Shape} (hx : Pu.ShapeOk x) (sq : x.kind = 83 → x.h = x.w) {g : Gs} {l : List Cl} (h : Alike r x g l) :
    (nextG r x g).1 = roomB x.w x.h (genL r x l) ∧ ((nextG r x g).1 = true → Alike r x (nextG r x g).2 (genL r x l)) ∧ (∀ d, d ∈ genL r x l → (1 ≤ d.2.2 ∧ d.2.2 < r.states) ∧ onSideB d.1 x.w = true ∧ onSideB d.2.1 x.h = true) := by
  have he := area_same h
  have hz : ∀ X Y, getG x.w x.h ⟨0, 0, noS⟩ X Y = 0 := (gs_empty (by omega) (side_of hx) noS noS_len noS_zero (c := r.states)).2
  have h0 : Gn r x (areaG x g).L (areaG x g).T (true, ⟨0, 0, noS⟩) [] :=
    ⟨⟨fun d hd => (by simp at hd), once_nil⟩, fun d hd => (by simp at hd), empty_ok (by omega) hx, fun k _ => noS_zero k, fun _ => ⟨fun X Y => hz X Y, Rm.nil _ _⟩, fun hf => by simp at hf⟩
  have G := gn_all h2 hx sq h h0 (n := ((areaG x g).R - (areaG x g).L + 1).toNat) ((areaG x g).B - (areaG x g).T + 1).toNat (fun i j hi hj => area_has hx g (by omega) (by omega))
  have e1 : allX r x g (areaG x g).L (areaG x g).T ((areaG x g).R - (areaG x g).L + 1).toNat (true, ⟨0, 0, noS⟩) ((areaG x g).B - (areaG x g).T + 1).toNat = nextG r x g := rfl
  have e2 : allL r x l (areaG x g).L (areaG x g).T ((areaG x g).R - (areaG x g).L + 1).toNat ((areaG x g).B - (areaG x g).T + 1).toNat = genL r x l := by rw [he]; rfl
  rw [e1, e2] at G
  refine ⟨?_, fun ht => ?_, G.mem⟩
  · cases hb : (nextG r x g).1 with
    | true => exact ((room_iff (side_of hx) _).2 (G.yes hb).2).symm
    | false =>
      cases hr : roomB x.w x.h (genL r x l) with
      | false => rfl
      | true => exact absurd ((room_iff (side_of hx) _).1 hr) (G.no hb)
  · obtain ⟨s1, s2⟩ := G.yes ht
    exact ⟨G.ok, s1, G.mem, G.ord.once, s2, G.tidy⟩
/-- n generations of a list. -/
def stepL (r : Pu.Rule) (x : Pu.Shape) (l : List Cl) : Nat → Bool × List Cl
  | 0 => (true, l)
  | n + 1 => if (stepL r x l n).1 = false then stepL r x l n else (roomB x.w x.h (genL r x (stepL r x l n).2), genL r x (stepL r x l n).2)
theorem stepL_stop {r : Pu.Rule} {x : Pu.Shape} {l : List Cl} {k : Nat} (h : (stepL r x l k).1 = false) : ∀ m : Nat, k ≤ m → stepL r x l m = stepL r x l k := by
  intro m hm
  induction m with
  | zero => have : k = 0 := by omega
            subst this; rfl
  | succ m ih =>
    by_cases e : k = m + 1
    · rw [e]
    · have := ih (by omega)
      show (if (stepL r x l m).1 = false then stepL r x l m else _) = _
      rw [if_pos (by rw [this]; exact h), this]
theorem step_alike {r : Pu.Rule} (h2 : 2 ≤ r.states) {x : Pu.Shape} (hx : Pu.ShapeOk x) (sq : x.kind = 83 → x.h = x.w) {g : Gs} {l : List Cl} (h : Alike r x g l) : ∀ n : Nat, (stepG r x g n).1 = (stepL r x l n).1 ∧ ((stepG r x g n).1 = true → Alike r x (stepG r x g n).2 (stepL r x l n).2) := by
  intro n
  induction n with
  | zero => exact ⟨rfl, fun _ => h⟩
  | succ n ih =>
    unfold stepG stepL
    obtain ⟨i1, i2⟩ := ih
    by_cases c : (stepG r x g n).1 = false
    · rw [if_pos c, if_pos (i1.symm.trans c)]
      exact ⟨i1, i2⟩
    · have c' : (stepG r x g n).1 = true := by simpa using c
      rw [if_neg c, if_neg (fun hh => c (i1.trans hh))]
      obtain ⟨g1, g2, _⟩ := gen_alike h2 hx sq (i2 c')
      exact ⟨g1, g2⟩
end Go.Proofs.YthmhjjkmnnmjlaaGreatDoor
namespace Go.Proofs.YthmhjjkmnnmjlaaGreatDoor
open Go.RowKit
open Go.Proofs
section
variable {P : Program} {md : Region.Mode} {ops : Array Oper} {Q : Exit → Act → World → Prop} {fuel : Nat} {listed : Array Bool} {a : Act} {w : World} {i : Nat} {o : Oper} {rs : List Nat}
theorem ready_alloc_row (hi : ops[i]? = some o) (hgd : o.guard = none) (ty : TypeId) (ho : o.op = .alloc ty) (z : Array Value) (hz : (P.info? ty).map (·.zero) = some (some (.agg z)))
    (h : wpAny P md ops Q fuel (listed.setIfInBounds i true) (a.put o.dst (.pointer (some ⟨w.heap.size, 0, none⟩))) (w.alloc (.cells z ty))) (hs : AllReady P md ops Q fuel listed a w rs) : AllReady P md ops Q fuel listed a w (i :: rs) :=
  AllReady.cons hi (fun K hK => by
    rw [if_pos (by simp [Region.wanted, hgd])]
    cases hq : P.info? ty with
    | none => simp [hq] at hz
    | some t =>
      have ht : t.zero = some (.agg z) := by simpa [hq] using hz
      unfold Oper.wp execOp
      simp [ho, Instr.alloc, zeroValue, typeInfo, hq, ht, newVar, newRow, Value.cells]
      exact hK _ _ h) hs
end
theorem ready_new {md : Region.Mode} {ops : Array Oper} {Q : Exit → Act → World → Prop} {fuel : Nat} {listed : Array Bool} {a : Act} {w : World} {i : Nat} {o : Oper} {rs : List Nat} (hi : ops[i]? = some o) (hgd : o.guard = none) (x y : Tmp) (ho : o.op = .call { callee := .value (.func 52), args := #[.tmp x, .tmp y], argTypes := #[3, 3] }) (u v : Value) (hu : a.eval (.tmp x) = u) (hv : a.eval (.tmp y) = v)
    (R : Value → World → Prop) (hc : Calls Tryz.prog 52 #[u, v] w fun e w' => ∃ r, e = .returned r ∧ R r w')
    (h : ∀ r w', R r w' → wpAny Tryz.prog md ops Q fuel (listed.setIfInBounds i true) (a.put o.dst r) w') (hs : AllReady Tryz.prog md ops Q fuel listed a w rs) : AllReady Tryz.prog md ops Q fuel listed a w (i :: rs) :=
  AllReady.cons hi (fun K hK => by
    rw [if_pos (by simp [Region.wanted, hgd])]
    unfold Oper.wp execOp
    rw [ho]
    go_simp
    have hu' : a.tmps[x]?.getD undef = u := by simpa [Act.eval] using hu
    have hv' : a.tmps[y]?.getD undef = v := by simpa [Act.eval] using hv
    rw [hu', hv']
    refine hc.mono ?_
    rintro e w' ⟨r, rfl, hr⟩
    exact hK _ _ (h r w' hr)) hs
end Go.Proofs.YthmhjjkmnnmjlaaGreatDoor
namespace Go.Proofs.YthmhjjkmnnmjlaaGreatDoor
open Go.RowKit
open Go.Proofs

def fillG (val : Nat → Int) (k : Nat) : List Int := (List.range 768).map fun m => if m < k then val m else 0
theorem fillGN_zero (N : Nat) (val : Nat → Int) : ((List.range N).map fun m => if m < 0 then val m else 0) = List.replicate N 0 := by
  apply List.ext_getElem
  · simp
  · intro i h1 h2
    simp
theorem fillG_zero (val : Nat → Int) : fillG val 0 = noS := fillGN_zero 768 val
theorem fillG_len (val : Nat → Int) (k : Nat) : (fillG val k).length = 768 := by unfold fillG; rw [List.length_map, List.length_range]
theorem fillG_succ (val : Nat → Int) (k : Nat) (_h : k < 768) : (fillG val k).set k (val k) = fillG val (k + 1) := by
  unfold fillG
  apply List.ext_getElem
  · simp
  · intro i h1 h2
    rw [List.getElem_set]
    simp only [List.getElem_map, List.getElem_range]
    by_cases e : k = i
    · subst e; simp
    · rw [if_neg e]
      by_cases l : i < k
      · rw [if_pos l, if_pos (by omega)]
      · rw [if_neg l, if_neg (by omega)]
theorem fillG_get (val : Nat → Int) (k m : Nat) (h : m < k) (h2 : m < 768) : (fillG val k).getD m 0 = val m := by
  unfold fillG
  simp [List.getD, h, h2]

/-- What follows at the m-th cell, where G tells of all cells. -/
def nxv (r : Pu.Rule) (G : Int → Int → Int) (S : List Int) (W : Nat) (m : Nat) : Int := nextR r (S.getD m 0) (ones9 (onesW r.around fun a b => G (((m % W : Nat) : Int) + ((a : Int) - 1)) (((m / W : Nat) : Int) + ((b : Int) - 1))) 9)
theorem nxv_at (r : Pu.Rule) (G : Int → Int → Int) (S : List Int) (W i j : Nat) (hi : i < W) : nxv r G S W (j * W + i) = nextR r (S.getD (j * W + i) 0) (ones9 (onesW r.around fun a b => G ((i : Int) + ((a : Int) - 1)) ((j : Int) + ((b : Int) - 1))) 9) := by
  unfold nxv
  rw [Nat.mul_comm j W, Nat.mul_add_mod, Nat.mod_eq_of_lt hi, Nat.mul_add_div (by omega), Nat.div_eq_of_lt hi, Nat.add_zero]
theorem onesW_mid (a : Int) (g : Nat → Nat → Int) (ha : a = 77 ∨ a = 86 ∨ a = 72) : onesW a g 1 1 = false := by
  unfold onesW
  rcases ha with rfl | rfl | rfl <;> simp [nearR]
end Go.Proofs.YthmhjjkmnnmjlaaGreatDoor
