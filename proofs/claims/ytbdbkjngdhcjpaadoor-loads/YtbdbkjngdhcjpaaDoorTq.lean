import Derived.Test.YtbdbkjngdhcjpaaDoorTp
namespace Go.Proofs.YtbdbkjngdhcjpaaDoor
open Go.RowKit
open Go.Proofs

def getG (gw gh : Int) (g : Gs) (X Y : Int) : Int := getP gw gh g.l g.t g.S X Y
structure GsOk (c gw gh : Int) (g : Gs) : Prop where
  len : g.S.length = 768
  lb : -9999 ≤ g.l ∧ g.l ≤ 9999
  tb : -9999 ≤ g.t ∧ g.t ≤ 9999
  lw : gw ≠ 0 → g.l = 0
  th : gh ≠ 0 → g.t = 0
  live : ∀ X Y, getG gw gh g X Y ≠ 0 → (-9999 ≤ X ∧ X ≤ 9999) ∧ (-9999 ≤ Y ∧ Y ≤ 9999)
  st : ∀ k, 0 ≤ g.S.getD k 0 ∧ g.S.getD k 0 < c
/-- A cell of the shape, no farther out than a live one may be. -/
structure Spot (gw gh X Y : Int) : Prop where
  x : gw ≠ 0 → 0 ≤ X ∧ X < gw
  y : gh ≠ 0 → 0 ≤ Y ∧ Y < gh
  xb : -9999 ≤ X ∧ X ≤ 9999
  yb : -9999 ≤ Y ∧ Y ≤ 9999
/-- The live cells and this one have room. -/
def FitB (gw gh : Int) (b : Bx) : Prop := (gw = 0 → b.R - b.L < 64) ∧ (gh = 0 → b.B - b.T < 64)
def Fits (gw gh : Int) (g : Gs) (x y : Int) : Prop := FitB gw gh (addB (liveP gw gh g.l g.t g.S) x y)
theorem span0 {g : Int} (h : g = 0) : spanP g = 64 := by unfold spanP; rw [if_pos h]
theorem span1 {g : Int} (h : g ≠ 0) : spanP g = g := by unfold spanP; rw [if_neg h]
theorem live_win {gw gh l t : Int} {S : List Int} {X Y : Int} (hg : getP gw gh l t S X Y ≠ 0) : InW gw gh l t X Y := by
  by_cases h : InW gw gh l t X Y
  · exact h
  · exact absurd (get_out S h) hg
theorem fits_win {gw gh : Int} {g : Gs} {x y : Int} (hw : InW gw gh g.l g.t x y) : Fits gw gh g x y := by
  have e := edges_live (gw := gw) (gh := gh) (l := g.l) (t := g.t) g.S (PX := fun X => g.l ≤ X ∧ X < g.l + spanP gw) (PY := fun Y => g.t ≤ Y ∧ Y < g.t + spanP gh) (fun X Y hg => live_win hg)
  have e2 := (edges_add e hw.1 hw.2).resolve_left (by rw [(addB_mem _ _ _).1]; simp)
  obtain ⟨h1, h2, h3, h4⟩ := e2
  unfold Fits FitB
  generalize addB (liveP gw gh g.l g.t g.S) x y = b at *
  constructor
  · intro h
    have := span0 h
    omega
  · intro h
    have := span0 h
    omega
theorem set_st {c u : Int} {S : List Int} (h : ∀ k, 0 ≤ S.getD k 0 ∧ S.getD k 0 < c) (hu : 0 ≤ u ∧ u < c) (i : Nat) : ∀ k, 0 ≤ (S.set i u).getD k 0 ∧ (S.set i u).getD k 0 < c := by
  intro k
  have hk := h k
  unfold List.getD at *
  rw [List.getElem?_set]
  by_cases e : i = k
  · rw [if_pos e]
    split
    · simpa using hu
    · subst e
      simp
      omega
  · rw [if_neg e]
    exact hk
/-- In the window. -/
theorem set_ok {c gw gh : Int} (h : Side gw gh) {g : Gs} (ho : GsOk c gw gh g) {x y u : Int} (hs : Spot gw gh x y) (hu : 0 ≤ u ∧ u < c) (hw : InW gw gh g.l g.t x y) :
    GsOk c gw gh (setG gw gh g x y u) ∧ ∀ X Y, getG gw gh (setG gw gh g x y u) X Y = if X = x ∧ Y = y then u else getG gw gh g X Y := by
  have hg : ∀ X Y, getG gw gh (setG gw gh g x y u) X Y = if X = x ∧ Y = y then u else getG gw gh g X Y := fun X Y => get_set h g.S ho.len hw u X Y
  refine ⟨⟨?_, ho.lb, ho.tb, ho.lw, ho.th, fun X Y hne => ?_, set_st ho.st hu _⟩, hg⟩
  · show (g.S.set _ _).length = 768
    rw [List.length_set]
    exact ho.len
  · rw [hg] at hne
    by_cases e : X = x ∧ Y = y
    · obtain ⟨rfl, rfl⟩ := e
      exact ⟨hs.xb, hs.yb⟩
    · rw [if_neg e] at hne
      exact ho.live X Y hne
theorem reach_no {gw gh : Int} {g : Gs} {x y : Int} (h1 : ¬ (gw = 0 ∧ (addB (liveP gw gh g.l g.t g.S) x y).R - (addB (liveP gw gh g.l g.t g.S) x y).L < 64)) (h2 : ¬ (gh = 0 ∧ (addB (liveP gw gh g.l g.t g.S) x y).B - (addB (liveP gw gh g.l g.t g.S) x y).T < 64)) : reachG gw gh g x y = g := by
  unfold reachG
  rw [if_neg h1, if_neg h2]
/-- A window that reaches: it holds all live cells and the new one. -/
theorem reach_ok {c gw gh : Int} (h : Side gw gh) {g : Gs} (ho : GsOk c gw gh g) {x y : Int} (hs : Spot gw gh x y) (hf : Fits gw gh g x y) (hout : ¬ InW gw gh g.l g.t x y) :
    GsOk c gw gh (reachG gw gh g x y) ∧ InW gw gh (reachG gw gh g x y).l (reachG gw gh g x y).t x y ∧ ∀ X Y, getG gw gh (reachG gw gh g x y) X Y = getG gw gh g X Y := by
  have hol : ∀ X Y, getP gw gh g.l g.t g.S X Y ≠ 0 → Hold (addB (liveP gw gh g.l g.t g.S) x y) X Y := fun X Y hg => hold_add x y (hold_live g.S hg)
  have hnew := hold_new (liveP gw gh g.l g.t g.S) x y
  have ed := (edges_add (edges_live (gw := gw) (gh := gh) (l := g.l) (t := g.t) g.S (PX := fun X => -9999 ≤ X ∧ X ≤ 9999) (PY := fun Y => -9999 ≤ Y ∧ Y ≤ 9999) (fun X Y hg => ho.live X Y hg)) hs.xb hs.yb).resolve_left (by rw [(addB_mem _ _ _).1]; simp)
  obtain ⟨hf1, hf2⟩ := hf
  have hone := h.one
  have key : InW gw gh (reachG gw gh g x y).l (reachG gw gh g x y).t x y ∧ (∀ X Y, getP gw gh g.l g.t g.S X Y ≠ 0 → InW gw gh (reachG gw gh g x y).l (reachG gw gh g x y).t X Y) ∧ (-9999 ≤ (reachG gw gh g x y).l ∧ (reachG gw gh g x y).l ≤ 9999) ∧ (-9999 ≤ (reachG gw gh g x y).t ∧ (reachG gw gh g x y).t ≤ 9999) ∧ (gw ≠ 0 → (reachG gw gh g x y).l = 0) ∧ (gh ≠ 0 → (reachG gw gh g x y).t = 0) := by
    unfold reachG
    generalize addB (liveP gw gh g.l g.t g.S) x y = b at *
    obtain ⟨ed1, ed2, ed3, ed4⟩ := ed
    obtain ⟨_, n1, n2⟩ := hnew
    have lb := ho.lb
    have tb := ho.tb
    by_cases hw : gw = 0
    · have hh : gh ≠ 0 := by omega
      have sw := span0 hw
      have sh := span1 hh
      have ht := ho.th hh
      have hy := hs.y hh
      have f1 := hf1 hw
      simp only [if_pos (And.intro hw f1), if_neg (show ¬ (gh = 0 ∧ b.B - b.T < 64) by omega)]
      refine ⟨⟨by omega, by omega⟩, fun X Y hg => ?_, by omega, by omega, by omega, by omega⟩
      obtain ⟨_, a1, a2⟩ := hol X Y hg
      have := (live_win hg).2
      exact ⟨by omega, by omega⟩
    · have sw := span1 hw
      have hl := ho.lw hw
      have hx := hs.x hw
      by_cases hh : gh = 0
      · have sh := span0 hh
        have f2 := hf2 hh
        simp only [if_neg (show ¬ (gw = 0 ∧ b.R - b.L < 64) by omega), if_pos (And.intro hh f2)]
        refine ⟨⟨by omega, by omega⟩, fun X Y hg => ?_, by omega, by omega, by omega, by omega⟩
        obtain ⟨_, a1, a2⟩ := hol X Y hg
        have := (live_win hg).1
        exact ⟨by omega, by omega⟩
      · exfalso
        have sh := span1 hh
        have ht := ho.th hh
        have hy := hs.y hh
        exact hout ⟨by omega, by omega⟩
  obtain ⟨k1, k2, k3, k4, k5, k6⟩ := key
  have hS : (reachG gw gh g x y).S = g.S := rfl
  have hg : ∀ X Y, getG gw gh (reachG gw gh g x y) X Y = getG gw gh g X Y := fun X Y => get_move h g.l g.t _ _ g.S k2 X Y
  refine ⟨⟨ho.len, k3, k4, k5, k6, fun X Y hne => ?_, ho.st⟩, k1, hg⟩
  rw [hg] at hne
  exact ho.live X Y hne
theorem put_spec {c gw gh : Int} (h : Side gw gh) {g : Gs} (ho : GsOk c gw gh g) {x y u : Int} (hs : Spot gw gh x y) (hu : 0 ≤ u ∧ u < c) (hf : u = 0 ∨ Fits gw gh g x y) :
    (putG gw gh g x y u).1 = true ∧ GsOk c gw gh (putG gw gh g x y u).2 ∧ ∀ X Y, getG gw gh (putG gw gh g x y u).2 X Y = if X = x ∧ Y = y then u else getG gw gh g X Y := by
  unfold putG
  by_cases hw : InW gw gh g.l g.t x y
  · rw [if_pos ((slot_iff h).2 hw)]
    have := set_ok h ho hs hu hw
    exact ⟨rfl, this.1, this.2⟩
  · rw [if_neg (fun e => hw ((slot_iff h).1 e))]
    by_cases hz : u = 0
    · rw [if_pos hz]
      refine ⟨rfl, ho, fun X Y => ?_⟩
      by_cases e : X = x ∧ Y = y
      · obtain ⟨rfl, rfl⟩ := e
        rw [if_pos ⟨rfl, rfl⟩, hz]
        exact get_out g.S hw
      · rw [if_neg e]
    · rw [if_neg hz]
      obtain ⟨r1, r2, r3⟩ := reach_ok h ho hs (hf.resolve_left hz) hw
      rw [if_pos ((slot_iff h).2 r2)]
      have := set_ok h r1 hs hu r2
      refine ⟨rfl, this.1, fun X Y => ?_⟩
      rw [this.2 X Y, r3 X Y]
theorem put_fail {gw gh : Int} (h : Side gw gh) {g : Gs} {x y u : Int} (hf : ¬ (u = 0 ∨ Fits gw gh g x y)) : putG gw gh g x y u = (false, g) := by
  have hz : ¬ u = 0 := fun e => hf (Or.inl e)
  have hf' : ¬ Fits gw gh g x y := fun e => hf (Or.inr e)
  have hw : ¬ InW gw gh g.l g.t x y := fun e => hf' (fits_win e)
  have hone := h.one
  have hr : reachG gw gh g x y = g := by
    have nf : ¬ FitB gw gh (addB (liveP gw gh g.l g.t g.S) x y) := hf'
    apply reach_no
    · rintro ⟨e1, e2⟩
      exact nf ⟨fun _ => e2, fun e3 => by omega⟩
    · rintro ⟨e1, e2⟩
      exact nf ⟨fun e3 => by omega, fun _ => e2⟩
  unfold putG
  rw [if_neg (fun e => hw ((slot_iff h).1 e)), if_neg hz, hr, if_neg (fun e => hw ((slot_iff h).1 e))]
theorem gs_empty {c gw gh : Int} (hc : 0 < c) (h : Side gw gh) (S : List Int) (hS : S.length = 768) (h0 : ∀ k, S.getD k 0 = 0) : GsOk c gw gh ⟨0, 0, S⟩ ∧ ∀ X Y, getG gw gh ⟨0, 0, S⟩ X Y = 0 := by
  have hg : ∀ X Y, getG gw gh ⟨0, 0, S⟩ X Y = 0 := fun X Y => by
    unfold getG
    by_cases hw : InW gw gh 0 0 X Y
    · show getP gw gh 0 0 S X Y = 0
      rw [get_win h S hw]
      exact h0 _
    · exact get_out S hw
  exact ⟨⟨hS, by show -9999 ≤ (0 : Int) ∧ (0 : Int) ≤ 9999; omega, by show -9999 ≤ (0 : Int) ∧ (0 : Int) ≤ 9999; omega, fun _ => rfl, fun _ => rfl, fun X Y hne => absurd (hg X Y) hne, fun k => by rw [h0 k]; omega⟩, hg⟩
theorem side_of {x : Pu.Shape} (h : Pu.ShapeOk x) : Side x.w x.h := ⟨h.w0, h.w12, h.h0, h.h12, h.one⟩
theorem spot_of {x : Pu.Shape} (h : Pu.ShapeOk x) {X Y : Int} (h1 : hasB x X Y = true) (h2 : nearB x X Y = true) : Spot x.w x.h X Y := by
  have w0 := h.w0
  have w12 := h.w12
  have h0 := h.h0
  have h12 := h.h12
  unfold hasB onSideB at h1
  unfold nearB nearOnB at h2
  simp at h1 h2
  refine ⟨fun e => ?_, fun e => ?_, ?_, ?_⟩ <;> omega
end Go.Proofs.YtbdbkjngdhcjpaaDoor
