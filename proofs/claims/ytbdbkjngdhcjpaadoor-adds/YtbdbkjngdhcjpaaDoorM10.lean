import Derived.Test.YtbdbkjngdhcjpaaDoorInv
import Derived.Test.YtbdbkjngdhcjpaaDoorIk
namespace Go.Proofs.YtbdbkjngdhcjpaaDoor
open Go.Proofs

/-- At most one thing stands behind the sides. -/
structure OneB (x : Pu.Shape) : Prop where
  ws : 0 < x.ws → x.wst = false ∧ x.hs = 0 ∧ x.hst = false
  wst : x.wst = true → x.ws = 0 ∧ x.hs = 0 ∧ x.hst = false
  hs : 0 < x.hs → x.ws = 0 ∧ x.wst = false ∧ x.hst = false
  hst : x.hst = true → x.ws = 0 ∧ x.wst = false ∧ x.hs = 0
theorem one_inv {f : Pu.Src} {i j : Nat} {x : Pu.Shape} (h : Pu.shape f i = (j, some x)) : OneB x := by
  obtain ⟨_, k, hk, h⟩ := Pu.bnd_inv h
  obtain ⟨_, a, ha, h⟩ := Pu.bnd_inv h
  obtain ⟨_, _, _, h⟩ := Pu.bnd_inv h
  obtain ⟨_, b, hb, h⟩ := Pu.bnd_inv h
  rw [← Pu.ret_inv h]
  have hA : (k ≠ 84 → a.2.1 = 0) ∧ (k ≠ 75 → a.2.2 = false) := by
    obtain ⟨_, w, hw, h2⟩ := Pu.bnd_inv ha
    split at h2
    · obtain ⟨_, st, _, h3⟩ := Pu.bnd_inv h2
      rw [← Pu.ret_inv h3]
      exact ⟨fun _ => rfl, fun e => absurd ‹_› e⟩
    · split at h2
      · obtain ⟨_, st, hst, h3⟩ := Pu.bnd_inv h2
        rw [← Pu.ret_inv h3]
        exact ⟨fun e => absurd ‹_› e, fun _ => rfl⟩
      · rw [← Pu.ret_inv h2]
        exact ⟨fun _ => rfl, fun _ => rfl⟩
  have hB : (k ≠ 84 ∨ a.2.1 ≠ 0 → b.2.1 = 0) ∧ (k ≠ 75 ∨ a.2.2 = true → b.2.2 = false) := by
    obtain ⟨_, w, hw, h2⟩ := Pu.bnd_inv hb
    split at h2
    · rename_i e
      obtain ⟨_, _, _, h3⟩ := Pu.bnd_inv h2
      rw [← Pu.ret_inv h3]
      refine ⟨fun _ => rfl, fun e2 => ?_⟩
      rcases e2 with e2 | e2
      · exact absurd e.1 e2
      · rw [e.2] at e2
        cases e2
    · split at h2
      · rw [← Pu.ret_inv h2]
        exact ⟨fun _ => rfl, fun _ => rfl⟩
      · rename_i e
        obtain ⟨_, st, hst, h3⟩ := Pu.bnd_inv h2
        rw [← Pu.ret_inv h3]
        refine ⟨fun e2 => ?_, fun _ => rfl⟩
        exfalso
        apply e
        rcases e2 with e2 | e2
        · exact Or.inl e2
        · exact Or.inr (Or.inr e2)
  obtain ⟨a1, a2⟩ := hA
  obtain ⟨b1, b2⟩ := hB
  by_cases k84 : k = 84
  · have e1 := a2 (by omega)
    have e2 := b2 (Or.inl (by omega))
    refine ⟨fun h => ⟨e1, b1 (Or.inr (by simp only at h; omega)), e2⟩, fun h => ?_, fun h => ⟨?_, e1, e2⟩, fun h => ?_⟩
    · simp only at h; rw [e1] at h; cases h
    · by_cases z : a.2.1 = 0
      · exact z
      · have := b1 (Or.inr z)
        simp only at h
        omega
    · simp only at h; rw [e2] at h; cases h
  · have e1 := a1 k84
    have e2 := b1 (Or.inl k84)
    refine ⟨fun h => ?_, fun h => ⟨e1, e2, b2 (Or.inr h)⟩, fun h => ?_, fun h => ⟨e1, ?_, e2⟩⟩
    · simp only at h; omega
    · simp only at h; omega
    · cases z : a.2.2 with
      | false => rfl
      | true =>
        have := b2 (Or.inr z)
        simp only at h
        rw [this] at h
        cases h
theorem around_inv {f : Pu.Src} {i j : Nat} {r : Pu.Rule} (h : Pu.rule f i = (j, some r)) : r.around = 77 ∨ r.around = 86 ∨ r.around = 72 := by
  obtain ⟨_, a, ha, h⟩ := Pu.bnd_inv h
  obtain ⟨_, _, _, h⟩ := Pu.bnd_inv h
  obtain ⟨_, bs, _, h⟩ := Pu.bnd_inv h
  obtain ⟨_, _, _, h⟩ := Pu.bnd_inv h
  obtain ⟨_, _, _, h⟩ := Pu.bnd_inv h
  obtain ⟨_, ss, _, h⟩ := Pu.bnd_inv h
  obtain ⟨_, c, hc, h⟩ := Pu.bnd_inv h
  rw [← Pu.ret_inv h]
  have := Pu.letter_inv ha
  simpa using this
theorem read_one {f : Pu.Src} {j : Nat} {p : Pu.Parts} (h : Pu.read f = (j, some p)) : OneB p.shape ∧ (p.rule.around = 77 ∨ p.rule.around = 86 ∨ p.rule.around = 72) := by
  unfold Pu.read at h
  rcases e : Pu.pre f 0 with ⟨i, _ | a⟩
  · simp [e] at h
  · simp only [e] at h
    obtain ⟨_, x, hx, h2⟩ := Pu.bnd_inv e
    obtain ⟨_, y, hy, h3⟩ := Pu.bnd_inv h2
    have h4 := Pu.ret_inv h3
    rcases e2 : Pu.body a.1.1.states 401 [] f i with ⟨k, _ | rs⟩
    · simp [e2] at h
    · simp only [e2] at h
      have h5 := Option.some.inj (Prod.mk.inj h).2
      subst h4
      rw [← h5]
      obtain ⟨_, r, hr, h6⟩ := Pu.bnd_inv hx
      obtain ⟨_, _, _, h6⟩ := Pu.bnd_inv h6
      obtain ⟨_, s, hs, h6⟩ := Pu.bnd_inv h6
      obtain ⟨_, _, _, h6⟩ := Pu.bnd_inv h6
      obtain ⟨_, ag, _, h6⟩ := Pu.bnd_inv h6
      obtain ⟨_, _, _, h6⟩ := Pu.bnd_inv h6
      have h7 := Pu.ret_inv h6
      rw [← h7]
      exact ⟨one_inv hs, around_inv hr⟩
end Go.Proofs.YtbdbkjngdhcjpaaDoor
namespace Go.Proofs.YtbdbkjngdhcjpaaDoor
open Go.Proofs

structure KindB (x : Pu.Shape) : Prop where
  ws : 0 < x.ws → x.kind = 84
  hs : 0 < x.hs → x.kind = 84
  wst : x.wst = true → x.kind = 75
  hst : x.hst = true → x.kind = 75
  ws0 : 0 < x.ws → x.h ≠ 0
  hs0 : 0 < x.hs → x.w ≠ 0
theorem kind_inv {f : Pu.Src} {i j : Nat} {x : Pu.Shape} (h : Pu.shape f i = (j, some x)) : KindB x := by
  obtain ⟨_, k, hk, h⟩ := Pu.bnd_inv h
  obtain ⟨_, a, ha, h⟩ := Pu.bnd_inv h
  obtain ⟨_, _, _, h⟩ := Pu.bnd_inv h
  obtain ⟨_, b, hb, h⟩ := Pu.bnd_inv h
  rw [← Pu.ret_inv h]
  have hA : (k ≠ 84 → a.2.1 = 0) ∧ (k ≠ 75 → a.2.2 = false) := by
    obtain ⟨_, w, hw, h2⟩ := Pu.bnd_inv ha
    split at h2
    · obtain ⟨_, st, _, h3⟩ := Pu.bnd_inv h2
      rw [← Pu.ret_inv h3]
      exact ⟨fun _ => rfl, fun e => absurd ‹_› e⟩
    · split at h2
      · obtain ⟨_, st, hst, h3⟩ := Pu.bnd_inv h2
        rw [← Pu.ret_inv h3]
        exact ⟨fun e => absurd ‹_› e, fun _ => rfl⟩
      · rw [← Pu.ret_inv h2]
        exact ⟨fun _ => rfl, fun _ => rfl⟩
  have hB : (k ≠ 84 ∨ a.2.1 ≠ 0 → b.2.1 = 0) ∧ (k ≠ 75 ∨ a.2.2 = true → b.2.2 = false) := by
    obtain ⟨_, w, hw, h2⟩ := Pu.bnd_inv hb
    split at h2
    · rename_i e
      obtain ⟨_, _, _, h3⟩ := Pu.bnd_inv h2
      rw [← Pu.ret_inv h3]
      refine ⟨fun _ => rfl, fun e2 => ?_⟩
      rcases e2 with e2 | e2
      · exact absurd e.1 e2
      · rw [e.2] at e2
        cases e2
    · split at h2
      · rw [← Pu.ret_inv h2]
        exact ⟨fun _ => rfl, fun _ => rfl⟩
      · rename_i e
        obtain ⟨_, st, hst, h3⟩ := Pu.bnd_inv h2
        rw [← Pu.ret_inv h3]
        refine ⟨fun e2 => ?_, fun _ => rfl⟩
        exfalso
        apply e
        rcases e2 with e2 | e2
        · exact Or.inl e2
        · exact Or.inr (Or.inr e2)
  obtain ⟨a1, a2⟩ := hA
  obtain ⟨b1, b2⟩ := hB
  have hC : (k = 84 → a.2.1 ≠ 0 → b.1 ≠ 0) ∧ (k = 84 → a.1 = 0 → b.2.1 = 0) := by
    obtain ⟨_, w, hw, h2⟩ := Pu.bnd_inv hb
    have hw := Pu.number_inv hw
    have lo : k = 84 → a.2.1 ≠ 0 → Pu.rowLow k a.1 a.2.1 = 1 := by
      intro e1 e2
      unfold Pu.rowLow
      rw [if_neg (by omega), if_pos (Or.inr e2)]
    split at h2
    · rename_i e
      obtain ⟨_, _, _, h3⟩ := Pu.bnd_inv h2
      rw [← Pu.ret_inv h3]
      exact ⟨fun e1 => by omega, fun _ _ => rfl⟩
    · split at h2
      · rw [← Pu.ret_inv h2]
        exact ⟨fun e1 e2 => by have := lo e1 e2; simp only; omega, fun _ _ => rfl⟩
      · rename_i e
        obtain ⟨_, st, hst, h3⟩ := Pu.bnd_inv h2
        rw [← Pu.ret_inv h3]
        exact ⟨fun e1 e2 => by have := lo e1 e2; simp only; omega, fun e1 e2 => absurd (Or.inr (Or.inl e2)) e⟩
  obtain ⟨d1, d2⟩ := hC
  refine ⟨fun h => ?_, fun h => ?_, fun h => ?_, fun h => ?_, fun h => ?_, fun h => ?_⟩
  · by_cases e : k = 84
    · exact e
    · have := a1 e
      simp only at h
      omega
  · by_cases e : k = 84
    · exact e
    · have := b1 (Or.inl e)
      simp only at h
      omega
  · by_cases e : k = 75
    · exact e
    · have := a2 e
      simp only at h
      rw [this] at h
      cases h
  · by_cases e : k = 75
    · exact e
    · have := b2 (Or.inl e)
      simp only at h
      rw [this] at h
      cases h
  · have e : k = 84 := by
      by_cases e : k = 84
      · exact e
      · have := a1 e
        simp only at h
        omega
    exact d1 e (by simp only at h; omega)
  · have e : k = 84 := by
      by_cases e : k = 84
      · exact e
      · have := b1 (Or.inl e)
        simp only at h
        omega
    intro e2
    have := d2 e e2
    simp only at h
    omega
theorem read_kind {f : Pu.Src} {j : Nat} {p : Pu.Parts} (h : Pu.read f = (j, some p)) : KindB p.shape := by
  unfold Pu.read at h
  rcases e : Pu.pre f 0 with ⟨i, _ | a⟩
  · simp [e] at h
  · simp only [e] at h
    obtain ⟨_, x, hx, h2⟩ := Pu.bnd_inv e
    obtain ⟨_, y, hy, h3⟩ := Pu.bnd_inv h2
    have h4 := Pu.ret_inv h3
    rcases e2 : Pu.body a.1.1.states 401 [] f i with ⟨k, _ | rs⟩
    · simp [e2] at h
    · simp only [e2] at h
      have h5 := Option.some.inj (Prod.mk.inj h).2
      subst h4
      rw [← h5]
      obtain ⟨_, r, hr, h6⟩ := Pu.bnd_inv hx
      obtain ⟨_, _, _, h6⟩ := Pu.bnd_inv h6
      obtain ⟨_, s, hs, h6⟩ := Pu.bnd_inv h6
      obtain ⟨_, _, _, h6⟩ := Pu.bnd_inv h6
      obtain ⟨_, ag, _, h6⟩ := Pu.bnd_inv h6
      obtain ⟨_, _, _, h6⟩ := Pu.bnd_inv h6
      have h7 := Pu.ret_inv h6
      rw [← h7]
      exact kind_inv hs
end Go.Proofs.YtbdbkjngdhcjpaaDoor
namespace Go.Proofs.YtbdbkjngdhcjpaaDoor
open Go.RowKit
open Go.Proofs

theorem foldok_of {x : Pu.Shape} (hx : Pu.ShapeOk x) (hk : KindB x) : FoldOk x := by
  have o := hx.open_
  have ws := hx.ws
  have hs := hx.hs
  have w0 := hx.w0
  have h0 := hx.h0
  refine ⟨⟨hx.w0, hx.w12⟩, ⟨hx.h0, hx.h12⟩, by omega, by omega, fun h => ?_, fun h => ?_⟩
  · unfold turnW at h
    have k : x.kind = 75 ∨ x.kind = 67 := by
      rcases Bool.or_eq_true_iff.1 h with h | h
      · exact Or.inl (hk.wst h)
      · exact Or.inr (by simpa using h)
    by_cases e : x.w = 0
    · have := o (Or.inl e)
      omega
    · omega
  · unfold turnH at h
    have k : x.kind = 75 ∨ x.kind = 67 := by
      rcases Bool.or_eq_true_iff.1 h with h | h
      · exact Or.inl (hk.hst h)
      · exact Or.inr (by simpa using h)
    by_cases e : x.h = 0
    · have := o (Or.inr e)
      omega
    · omega
/-- What stays of a world, whatever is called on it: rule and shape. -/
structure Kin (r : Pu.Rule) (x : Pu.Shape) : Prop where
  rule : RuleOk r
  st : 2 ≤ r.states ∧ r.states ≤ 9
  ar : r.around = 77 ∨ r.around = 86 ∨ r.around = 72
  shape : Pu.ShapeOk x
  kind : KindB x
  one : OneB x
theorem Kin.fo {r : Pu.Rule} {x : Pu.Shape} (h : Kin r x) : FoldOk x := foldok_of h.shape h.kind
end Go.Proofs.YtbdbkjngdhcjpaaDoor
