import Derived.Test.YtbdbkjngdhcjpaaDoorInv
import Derived.Test.YtbdbkjngdhcjpaaDoorXqa
import Derived.Test.YtbdbkjngdhcjpaaDoorXqb
namespace Go.Proofs.YtbdbkjngdhcjpaaDoor
open Go.Proofs

/-- At most one thing stands behind the sides. -/
structure OneB (x : Pu.Shape) : Prop where
  ws : 0 < x.ws → x.wst = false ∧ x.hs = 0 ∧ x.hst = false
  wst : x.wst = true → x.ws = 0 ∧ x.hs = 0 ∧ x.hst = false
  hs : 0 < x.hs → x.ws = 0 ∧ x.wst = false ∧ x.hst = false
  hst : x.hst = true → x.ws = 0 ∧ x.wst = false ∧ x.hs = 0
theorem one_inv {f : Pu.Src} {i j : Nat} {x : Pu.Shape} (h : Pu.shape f i = (j, some x)) : OneB x := by
  obtain ⟨_, k, hk, h⟩ := Pu.bnd_inv h
  obtain ⟨_, a, ha, h⟩ := Pu.bnd_inv h
  obtain ⟨_, _, _, h⟩ := Pu.bnd_inv h
  obtain ⟨_, b, hb, h⟩ := Pu.bnd_inv h
  rw [← Pu.ret_inv h]
  have hA : (k ≠ 84 → a.2.1 = 0) ∧ (k ≠ 75 → a.2.2 = false) := by
    obtain ⟨_, w, hw, h2⟩ := Pu.bnd_inv ha
    split at h2
    · obtain ⟨_, st, _, h3⟩ := Pu.bnd_inv h2
      rw [← Pu.ret_inv h3]
      exact ⟨fun _ => rfl, fun e => absurd ‹_› e⟩
    · split at h2
      · obtain ⟨_, st, hst, h3⟩ := Pu.bnd_inv h2
        rw [← Pu.ret_inv h3]
        exact ⟨fun e => absurd ‹_› e, fun _ => rfl⟩
      · rw [← Pu.ret_inv h2]
        exact ⟨fun _ => rfl, fun _ => rfl⟩
  have hB : (k ≠ 84 ∨ a.2.1 ≠ 0 → b.2.1 = 0) ∧ (k ≠ 75 ∨ a.2.2 = true → b.2.2 = false) := by
    obtain ⟨_, w, hw, h2⟩ := Pu.bnd_inv hb
    split at h2
    · rename_i e
      obtain ⟨_, _, _, h3⟩ := Pu.bnd_inv h2
      rw [← Pu.ret_inv h3]
      refine ⟨fun _ => rfl, fun e2 => ?_⟩
      rcases e2 with e2 | e2
      · exact absurd e.1 e2
      · rw [e.2] at e2
        cases e2
    · split at h2
      · rw [← Pu.ret_inv h2]
        exact ⟨fun _ => rfl, fun _ => rfl⟩
      · rename_i e
        obtain ⟨_, st, hst, h3⟩ := Pu.bnd_inv h2
        rw [← Pu.ret_inv h3]
        refine ⟨fun e2 => ?_, fun _ => rfl⟩
        exfalso
        apply e
        rcases e2 with e2 | e2
        · exact Or.inl e2
        · exact Or.inr (Or.inr e2)
  obtain ⟨a1, a2⟩ := hA
  obtain ⟨b1, b2⟩ := hB
  by_cases k84 : k = 84
  · have e1 := a2 (by omega)
    have e2 := b2 (Or.inl (by omega))
    refine ⟨fun h => ⟨e1, b1 (Or.inr (by simp only at h; omega)), e2⟩, fun h => ?_, fun h => ⟨?_, e1, e2⟩, fun h => ?_⟩
    · simp only at h; rw [e1] at h; cases h
    · by_cases z : a.2.1 = 0
      · exact z
      · have := b1 (Or.inr z)
        simp only at h
        omega
    · simp only at h; rw [e2] at h; cases h
  · have e1 := a1 k84
    have e2 := b1 (Or.inl k84)
    refine ⟨fun h => ?_, fun h => ⟨e1, e2, b2 (Or.inr h)⟩, fun h => ?_, fun h => ⟨e1, ?_, e2⟩⟩
    · simp only at h; omega
    · simp only at h; omega
    · cases z : a.2.2 with
      | false => rfl
      | true =>
        have := b2 (Or.inr z)
        simp only at h
        rw [this] at h
        cases h
theorem around_inv {f : Pu.Src} {i j : Nat} {r : Pu.Rule} (h : Pu.rule f i = (j, some r)) : r.around = 77 ∨ r.around = 86 ∨ r.around = 72 := by
  obtain ⟨_, a, ha, h⟩ := Pu.bnd_inv h
  obtain ⟨_, _, _, h⟩ := Pu.bnd_inv h
  obtain ⟨_, bs, _, h⟩ := Pu.bnd_inv h
  obtain ⟨_, _, _, h⟩ := Pu.bnd_inv h
  obtain ⟨_, _, _, h⟩ := Pu.bnd_inv h
  obtain ⟨_, ss, _, h⟩ := Pu.bnd_inv h
  obtain ⟨_, c, hc, h⟩ := Pu.bnd_inv h
  rw [← Pu.ret_inv h]
  have := Pu.letter_inv ha
  simpa using this
theorem read_one {f : Pu.Src} {j : Nat} {p : Pu.Parts} (h : Pu.read f = (j, some p)) : OneB p.shape ∧ (p.rule.around = 77 ∨ p.rule.around = 86 ∨ p.rule.around = 72) := by
  unfold Pu.read at h
  rcases e : Pu.pre f 0 with ⟨i, _ | a⟩
  · simp [e] at h
  · simp only [e] at h
    obtain ⟨_, x, hx, h2⟩ := Pu.bnd_inv e
    obtain ⟨_, y, hy, h3⟩ := Pu.bnd_inv h2
    have h4 := Pu.ret_inv h3
    rcases e2 : Pu.body a.1.1.states 401 [] f i with ⟨k, _ | rs⟩
    · simp [e2] at h
    · simp only [e2] at h
      have h5 := Option.some.inj (Prod.mk.inj h).2
      subst h4
      rw [← h5]
      obtain ⟨_, r, hr, h6⟩ := Pu.bnd_inv hx
      obtain ⟨_, _, _, h6⟩ := Pu.bnd_inv h6
      obtain ⟨_, s, hs, h6⟩ := Pu.bnd_inv h6
      obtain ⟨_, _, _, h6⟩ := Pu.bnd_inv h6
      obtain ⟨_, ag, _, h6⟩ := Pu.bnd_inv h6
      obtain ⟨_, _, _, h6⟩ := Pu.bnd_inv h6
      have h7 := Pu.ret_inv h6
      rw [← h7]
      exact ⟨one_inv hs, around_inv hr⟩
end Go.Proofs.YtbdbkjngdhcjpaaDoor
namespace Go.Proofs.YtbdbkjngdhcjpaaDoor
open Go.RowKit
open Go.Proofs

theorem xhead_any (q : Nat) (r : Pu.Rule) (x : Pu.Shape) (age : Int) (g1 g2 : Nat) (v : Value) (w : World) (h : HdAt w q r x age g1 g2 v) (hb : HdB r x age) (ho : OneB x) :
    Calls Tryd.prog 22 #[.pointer (some ⟨q, 0, none⟩)] w fun e w' => e = .returned (.string (ustr (xheadT r x age))) ∧ Kp (fun _ => False) w w' := by
  have b1 := hb.ws
  have b2 := hb.hs
  have b3 := hb.st
  by_cases hC : 2 < r.states
  · by_cases e1 : 0 < x.ws
    · obtain ⟨o1, o2, o3⟩ := ho.ws e1
      exact xhead_b_ws q r x age g1 g2 v w h hb hC e1 o1 o2 o3
    · by_cases e2 : x.wst = true
      · obtain ⟨o1, o2, o3⟩ := ho.wst e2
        exact xhead_b_wst q r x age g1 g2 v w h hb hC o1 e2 o2 o3
      · by_cases e3 : 0 < x.hs
        · obtain ⟨o1, o2, o3⟩ := ho.hs e3
          exact xhead_b_hs q r x age g1 g2 v w h hb hC o1 o2 e3 o3
        · by_cases e4 : x.hst = true
          · obtain ⟨o1, o2, o3⟩ := ho.hst e4
            exact xhead_b_hst q r x age g1 g2 v w h hb hC o1 o2 o3 e4
          · exact xhead_b_no q r x age g1 g2 v w h hb hC (by omega) (by simpa using e2) (by omega) (by simpa using e4)
  · have hC' : r.states = 2 := by omega
    by_cases e1 : 0 < x.ws
    · obtain ⟨o1, o2, o3⟩ := ho.ws e1
      exact xhead_s_ws q r x age g1 g2 v w h hb hC' e1 o1 o2 o3
    · by_cases e2 : x.wst = true
      · obtain ⟨o1, o2, o3⟩ := ho.wst e2
        exact xhead_s_wst q r x age g1 g2 v w h hb hC' o1 e2 o2 o3
      · by_cases e3 : 0 < x.hs
        · obtain ⟨o1, o2, o3⟩ := ho.hs e3
          exact xhead_s_hs q r x age g1 g2 v w h hb hC' o1 o2 e3 o3
        · by_cases e4 : x.hst = true
          · obtain ⟨o1, o2, o3⟩ := ho.hst e4
            exact xhead_s_hst q r x age g1 g2 v w h hb hC' o1 o2 o3 e4
          · exact xhead_s_no q r x age g1 g2 v w h hb hC' (by omega) (by simpa using e2) (by omega) (by simpa using e4)
end Go.Proofs.YtbdbkjngdhcjpaaDoor
