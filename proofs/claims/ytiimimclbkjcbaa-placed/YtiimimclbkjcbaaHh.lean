import Derived.Test.YtiimimclbkjcbaaHf
namespace Go.Proofs.Ytiimimclbkjcbaa
open Go.RowKit
open Go.Proofs

/-- What Load hands back of whatever text, as far as both statements ask. -/
structure LoadIs (s : ByteArray) (u : Value) (z c : Int) : Prop where
  txt : s.size ≤ 400 → ∀ j, Pu.read (src s) = (j, none) → u = .pointer none ∧ z = j ∧ c = 2
  ok : s.size ≤ 400 → ∀ j p, Pu.read (src s) = (j, some p) → c ≠ 2
  long : 400 < s.size → c = 1
theorem Load_is (s : ByteArray) (w : World) (hm : s.size ≤ maxLen) : Calls Try.prog 14 #[.string s] w fun e w' => (∃ u z c, e = .returned (.tuple #[u, .int .i64 z, .int .i64 c]) ∧ LoadIs s u z c) ∧ Kp (fun _ => False) w w' := by
  by_cases h : s.size ≤ 400
  · rcases hrd : Pu.read (src s) with ⟨j, _ | p⟩
    · refine (Load_none s w h j hrd).mono ?_
      rintro e w' ⟨rfl, k⟩
      refine ⟨⟨_, _, _, rfl, ?_, ?_, ?_⟩, k⟩
      · intro _ j' h'
        rw [hrd] at h'
        exact ⟨rfl, by rw [(Prod.mk.inj h').1], rfl⟩
      · intro _ j' p' h'
        rw [hrd] at h'
        have := (Prod.mk.inj h').2
        simp at this
      · intro hl; omega
    · refine (Load_some s w h j p hrd).mono ?_
      rintro e w' ⟨⟨u, c, rfl, hc⟩, k⟩
      refine ⟨⟨_, _, _, rfl, ?_, ?_, ?_⟩, k⟩
      · intro _ j' h'
        rw [hrd] at h'
        have := (Prod.mk.inj h').2
        simp at this
      · intro _ j' p' h'; omega
      · intro hl; omega
  · refine (Load_long s w (by omega) hm).mono ?_
    rintro e w' ⟨rfl, hw⟩
    subst w'
    exact ⟨⟨_, _, _, rfl, fun h' => absurd h' h, fun h' => absurd h' h, fun _ => rfl⟩, Kp.refl _ _⟩
/-- No text begins with an exclamation mark. -/
theorem read_bang {s : ByteArray} (h : src s 0 = 33) : Pu.read (src s) = (0, none) := by
  have e1 : Pu.letter [77, 86, 72] (src s) 0 = (0, none) := by unfold Pu.letter; rw [if_neg (by rw [h]; simp)]
  have e2 : Pu.rule (src s) 0 = (0, none) := by unfold Pu.rule; exact bnd_none e1
  have e3 : Pu.head (src s) 0 = (0, none) := by unfold Pu.head; exact bnd_none e2
  exact Pu.read_n1 e3
theorem src_append {a b : ByteArray} {k : Nat} (h : k < a.size) : src (a ++ b) k = src a k := by
  have hz : (a ++ b).size = a.size + b.size := by simp
  rw [src_lt (show k < (a ++ b).size by omega), src_lt h, ByteArray.getElem_append_left h]

end Go.Proofs.Ytiimimclbkjcbaa
