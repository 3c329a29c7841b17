import Derived.Test.YtiimimclbkjcbaaHe
import Derived.Test.YtiimimclbkjcbaaGw
import Derived.Test.YtiimimclbkjcbaaPk
namespace Go.Proofs.Pu
theorem body_stop (c : Int) : ∀ (n : Nat) (acc : List Run) (f : Src) (i j : Nat) (rs : List Run), body c n acc f i = (j, some rs) → f j = -1 := by
  intro n
  induction n with
  | zero => intro acc f i j rs h; simp [body] at h
  | succ n ih =>
    intro acc f i j rs h
    unfold body at h
    split at h
    · simp at h
    · split at h
      · obtain ⟨rfl, h2⟩ := Prod.mk.inj h
        split at h2
        · assumption
        · simp at h2
      · rcases e : run c f i with ⟨k, _ | r⟩
        · simp [e] at h
        · simp only [e] at h
          exact ih _ f k j rs h
theorem read_stop {f : Src} {j : Nat} {p : Parts} (h : read f = (j, some p)) : f j = -1 := by
  unfold read at h
  rcases e : pre f 0 with ⟨i, _ | a⟩
  · simp [e] at h
  · simp only [e] at h
    generalize hB : body a.1.1.states 401 [] f i = B at h
    rcases B with ⟨k, _ | rs⟩
    · simp at h
    · have := body_stop _ _ _ _ _ _ _ hB
      simp only at h
      rw [← (Prod.mk.inj h).1]
      exact this
end Go.Proofs.Pu
namespace Go.Proofs.Ytiimimclbkjcbaa
open Go.RowKit
open Go.Proofs
theorem read_size {s : ByteArray} {j : Nat} {p : Pu.Parts} (h : Pu.read (src s) = (j, some p)) : s.size ≤ j := by
  have := Pu.read_stop h
  rcases Nat.lt_or_ge j s.size with h1 | h1
  · rw [src_lt h1] at this; omega
  · exact h1
/-- A text that is cut off. -/
theorem src_cut {s : ByteArray} {n : Nat} (hn : n ≤ s.size) : (∀ k, k < n → src (s.extract 0 n) k = src s k) ∧ src (s.extract 0 n) n = -1 := by
  have hz : (s.extract 0 n).size = n := by simp; omega
  refine ⟨fun k hk => ?_, ?_⟩
  · rw [src_lt (show k < (s.extract 0 n).size by omega), src_lt (show k < s.size by omega)]
    rw [ByteArray.getElem_extract]
    simp
  · rw [src_ge (by omega)]
end Go.Proofs.Ytiimimclbkjcbaa
