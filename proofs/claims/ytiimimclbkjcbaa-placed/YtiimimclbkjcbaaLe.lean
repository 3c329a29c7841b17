import Derived.Test.YtiimimclbkjcbaaInv
namespace Go.Proofs.Pu
/-- Nobody reads beyond the end. -/
def Le {α : Type} (p : Rd α) : Prop := ∀ (f : Src) (L i : Nat), (∀ k, L ≤ k → f k = -1) → i ≤ L → (p f i).1 ≤ L
theorem le_now {α : Type} (a : Option α) : Le (fun (_ : Src) (i : Nat) => (i, a)) := fun _ _ _ _ h => h
theorem le_ret {α : Type} (a : α) : Le (ret a) := fun _ _ _ _ h => h
theorem le_bnd {α β : Type} {p : Rd α} {q : α → Rd β} (hp : Le p) (hq : ∀ a, Le (q a)) : Le (bnd p q) := by
  intro f L i hf hi
  have h1 := hp f L i hf hi
  unfold bnd
  rcases e : p f i with ⟨j, _ | a⟩
  · rw [e] at h1; exact h1
  · rw [e] at h1; exact hq a f L j hf h1
theorem lt_of {f : Src} {L i : Nat} (hf : ∀ k, L ≤ k → f k = -1) (h : f i ≠ -1) : i < L := by
  rcases Nat.lt_or_ge i L with h1 | h1
  · exact h1
  · exact absurd (hf i h1) h
theorem le_take (m : Int) (hm : 0 ≤ m) : Le (take m) := by
  intro f L i hf hi
  unfold take
  split
  · exact lt_of hf (by omega)
  · exact hi
theorem le_opt (m : Int) (hm : 0 ≤ m) : Le (opt m) := by
  intro f L i hf hi
  unfold opt
  split
  · exact lt_of hf (by omega)
  · exact hi
theorem le_letter (ms : List Int) (hm : ∀ m, m ∈ ms → 0 ≤ m) : Le (letter ms) := by
  intro f L i hf hi
  unfold letter
  split
  · rename_i h
    have := hm _ h
    exact lt_of hf (by omega)
  · exact hi
theorem le_many {σ : Type} (step : σ → Int → Option σ) (hs : ∀ v, step v (-1) = none) : ∀ n v, Le (many step n v) := by
  intro n
  induction n with
  | zero => exact fun v => le_ret v
  | succ n ih =>
    intro v f L i hf hi
    unfold many
    rcases e : step v (digit f i) with _ | v'
    · exact hi
    · have hne : f i ≠ -1 := by
        intro h
        rw [digit_end h, hs] at e
        simp at e
      exact ih v' f L (i + 1) hf (lt_of hf hne)
theorem le_number (lo hi : Int) : Le (number lo hi) :=
  le_bnd (le_many _ (fun v => by unfold numStep; rw [if_pos (Or.inl (by omega))]) _ _) fun _ => le_now _
theorem le_set (most : Int) : Le (set most) :=
  le_bnd (le_many _ (fun v => by unfold setStep; rw [if_pos (Or.inl (by omega))]) _ _) fun _ => le_ret _
theorem le_ite {α : Type} {c : Prop} [Decidable c] {p q : Rd α} (hp : Le p) (hq : Le q) : Le (if c then p else q) := by split <;> assumption
theorem le_states : Le states := le_bnd (le_opt _ (by omega)) fun _ => le_ite (le_number _ _) (le_ret _)
theorem le_rule : Le rule :=
  le_bnd (le_letter _ (by simp)) fun _ => le_bnd (le_take _ (by omega)) fun _ => le_bnd (le_set _) fun _ => le_bnd (le_take _ (by omega)) fun _ => le_bnd (le_take _ (by omega)) fun _ =>
  le_bnd (le_set _) fun _ => le_bnd le_states fun _ => le_ret _
theorem le_shift (side : Int) : Le (shift side) := by
  unfold shift; exact le_ite (le_ret _) (le_bnd (le_opt _ (by omega)) fun _ => le_ite (le_number _ _) (le_ret _))
theorem le_width (k : Int) : Le (width k) :=
  le_bnd (le_number _ _) fun _ => le_ite (le_bnd (le_opt _ (by omega)) fun _ => le_ret _) (le_ite (le_bnd (le_shift _) fun _ => le_ret _) (le_ret _))
theorem le_height (k w ws : Int) (wst : Bool) : Le (height k w ws wst) :=
  le_bnd (le_number _ _) fun _ => le_ite (le_bnd (le_take _ (by omega)) fun _ => le_ret _) (le_ite (le_ret _) (le_bnd (le_shift _) fun _ => le_ret _))
theorem le_shape : Le shape :=
  le_bnd (le_letter _ (by simp)) fun _ => le_bnd (le_width _) fun _ => le_bnd (le_take _ (by omega)) fun _ => le_bnd (le_height _ _ _ _) fun _ => le_ret _
theorem le_head : Le head :=
  le_bnd le_rule fun _ => le_bnd (le_take _ (by omega)) fun _ => le_bnd le_shape fun _ => le_bnd (le_take _ (by omega)) fun _ => le_bnd (le_number _ _) fun _ => le_bnd (le_take _ (by omega)) fun _ => le_ret _
theorem le_signed (m : Int) : Le (signed m) :=
  le_bnd (le_opt _ (by omega)) fun _ => le_ite (le_bnd (le_number _ _) fun _ => le_ret _) (le_number _ _)
theorem le_place : Le place :=
  le_bnd (le_signed _) fun _ => le_bnd (le_take _ (by omega)) fun _ => le_bnd (le_signed _) fun _ => le_bnd (le_take _ (by omega)) fun _ => le_ret _
theorem le_count : Le count := by
  intro f L i hf hi
  unfold count
  split
  · exact le_number 2 99 f L i hf hi
  · exact hi
theorem le_run (c : Int) : Le (run c) := le_bnd le_count fun _ => le_bnd (le_opt _ (by omega)) fun _ => le_ite (le_ret _) (le_bnd (le_bnd (le_letter _ (letters_pos c)) fun _ => le_ret _) fun _ => le_ret _)
theorem le_body (c : Int) : ∀ n acc, Le (body c n acc) := by
  intro n
  induction n with
  | zero => intro acc f L i _ hi; exact hi
  | succ n ih =>
    intro acc f L i hf hi
    unfold body
    split
    · exact hi
    · rename_i hne
      split
      · exact lt_of hf hne
      · have h1 := le_run c f L i hf hi
        rcases e : run c f i with ⟨j, _ | r⟩
        · rw [e] at h1; exact h1
        · rw [e] at h1; exact ih _ f L j hf h1
theorem le_pre : Le pre := le_bnd le_head fun _ => le_bnd le_place fun _ => le_ret _
theorem read_le (f : Src) (L : Nat) (hf : ∀ k, L ≤ k → f k = -1) : (read f).1 ≤ L := by
  have h1 := le_pre f L 0 hf (Nat.zero_le _)
  unfold read
  rcases e : pre f 0 with ⟨i, _ | a⟩
  · rw [e] at h1; exact h1
  · rw [e] at h1
    have h2 := le_body a.1.1.states 401 [] f L i hf h1
    simp only
    generalize body a.1.1.states 401 [] f i = B at h2
    rcases B with ⟨k, _ | rs⟩ <;> exact h2
end Go.Proofs.Pu
