import Derived.Test.YteanpanjcakepaaHe
namespace Go.Proofs.Pu
theorem body_stop (c : Int) : ∀ (n : Nat) (acc : List Run) (f : Src) (i j : Nat) (rs : List Run), body c n acc f i = (j, some rs) → f j = -1 := by
  intro n
  induction n with
  | zero => intro acc f i j rs h; simp [body] at h
  | succ n ih =>
    intro acc f i j rs h
    unfold body at h
    split at h
    · simp at h
    · split at h
      · obtain ⟨rfl, h2⟩ := Prod.mk.inj h
        split at h2
        · assumption
        · simp at h2
      · rcases e : run c f i with ⟨k, _ | r⟩
        · simp [e] at h
        · simp only [e] at h
          exact ih _ f k j rs h
theorem read_stop {f : Src} {j : Nat} {p : Parts} (h : read f = (j, some p)) : f j = -1 := by
  unfold read at h
  rcases e : pre f 0 with ⟨i, _ | a⟩
  · simp [e] at h
  · simp only [e] at h
    generalize hB : body a.1.1.states 401 [] f i = B at h
    rcases B with ⟨k, _ | rs⟩
    · simp at h
    · have := body_stop _ _ _ _ _ _ _ hB
      simp only at h
      rw [← (Prod.mk.inj h).1]
      exact this
end Go.Proofs.Pu
namespace Go.Proofs.Yteanpanjcakepaa
open Go.RowKit
open Go.Proofs
theorem read_size {s : ByteArray} {j : Nat} {p : Pu.Parts} (h : Pu.read (src s) = (j, some p)) : s.size ≤ j := by
  have := Pu.read_stop h
  rcases Nat.lt_or_ge j s.size with h1 | h1
  · rw [src_lt h1] at this; omega
  · exact h1
/-- A text that is cut off. -/
theorem src_cut {s : ByteArray} {n : Nat} (hn : n ≤ s.size) : (∀ k, k < n → src (s.extract 0 n) k = src s k) ∧ src (s.extract 0 n) n = -1 := by
  have hz : (s.extract 0 n).size = n := by simp; omega
  refine ⟨fun k hk => ?_, ?_⟩
  · rw [src_lt (show k < (s.extract 0 n).size by omega), src_lt (show k < s.size by omega)]
    rw [ByteArray.getElem_extract]
    simp
  · rw [src_ge (by omega)]
/-- The place is no farther than the text's end. -/
theorem Kp.below {w w' : World} (h : Kp (fun _ => False) w w') : Below w.heap.size w w' := ⟨h.os, h.tape, h.output, h.size, fun k hk => h.block k hk (fun x => x)⟩

def pickP (c n : Int) : Int := if c < 0 then (-(c + 1)) % n else c % n
set_option maxHeartbeats 400000 in
theorem pick_any (c n : Int) (w : World) (h0 : 0 < n) (h1 : n ≤ 1048576) (c0 : -9223372036854775808 ≤ c) (c1 : c ≤ 9223372036854775807) : Calls Try.prog 9 #[.int .i64 c, .int .i64 n] w fun e w' => e = .returned (.int .i64 (pickP c n)) ∧ w' = w := by
  unfold pickP
  by_cases hc : c < 0
  · rw [if_pos hc]
    have b1 := Int.emod_nonneg (-(c + 1)) (show n ≠ 0 by omega)
    have b2 := Int.emod_lt_of_pos (-(c + 1)) h0
    have e : -((c + 1).tmod n) = (-(c + 1)) % n := by rw [← Int.neg_tmod, Int.tmod_eq_emod_of_nonneg (by omega)]
    have E := hide e
    clear e b1 b2
    go_enter Try.func9, Try.ntmps9
    go_wp2
    go_ret
    exact ⟨ret_int E.out, rfl⟩
  · rw [if_neg hc]
    have b1 := Int.emod_nonneg c (show n ≠ 0 by omega)
    have b2 := Int.emod_lt_of_pos c h0
    go_enter Try.func9, Try.ntmps9
    go_wp2
    go_ret
    exact ⟨rfl, rfl⟩
end Go.Proofs.Yteanpanjcakepaa
