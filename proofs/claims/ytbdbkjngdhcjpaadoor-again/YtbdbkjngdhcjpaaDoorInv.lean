import Derived.Test.YtbdbkjngdhcjpaaDoorPure
namespace Go.Proofs.Pu

theorem bnd_inv {α β : Type} {p : Rd α} {q : α → Rd β} {f : Src} {i j : Nat} {b : β} (h : bnd p q f i = (j, some b)) : ∃ k a, p f i = (k, some a) ∧ q a f k = (j, some b) := by
  unfold bnd at h
  rcases e : p f i with ⟨k, _ | a⟩
  · simp [e] at h
  · simp only [e] at h
    exact ⟨k, a, rfl, h⟩
theorem ret_inv {α : Type} {a b : α} {f : Src} {i j : Nat} (h : ret a f i = (j, some b)) : a = b := Option.some.inj (Prod.mk.inj h).2
theorem number_inv {lo hi : Int} {f : Src} {i j : Nat} {a : Int} (h : number lo hi f i = (j, some a)) : lo ≤ a ∧ a ≤ hi := by
  obtain ⟨k, v, _, h2⟩ := bnd_inv h
  have h3 := (Prod.mk.inj h2).2
  by_cases c : v.1 = true ∧ lo ≤ v.2 ∧ v.2 ≤ hi
  · rw [if_pos c] at h3
    have := Option.some.inj h3
    omega
  · rw [if_neg c] at h3
    simp at h3
theorem states_inv {f : Src} {i j : Nat} {c : Int} (h : states f i = (j, some c)) : 2 ≤ c ∧ c ≤ 9 := by
  obtain ⟨k, b, _, h2⟩ := bnd_inv h
  cases b with
  | true => have := number_inv h2; omega
  | false => have := ret_inv (f := f) h2; omega
theorem letter_inv {ms : List Int} {f : Src} {i j : Nat} {m : Int} (h : letter ms f i = (j, some m)) : m ∈ ms := by
  unfold letter at h
  split at h
  · rename_i hm
    have := Option.some.inj (Prod.mk.inj h).2
    rwa [this] at hm
  · simp at h
theorem rule_inv {f : Src} {i j : Nat} {r : Rule} (h : rule f i = (j, some r)) : 2 ≤ r.states ∧ r.states ≤ 9 := by
  obtain ⟨_, a, _, h⟩ := bnd_inv h
  obtain ⟨_, _, _, h⟩ := bnd_inv h
  obtain ⟨_, bs, _, h⟩ := bnd_inv h
  obtain ⟨_, _, _, h⟩ := bnd_inv h
  obtain ⟨_, _, _, h⟩ := bnd_inv h
  obtain ⟨_, ss, _, h⟩ := bnd_inv h
  obtain ⟨_, c, hc, h⟩ := bnd_inv h
  rw [← ret_inv h]
  exact states_inv hc
/-- A shape that a text can have. -/
structure ShapeOk (x : Shape) : Prop where
  kind : x.kind ∈ [(80 : Int), 84, 75, 67, 83]
  w0 : 0 ≤ x.w
  w12 : x.w ≤ 12
  h0 : 0 ≤ x.h
  h12 : x.h ≤ 12
  one : x.w ≠ 0 ∨ x.h ≠ 0
  ws : 0 ≤ x.ws ∧ (x.ws = 0 ∨ x.ws < x.w)
  hs : 0 ≤ x.hs ∧ (x.hs = 0 ∨ x.hs < x.h)
  open_ : (x.w = 0 ∨ x.h = 0) → x.kind = 80 ∨ x.kind = 84
theorem shift_inv {side : Int} {f : Src} {i j : Nat} {s : Int} (h : shift side f i = (j, some s)) : 0 ≤ s ∧ (s = 0 ∨ s < side) := by
  unfold shift at h
  split at h
  · have := ret_inv h; omega
  · obtain ⟨_, b, _, h2⟩ := bnd_inv h
    cases b with
    | true => have := number_inv h2; omega
    | false => have := ret_inv (f := f) h2; omega
theorem shape_inv {f : Src} {i j : Nat} {x : Shape} (h : shape f i = (j, some x)) : ShapeOk x := by
  obtain ⟨_, k, hk, h⟩ := bnd_inv h
  obtain ⟨_, a, ha, h⟩ := bnd_inv h
  obtain ⟨_, _, _, h⟩ := bnd_inv h
  obtain ⟨_, b, hb, h⟩ := bnd_inv h
  have hk := letter_inv hk
  rw [← ret_inv h]
  have hl : 0 ≤ leastSide k ∧ leastSide k ≤ 1 ∧ (leastSide k = 0 → k = 80 ∨ k = 84) := by
    unfold leastSide
    split
    · exact ⟨by omega, by omega, fun _ => ‹_›⟩
    · exact ⟨by omega, by omega, fun h => by omega⟩
  have hA : 0 ≤ a.1 ∧ a.1 ≤ 12 ∧ (a.1 = 0 → k = 80 ∨ k = 84) ∧ 0 ≤ a.2.1 ∧ (a.2.1 = 0 ∨ a.2.1 < a.1) := by
    obtain ⟨_, w, hw, h2⟩ := bnd_inv ha
    have hw := number_inv hw
    split at h2
    · obtain ⟨_, st, _, h3⟩ := bnd_inv h2
      rw [← ret_inv h3]
      exact ⟨by simp only; omega, by simp only; omega, fun h => hl.2.2 (by simp only at h; omega), by simp only; omega, Or.inl rfl⟩
    · split at h2
      · obtain ⟨_, st, hst, h3⟩ := bnd_inv h2
        have := shift_inv hst
        rw [← ret_inv h3]
        exact ⟨by simp only; omega, by simp only; omega, fun h => hl.2.2 (by simp only at h; omega), this.1, this.2⟩
      · rw [← ret_inv h2]
        exact ⟨by simp only; omega, by simp only; omega, fun h => hl.2.2 (by simp only at h; omega), by simp only; omega, Or.inl rfl⟩
  obtain ⟨a1, a2, a3, a4, a5⟩ := hA
  have hB : 0 ≤ b.1 ∧ b.1 ≤ 12 ∧ (a.1 = 0 → b.1 ≠ 0) ∧ (b.1 = 0 → k = 80 ∨ k = 84) ∧ 0 ≤ b.2.1 ∧ (b.2.1 = 0 ∨ b.2.1 < b.1) := by
    obtain ⟨_, w, hw, h2⟩ := bnd_inv hb
    have hw := number_inv hw
    have hlo : 0 ≤ rowLow k a.1 a.2.1 ∧ (a.1 = 0 → k ≠ 83 → 1 ≤ rowLow k a.1 a.2.1) ∧ (rowLow k a.1 a.2.1 = 0 → k = 80 ∨ k = 84) := by
      unfold rowLow
      split
      · refine ⟨by omega, fun _ h => absurd ‹_› h, fun h => a3 h⟩
      · split
        · exact ⟨by omega, fun _ _ => by omega, fun h => by omega⟩
        · exact ⟨by omega, fun h => by omega, hl.2.2⟩
    have hhi : rowHigh k a.1 ≤ 12 := by unfold rowHigh; split <;> omega
    have key : 0 ≤ w ∧ w ≤ 12 ∧ (a.1 = 0 → w ≠ 0) ∧ (w = 0 → k = 80 ∨ k = 84) := by
      refine ⟨by omega, by omega, fun h => ?_, fun h => hlo.2.2 (by omega)⟩
      have : k ≠ 83 := by have := a3 h; omega
      have := hlo.2.1 h this
      omega
    obtain ⟨k1, k2, k3, k4⟩ := key
    split at h2
    · obtain ⟨_, _, _, h3⟩ := bnd_inv h2
      rw [← ret_inv h3]
      exact ⟨k1, k2, k3, k4, by simp only; omega, Or.inl rfl⟩
    · split at h2
      · rw [← ret_inv h2]
        exact ⟨k1, k2, k3, k4, by simp only; omega, Or.inl rfl⟩
      · obtain ⟨_, st, hst, h3⟩ := bnd_inv h2
        have := shift_inv hst
        rw [← ret_inv h3]
        exact ⟨k1, k2, k3, k4, this.1, this.2⟩
  obtain ⟨b1, b2, b3, b4, b5, b6⟩ := hB
  refine ⟨hk, a1, a2, b1, b2, ?_, ⟨a4, a5⟩, ⟨b5, b6⟩, ?_⟩
  · simp only
    by_cases h0 : a.1 = 0
    · exact Or.inr (b3 h0)
    · exact Or.inl h0
  · simp only
    rintro (h | h)
    · exact a3 h
    · exact b4 h
theorem head_inv {f : Src} {i j : Nat} {a : Rule × Shape × Int} (h : head f i = (j, some a)) : (2 ≤ a.1.states ∧ a.1.states ≤ 9) ∧ ShapeOk a.2.1 ∧ 0 ≤ a.2.2 ∧ a.2.2 ≤ 999999 := by
  obtain ⟨_, r, hr, h⟩ := bnd_inv h
  obtain ⟨_, _, _, h⟩ := bnd_inv h
  obtain ⟨_, x, hx, h⟩ := bnd_inv h
  obtain ⟨_, _, _, h⟩ := bnd_inv h
  obtain ⟨_, g, hg, h⟩ := bnd_inv h
  obtain ⟨_, _, _, h⟩ := bnd_inv h
  rw [← ret_inv h]
  exact ⟨rule_inv hr, shape_inv hx, number_inv hg⟩
theorem signed_inv {m : Int} (hm : 0 ≤ m) {f : Src} {i j : Nat} {v : Int} (h : signed m f i = (j, some v)) : -m ≤ v ∧ v ≤ m := by
  obtain ⟨_, b, _, h⟩ := bnd_inv h
  cases b with
  | true =>
    obtain ⟨_, x, hx, h⟩ := bnd_inv h
    have := number_inv hx
    have := ret_inv h
    omega
  | false => have := number_inv h; omega
theorem place_inv {f : Src} {i j : Nat} {a : Int × Int} (h : place f i = (j, some a)) : (-9999 ≤ a.1 ∧ a.1 ≤ 9999) ∧ -9999 ≤ a.2 ∧ a.2 ≤ 9999 := by
  obtain ⟨_, x, hx, h⟩ := bnd_inv h
  obtain ⟨_, _, _, h⟩ := bnd_inv h
  obtain ⟨_, y, hy, h⟩ := bnd_inv h
  obtain ⟨_, _, _, h⟩ := bnd_inv h
  rw [← ret_inv h]
  exact ⟨signed_inv (by omega) hx, signed_inv (by omega) hy⟩
/-- A run of a world with so many states. -/
def RunOk (c : Int) (r : Run) : Prop := 1 ≤ r.count ∧ r.count ≤ 99 ∧ 0 ≤ r.state ∧ r.state < c
theorem run_inv {c : Int} (hc : 2 ≤ c) (hc9 : c ≤ 9) {f : Src} {i j : Nat} {r : Run} (h : run c f i = (j, some r)) : RunOk c r := by
  obtain ⟨_, n, hn, h⟩ := bnd_inv h
  have hn : 1 ≤ n ∧ n ≤ 99 := by
    unfold count at hn
    split at hn
    · have := number_inv hn; omega
    · have := Option.some.inj (Prod.mk.inj hn).2; omega
  obtain ⟨_, b, _, h⟩ := bnd_inv h
  cases b with
  | true =>
    rw [if_pos rfl] at h
    rw [← ret_inv h]
    exact ⟨hn.1, hn.2, by simp only; omega, by simp only; omega⟩
  | false =>
    rw [if_neg (by simp)] at h
    obtain ⟨_, s, hs, h⟩ := bnd_inv h
    rw [← ret_inv h]
    obtain ⟨_, m, hm, h2⟩ := bnd_inv hs
    have hm := letter_inv hm
    unfold letters at hm
    rw [List.mem_map] at hm
    obtain ⟨k, hk, rfl⟩ := hm
    have hk := List.mem_range.1 hk
    have h3 := ret_inv h2
    unfold stateLetter at h3
    refine ⟨hn.1, hn.2, ?_, ?_⟩
    · simp only
      rw [← h3]
      split
      · omega
      · split at * <;> omega
    · simp only
      rw [← h3]
      split
      · omega
      · split at * <;> omega
theorem body_inv {c : Int} (hc : 2 ≤ c) (hc9 : c ≤ 9) : ∀ (n : Nat) (acc : List Run) (f : Src) (i j : Nat) (rs : List Run), (∀ r, r ∈ acc → RunOk c r) → body c n acc f i = (j, some rs) → (∀ r, r ∈ rs → RunOk c r) ∧ rs.length ≤ acc.length + n := by
  intro n
  induction n with
  | zero => intro acc f i j rs _ h; simp [body] at h
  | succ n ih =>
    intro acc f i j rs ha h
    unfold body at h
    split at h
    · simp at h
    · split at h
      · have h2 := (Prod.mk.inj h).2
        split at h2
        · rw [← Option.some.inj h2]; exact ⟨ha, by omega⟩
        · simp at h2
      · rcases e : run c f i with ⟨k, _ | r⟩
        · simp [e] at h
        · simp only [e] at h
          have := ih _ f k j rs (fun r' hr' => by
            rcases List.mem_append.1 hr' with h1 | h1
            · exact ha r' h1
            · rw [List.mem_singleton.1 h1]; exact run_inv hc hc9 e) h
          exact ⟨this.1, by have := this.2; simp at this; omega⟩
/-- What a right text says. -/
structure PartsOk (p : Parts) : Prop where
  states : 2 ≤ p.rule.states ∧ p.rule.states ≤ 9
  shape : ShapeOk p.shape
  age : 0 ≤ p.age ∧ p.age ≤ 999999
  col : -9999 ≤ p.col ∧ p.col ≤ 9999
  row : -9999 ≤ p.row ∧ p.row ≤ 9999
  runs : ∀ r, r ∈ p.runs → RunOk p.rule.states r
  few : p.runs.length ≤ 401
theorem read_inv {f : Src} {j : Nat} {p : Parts} (h : read f = (j, some p)) : PartsOk p := by
  unfold read at h
  rcases e : pre f 0 with ⟨i, _ | a⟩
  · simp [e] at h
  · simp only [e] at h
    obtain ⟨_, x, hx, h2⟩ := bnd_inv e
    obtain ⟨_, y, hy, h3⟩ := bnd_inv h2
    have h4 := ret_inv h3
    have hh := head_inv hx
    have hp := place_inv hy
    rcases e2 : body a.1.1.states 401 [] f i with ⟨k, _ | rs⟩
    · simp [e2] at h
    · simp only [e2] at h
      have h5 := Option.some.inj (Prod.mk.inj h).2
      subst h4
      have hb := body_inv hh.1.1 hh.1.2 401 [] f i k rs (fun r hr => by simp at hr) e2
      rw [← h5]
      exact ⟨hh.1, hh.2.1, hh.2.2, hp.1, hp.2, hb.1, by simpa using hb.2⟩
theorem read_n1 {f : Src} {j1 : Nat} (hh : head f 0 = (j1, none)) : read f = (j1, none) := by
  have e : pre f 0 = (j1, none) := by unfold pre bnd; rw [hh]
  unfold read
  rw [e]
theorem read_n2 {f : Src} {j1 j2 : Nat} {a : Rule × Shape × Int} (hh : head f 0 = (j1, some a)) (hp : place f j1 = (j2, none)) : read f = (j2, none) := by
  have e : pre f 0 = (j2, none) := by unfold pre bnd; rw [hh]; simp only; rw [hp]
  unfold read
  rw [e]
theorem read_some1 {f : Src} {j2 j3 : Nat} {a : Rule × Shape × Int} {b : Int × Int} {o : Option (List Run)} (e : pre f 0 = (j2, some (a, b))) (hb : body a.1.states 401 [] f j2 = (j3, o)) :
    read f = (j3, o.map fun rs => ⟨a.1, a.2.1, a.2.2, b.1, b.2, rs⟩) := by
  have key : ∀ (B : Int → Nat → List Run → Src → Nat → Nat × Option (List Run)), B a.1.states 401 [] f j2 = (j3, o) → (match pre f 0 with
      | (i, none) => (i, none)
      | (i, some a) => match B a.1.1.states 401 [] f i with
        | (j, none) => (j, none)
        | (j, some rs) => (j, some (⟨a.1.1, a.1.2.1, a.1.2.2, a.2.1, a.2.2, rs⟩ : Parts))) = (j3, o.map fun rs => ⟨a.1, a.2.1, a.2.2, b.1, b.2, rs⟩) := by
    intro B hB
    rw [e]
    simp only [hB]
    cases o <;> simp
  exact key body hb
theorem read_some {f : Src} {j1 j2 j3 : Nat} {a : Rule × Shape × Int} {b : Int × Int} {o : Option (List Run)} (hh : head f 0 = (j1, some a)) (hp : place f j1 = (j2, some b)) (hb : body a.1.states 401 [] f j2 = (j3, o)) :
    read f = (j3, o.map fun rs => ⟨a.1, a.2.1, a.2.2, b.1, b.2, rs⟩) := by
  have e0 : pre f 0 = bnd place (fun p => ret (a, p)) f j1 := by unfold pre bnd; rw [hh]
  have e : pre f 0 = (j2, some (a, b)) := by rw [e0]; unfold bnd; rw [hp]; rfl
  exact read_some1 e hb
end Go.Proofs.Pu
