namespace Go.Proofs.Pu

/-- A text as numbers: a byte's value, or -1 behind the end. -/
abbrev Src := Nat → Int
/-- A reader: where it stops, and what it gives (none: it fails there). -/
abbrev Rd (α : Type) := Src → Nat → Nat × Option α

def ret {α : Type} (a : α) : Rd α := fun _ i => (i, some a)
def bnd {α β : Type} (p : Rd α) (q : α → Rd β) : Rd β := fun f i =>
  match p f i with
  | (j, some a) => q a f j
  | (j, none) => (j, none)

structure Good {α : Type} (p : Rd α) : Prop where
  mono : ∀ f i, i ≤ (p f i).1
  loc : ∀ f g i, (∀ k, k ≤ (p f i).1 → g k = f k) → p g i = p f i
  stay : ∀ f i, f i = -1 → (p f i).1 = i
  trunc : ∀ f g n i, i ≤ n → (∀ k, k < n → g k = f k) → g n = -1 → (p f i).2.isSome = true → n ≤ (p f i).1 → (p g i).1 = n

theorem good_ret {α : Type} (a : α) : Good (ret a) :=
  ⟨fun _ _ => Nat.le_refl _, fun _ _ _ _ => rfl, fun _ _ _ => rfl, fun _ _ _ _ h _ _ _ h2 => Nat.le_antisymm h h2⟩

theorem good_bnd {α β : Type} {p : Rd α} {q : α → Rd β} (hp : Good p) (hq : ∀ a, Good (q a)) : Good (bnd p q) := by
  refine ⟨?_, ?_, ?_, ?_⟩
  · intro f i
    have h1 := hp.mono f i
    unfold bnd
    rcases e : p f i with ⟨j, _ | a⟩
    · simpa [e] using h1
    · have h2 := (hq a).mono f j
      rw [e] at h1
      simp at h1 ⊢
      omega
  · intro f g i h
    have h1 := hp.mono f i
    unfold bnd at h ⊢
    rcases e : p f i with ⟨j, _ | a⟩
    · simp only [e] at h
      rw [hp.loc f g i (by simpa [e] using h), e]
    · simp only [e] at h
      have h2 := (hq a).mono f j
      rw [hp.loc f g i (by rw [e]; intro k hk; exact h k (Nat.le_trans hk h2)), e]
      exact (hq a).loc f g j h
  · intro f i hf
    have h1 := hp.stay f i hf
    unfold bnd
    rcases e : p f i with ⟨j, _ | a⟩
    · simpa [e] using h1
    · rw [e] at h1
      simp at h1
      subst h1
      exact (hq a).stay f j hf
  · intro f g n i hi hg hn hs hle
    unfold bnd at hs hle ⊢
    rcases e : p f i with ⟨j, _ | a⟩
    · simp [e] at hs
    · simp only [e] at hs hle
      by_cases hj : n ≤ j
      · have h1 := hp.trunc f g n i hi hg hn (by simp [e]) (by simpa [e] using hj)
        rcases e2 : p g i with ⟨j2, _ | a2⟩
        · simpa [e2] using h1
        · rw [e2] at h1
          simp at h1
          subst h1
          exact (hq a2).stay g j2 hn
      · rw [hp.loc f g i (by rw [e]; intro k hk; simp at hk; exact hg k (by omega)), e]
        exact (hq a).trunc f g n j (by omega) hg hn hs hle

/-- One byte. -/
def take (m : Int) : Rd Unit := fun f i => if f i = m then (i + 1, some ()) else (i, none)
/-- One byte, if it is there. -/
def opt (m : Int) : Rd Bool := fun f i => if f i = m then (i + 1, some true) else (i, some false)
/-- One byte of some. -/
def letter (ms : List Int) : Rd Int := fun f i => if f i ∈ ms then (i + 1, some (f i)) else (i, none)

theorem good_take (m : Int) (hm : 0 ≤ m) : Good (take m) := by
  refine ⟨?_, ?_, ?_, ?_⟩
  · intro f i; unfold take; split <;> simp
  · intro f g i h
    unfold take at h ⊢
    have : g i = f i := h i (by split <;> simp)
    rw [this]
  · intro f i h; unfold take; rw [if_neg (by omega)]
  · intro f g n i hi hg hn hs hle
    unfold take at hs hle ⊢
    split at hs
    · rename_i h1
      rw [if_pos h1] at hle
      simp at hle
      by_cases e : i = n
      · subst e; rw [if_neg (by omega)]
      · rw [hg i (by omega), if_pos h1]; simp; omega
    · simp at hs

theorem good_opt (m : Int) (hm : 0 ≤ m) : Good (opt m) := by
  refine ⟨?_, ?_, ?_, ?_⟩
  · intro f i; unfold opt; split <;> simp
  · intro f g i h
    unfold opt at h ⊢
    have : g i = f i := h i (by split <;> simp)
    rw [this]
  · intro f i h; unfold opt; rw [if_neg (by omega)]
  · intro f g n i hi hg hn hs hle
    unfold opt at hs hle ⊢
    by_cases e : i = n
    · subst e; rw [if_neg (by omega)]
    · rw [hg i (by omega)]
      split at hle
      · rename_i h1; rw [if_pos h1]; simp at hle ⊢; omega
      · simp at hle; omega

theorem good_letter (ms : List Int) (hm : ∀ m, m ∈ ms → 0 ≤ m) : Good (letter ms) := by
  refine ⟨?_, ?_, ?_, ?_⟩
  · intro f i; unfold letter; split <;> simp
  · intro f g i h
    unfold letter at h ⊢
    have : g i = f i := h i (by split <;> simp)
    rw [this]
  · intro f i h; unfold letter; rw [if_neg (fun hc => by have := hm _ hc; omega)]
  · intro f g n i hi hg hn hs hle
    unfold letter at hs hle ⊢
    split at hs
    · rename_i h1
      rw [if_pos h1] at hle
      simp at hle
      by_cases e : i = n
      · subst e; rw [if_neg (fun hc => by have := hm _ hc; omega)]
      · rw [hg i (by omega), if_pos h1]; simp; omega
    · simp at hs

/-- The value of a digit, or -1. -/
def digit (f : Src) (i : Nat) : Int := if 48 ≤ f i ∧ f i ≤ 57 then f i - 48 else -1

theorem digit_end {f : Src} {i : Nat} (h : f i = -1) : digit f i = -1 := by unfold digit; rw [if_neg (by omega)]
theorem digit_congr {f g : Src} {i : Nat} (h : g i = f i) : digit g i = digit f i := by unfold digit; rw [h]
theorem digit_bd (f : Src) (i : Nat) : -1 ≤ digit f i ∧ digit f i ≤ 9 := by unfold digit; split <;> omega

/-- A walk over digits, one byte a round: at each the step says whether to go on, and with what. -/
def many {σ : Type} (step : σ → Int → Option σ) : Nat → σ → Rd σ
  | 0, v, _, i => (i, some v)
  | n + 1, v, f, i => match step v (digit f i) with
    | none => (i, some v)
    | some v' => many step n v' f (i + 1)

theorem good_many {σ : Type} (step : σ → Int → Option σ) (hs : ∀ v, step v (-1) = none) : ∀ n v, Good (many step n v) := by
  intro n
  induction n with
  | zero => exact fun v => good_ret v
  | succ n ih =>
    intro v
    refine ⟨?_, ?_, ?_, ?_⟩
    · intro f i
      unfold many
      split
      · simp
      · have := (ih ‹_›).mono f (i + 1); omega
    · intro f g i h
      have h0 : i ≤ (many step (n + 1) v f i).1 := by
        unfold many
        split
        · simp
        · have := (ih ‹_›).mono f (i + 1); omega
      have hd : digit g i = digit f i := digit_congr (h i h0)
      unfold many at h ⊢
      rw [hd]
      split
      · rfl
      · rename_i v' e
        simp only [e] at h
        exact (ih v').loc f g (i + 1) h
    · intro f i h
      unfold many
      rw [digit_end h, hs]
    · intro f g k i hi hg hk hsm hle
      unfold many at hsm hle ⊢
      by_cases e : i = k
      · subst e; rw [digit_end hk, hs]
      · rw [digit_congr (hg i (by omega))]
        rcases e2 : step v (digit f i) with _ | v'
        · simp only [e2] at hle
          omega
        · simp only [e2] at hsm hle
          exact (ih v').trunc f g k (i + 1) (by omega) hg hk hsm hle

/-- Do the digits of a begin a number from lo to hi? -/
def bg (lo hi : Int) : Nat → Int → Int → Bool
  | 0, _, _ => false
  | n + 1, a, l => if a ≤ hi then (if lo ≤ l then true else bg lo hi n (a * 10) (l * 10 + 9)) else false
def bgS (lo hi a l : Int) : Bool := bg lo hi (hi + 1 - a).toNat a l
def begins (v lo hi : Int) : Bool := if v = 0 then decide (lo = 0) else bgS lo hi v v

theorem bg_fuel (lo hi : Int) : ∀ n m a l, 1 ≤ a → (hi + 1 - a).toNat ≤ n → (hi + 1 - a).toNat ≤ m → bg lo hi n a l = bg lo hi m a l := by
  intro n
  induction n with
  | zero =>
    intro m a l _ h1 _
    cases m with
    | zero => rfl
    | succ m => unfold bg; rw [if_neg (by omega)]
  | succ n ih =>
    intro m a l h0 h1 h2
    cases m with
    | zero => unfold bg; rw [if_neg (by omega)]
    | succ m =>
      unfold bg
      by_cases h : a ≤ hi
      · rw [if_pos h, if_pos h, ih m (a * 10) _ (by omega) (by omega) (by omega)]
      · rw [if_neg h, if_neg h]

theorem bgS_eq (lo hi a l : Int) (h0 : 1 ≤ a) : bgS lo hi a l = if a ≤ hi then (if lo ≤ l then true else bgS lo hi (a * 10) (l * 10 + 9)) else false := by
  by_cases h : a ≤ hi
  · have e : (hi + 1 - a).toNat = (hi - a).toNat + 1 := by omega
    unfold bgS
    rw [e, if_pos h]
    conv => lhs; unfold bg
    rw [if_pos h, bg_fuel lo hi (hi - a).toNat _ (a * 10) _ (by omega) (by omega) (Nat.le_refl _)]
  · have e : (hi + 1 - a).toNat = 0 := by omega
    unfold bgS
    rw [e, if_neg h]
    rfl

theorem begins_le {v lo hi : Int} (h : begins v lo hi = true) (h0 : 0 ≤ v) (hh : 0 ≤ hi) : v ≤ hi := by
  unfold begins at h
  by_cases e : v = 0
  · omega
  · rw [if_neg e, bgS_eq lo hi v v (by omega)] at h
    by_cases k : v ≤ hi
    · exact k
    · rw [if_neg k] at h; simp at h

/-- One digit more of a number: the state says whether a digit was read, and the value. -/
def numStep (lo hi : Int) (v : Bool × Int) (d : Int) : Option (Bool × Int) :=
  if d < 0 ∨ (v.2 = 0 ∧ v.1 = true) ∨ begins (v.2 * 10 + d) lo hi = false then none else some (true, v.2 * 10 + d)
def number (lo hi : Int) : Rd Int := bnd (many (numStep lo hi) 401 (false, 0)) fun v => fun _ i => (i, if v.1 = true ∧ lo ≤ v.2 ∧ v.2 ≤ hi then some v.2 else none)

theorem good_now {α : Type} (a : Option α) : Good (fun (_ : Src) (i : Nat) => (i, a)) :=
  ⟨fun _ _ => Nat.le_refl _, fun _ _ _ _ => rfl, fun _ _ _ => rfl, fun _ _ _ _ h _ _ _ h2 => Nat.le_antisymm h h2⟩
theorem good_number (lo hi : Int) : Good (number lo hi) :=
  good_bnd (good_many _ (fun v => by unfold numStep; rw [if_pos (Or.inl (by omega))]) _ _) fun _ => good_now _

/-- Rising digits: the state is the least digit that may follow, and the set. -/
def setStep (most : Int) (v : Int × List Bool) (d : Int) : Option (Int × List Bool) :=
  if d < 0 ∨ d < v.1 ∨ most < d ∨ 9 ≤ d then none else some (d + 1, v.2.set d.toNat true)
def noSet : List Bool := [false, false, false, false, false, false, false, false, false]
def set (most : Int) : Rd (List Bool) := bnd (many (setStep most) 401 (0, noSet)) fun v => ret v.2
theorem good_set (most : Int) : Good (set most) :=
  good_bnd (good_many _ (fun v => by unfold setStep; rw [if_pos (Or.inl (by omega))]) _ _) fun _ => good_ret _

theorem good_ite {α : Type} {c : Prop} [Decidable c] {p q : Rd α} (hp : Good p) (hq : Good q) : Good (if c then p else q) := by split <;> assumption

structure Rule where
  around : Int
  births : List Bool
  survivals : List Bool
  states : Int
def neighbours (a : Int) : Int := if a = 77 then 8 else if a = 86 then 4 else if a = 72 then 6 else 0
def states : Rd Int := bnd (opt 47) fun b => if b = true then number 3 9 else ret 2
def rule : Rd Rule := bnd (letter [77, 86, 72]) fun a => bnd (take 66) fun _ => bnd (set (neighbours a)) fun bs => bnd (take 47) fun _ => bnd (take 83) fun _ =>
  bnd (set (neighbours a)) fun ss => bnd states fun c => ret ⟨a, bs, ss, c⟩
theorem good_states : Good states := good_bnd (good_opt _ (by omega)) fun _ => good_ite (good_number _ _) (good_ret _)
theorem good_rule : Good rule :=
  good_bnd (good_letter _ (by simp)) fun _ => good_bnd (good_take _ (by omega)) fun _ => good_bnd (good_set _) fun _ => good_bnd (good_take _ (by omega)) fun _ => good_bnd (good_take _ (by omega)) fun _ =>
  good_bnd (good_set _) fun _ => good_bnd good_states fun _ => good_ret _

structure Shape where
  kind : Int
  w : Int
  h : Int
  ws : Int
  hs : Int
  wst : Bool
  hst : Bool
def leastSide (k : Int) : Int := if k = 80 ∨ k = 84 then 0 else 1
def shift (side : Int) : Rd Int := if side < 2 then ret 0 else bnd (opt 43) fun b => if b = true then number 1 (side - 1) else ret 0
def width (k : Int) : Rd (Int × Int × Bool) := bnd (number (leastSide k) 12) fun w =>
  if k = 75 then bnd (opt 42) fun b => ret (w, 0, b) else if k = 84 then bnd (shift w) fun s => ret (w, s, false) else ret (w, 0, false)
def rowLow (k w ws : Int) : Int := if k = 83 then w else if w = 0 ∨ ws ≠ 0 then 1 else leastSide k
def rowHigh (k w : Int) : Int := if k = 83 then w else 12
def height (k w ws : Int) (wst : Bool) : Rd (Int × Int × Bool) := bnd (number (rowLow k w ws) (rowHigh k w)) fun h =>
  if k = 75 ∧ wst = false then bnd (take 42) fun _ => ret (h, 0, true) else if k ≠ 84 ∨ w = 0 ∨ ws ≠ 0 then ret (h, 0, false) else bnd (shift h) fun s => ret (h, s, false)
def shape : Rd Shape := bnd (letter [80, 84, 75, 67, 83]) fun k => bnd (width k) fun a => bnd (take 44) fun _ => bnd (height k a.1 a.2.1 a.2.2) fun b =>
  ret ⟨k, a.1, b.1, a.2.1, b.2.1, a.2.2, b.2.2⟩
theorem good_shift (side : Int) : Good (shift side) := by
  unfold shift; exact good_ite (good_ret _) (good_bnd (good_opt _ (by omega)) fun _ => good_ite (good_number _ _) (good_ret _))
theorem good_width (k : Int) : Good (width k) :=
  good_bnd (good_number _ _) fun _ => good_ite (good_bnd (good_opt _ (by omega)) fun _ => good_ret _) (good_ite (good_bnd (good_shift _) fun _ => good_ret _) (good_ret _))
theorem good_height (k w ws : Int) (wst : Bool) : Good (height k w ws wst) :=
  good_bnd (good_number _ _) fun _ => good_ite (good_bnd (good_take _ (by omega)) fun _ => good_ret _) (good_ite (good_ret _) (good_bnd (good_shift _) fun _ => good_ret _))
theorem good_shape : Good shape :=
  good_bnd (good_letter _ (by simp)) fun _ => good_bnd (good_width _) fun _ => good_bnd (good_take _ (by omega)) fun _ => good_bnd (good_height _ _ _ _) fun _ => good_ret _

def head : Rd (Rule × Shape × Int) := bnd rule fun r => bnd (take 32) fun _ => bnd shape fun s => bnd (take 32) fun _ => bnd (number 0 999999) fun a => bnd (take 32) fun _ => ret (r, s, a)
def signed (most : Int) : Rd Int := bnd (opt 45) fun b => if b = true then bnd (number 1 most) fun v => ret (-v) else number 0 most
def place : Rd (Int × Int) := bnd (signed 9999) fun x => bnd (take 44) fun _ => bnd (signed 9999) fun y => bnd (take 32) fun _ => ret (x, y)
theorem good_head : Good head :=
  good_bnd good_rule fun _ => good_bnd (good_take _ (by omega)) fun _ => good_bnd good_shape fun _ => good_bnd (good_take _ (by omega)) fun _ => good_bnd (good_number _ _) fun _ => good_bnd (good_take _ (by omega)) fun _ => good_ret _
theorem good_signed (m : Int) : Good (signed m) :=
  good_bnd (good_opt _ (by omega)) fun _ => good_ite (good_bnd (good_number _ _) fun _ => good_ret _) (good_number _ _)
theorem good_place : Good place :=
  good_bnd (good_signed _) fun _ => good_bnd (good_take _ (by omega)) fun _ => good_bnd (good_signed _) fun _ => good_bnd (good_take _ (by omega)) fun _ => good_ret _

structure Run where
  count : Int
  state : Int
  down : Bool
def stateLetter (s : Int) : Int := if s ≤ 0 ∨ 9 ≤ s then 46 else 64 + s
def letters (c : Int) : List Int := (List.range c.toNat).map fun k : Nat => stateLetter (k : Int)
def count : Rd Int := fun f i => if 0 ≤ digit f i then number 2 99 f i else (i, some 1)
def state (c : Int) : Rd Int := bnd (letter (letters c)) fun m => ret (if m = 46 then 0 else m - 64)
def run (c : Int) : Rd Run := bnd count fun n => bnd (opt 36) fun b => if b = true then ret ⟨n, 0, true⟩ else bnd (state c) fun s => ret ⟨n, s, false⟩
theorem good_count : Good count := by
  have hg := good_number 2 99
  refine ⟨?_, ?_, ?_, ?_⟩
  · intro f i; unfold count; split
    · exact hg.mono f i
    · simp
  · intro f g i h
    have h0 : i ≤ (count f i).1 := by
      unfold count; split
      · exact hg.mono f i
      · simp
    unfold count at h ⊢
    rw [digit_congr (h i h0)]
    split
    · rename_i e; rw [if_pos e] at h; exact hg.loc f g i h
    · rfl
  · intro f i h; unfold count; rw [if_neg (by rw [digit_end h]; omega)]
  · intro f g n i hi hgf hn hs hle
    unfold count at hs hle ⊢
    by_cases e : i = n
    · subst e; rw [if_neg (by rw [digit_end hn]; omega)]
    · rw [digit_congr (hgf i (by omega))]
      split
      · rename_i e2; rw [if_pos e2] at hs hle; exact hg.trunc f g n i hi hgf hn hs hle
      · rename_i e2; rw [if_neg e2] at hle; simp at hle; omega
theorem letters_pos (c : Int) : ∀ m, m ∈ letters c → 0 ≤ m := by
  intro m hm
  unfold letters at hm
  rw [List.mem_map] at hm
  obtain ⟨k, _, rfl⟩ := hm
  unfold stateLetter
  split <;> omega
theorem good_state (c : Int) : Good (state c) := good_bnd (good_letter _ (letters_pos c)) fun _ => good_ret _
theorem good_run (c : Int) : Good (run c) := good_bnd good_count fun _ => good_bnd (good_opt _ (by omega)) fun _ => good_ite (good_ret _) (good_bnd (good_state _) fun _ => good_ret _)
theorem run_end {c : Int} {f : Src} {i : Nat} (h : f i = -1) : run c f i = (i, none) := by
  have e1 : count f i = (i, some 1) := by unfold count; rw [if_neg (by rw [digit_end h]; omega)]
  have e2 : opt 36 f i = (i, some false) := by unfold opt; rw [if_neg (by omega)]
  have e3 : letter (letters c) f i = (i, none) := by unfold letter; rw [if_neg (fun hc => by have := letters_pos c _ hc; omega)]
  simp [run, bnd, e1, e2, state, e3]

def body (c : Int) : Nat → List Run → Rd (List Run)
  | 0, _, _, i => (i, none)
  | n + 1, acc, f, i => if f i = -1 then (i, none) else if f i = 33 then (i + 1, if f (i + 1) = -1 then some acc else none) else
    match run c f i with
    | (j, some r) => body c n (acc ++ [r]) f j
    | (j, none) => (j, none)
theorem body_mono (c : Int) : ∀ n acc f i, i ≤ (body c n acc f i).1 := by
  intro n
  induction n with
  | zero => intro acc f i; exact Nat.le_refl _
  | succ n ih =>
    intro acc f i
    unfold body
    split
    · simp
    · split
      · simp
      · have h := (good_run c).mono f i
        rcases e : run c f i with ⟨j, _ | r⟩
        · rw [e] at h; exact h
        · rw [e] at h; exact Nat.le_trans h (ih _ f j)
theorem body_loc (c : Int) : ∀ n acc f g i, (∀ k, k ≤ (body c n acc f i).1 → g k = f k) → body c n acc g i = body c n acc f i := by
  intro n
  induction n with
  | zero => intros; rfl
  | succ n ih =>
    intro acc f g i h
    have h0 : g i = f i := h i (body_mono c _ acc f i)
    unfold body at h ⊢
    rw [h0]
    split
    · rfl
    · rename_i n1
      rw [if_neg n1] at h
      split
      · rename_i n2
        rw [if_pos n2] at h
        rw [h (i + 1) (Nat.le_refl _)]
      · rename_i n2
        rw [if_neg n2] at h
        have hm := (good_run c).mono f i
        rcases e : run c f i with ⟨j, _ | r⟩
        · simp only [e] at h
          rw [(good_run c).loc f g i (by rw [e]; exact h), e]
        · simp only [e] at h
          rw [(good_run c).loc f g i (by rw [e]; exact fun k hk => h k (Nat.le_trans hk (body_mono c _ _ f j))), e]
          exact ih _ f g j h
theorem body_end (c : Int) (n : Nat) (acc : List Run) (f : Src) (i : Nat) (h : f i = -1) : body c n acc f i = (i, none) := by
  cases n with
  | zero => rfl
  | succ n => unfold body; rw [if_pos h]
theorem body_trunc (c : Int) : ∀ n acc f g m i, i ≤ m → (∀ k, k < m → g k = f k) → g m = -1 → (body c n acc f i).2.isSome = true → m < (body c n acc f i).1 → body c n acc g i = (m, none) := by
  intro n
  induction n with
  | zero => intro acc f g m i _ _ _ hs; simp [body] at hs
  | succ n ih =>
    intro acc f g m i hi hg hm hs hlt
    by_cases e : i = m
    · subst e; exact body_end c _ acc g i hm
    · have h0 : g i = f i := hg i (by omega)
      unfold body at hs hlt ⊢
      rw [h0]
      split
      · rename_i n1; rw [if_pos n1] at hs; simp at hs
      · rename_i n1
        rw [if_neg n1] at hs hlt
        split
        · rename_i n2; rw [if_pos n2] at hlt; simp at hlt; omega
        · rename_i n2
          rw [if_neg n2] at hs hlt
          rcases e2 : run c f i with ⟨j, _ | r⟩
          · simp [e2] at hs
          · simp only [e2] at hs hlt
            by_cases hj : m ≤ j
            · have h1 := (good_run c).trunc f g m i hi hg hm (by simp [e2]) (by simpa [e2] using hj)
              rcases e3 : run c g i with ⟨j2, _ | r2⟩
              · rw [e3] at h1; simp at h1; subst h1; rfl
              · rw [e3] at h1; simp at h1; subst h1; exact body_end c _ _ g j2 hm
            · rw [(good_run c).loc f g i (by rw [e2]; intro k hk; simp at hk; exact hg k (by omega)), e2]
              exact ih _ f g m j (by omega) hg hm hs hlt

structure Parts where
  rule : Rule
  shape : Shape
  age : Int
  col : Int
  row : Int
  runs : List Run
def pre : Rd ((Rule × Shape × Int) × (Int × Int)) := bnd head fun h => bnd place fun p => ret (h, p)
theorem good_pre : Good pre := good_bnd good_head fun _ => good_bnd good_place fun _ => good_ret _
def read (f : Src) : Nat × Option Parts :=
  match pre f 0 with
  | (i, none) => (i, none)
  | (i, some a) => match body a.1.1.states 401 [] f i with
    | (j, none) => (j, none)
    | (j, some rs) => (j, some ⟨a.1.1, a.1.2.1, a.1.2.2, a.2.1, a.2.2, rs⟩)

theorem read_loc (f g : Src) (h : ∀ k, k ≤ (read f).1 → g k = f k) : read g = read f := by
  unfold read at h ⊢
  have hm := good_pre.mono f 0
  rcases e : pre f 0 with ⟨i, _ | a⟩
  · simp only [e] at h
    rw [good_pre.loc f g 0 (by rw [e]; exact h), e]
  · simp only [e] at h
    have hb := body_mono a.1.1.states 401 [] f i
    rcases e2 : body a.1.1.states 401 [] f i with ⟨j, _ | rs⟩
    · simp only [e2] at h hb
      rw [good_pre.loc f g 0 (by rw [e]; exact fun k hk => h k (Nat.le_trans hk hb)), e]
      simp only
      rw [body_loc _ 401 [] f g i (by rw [e2]; exact h)]
    · simp only [e2] at h hb
      rw [good_pre.loc f g 0 (by rw [e]; exact fun k hk => h k (Nat.le_trans hk hb)), e]
      simp only
      rw [body_loc _ 401 [] f g i (by rw [e2]; exact h)]

theorem read_trunc (f g : Src) (n : Nat) (hg : ∀ k, k < n → g k = f k) (hn : g n = -1) (hs : (read f).2.isSome = true) (hlt : n < (read f).1) : read g = (n, none) := by
  unfold read at hs hlt ⊢
  rcases e : pre f 0 with ⟨i, _ | a⟩
  · simp [e] at hs
  · simp only [e] at hs hlt
    rcases e2 : body a.1.1.states 401 [] f i with ⟨j, _ | rs⟩
    · simp [e2] at hs
    · simp only [e2] at hlt
      by_cases hi : n ≤ i
      · have h1 := good_pre.trunc f g n 0 (Nat.zero_le _) hg hn (by simp [e]) (by simpa [e] using hi)
        rcases e3 : pre g 0 with ⟨i2, _ | a2⟩
        · rw [e3] at h1; simp at h1; subst h1; rfl
        · rw [e3] at h1; simp at h1; subst h1
          simp only
          rw [body_end _ _ _ g i2 hn]
      · rw [good_pre.loc f g 0 (by rw [e]; intro k hk; simp at hk; exact hg k (by omega)), e]
        simp only
        rw [body_trunc _ 401 [] f g n i (by omega) hg hn (by simp [e2]) (by simpa [e2] using hlt)]
end Go.Proofs.Pu
