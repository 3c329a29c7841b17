import Derived.Test.YthmhjjkmnnmjlaaGreatDoorPure
namespace Go.Proofs.Pu

/-- The text has these at i. -/
def Fits (f : Src) : Nat → List Int → Prop
  | _, [] => True
  | i, a :: L => f i = a ∧ Fits f (i + 1) L
theorem Fits.app {f : Src} : ∀ {L : List Int} {i : Nat} {M : List Int}, Fits f i (L ++ M) → Fits f i L ∧ Fits f (i + L.length) M := by
  intro L
  induction L with
  | nil => intro i M h; exact ⟨trivial, h⟩
  | cons a L ih =>
    intro i M h
    obtain ⟨h1, h2⟩ := h
    obtain ⟨h3, h4⟩ := ih h2
    refine ⟨⟨h1, h3⟩, ?_⟩
    rw [List.length_cons, show i + (L.length + 1) = i + 1 + L.length by omega]
    exact h4

/-- Ahead of M the reader takes L, and gives a. -/
def Rdz {α : Type} (p : Rd α) (L : List Int) (a : α) (M : List Int) : Prop := ∀ f i, Fits f i (L ++ M) → p f i = (i + L.length, some a)
theorem Rdz.bnd {α β : Type} {p : Rd α} {q : α → Rd β} {L1 L2 M : List Int} {a : α} {b : β} (hp : Rdz p L1 a (L2 ++ M)) (hq : Rdz (q a) L2 b M) : Rdz (Pu.bnd p q) (L1 ++ L2) b M := by
  intro f i h
  rw [List.append_assoc] at h
  have h1 := hp f i h
  have h2 := hq f _ h.app.2
  unfold Pu.bnd
  rw [h1]
  simp only
  rw [h2, List.length_append, Nat.add_assoc]
theorem rdz_ret {α : Type} (a : α) (M : List Int) : Rdz (ret a) [] a M := fun _ _ _ => rfl
theorem rdz_take (m : Int) (M : List Int) : Rdz (take m) [m] () M := by
  intro f i h
  unfold take
  rw [if_pos h.1]
  rfl
theorem rdz_opt (m : Int) (M : List Int) : Rdz (opt m) [m] true M := by
  intro f i h
  unfold opt
  rw [if_pos h.1]
  rfl
theorem rdz_opt_no {m a : Int} (h : a ≠ m) (M : List Int) : Rdz (opt m) [] false (a :: M) := by
  intro f i hf
  unfold opt
  rw [if_neg (by rw [hf.1]; exact h)]
  rfl
theorem rdz_letter {ms : List Int} {m : Int} (h : m ∈ ms) (M : List Int) : Rdz (letter ms) [m] m M := by
  intro f i hf
  unfold letter
  rw [if_pos (by rw [hf.1]; exact h), hf.1]
  rfl

def runs {σ : Type} (step : σ → Int → Option σ) : σ → List Int → Option σ
  | v, [] => some v
  | v, d :: ds => match step v d with
    | none => none
    | some v' => runs step v' ds
theorem many_run {σ : Type} (step : σ → Int → Option σ) : ∀ (ds : List Int) (n : Nat) (v v' : σ) (f : Src) (i : Nat), (∀ d, d ∈ ds → 0 ≤ d ∧ d ≤ 9) → Fits f i (ds.map (· + 48)) → runs step v ds = some v' → step v' (digit f (i + ds.length)) = none → ds.length ≤ n → many step n v f i = (i + ds.length, some v') := by
  intro ds
  induction ds with
  | nil =>
    intro n v v' f i _ _ hr hs _
    obtain rfl := Option.some.inj hr
    cases n with
    | zero => rfl
    | succ n =>
      unfold many
      have : step v (digit f i) = none := hs
      rw [this]
      rfl
  | cons d ds ih =>
    intro n v v' f i hd hf hr hs hn
    cases n with
    | zero => simp at hn
    | succ n =>
      have h0 := hd d (by simp)
      have e : digit f i = d := by
        have hc : f i = d + 48 := hf.1
        unfold digit
        rw [hc, if_pos (by omega)]
        omega
      unfold many
      rw [e]
      unfold runs at hr
      rcases e2 : step v d with _ | u
      · simp [e2] at hr
      · simp only [e2] at hr
        simp only
        rw [List.length_cons, show i + (ds.length + 1) = i + 1 + ds.length by omega] at *
        exact ih n u v' f (i + 1) (fun x hx => hd x (by simp [hx])) hf.2 hr hs (by omega)
def noDigit (a : Int) : Prop := a < 48 ∨ 57 < a
theorem digit_no {f : Src} {i : Nat} {a : Int} (h : f i = a) (ha : noDigit a) : digit f i = -1 := by
  unfold digit
  unfold noDigit at ha
  rw [if_neg (by omega)]

abbrev okNum (lo hi : Int) (ds : List Int) (n : Int) : Prop := (∀ d, d ∈ ds → 0 ≤ d ∧ d ≤ 9) ∧ runs (numStep lo hi) (false, 0) ds = some (true, n) ∧ lo ≤ n ∧ n ≤ hi ∧ ds.length ≤ 10
theorem rdz_number {lo hi : Int} {ds : List Int} {n : Int} (h : okNum lo hi ds n) {a : Int} (ha : noDigit a) (M : List Int) : Rdz (number lo hi) (ds.map (· + 48)) n (a :: M) := by
  intro f i hf
  obtain ⟨h1, h2, h3, h4, h5⟩ := h
  have g1 := hf.app.1
  have g2 := hf.app.2.1
  rw [List.length_map] at g2 ⊢
  have e := many_run (numStep lo hi) ds 401 (false, 0) (true, n) f i h1 g1 h2 (by rw [digit_no g2 ha]; unfold numStep; rw [if_pos (Or.inl (by omega))]) (by omega)
  unfold number Pu.bnd
  rw [e]
  simp only
  rw [if_pos ⟨trivial, h3, h4⟩]

/-- The digits of a set of bits, and the set. -/
def bitL (b : Nat) : List Int := ((List.range 9).filter fun i => b / 2 ^ i % 2 == 1).map fun i : Nat => (i : Int)
def bitB (b : Nat) : List Bool := (List.range 9).map fun i => b / 2 ^ i % 2 == 1
theorem bits_runs8 : ∀ b : Nat, b < 512 → (runs (setStep 8) (0, noSet) (bitL b)).map (·.2) = some (bitB b) := by decide +kernel
theorem bits_runs6 : ∀ b : Nat, b < 128 → (runs (setStep 6) (0, noSet) (bitL b)).map (·.2) = some (bitB b) := by decide +kernel
theorem bits_runs4 : ∀ b : Nat, b < 32 → (runs (setStep 4) (0, noSet) (bitL b)).map (·.2) = some (bitB b) := by decide +kernel
theorem bitL_bd (b : Nat) : (∀ d, d ∈ bitL b → 0 ≤ d ∧ d ≤ 9) ∧ (bitL b).length ≤ 9 := by
  unfold bitL
  refine ⟨?_, ?_⟩
  · intro d hd
    rw [List.mem_map] at hd
    obtain ⟨k, hk, rfl⟩ := hd
    have := List.mem_range.1 (List.mem_filter.1 hk).1
    omega
  · rw [List.length_map]
    exact Nat.le_trans (List.length_filter_le _ _) (by simp)
theorem rdz_set {most : Int} {b : Nat} (h : (runs (setStep most) (0, noSet) (bitL b)).map (·.2) = some (bitB b)) {a : Int} (ha : noDigit a) (M : List Int) : Rdz (set most) ((bitL b).map (· + 48)) (bitB b) (a :: M) := by
  intro f i hf
  have g1 := hf.app.1
  have g2 := hf.app.2.1
  rw [List.length_map] at g2 ⊢
  obtain ⟨b1, b2⟩ := bitL_bd b
  rcases e : runs (setStep most) (0, noSet) (bitL b) with _ | ⟨l, v⟩
  · rw [e] at h; simp at h
  · rw [e] at h
    have hv : v = bitB b := Option.some.inj h
    subst hv
    have e := many_run (setStep most) (bitL b) 401 (0, noSet) (l, bitB b) f i b1 g1 e (by rw [digit_no g2 ha]; unfold setStep; rw [if_pos (Or.inl (by omega))]) (by omega)
    unfold set Pu.bnd
    rw [e]
    rfl

/-- What a wish comes to: the numbers of a text. -/
structure Plan where
  near : Int
  births : Nat
  lives : Nat
  c : Int
  kind : Int
  w : Int
  h : Int
  sw : Int
  sh : Int
  star : Bool
  starH : Bool
def mostOf (near : Int) : Nat := if near = 86 then 4 else if near = 72 then 6 else 8
structure PlanOk (p : Plan) : Prop where
  near : p.near = 77 ∨ p.near = 86 ∨ p.near = 72
  births : p.births < 2 ^ (mostOf p.near + 1)
  lives : p.lives < 2 ^ (mostOf p.near + 1)
  c : 2 ≤ p.c ∧ p.c ≤ 9
  kind : p.kind ∈ [(80 : Int), 84, 75, 67, 83]
  w : 1 ≤ p.w ∧ p.w ≤ 12
  h : 1 ≤ p.h ∧ p.h ≤ 12
  sphere : p.kind = 83 → p.h = p.w
  torus : (0 ≤ p.sw ∧ p.sw < p.w ∧ p.sh = 0) ∨ (p.sw = 0 ∧ 0 ≤ p.sh ∧ p.sh < p.h)
  flat : p.kind ≠ 84 → p.sw = 0 ∧ p.sh = 0
  klein : p.kind = 75 → p.starH = !p.star
  plain : p.kind ≠ 75 → p.star = false ∧ p.starH = false
def dec (n : Int) : List Int := if n < 10 then [n] else [n / 10, n % 10]
def numL (n : Int) : List Int := (dec n).map (· + 48)
def sideL (n s : Int) (star : Bool) : List Int := numL n ++ (if 0 < s then 43 :: numL s else []) ++ (if star then [42] else [])
def ruleL (p : Plan) : List Int := [p.near] ++ ([66] ++ ((bitL p.births).map (· + 48) ++ ([47] ++ ([83] ++ ((bitL p.lives).map (· + 48) ++ (if 2 < p.c then [47, 48 + p.c] else []))))))
def shapeL (p : Plan) : List Int := [p.kind] ++ (sideL p.w p.sw p.star ++ ([44] ++ sideL p.h p.sh p.starH))
def textL (p : Plan) : List Int := ruleL p ++ ([32] ++ (shapeL p ++ [32, 48, 32, 48, 44, 48, 32, 33]))
def ruleOf (p : Plan) : Rule := ⟨p.near, bitB p.births, bitB p.lives, p.c⟩
def shapeOf (p : Plan) : Shape := ⟨p.kind, p.w, p.h, p.sw, p.sh, p.star, p.starH⟩
def partsOf (p : Plan) : Parts := ⟨ruleOf p, shapeOf p, 0, 0, 0, []⟩

theorem neighbours_most {a : Int} (h : a = 77 ∨ a = 86 ∨ a = 72) : neighbours a = mostOf a := by
  rcases h with rfl | rfl | rfl <;> rfl
theorem bits_runs {near : Int} (h : near = 77 ∨ near = 86 ∨ near = 72) {b : Nat} (hb : b < 2 ^ (mostOf near + 1)) : (runs (setStep (neighbours near)) (0, noSet) (bitL b)).map (·.2) = some (bitB b) := by
  rcases h with rfl | rfl | rfl
  · exact bits_runs8 b hb
  · exact bits_runs4 b hb
  · exact bits_runs6 b hb
theorem rdz_states {c : Int} (h : 2 ≤ c ∧ c ≤ 9) (M : List Int) : Rdz states (if 2 < c then [47, 48 + c] else []) c (32 :: M) := by
  unfold states
  by_cases h2 : 2 < c
  · rw [if_pos h2]
    have ok : okNum 3 9 [c] c := by
      have : c = 3 ∨ c = 4 ∨ c = 5 ∨ c = 6 ∨ c = 7 ∨ c = 8 ∨ c = 9 := by omega
      rcases this with rfl | rfl | rfl | rfl | rfl | rfl | rfl <;> decide +kernel
    have hn := rdz_number ok (a := 32) (by unfold noDigit; omega) M
    rw [show [47, 48 + c] = [47] ++ [c].map (· + 48) by simp; omega]
    refine Rdz.bnd (rdz_opt 47 _) ?_
    rw [if_pos rfl]
    exact hn
  · have e : c = 2 := by omega
    subst e
    rw [if_neg h2]
    exact Rdz.bnd (q := fun b => if b = true then number 3 9 else ret 2) (L1 := []) (L2 := []) (rdz_opt_no (m := 47) (a := 32) (by omega) M) (rdz_ret 2 _)
theorem rdz_rule {p : Plan} (h : PlanOk p) (M : List Int) : Rdz rule (ruleL p) (ruleOf p) (32 :: M) := by
  unfold rule ruleL
  refine Rdz.bnd (rdz_letter (by rcases h.near with e | e | e <;> rw [e] <;> simp) _) ?_
  refine Rdz.bnd (rdz_take _ _) ?_
  refine Rdz.bnd (rdz_set (bits_runs h.near h.births) (a := 47) (by unfold noDigit; omega) _) ?_
  refine Rdz.bnd (rdz_take _ _) ?_
  refine Rdz.bnd (rdz_take _ _) ?_
  refine Rdz.bnd ?_ (?_ : Rdz (Pu.bnd states fun c => ret ⟨p.near, bitB p.births, bitB p.lives, c⟩) (if 2 < p.c then [47, 48 + p.c] else []) (ruleOf p) (32 :: M))
  · by_cases h2 : 2 < p.c
    · rw [if_pos h2]
      exact rdz_set (bits_runs h.near h.lives) (a := 47) (by unfold noDigit; omega) _
    · rw [if_neg h2]
      exact rdz_set (bits_runs h.near h.lives) (a := 32) (by unfold noDigit; omega) _
  · have := Rdz.bnd (q := fun c => ret (⟨p.near, bitB p.births, bitB p.lives, c⟩ : Rule)) (L2 := []) (rdz_states h.c M) (rdz_ret _ _)
    rw [List.append_nil] at this
    exact this

theorem ok_side0 : ∀ n : Nat, n < 13 → okNum 0 12 (dec n) n := by decide +kernel
theorem ok_side1 : ∀ n : Nat, n < 13 → 1 ≤ n → okNum 1 12 (dec n) n := by decide +kernel
theorem ok_same : ∀ n : Nat, n < 13 → 1 ≤ n → okNum n n (dec n) n := by decide +kernel
def okNumB (lo hi : Int) (ds : List Int) (n : Int) : Bool := decide (okNum lo hi ds n)
theorem ok_shiftB : ∀ n : Nat, n < 13 → ∀ s : Nat, s < n → 1 ≤ s → okNumB 1 ((n : Int) - 1) (dec s) s = true := by decide +kernel
theorem ok_shift : ∀ n : Nat, n < 13 → ∀ s : Nat, s < n → 1 ≤ s → okNum 1 ((n : Int) - 1) (dec s) s := by
  intro n h1 s h2 h3
  have h := ok_shiftB n h1 s h2 h3
  unfold okNumB at h
  exact of_decide_eq_true h
theorem ok_side {lo n : Int} (hl : lo = 0 ∨ lo = 1) (h : 1 ≤ n ∧ n ≤ 12) : okNum lo 12 (dec n) n := by
  obtain ⟨k, rfl⟩ := Int.eq_ofNat_of_zero_le (show 0 ≤ n by omega)
  rcases hl with rfl | rfl
  · exact ok_side0 k (by omega)
  · exact ok_side1 k (by omega) (by omega)
theorem ok_self {n : Int} (h : 1 ≤ n ∧ n ≤ 12) : okNum n n (dec n) n := by
  obtain ⟨k, rfl⟩ := Int.eq_ofNat_of_zero_le (show 0 ≤ n by omega)
  exact ok_same k (by omega) (by omega)
theorem ok_moved {n s : Int} (h : 1 ≤ n ∧ n ≤ 12) (hs : 0 < s ∧ s < n) : okNum 1 (n - 1) (dec s) s := by
  obtain ⟨k, rfl⟩ := Int.eq_ofNat_of_zero_le (show 0 ≤ n by omega)
  obtain ⟨j, rfl⟩ := Int.eq_ofNat_of_zero_le (show 0 ≤ s by omega)
  exact ok_shift k (by omega) j (by omega) (by omega)
theorem least_01 {k : Int} : leastSide k = 0 ∨ leastSide k = 1 := by unfold leastSide; split <;> simp
theorem rdz_nil {α : Type} {p : Rd α} {L : List Int} {a : α} {M : List Int} (h : Rdz p (L ++ []) a M) : Rdz p L a M := by rw [List.append_nil] at h; exact h

theorem rdz_shift {n s : Int} (h : 1 ≤ n ∧ n ≤ 12) (h0 : 0 ≤ s) (hs : s < n) {a : Int} (ha : noDigit a) (ha2 : a ≠ 43) (M : List Int) : Rdz (shift n) (if 0 < s then 43 :: numL s else []) s (a :: M) := by
  unfold shift
  by_cases h1 : 0 < s
  · rw [if_pos h1, if_neg (by omega)]
    refine Rdz.bnd (L1 := [43]) (rdz_opt 43 _) ?_
    rw [if_pos rfl]
    exact rdz_number (ok_moved h ⟨h1, hs⟩) ha M
  · have e : s = 0 := by omega
    subst e
    rw [if_neg h1]
    by_cases h2 : n < 2
    · rw [if_pos h2]; exact rdz_ret _ _
    · rw [if_neg h2]
      exact Rdz.bnd (q := fun b => if b = true then number 1 (n - 1) else ret 0) (L1 := []) (L2 := []) (rdz_opt_no ha2 M) (rdz_ret 0 _)
theorem rdz_width {p : Plan} (h : PlanOk p) (M : List Int) : Rdz (width p.kind) (sideL p.w p.sw p.star) (p.w, p.sw, p.star) (44 :: M) := by
  have n42 : noDigit 42 := by unfold noDigit; omega
  have n43 : noDigit 43 := by unfold noDigit; omega
  have n44 : noDigit 44 := by unfold noDigit; omega
  have hk := h.kind
  unfold width sideL
  rw [List.append_assoc]
  have num : ∀ (a : Int) (M : List Int), noDigit a → Rdz (number (leastSide p.kind) 12) (numL p.w) p.w (a :: M) := fun a M ha => rdz_number (ok_side least_01 h.w) ha M
  by_cases k1 : p.kind = 75
  · obtain ⟨e1, -⟩ := h.flat (by omega)
    rw [e1, if_neg (by omega), List.nil_append]
    cases hst : p.star
    · rw [if_neg (by simp)]
      refine Rdz.bnd (num 44 M n44) ?_
      rw [if_pos k1]
      exact Rdz.bnd (q := fun b => ret (p.w, (0 : Int), b)) (L1 := []) (L2 := []) (rdz_opt_no (m := 42) (a := 44) (by omega) M) (rdz_ret _ _)
    · rw [if_pos rfl]
      refine Rdz.bnd (num 42 _ n42) ?_
      rw [if_pos k1]
      exact rdz_nil (Rdz.bnd (rdz_opt 42 _) (rdz_ret _ _))
  · obtain ⟨e2, -⟩ := h.plain k1
    rw [e2, if_neg (c := false = true) (by simp), List.append_nil]
    by_cases k2 : p.kind = 84
    · have hsw : 0 ≤ p.sw ∧ p.sw < p.w := by have := h.torus; have := h.w; omega
      have goal2 : Rdz (if p.kind = 75 then Pu.bnd (opt 42) fun b => ret (p.w, (0 : Int), b) else if p.kind = 84 then Pu.bnd (shift p.w) fun s => ret (p.w, s, false) else ret (p.w, 0, false)) (if 0 < p.sw then 43 :: numL p.sw else []) (p.w, p.sw, false) (44 :: M) := by
        rw [if_neg k1, if_pos k2]
        exact rdz_nil (Rdz.bnd (rdz_shift h.w hsw.1 hsw.2 n44 (by omega) M) (rdz_ret _ _))
      refine Rdz.bnd ?_ goal2
      by_cases h1 : 0 < p.sw
      · rw [if_pos h1]; exact num 43 _ n43
      · rw [if_neg h1]; exact num 44 _ n44
    · obtain ⟨e1, -⟩ := h.flat k2
      rw [e1, if_neg (c := (0 : Int) < 0) (by omega)]
      refine Rdz.bnd (num 44 M n44) ?_
      rw [if_neg k1, if_neg k2]
      exact rdz_ret _ _
theorem rdz_height {p : Plan} (h : PlanOk p) (M : List Int) : Rdz (height p.kind p.w p.sw p.star) (sideL p.h p.sh p.starH) (p.h, p.sh, p.starH) (32 :: M) := by
  have n42 : noDigit 42 := by unfold noDigit; omega
  have n43 : noDigit 43 := by unfold noDigit; omega
  have n32 : noDigit 32 := by unfold noDigit; omega
  have hk := h.kind
  unfold height sideL
  rw [List.append_assoc]
  have num : ∀ (a : Int) (M : List Int), noDigit a → Rdz (number (rowLow p.kind p.w p.sw) (rowHigh p.kind p.w)) (numL p.h) p.h (a :: M) := by
    intro a M ha
    by_cases k3 : p.kind = 83
    · have e : rowLow p.kind p.w p.sw = p.h := by unfold rowLow; rw [if_pos k3, h.sphere k3]
      have e2 : rowHigh p.kind p.w = p.h := by unfold rowHigh; rw [if_pos k3, h.sphere k3]
      rw [e, e2]
      exact rdz_number (ok_self h.h) ha M
    · have e : rowLow p.kind p.w p.sw = 0 ∨ rowLow p.kind p.w p.sw = 1 := by unfold rowLow; rw [if_neg k3]; split; exact Or.inr rfl; exact least_01
      have e2 : rowHigh p.kind p.w = 12 := by unfold rowHigh; rw [if_neg k3]
      rw [e2]
      exact rdz_number (ok_side e h.h) ha M
  have hw := h.w
  by_cases k1 : p.kind = 75
  · obtain ⟨-, e1⟩ := h.flat (by omega)
    rw [e1, if_neg (by omega), List.nil_append, h.klein k1]
    cases hst : p.star
    · rw [if_pos (by rfl)]
      refine Rdz.bnd (num 42 _ n42) ?_
      rw [if_pos ⟨k1, rfl⟩]
      exact rdz_nil (Rdz.bnd (rdz_take 42 _) (rdz_ret _ _))
    · rw [if_neg (by simp)]
      refine Rdz.bnd (num 32 M n32) ?_
      rw [if_neg (by simp), if_pos (Or.inl (by omega))]
      exact rdz_ret _ _
  · obtain ⟨e0, e2⟩ := h.plain k1
    rw [e2, if_neg (c := false = true) (by simp), List.append_nil]
    by_cases k2 : p.kind = 84 ∧ p.sw = 0
    · have hsh : 0 ≤ p.sh ∧ p.sh < p.h := by have := h.torus; have := h.h; omega
      have goal2 : Rdz (if p.kind = 75 ∧ p.star = false then Pu.bnd (take 42) fun _ => ret (p.h, (0 : Int), true) else if p.kind ≠ 84 ∨ p.w = 0 ∨ p.sw ≠ 0 then ret (p.h, 0, false) else Pu.bnd (shift p.h) fun s => ret (p.h, s, false)) (if 0 < p.sh then 43 :: numL p.sh else []) (p.h, p.sh, false) (32 :: M) := by
        rw [if_neg (by omega), if_neg (by omega)]
        exact rdz_nil (Rdz.bnd (rdz_shift h.h hsh.1 hsh.2 n32 (by omega) M) (rdz_ret _ _))
      refine Rdz.bnd ?_ goal2
      by_cases h1 : 0 < p.sh
      · rw [if_pos h1]; exact num 43 _ n43
      · rw [if_neg h1]; exact num 32 _ n32
    · have e1 : p.sh = 0 := by
        by_cases k3 : p.kind = 84
        · have := h.torus; omega
        · exact (h.flat k3).2
      rw [e1, if_neg (c := (0 : Int) < 0) (by omega)]
      refine Rdz.bnd (num 32 M n32) ?_
      rw [if_neg (by omega), if_pos (by omega)]
      exact rdz_ret _ _
theorem rdz_shape {p : Plan} (h : PlanOk p) (M : List Int) : Rdz shape (shapeL p) (shapeOf p) (32 :: M) := by
  unfold shape shapeL
  refine Rdz.bnd (rdz_letter h.kind _) ?_
  refine Rdz.bnd (rdz_width h _) ?_
  refine Rdz.bnd (rdz_take 44 _) ?_
  exact rdz_nil (Rdz.bnd (rdz_height h M) (rdz_ret _ _))
theorem body_bang (c : Int) (n : Nat) (f : Src) (i : Nat) (h1 : f i = 33) (h2 : f (i + 1) = -1) : body c (n + 1) [] f i = (i + 1, some []) := by
  unfold body
  rw [if_neg (by omega), if_pos h1, if_pos h2]
theorem ok_age : okNum 0 999999 [0] 0 := ⟨by simp, by simp [runs, numStep, begins], by omega, by omega, by simp⟩
theorem ok_at : okNum 0 9999 [0] 0 := ⟨by simp, by simp [runs, numStep, begins], by omega, by omega, by simp⟩
theorem rdz_zero {a : Int} (ha : noDigit a) (M : List Int) : Rdz (signed 9999) [48] 0 (a :: M) := by
  unfold signed
  refine Rdz.bnd (L1 := []) (rdz_opt_no (by omega) _) ?_
  rw [if_neg (by simp)]
  exact rdz_number ok_at ha M
theorem rdz_place : Rdz place [48, 44, 48, 32] (0, 0) [33, -1] := by
  unfold place
  refine Rdz.bnd (L1 := [48]) (L2 := [44, 48, 32]) (rdz_zero (by unfold noDigit; omega) _) ?_
  refine Rdz.bnd (L1 := [44]) (L2 := [48, 32]) (rdz_take _ _) ?_
  refine Rdz.bnd (L1 := [48]) (L2 := [32]) (rdz_zero (by unfold noDigit; omega) _) ?_
  exact Rdz.bnd (L1 := [32]) (L2 := []) (rdz_take _ _) (rdz_ret _ _)
theorem rdz_head {p : Plan} (h : PlanOk p) (M : List Int) : Rdz head (ruleL p ++ ([32] ++ (shapeL p ++ [32, 48, 32]))) (ruleOf p, shapeOf p, 0) M := by
  unfold head
  refine Rdz.bnd (rdz_rule h _) ?_
  refine Rdz.bnd (rdz_take 32 _) ?_
  refine Rdz.bnd (rdz_shape h _) ?_
  refine Rdz.bnd (L1 := [32]) (L2 := [48, 32]) (rdz_take _ _) ?_
  refine Rdz.bnd (L1 := [48]) (L2 := [32]) (rdz_number ok_age (by unfold noDigit; omega) _) ?_
  exact Rdz.bnd (L1 := [32]) (L2 := []) (rdz_take _ _) (rdz_ret _ _)
theorem rdz_pre {p : Plan} (h : PlanOk p) : Rdz pre ((ruleL p ++ ([32] ++ (shapeL p ++ [32, 48, 32]))) ++ [48, 44, 48, 32]) ((ruleOf p, shapeOf p, 0), (0, 0)) [33, -1] := by
  unfold pre
  refine Rdz.bnd (rdz_head h _) ?_
  exact rdz_nil (Rdz.bnd rdz_place (rdz_ret _ _))
theorem read_of {f : Src} {i j : Nat} {a : (Rule × Shape × Int) × (Int × Int)} {rs : List Run} (h1 : pre f 0 = (i, some a)) (h2 : body a.1.1.states 401 [] f i = (j, some rs)) : read f = (j, some ⟨a.1.1, a.1.2.1, a.1.2.2, a.2.1, a.2.2, rs⟩) := by
  unfold read
  rw [h1]
  simp only
  generalize body a.1.1.states 401 [] f i = B at h2 ⊢
  subst h2
  rfl
/-- The text of a plan is read as the plan. -/
theorem read_plan {p : Plan} (h : PlanOk p) (f : Src) (hf : Fits f 0 (textL p ++ [-1])) : read f = ((textL p).length, some (partsOf p)) := by
  have e : textL p = ((ruleL p ++ ([32] ++ (shapeL p ++ [32, 48, 32]))) ++ [48, 44, 48, 32]) ++ [33] := by simp [textL]
  rw [e] at hf ⊢
  rw [List.append_assoc] at hf
  have h1 := rdz_pre h f 0 hf
  obtain ⟨c1, c2, -⟩ := hf.app.2
  have h2 := read_of h1 (body_bang p.c 400 f _ c1 c2)
  rw [h2, Nat.zero_add]
  simp only [List.length_append, List.length_cons, List.length_nil]
  rfl
theorem dec_len (n : Int) : (dec n).length ≤ 2 := by unfold dec; split <;> simp
theorem sideL_len (n s : Int) (b : Bool) : (sideL n s b).length ≤ 6 := by
  have h1 := dec_len n
  have h2 := dec_len s
  unfold sideL numL
  split <;> split <;> simp <;> omega
theorem textL_len (p : Plan) : (textL p).length ≤ 60 := by
  have h1 := (bitL_bd p.births).2
  have h2 := (bitL_bd p.lives).2
  have h3 := sideL_len p.w p.sw p.star
  have h4 := sideL_len p.h p.sh p.starH
  unfold textL ruleL shapeL
  split <;> simp <;> omega
end Go.Proofs.Pu
