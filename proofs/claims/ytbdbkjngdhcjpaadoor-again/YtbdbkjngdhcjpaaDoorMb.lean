import Derived.Test.YtbdbkjngdhcjpaaDoorMa
namespace Go.Proofs.YtbdbkjngdhcjpaaDoor
open Go.RowKit
open Go.Proofs

theorem fits_at {f : Pu.Src} : ∀ {L : List Int} {i : Nat}, Pu.Fits f i L → ∀ (k : Nat) (h : k < L.length), f (i + k) = L[k] := by
  intro L
  induction L with
  | nil => intro i _ k h; simp at h
  | cons a L ih =>
    intro i h k hk
    cases k with
    | zero => exact h.1
    | succ k =>
      have := ih h.2 k (by simpa using hk)
      rw [show i + (k + 1) = i + 1 + k by omega]
      simpa using this
theorem fits_same {f g : Pu.Src} {A B : List Int} (h : Pu.Fits f 0 A) (h2 : Pu.Fits g 0 (A ++ B)) : ∀ k, k < A.length → g k = f k := by
  intro k hk
  have e1 := fits_at h k hk
  have e2 := fits_at h2.app.1 k hk
  rw [Nat.zero_add] at e1 e2
  rw [e1, e2]
/-- The digits of a number. -/
def dg (n : Nat) : List Int := (Lib.decDigits n).map fun b => (b.toNat : Int) - 48
theorem dg_small {n : Nat} (h : n < 10) : dg n = [(n : Int)] := by
  unfold dg
  rw [Lib.decDigits, dif_pos h]
  simp only [List.map_cons, List.map_nil]
  rw [UInt8.toNat_ofNat']
  congr 1
  omega
theorem dg_big {n : Nat} (h : ¬ n < 10) : dg n = dg (n / 10) ++ [((n % 10 : Nat) : Int)] := by
  unfold dg
  rw [Lib.decDigits, dif_neg h, List.map_append]
  congr 1
  simp only [List.map_cons, List.map_nil]
  rw [UInt8.toNat_ofNat']
  congr 1
  omega
theorem dg_bd : ∀ n : Nat, ∀ d, d ∈ dg n → 0 ≤ d ∧ d ≤ 9 := by
  intro n
  induction n using Nat.strongRecOn with
  | _ n ih =>
    intro d hd
    by_cases h : n < 10
    · rw [dg_small h] at hd
      simp at hd
      omega
    · rw [dg_big h] at hd
      rcases List.mem_append.1 hd with hd | hd
      · exact ih (n / 10) (by omega) d hd
      · simp at hd
        omega
theorem dg_iL (n : Nat) : iL (Lib.decDigits n) = (dg n).map (· + 48) := by
  unfold dg iL
  rw [List.map_map]
  refine List.map_congr_left fun b _ => ?_
  simp only [Function.comp]
  omega
theorem dg_len (n : Nat) (h : n < 10000) : (dg n).length ≤ 4 := by
  by_cases h1 : n < 10
  · rw [dg_small h1]; simp
  · rw [dg_big h1, List.length_append]
    by_cases h2 : n / 10 < 10
    · rw [dg_small h2]; simp
    · rw [dg_big h2, List.length_append]
      by_cases h3 : n / 10 / 10 < 10
      · rw [dg_small h3]; simp
      · rw [dg_big h3, List.length_append, dg_small (by omega)]; simp
theorem runs_app {σ : Type} (step : σ → Int → Option σ) : ∀ (A B : List Int) (v u : σ), Pu.runs step v A = some u → Pu.runs step v (A ++ B) = Pu.runs step u B := by
  intro A
  induction A with
  | nil => intro B v u h; rw [← Option.some.inj h]; rfl
  | cons a A ih =>
    intro B v u h
    unfold Pu.runs at h
    rw [List.cons_append]
    show (match step v a with | none => none | some v' => Pu.runs step v' (A ++ B)) = _
    cases e : step v a with
    | none => rw [e] at h; simp at h
    | some v' =>
      rw [e] at h
      exact ih B v' u h
theorem begins_yes {v lo hi : Int} (h1 : 1 ≤ v) (h2 : v ≤ hi) (h3 : lo ≤ 1) : Pu.begins v lo hi = true := by
  unfold Pu.begins
  rw [if_neg (by omega), Pu.bgS_eq lo hi v v h1, if_pos h2, if_pos (by omega)]
theorem runs_dg {lo hi : Int} (h3 : lo ≤ 1) : ∀ n : Nat, 1 ≤ n → (n : Int) ≤ hi → Pu.runs (Pu.numStep lo hi) (false, 0) (dg n) = some (true, (n : Int)) := by
  intro n
  induction n using Nat.strongRecOn with
  | _ n ih =>
    intro h1 h2
    by_cases h : n < 10
    · rw [dg_small h]
      unfold Pu.runs Pu.numStep
      rw [if_neg (by
        rintro (c | c | c)
        · omega
        · exact absurd c.2 (by simp)
        · simp only at c
          rw [show (0 : Int) * 10 + n = n by omega, begins_yes (by omega) h2 h3] at c
          cases c)]
      simp only
      rw [show (0 : Int) * 10 + n = n by omega]
      rfl
    · rw [dg_big h, runs_app _ _ _ _ _ (ih (n / 10) (by omega) (by omega) (by omega))]
      have e : ((n / 10 : Nat) : Int) * 10 + ((n % 10 : Nat) : Int) = n := by omega
      unfold Pu.runs Pu.numStep
      rw [if_neg (by
        rintro (c | c | c)
        · omega
        · have := c.1
          simp only at this
          omega
        · simp only at c
          rw [e, begins_yes (by omega) h2 h3] at c
          cases c)]
      simp only
      rw [e]
      rfl
theorem ok_num {lo : Int} (h3 : lo = 0 ∨ lo = 1) {n : Nat} (h0 : lo ≤ n) (h : n ≤ 9999) : Pu.okNum lo 9999 (dg n) n := by
  refine ⟨dg_bd n, ?_, h0, by omega, by have := dg_len n (by omega); omega⟩
  by_cases z : n = 0
  · subst z
    have : lo = 0 := by omega
    subst this
    rw [dg_small (by omega)]
    rfl
  · exact runs_dg (by omega) n (by omega) (by omega)
theorem dec_first (n : Nat) : ∃ d M, iL (Lib.decDigits n) = d :: M ∧ 48 ≤ d ∧ d ≤ 57 := by
  rw [dg_iL]
  cases e : dg n with
  | nil =>
    by_cases h : n < 10
    · rw [dg_small h] at e; cases e
    · rw [dg_big h] at e; simp at e
  | cons a M =>
    have := dg_bd n a (by rw [e]; simp)
    exact ⟨a + 48, M.map (· + 48), rfl, by omega, by omega⟩
theorem rdz_signed {v : Int} (h0 : -9999 ≤ v) (h1 : v ≤ 9999) {a : Int} (ha : Pu.noDigit a) (M : List Int) : Pu.Rdz (Pu.signed 9999) (iL (Lib.itoa v)) v (a :: M) := by
  unfold Pu.signed Lib.itoa
  split
  · rw [show iL (45 :: Lib.decDigits v.natAbs) = [45] ++ iL (Lib.decDigits v.natAbs) from rfl, dg_iL]
    refine Pu.Rdz.bnd (Pu.rdz_opt 45 _) ?_
    rw [if_pos rfl]
    have := Pu.rdz_number (ok_num (lo := 1) (Or.inr rfl) (n := v.natAbs) (by omega) (by omega)) ha M
    have e := Pu.Rdz.bnd (q := fun u => Pu.ret (-u)) (L2 := []) this (Pu.rdz_ret _ _)
    rw [List.append_nil, show -((v.natAbs : Nat) : Int) = v by omega] at e
    exact e
  · obtain ⟨d, N, e, d1, d2⟩ := dec_first v.toNat
    refine Pu.Rdz.bnd (L1 := []) (L2 := iL (Lib.decDigits v.toNat)) (a := false) ?_ ?_
    · rw [e, List.cons_append]
      exact Pu.rdz_opt_no (by omega) _
    · rw [if_neg (by simp), dg_iL]
      have := Pu.rdz_number (ok_num (lo := 0) (Or.inl rfl) (n := v.toNat) (by omega) (by omega)) ha M
      rwa [show ((v.toNat : Nat) : Int) = v by omega] at this
theorem rdz_place' {a b : Int} (ha : -9999 ≤ a ∧ a ≤ 9999) (hb : -9999 ≤ b ∧ b ≤ 9999) (M : List Int) : Pu.Rdz Pu.place (iL (Sv.placeT a b ++ [32])) (a, b) M := by
  unfold Pu.place Sv.placeT
  rw [iL_app, iL_app, iL_app, List.append_assoc, List.append_assoc]
  refine Pu.Rdz.bnd (rdz_signed ha.1 ha.2 (a := 44) (by unfold Pu.noDigit; omega) _) ?_
  refine Pu.Rdz.bnd (L1 := [44]) (Pu.rdz_take 44 _) ?_
  refine Pu.Rdz.bnd (rdz_signed hb.1 hb.2 (a := 32) (by unfold Pu.noDigit; omega) _) ?_
  exact Pu.Rdz.bnd (L1 := [32]) (L2 := []) (Pu.rdz_take _ _) (Pu.rdz_ret _ _)
theorem dg_dec {n : Nat} (h : n < 100) : dg n = Pu.dec n := by
  unfold Pu.dec
  by_cases h1 : n < 10
  · rw [dg_small h1, if_pos (by omega)]
  · rw [dg_big h1, dg_small (by omega), if_neg (by omega)]
    simp
theorem ok_count : ∀ n : Nat, n < 100 → 2 ≤ n → Pu.okNum 2 99 (Pu.dec n) n := by decide +kernel
/-- A sign that a run can have. -/
def SgOk (c : Int) (b : UInt8) : Prop := b = 36 ∨ ∃ t : Int, 0 ≤ t ∧ t < c ∧ b = b8 (Pu.stateLetter t)
/-- The state of a sign. -/
def sv (b : UInt8) : Int := if b = 46 then 0 else (b.toNat : Int) - 64
def frP (p : Nat × UInt8) : Pu.Run := ⟨(p.1 : Int), if p.2 = 36 then 0 else sv p.2, decide (p.2 = 36)⟩
theorem sg_cases {c : Int} (hc : c ≤ 9) {t : Int} (h0 : 0 ≤ t) (h1 : t < c) : ((b8 (Pu.stateLetter t)).toNat : Int) = Pu.stateLetter t ∧ Pu.stateLetter t ∈ Pu.letters c ∧ sv (b8 (Pu.stateLetter t)) = t ∧ b8 (Pu.stateLetter t) ≠ 36 ∧ ((b8 (Pu.stateLetter t)).toNat = 46 ∨ (65 ≤ (b8 (Pu.stateLetter t)).toNat ∧ (b8 (Pu.stateLetter t)).toNat ≤ 72)) ∧ (if Pu.stateLetter t = 46 then 0 else Pu.stateLetter t - 64) = t := by
  have key : ∀ k : Fin 9, ((b8 (Pu.stateLetter (k.val : Int))).toNat : Int) = Pu.stateLetter (k.val : Int) ∧ sv (b8 (Pu.stateLetter (k.val : Int))) = (k.val : Int) ∧ b8 (Pu.stateLetter (k.val : Int)) ≠ 36 ∧ ((b8 (Pu.stateLetter (k.val : Int))).toNat = 46 ∨ (65 ≤ (b8 (Pu.stateLetter (k.val : Int))).toNat ∧ (b8 (Pu.stateLetter (k.val : Int))).toNat ≤ 72)) ∧ (if Pu.stateLetter (k.val : Int) = 46 then 0 else Pu.stateLetter (k.val : Int) - 64) = (k.val : Int) := by decide
  obtain ⟨k1, k2, k3, k4, k5⟩ := key ⟨t.toNat, by omega⟩
  simp only [show ((t.toNat : Nat) : Int) = t by omega] at k1 k2 k3 k4 k5
  refine ⟨k1, ?_, k2, k3, k4, k5⟩
  unfold Pu.letters
  rw [List.mem_map]
  exact ⟨t.toNat, List.mem_range.2 (by omega), by rw [show ((t.toNat : Nat) : Int) = t by omega]⟩
theorem sg_no {c : Int} (hc : c ≤ 9) {b : UInt8} (h : SgOk c b) : Pu.noDigit (b.toNat : Int) ∧ (b.toNat : Int) ≠ 33 := by
  unfold Pu.noDigit
  rcases h with rfl | ⟨t, h0, h1, rfl⟩
  · decide
  · have := (sg_cases hc h0 h1).2.2.2.2.1
    omega
theorem rdz_count {k : Nat} (h1 : 1 ≤ k) (h2 : k ≤ 99) {a : Int} (ha : Pu.noDigit a) (M : List Int) : Pu.Rdz Pu.count (iL (if 1 < k then Lib.itoa (k : Int) else [])) (k : Int) (a :: M) := by
  by_cases h : 1 < k
  · rw [if_pos h]
    have e : Lib.itoa (k : Int) = Lib.decDigits k := by unfold Lib.itoa; rw [if_neg (by omega), Int.toNat_natCast]
    rw [e]
    obtain ⟨d, N, e1, d1, d2⟩ := dec_first k
    have := Pu.rdz_number (ok_count k (by omega) (by omega)) ha M
    rw [← dg_dec (by omega), ← dg_iL] at this
    intro f i hf
    have hn := this f i hf
    unfold Pu.count
    rw [if_pos]
    · exact hn
    · rw [e1] at hf
      have : f i = d := hf.1
      unfold Pu.digit
      rw [this, if_pos (by omega)]
      omega
  · have : k = 1 := by omega
    subst this
    rw [if_neg h]
    intro f i hf
    have h0 : f i = a := hf.1
    unfold Pu.count
    rw [if_neg (by rw [Pu.digit_no h0 ha]; omega)]
    rfl
theorem rdz_run {c : Int} (hc : c ≤ 9) {p : Nat × UInt8} (h1 : 1 ≤ p.1) (h2 : p.1 ≤ 99) (hs : SgOk c p.2) (M : List Int) : Pu.Rdz (Pu.run c) (iL (wr [p])) (frP p) M := by
  have hn := (sg_no hc hs).1
  obtain ⟨k, b⟩ := p
  simp only at h1 h2 hs hn
  have e : iL (wr [(k, b)]) = iL (if 1 < k then Lib.itoa (k : Int) else []) ++ [(b.toNat : Int)] := by
    show iL ((if 1 < k then Lib.itoa (k : Int) else []) ++ [b] ++ []) = _
    rw [List.append_nil, iL_app]
    rfl
  rw [e]
  unfold Pu.run frP
  refine Pu.Rdz.bnd (rdz_count h1 h2 hn M) ?_
  simp only
  rcases hs with rfl | ⟨t, h0, h1', rfl⟩
  · refine Pu.Rdz.bnd (L1 := [36]) (L2 := []) (Pu.rdz_opt 36 _) ?_
    exact Pu.rdz_ret _ _
  · obtain ⟨s1, s2, s3, s4, _, s5⟩ := sg_cases hc h0 h1'
    refine Pu.Rdz.bnd (L1 := []) (L2 := [_]) (a := false) (Pu.rdz_opt_no (by rw [s1]; intro x; apply s4; rw [x]; rfl) _) ?_
    rw [if_neg (by simp), if_neg s4, s3, decide_eq_false s4, s1]
    unfold Pu.state
    refine Pu.Rdz.bnd (L1 := [_]) (L2 := []) (a := t) ?_ (Pu.rdz_ret _ _)
    refine Pu.Rdz.bnd (L1 := [_]) (L2 := []) (Pu.rdz_letter s2 _) ?_
    rw [s5]
    exact Pu.rdz_ret _ _
theorem wr_first {c : Int} (hc : c ≤ 9) {p : Nat × UInt8} (hs : SgOk c p.2) (rs : Rs) : ∃ d M, iL (wr (p :: rs)) = d :: M ∧ d ≠ 33 ∧ 0 ≤ d := by
  have := sg_no hc hs
  unfold wr
  split
  · rename_i h
    have e : Lib.itoa (p.1 : Int) = Lib.decDigits p.1 := by unfold Lib.itoa; rw [if_neg (by omega), Int.toNat_natCast]
    obtain ⟨d, N, e1, d1, d2⟩ := dec_first p.1
    rw [e, List.append_assoc, iL_app, e1]
    exact ⟨d, _, rfl, by omega, by omega⟩
  · exact ⟨(p.2.toNat : Int), iL (wr rs), rfl, this.2, by omega⟩
theorem body_fwd {c : Int} (hc : c ≤ 9) {f : Pu.Src} : ∀ (rs : Rs) (acc : List Pu.Run) (n i : Nat), (∀ p, p ∈ rs → (1 ≤ p.1 ∧ p.1 ≤ 99) ∧ SgOk c p.2) → Pu.Fits f i (iL (wr rs ++ [33]) ++ [-1]) → rs.length < n → ∃ j, Pu.body c n acc f i = (j, some (acc ++ rs.map frP)) := by
  intro rs
  induction rs with
  | nil =>
    intro acc n i _ hf hn
    obtain ⟨m, rfl⟩ : ∃ m, n = m + 1 := ⟨n - 1, by simp at hn; omega⟩
    have e1 : f i = 33 := hf.1
    have e2 : f (i + 1) = -1 := hf.2.1
    unfold Pu.body
    rw [if_neg (by omega), if_pos e1, if_pos e2]
    exact ⟨i + 1, by simp⟩
  | cons p rs ih =>
    intro acc n i h hf hn
    obtain ⟨m, rfl⟩ : ∃ m, n = m + 1 := ⟨n - 1, by simp at hn; omega⟩
    have hp := h p (by simp)
    obtain ⟨d, N, e1, d1, d2⟩ := wr_first hc hp.2 rs
    have e0 : f i = d := by
      rw [iL_app, e1] at hf
      exact hf.1
    have ew : iL (wr (p :: rs) ++ [33]) ++ [-1] = iL (wr [p]) ++ (iL (wr rs ++ [33]) ++ [-1]) := by
      rw [show p :: rs = [p] ++ rs from rfl, wr_app, List.append_assoc, iL_app, List.append_assoc]
    rw [ew] at hf
    have hr := rdz_run hc hp.1.1 hp.1.2 hp.2 _ f i hf
    obtain ⟨j, hj⟩ := ih (acc ++ [frP p]) m _ (fun q hq => h q (List.mem_cons_of_mem _ hq)) hf.app.2 (by simp at hn; omega)
    refine ⟨j, ?_⟩
    unfold Pu.body
    rw [if_neg (by omega), if_neg (by omega), hr]
    simp only
    rw [hj]
    simp
/-- What is saved is read. -/
theorem read_saved {f g : Pu.Src} {r : Pu.Rule} {x : Pu.Shape} {age : Int} {i : Nat} (hh : Pu.head f 0 = (i, some (r, x, age))) (hf : Ht f 0 i (Sv.headT r x age ++ [32])) (hc : r.states ≤ 9) {L T : Int} (hL : -9999 ≤ L ∧ L ≤ 9999) (hT : -9999 ≤ T ∧ T ≤ 9999) {rs : Rs} (hr : ∀ p, p ∈ rs → (1 ≤ p.1 ∧ p.1 ≤ 99) ∧ SgOk r.states p.2) (hn : rs.length ≤ 400)
    (hg : Pu.Fits g 0 (iL (Sv.headT r x age ++ [32] ++ (Sv.placeT L T ++ [32]) ++ (wr rs ++ [33])) ++ [-1])) : ∃ j, Pu.read g = (j, some ⟨r, x, age, L, T, rs.map frP⟩) := by
  obtain ⟨hf1, hf2⟩ := hf
  rw [iL_app, iL_app, List.append_assoc, List.append_assoc] at hg
  have same := fits_same hf1 hg
  have hle : (Sv.headT r x age ++ [32]).length = i := by omega
  rw [iL_len, hle] at same
  have hg2 := hg.app.2
  rw [Nat.zero_add, iL_len, hle] at hg2
  have hH : Pu.head g 0 = (i, some (r, x, age)) := by
    obtain ⟨i1, r', q1, hx⟩ := Pu.bnd_inv hh
    obtain ⟨i2, _, q2, hx⟩ := Pu.bnd_inv hx
    obtain ⟨i3, x', q3, hx⟩ := Pu.bnd_inv hx
    obtain ⟨i4, _, q4, hx⟩ := Pu.bnd_inv hx
    obtain ⟨i5, a', q5, hx⟩ := Pu.bnd_inv hx
    obtain ⟨i6, _, q6, hx⟩ := Pu.bnd_inv hx
    obtain ⟨rfl, he⟩ := ret_pos hx
    have t2 := (ht_take q2 (by omega) (by omega)).2
    have t4 := (ht_take q4 (by omega) (by omega)).2
    have t6 := (ht_take q6 (by omega) (by omega)).2
    simp only [List.length_cons, List.length_nil] at t2 t4 t6
    have m3 := Pu.good_shape.mono f i2
    have m5 := (Pu.good_number 0 999999).mono f i4
    rw [q3] at m3
    rw [q5] at m5
    simp only at m3 m5
    have tk : ∀ {a b : Nat}, Pu.take 32 f a = (b, some ()) → g a = f a → Pu.take 32 g a = (b, some ()) := by
      intro a b h1 h2
      unfold Pu.take at h1 ⊢
      rw [h2]
      exact h1
    have g1 : Pu.rule g 0 = (i1, some r') := by rw [Pu.good_rule.loc f g 0 (by rw [q1]; intro k hk; exact same k (by simp only at hk; omega)), q1]
    have g3 : Pu.shape g i2 = (i3, some x') := by rw [Pu.good_shape.loc f g i2 (by rw [q3]; intro k hk; exact same k (by simp only at hk; omega)), q3]
    have g5 : Pu.number 0 999999 g i4 = (i5, some a') := by rw [(Pu.good_number 0 999999).loc f g i4 (by rw [q5]; intro k hk; exact same k (by simp only at hk; omega)), q5]
    have g2 := tk q2 (same _ (by omega))
    have g4 := tk q4 (same _ (by omega))
    have g6 := tk q6 (same _ (by omega))
    unfold Pu.head Pu.bnd
    rw [g1]; simp only
    rw [g2]; simp only
    rw [g3]; simp only
    rw [g4]; simp only
    rw [g5]; simp only
    rw [g6]; simp only
    rw [he]
    rfl
  have hP := rdz_place' hL hT _ g i hg2
  obtain ⟨j, hB⟩ := body_fwd hc rs [] 401 (i + (iL (Sv.placeT L T ++ [32])).length) hr hg2.app.2 (by omega)
  rw [List.nil_append] at hB
  have hpre : Pu.pre g 0 = (i + (iL (Sv.placeT L T ++ [32])).length, some ((r, x, age), (L, T))) := by
    unfold Pu.pre Pu.bnd
    rw [hH]; simp only
    rw [hP]
    rfl
  exact ⟨j, Pu.read_of hpre hB⟩
end Go.Proofs.YtbdbkjngdhcjpaaDoor
