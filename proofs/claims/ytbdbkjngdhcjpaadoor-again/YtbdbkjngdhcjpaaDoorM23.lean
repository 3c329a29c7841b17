import Derived.Test.YtbdbkjngdhcjpaaDoorM22
namespace Go.Proofs.YtbdbkjngdhcjpaaDoor
open Go.RowKit
open Go.Proofs

theorem mem_sp {b : UInt8} : ∀ {D : List UInt8} {r : List UInt8}, r ∈ sp D → b ∈ r → b ∈ D ∧ b ≠ 36 := by
  intro D
  induction D with
  | nil =>
    intro r h1 h2
    simp [sp] at h1
    subst h1
    simp at h2
  | cons d D ih =>
    intro r h1 h2
    obtain ⟨q, Q, e⟩ := sp_cons D
    unfold sp at h1
    rw [e] at h1 ih
    by_cases hd : d = 36
    · rw [if_pos hd] at h1
      rcases List.mem_cons.1 h1 with rfl | h1
      · simp at h2
      · have := ih h1 h2
        exact ⟨List.mem_cons_of_mem _ this.1, this.2⟩
    · rw [if_neg hd] at h1
      simp only [List.headD_cons, List.tail_cons] at h1
      rcases List.mem_cons.1 h1 with rfl | h1
      · rcases List.mem_cons.1 h2 with rfl | h2
        · exact ⟨by simp, hd⟩
        · have := ih (by simp) h2
          exact ⟨List.mem_cons_of_mem _ this.1, this.2⟩
      · have := ih (List.mem_cons_of_mem _ h1) h2
        exact ⟨List.mem_cons_of_mem _ this.1, this.2⟩
theorem mem_ex {c : Int} {b : UInt8} : ∀ {rs : List Pu.Run}, (∀ r, r ∈ rs → Pu.RunOk c r) → b ∈ ex rs → b = 36 ∨ ∃ t : Int, 0 ≤ t ∧ t < c ∧ b = b8 (Pu.stateLetter t) := by
  intro rs
  induction rs with
  | nil => intro _ h; simp [ex, unr] at h
  | cons r rs ih =>
    intro hr h
    have h' : b ∈ List.replicate r.count.toNat (toP r).2 ++ ex rs := h
    rcases List.mem_append.1 h' with h' | h'
    · have e := (List.mem_replicate.1 h').2
      have r0 := hr r (by simp)
      unfold toP at e
      simp only at e
      split at e
      · exact Or.inl e
      · exact Or.inr ⟨r.state, r0.2.2.1, r0.2.2.2, e⟩
    · exact ih (fun q hq => hr q (List.mem_cons_of_mem _ hq)) h'
/-- Signs of cells alone. -/
def Val (ρ : List UInt8) : Prop := ∀ b, b ∈ ρ → ∃ t : Int, 0 ≤ t ∧ t < 9 ∧ b = b8 (Pu.stateLetter t)
theorem val_back {b : UInt8} (h : ∃ t : Int, 0 ≤ t ∧ t < 9 ∧ b = b8 (Pu.stateLetter t)) : b8 (Pu.stateLetter (sv b)) = b := by
  obtain ⟨t, h0, h1, rfl⟩ := h
  rw [(sg_cases (c := 9) (by omega) h0 h1).2.2.1]
theorem val_zero {b : UInt8} (h : ∃ t : Int, 0 ≤ t ∧ t < 9 ∧ b = b8 (Pu.stateLetter t)) (hz : sv b = 0) : b = 46 := by
  rw [← val_back h, hz]
  rfl
/-- One row within one. -/
theorem row_sub {ρ : List UInt8} (hv : Val ρ) {G : Int → Int} (hG : ∀ x, 0 ≤ G x ∧ G x ≤ 8) {L : Int} {n bb e : Nat} (he : e ≤ bb)
    (hr : ∀ j0 : Nat, j0 < n → G (L + j0) ≠ 0 → ∀ j : Nat, j ≤ j0 → G (L + j) = sv (ρ.getD (bb + j) 46))
    (hd : e ≠ 0 → e = bb ∧ G (L + (0 : Nat)) ≠ 0 ∧ 0 < n ∧ ∀ j, j < bb → sv (ρ.getD j 46) = 0) : (List.replicate e 46 ++ xrow G L n).Sublist ρ := by
  obtain ⟨m, hm, ex, hz, hlast⟩ := xrow_spec G L hG n
  rw [ex]
  rcases hlast with rfl | ⟨j0, rfl, hj⟩
  · by_cases e0 : e = 0
    · subst e0
      exact List.nil_sublist _
    · obtain ⟨_, h1, h2, _⟩ := hd e0
      exact absurd (hz 0 (by omega) h2) h1
  · have hrow := hr j0 (by omega) hj
    have hlen : bb + j0 < ρ.length := by
      rcases Nat.lt_or_ge (bb + j0) ρ.length with h | h
      · exact h
      · have := hrow j0 (Nat.le_refl _)
        rw [show ρ.getD (bb + j0) 46 = 46 by simp [List.getD, List.getElem?_eq_none h]] at this
        exact absurd this hj
    have gd : ∀ x (h : x < ρ.length), ρ.getD x 46 = ρ[x] := fun x h => by simp [List.getD, h]
    have key : List.replicate e 46 ++ (List.range (j0 + 1)).map (sg G L) = (ρ.drop (bb - e)).take (e + (j0 + 1)) := by
      apply List.ext_getElem
      · simp
        omega
      · intro q h1 h2
        simp only [List.length_append, List.length_replicate, List.length_map, List.length_range] at h1
        rw [List.getElem_take, List.getElem_drop]
        by_cases hq : q < e
        · rw [List.getElem_append_left (by simpa using hq), List.getElem_replicate]
          obtain ⟨d1, d2, d3, d4⟩ := hd (by omega)
          have hx : bb - e + q < ρ.length := by omega
          have z := d4 (bb - e + q) (by omega)
          rw [gd _ hx] at z
          exact (val_zero (hv _ (List.getElem_mem hx)) z).symm
        · rw [List.getElem_append_right (by simpa using hq)]
          simp only [List.length_replicate, List.getElem_map, List.getElem_range]
          have hx : bb - e + q < ρ.length := by omega
          have z := hrow (q - e) (by omega)
          rw [show bb + (q - e) = bb - e + q by omega, gd _ hx] at z
          unfold sg
          rw [z]
          exact val_back (hv _ (List.getElem_mem hx))
    rw [key]
    exact (List.take_sublist _ _).trans (List.drop_sublist _ _)
theorem jn_down : ∀ (a : Nat) (R : List (List UInt8)), R ≠ [] → jn (List.replicate a [] ++ R) = List.replicate a 36 ++ jn R := by
  intro a
  induction a with
  | zero => intro R _; rfl
  | succ a ih =>
    intro R h
    rw [List.replicate_succ, List.replicate_succ, List.cons_append, List.cons_append]
    have hne : List.replicate a [] ++ R ≠ [] := by simp [h]
    obtain ⟨s, S, e⟩ : ∃ s S, List.replicate a [] ++ R = s :: S := by
      cases e : List.replicate a [] ++ R with
      | nil => exact absurd e hne
      | cons s S => exact ⟨s, S, rfl⟩
    rw [← ih R h, e]
    rfl
def pre (A : List (List UInt8)) : List UInt8 := if A = [] then [] else jn A ++ [36]
def post (B : List (List UInt8)) : List UInt8 := if B = [] then [] else 36 :: jn B
theorem jn_mid (z : List UInt8) (B : List (List UInt8)) : ∀ A : List (List UInt8), jn (A ++ z :: B) = pre A ++ (z ++ post B) := by
  intro A
  induction A with
  | nil =>
    show jn (z :: B) = [] ++ (z ++ post B)
    unfold post
    cases B with
    | nil => simp [jn]
    | cons b B => simp [jn]
  | cons a A ih =>
    have e : jn (a :: (A ++ z :: B)) = a ++ 36 :: jn (A ++ z :: B) := by
      cases A with
      | nil => rfl
      | cons a2 A => rfl
    rw [List.cons_append, e, ih]
    unfold pre
    rw [if_neg (show ¬ (a :: A = []) by simp)]
    cases A with
    | nil => simp [jn]
    | cons a2 A => simp [jn]
theorem cst_app : ∀ (A : List UInt8) (x : UInt8) (n : Nat), ∃ K y m, (∀ M, cst x n (A ++ M) = K + cst y m M) ∧ (A = [] → K = 0 ∧ y = x ∧ m = n) ∧ ∀ a, A.getLast? = some a → y = a := by
  intro A
  induction A with
  | nil => intro x n; exact ⟨0, x, n, fun M => by simp, fun _ => ⟨rfl, rfl, rfl⟩, by simp⟩
  | cons b A ih =>
    intro x n
    have last : ∀ y : UInt8, ∀ m : Nat, (∀ a, A.getLast? = some a → y = a) → (A = [] → y = b) → ∀ a, (b :: A).getLast? = some a → y = a := by
      intro y m h1 h2 a ha
      cases A with
      | nil => simp at ha; rw [← ha]; exact h2 rfl
      | cons c A => rw [List.getLast?_cons_cons] at ha; exact h1 a ha
    by_cases e : b = x
    · obtain ⟨K, y, m, h1, h2, h3⟩ := ih x (n + 1)
      refine ⟨K, y, m, fun M => ?_, by simp, last y m h3 (fun h => by rw [(h2 h).2.1, e])⟩
      show (if b = x then cst x (n + 1) (A ++ M) else _) = _
      rw [if_pos e, h1]
    · obtain ⟨K, y, m, h1, h2, h3⟩ := ih b 1
      refine ⟨cs n + K, y, m, fun M => ?_, by simp, last y m h3 (fun h => (h2 h).2.1)⟩
      show (if b = x then _ else cs n + cst b 1 (A ++ M)) = _
      rw [if_neg e, h1]
      omega
theorem cst_ne {x d : UInt8} (h : d ≠ x) (n : Nat) (M : List UInt8) : cst x n (d :: M) = cs n + cst d 1 M := by
  show (if d = x then _ else cs n + cst d 1 M) = _
  rw [if_neg h]
theorem cst_zero (x d : UInt8) (M : List UInt8) : cst x 0 (d :: M) = cst d 1 M := by
  rw [cst_start x d]
  show (if d = d then cst d (0 + 1) M else _) = _
  rw [if_pos rfl]
/-- Line ends ahead cost their own. -/
theorem cst_ahead (a : Nat) {d : UInt8} (hd : d ≠ 36) (M : List UInt8) : cst 0 0 (List.replicate a 36 ++ d :: M) = cs a + cst 0 0 (d :: M) := by
  rw [cst_start 0 36, cst_rep, Nat.zero_add, cst_ne hd, cst_zero]
/-- Dots in front of a row cost their own. -/
theorem cst_dots {A : List (List UInt8)} {d : UInt8} (h36 : d ≠ 36) (h46 : d ≠ 46) (e : Nat) (M : List UInt8) : cst 0 0 (pre A ++ (List.replicate e 46 ++ d :: M)) = cs e + cst 0 0 (pre A ++ d :: M) := by
  by_cases e0 : e = 0
  · subst e0
    simp [cs]
  · obtain ⟨K, y, m, h1, h2, h3⟩ := cst_app (pre A) 0 0
    rw [h1, h1]
    obtain ⟨j, rfl⟩ : ∃ j, e = j + 1 := ⟨e - 1, by omega⟩
    have d1 : cst 46 1 (List.replicate j 46 ++ d :: M) = cs (j + 1) + cst d 1 M := by
      rw [cst_rep, cst_ne h46, show 1 + j = j + 1 by omega]
    rw [List.replicate_succ, List.cons_append]
    by_cases hA : A = []
    · have hp : pre A = [] := by unfold pre; rw [if_pos hA]
      obtain ⟨k1, k2, k3⟩ := h2 hp
      subst k1 k2 k3
      rw [cst_zero, d1, cst_zero]
      omega
    · have hl : (pre A).getLast? = some 36 := by
        unfold pre
        rw [if_neg hA]
        simp
      have hy := h3 36 hl
      subst hy
      rw [cst_ne (by decide), d1, cst_ne h36]
      omega
end Go.Proofs.YtbdbkjngdhcjpaaDoor
namespace Go.Proofs.YtbdbkjngdhcjpaaDoor
open Go.RowKit
open Go.Proofs

theorem rowsv_ne {R : List (List UInt8)} {z y : Int} (h : rowsv R z y ≠ 0) : 0 ≤ z ∧ 0 ≤ y ∧ y.toNat < R.length := by
  unfold rowsv at h
  split at h
  · exact absurd rfl h
  · rename_i h1
    refine ⟨?_, by omega, ?_⟩
    · unfold rowv at h
      split at h
      · exact absurd rfl h
      · omega
    · rcases Nat.lt_or_ge y.toNat R.length with h2 | h2
      · exact h2
      · rw [show R.getD y.toNat [] = [] by simp [List.getD, List.getElem?_eq_none h2], rowv_nil] at h
        exact absurd rfl h
theorem jn_first {d : UInt8} {r : List UInt8} : ∀ {Q : List (List UInt8)}, Q.getD 0 [] = d :: r → ∃ M, jn Q = d :: M := by
  intro Q h
  cases Q with
  | nil => simp at h
  | cons q Q =>
    have e : q = d :: r := by simpa using h
    subst e
    cases Q with
    | nil => exact ⟨r, rfl⟩
    | cons s Q => exact ⟨r ++ 36 :: jn (s :: Q), rfl⟩
theorem xrow_first (G : Int → Int) (L : Int) (hG : ∀ x, 0 ≤ G x ∧ G x ≤ 8) (n : Nat) (h : xrow G L n ≠ []) : ∃ M, xrow G L n = sg G L 0 :: M := by
  obtain ⟨m, _, e, _, _⟩ := xrow_spec G L hG n
  rw [e] at h ⊢
  cases m with
  | zero => exact absurd rfl h
  | succ m => exact ⟨_, by rw [List.range_succ_eq_map, List.map_cons]⟩
/-- What is saved is no longer than what was read. -/
theorem saved_short {p : Pu.Parts} (hp : Pu.PartsOk p) (G : Int → Int → Int) (hGd : G = atL (liveOf p)) (hG : ∀ x y, 0 ≤ G x y ∧ G x y ≤ 8) {L T : Int} (hL9 : L ≤ 9999) (hT9 : T ≤ 9999) {n k i1 : Nat}
    (hin : ∀ X Y, G X Y ≠ 0 → (L ≤ X ∧ X < L + n) ∧ (T ≤ Y ∧ Y < T + k)) (h1 : i1 < k) (hLv : G L (T + i1) ≠ 0) (hTv : ∃ X, G X T ≠ 0) (hBv : ∃ X, G X (T + k - 1) ≠ 0) :
    (Lib.itoa L).length + (Lib.itoa T).length + cst 0 0 (xrows G L T n k) ≤ (Lib.itoa p.col).length + (Lib.itoa p.row).length + cst 0 0 (ex p.runs) := by
  obtain ⟨R, hR⟩ : ∃ R, sp (ex p.runs) = R := ⟨_, rfl⟩
  have hc := hp.col
  have hrw := hp.row
  have hg : ∀ X Y, G X Y = if onSideB X p.shape.w = true ∧ onSideB Y p.shape.h = true then rowsv R (X - p.col) (Y - p.row) else 0 := by
    intro X Y
    rw [hGd, live_rows hp, hR]
  have hgn : ∀ X Y, G X Y ≠ 0 → (onSideB X p.shape.w = true ∧ onSideB Y p.shape.h = true) ∧ rowsv R (X - p.col) (Y - p.row) ≠ 0 := by
    intro X Y h
    rw [hg] at h
    by_cases o : onSideB X p.shape.w = true ∧ onSideB Y p.shape.h = true
    · rw [if_pos o] at h
      exact ⟨o, h⟩
    · rw [if_neg o] at h
      exact absurd rfl h
  obtain ⟨XT, hXT⟩ := hTv
  obtain ⟨XB, hXB⟩ := hBv
  have eL := hgn _ _ hLv
  have eT := hgn _ _ hXT
  have eB := hgn _ _ hXB
  have rL := rowsv_ne eL.2
  have rT := rowsv_ne eT.2
  have rB := rowsv_ne eB.2
  obtain ⟨a, ha⟩ := Int.eq_ofNat_of_zero_le rT.2.1
  obtain ⟨bb, hbb⟩ := Int.eq_ofNat_of_zero_le rL.1
  have hlen : a + k ≤ R.length := by have := rB.2.2; omega
  have hn0 : 0 < n := by have := hin _ _ hLv; omega
  obtain ⟨e, hee, hec⟩ : ∃ e : Nat, (Lib.itoa L).length ≤ (Lib.itoa p.col).length + cs e ∧ (e = 0 ∨ (e = bb ∧ (Lib.itoa p.col).length < (Lib.itoa L).length)) := by
    by_cases h : (Lib.itoa L).length ≤ (Lib.itoa p.col).length
    · exact ⟨0, by simp [cs]; exact h, Or.inl rfl⟩
    · refine ⟨bb, ?_, Or.inr ⟨rfl, by omega⟩⟩
      have := itoa_grow p.col L hc.1 (by omega) hL9
      rwa [show (L - p.col).toNat = bb by omega] at this
  have hT2 := itoa_grow p.row T hrw.1 (by omega) hT9
  rw [show (T - p.row).toNat = a by omega] at hT2
  -- the rows
  have hval : ∀ i : Nat, Val (R.getD i []) := by
    intro i b hb
    rcases Nat.lt_or_ge i R.length with h2 | h2
    · have hm : R.getD i [] ∈ sp (ex p.runs) := by
        rw [hR, show R.getD i [] = R[i] by simp [List.getD, h2]]
        exact List.getElem_mem h2
      obtain ⟨m1, m2⟩ := mem_sp hm hb
      rcases mem_ex hp.runs m1 with m1 | ⟨t, t0, t1, t2⟩
      · exact absurd m1 m2
      · exact ⟨t, t0, by have := hp.states.2; omega, t2⟩
    · rw [show R.getD i [] = [] by simp [List.getD, List.getElem?_eq_none h2]] at hb
      simp at hb
  have side : ∀ (w X Z V : Int), onSideB X w = true → onSideB Z w = true → X ≤ V → V ≤ Z → onSideB V w = true := by
    intro w X Z V o1 o2 v1 v2
    unfold onSideB at *
    rw [decide_eq_true_iff] at *
    omega
  have rowOf : ∀ (X : Int) (i : Nat), rowsv R (X - p.col) (T + i - p.row) = rowv (R.getD (a + i) []) (X - p.col) := by
    intro X i
    unfold rowsv
    rw [if_neg (by omega), show (T + (i : Int) - p.row).toNat = a + i by omega]
  have at1 : ∀ (ρ : List UInt8) (X : Int) (j : Nat), X - p.col = j → rowv ρ (X - p.col) = sv (ρ.getD j 46) := by
    intro ρ X j h
    unfold rowv
    rw [if_neg (by omega), h, Int.toNat_natCast]
  have sub : ∀ i : Nat, i < k → ∀ e' : Nat, (e' = 0 ∨ (e' = e ∧ i = i1)) → (List.replicate e' 46 ++ Rd G L T n i).Sublist (R.getD (a + i) []) := by
    intro i hi e' he'
    unfold Rd
    refine row_sub (hval (a + i)) (G := fun x => G x (T + i)) (fun x => hG x _) (bb := bb) (by omega) ?_ ?_
    · intro j0 hj0 hne j hj
      skip
      have g0 := hgn _ _ hne
      have o := side _ L (L + j0) (L + j) eL.1.1 g0.1.1 (by omega) (by omega)
      rw [hg, if_pos ⟨o, g0.1.2⟩, rowOf, at1 _ _ (bb + j) (by omega)]
    · intro hne
      obtain ⟨ee, ei⟩ : e' = e ∧ i = i1 := by omega
      subst ee ei
      obtain ⟨eb, hlt⟩ : e' = bb ∧ (Lib.itoa p.col).length < (Lib.itoa L).length := by
        rcases hec with h | h
        · exact absurd h hne
        · exact h
      refine ⟨eb, ?_, hn0, fun j hj => ?_⟩
      · skip
        rw [show L + ((0 : Nat) : Int) = L by omega]
        exact hLv
      · have hz : G (p.col + j) (T + i) = 0 := by
          by_cases z : G (p.col + j) (T + i) = 0
          · exact z
          · have := (hin _ _ z).1
            omega
        have o : onSideB (p.col + j) p.shape.w = true := by
          have oL := eL.1.1
          unfold onSideB at oL ⊢
          rw [decide_eq_true_iff] at *
          rcases oL with oL | oL
          · exact Or.inl oL
          · have w12 := hp.shape.w12
            have c0 : 0 ≤ p.col := by
              rcases Int.lt_or_le p.col 0 with hneg | hpos
              · exfalso
                obtain ⟨m, hm⟩ : ∃ m : Nat, p.col = -(m : Int) := ⟨p.col.natAbs, by omega⟩
                obtain ⟨m2, hm2⟩ := Int.eq_ofNat_of_zero_le oL.1
                rw [hm, hm2, itoa_neg m (by omega), itoa_dl m (by omega), itoa_dl m2 (by omega)] at hlt
                revert hlt
                repeat' split
                all_goals omega
              · exact hpos
            omega
        rw [hg, if_pos ⟨o, eL.1.2⟩, rowOf, at1 _ _ j (by omega)] at hz
        exact hz
  obtain ⟨q, hq⟩ : ∃ q, q = (List.range k).map (Rd G L T n) := ⟨_, rfl⟩
  have ql : q.length = k := by rw [hq]; simp
  have qg : ∀ i, i < k → q.getD i [] = Rd G L T n i := fun i hi => by rw [hq]; simp [List.getD, hi]
  obtain ⟨z, hz⟩ : ∃ z, z = Rd G L T n i1 := ⟨_, rfl⟩
  have q1 : q = q.take i1 ++ z :: q.drop (i1 + 1) := by
    have : q = q.set i1 z := by
      apply List.ext_getElem
      · simp
      · intro j j1 j2
        rw [List.getElem_set]
        split
        · rename_i ej
          subst ej
          have := qg i1 h1
          rw [hz, ← this]
          simp [List.getD, j1]
        · rfl
    conv => lhs; rw [this]
    rw [List.set_eq_take_append_cons_drop, if_pos (by omega)]
  have hzne : z ≠ [] := by
    rw [hz]
    exact xrow_ne _ _ _ 0 hn0 (by rw [show L + ((0 : Nat) : Int) = L by omega]; exact hLv)
  obtain ⟨M, hM⟩ := xrow_first (fun x => G x (T + i1)) L (fun x => hG x _) n (by rw [hz] at hzne; exact hzne)
  obtain ⟨sv1, s36, s46⟩ := sg_facts (G := fun x => G x (T + i1)) (l := L) (fun x => hG x _) 0
  have s46' := s46 (by rw [show L + ((0 : Nat) : Int) = L by omega]; exact hLv)
  have hzM : z = sg (fun x => G x (T + i1)) L 0 :: M := by rw [hz]; exact hM
  generalize sg (fun x => G x (T + i1)) L 0 = d at *
  obtain ⟨Q, hQ⟩ : ∃ Q, Q = q.set i1 (List.replicate e 46 ++ z) := ⟨_, rfl⟩
  have Q1 : Q = q.take i1 ++ (List.replicate e 46 ++ z) :: q.drop (i1 + 1) := by rw [hQ, List.set_eq_take_append_cons_drop, if_pos (by omega)]
  have Ql : Q.length = k := by rw [hQ]; simp [ql]
  have Qg : ∀ i, i < k → Q.getD i [] = if i = i1 then List.replicate e 46 ++ z else Rd G L T n i := by
    intro i hi
    rw [← qg i hi, hQ]
    unfold List.getD
    rw [List.getElem?_set]
    by_cases ei : i1 = i
    · subst ei
      rw [if_pos rfl, if_pos (by omega), if_pos rfl]
      rfl
    · rw [if_neg ei, if_neg (fun h => ei h.symm)]
  have hsub : (jn (List.replicate a [] ++ Q)).Sublist (jn R) := by
    refine jn_sub _ _ (by intro hc; have := congrArg List.length hc; simp [Ql] at this; omega) (subR_of _ _ (by simp [Ql]; omega) fun i hi => ?_)
    simp only [List.length_append, List.length_replicate, Ql] at hi
    by_cases hia : i < a
    · rw [show (List.replicate a ([] : List UInt8) ++ Q).getD i [] = [] by simp [List.getD, List.getElem?_append_left, hia]]
      exact List.nil_sublist _
    · rw [show (List.replicate a ([] : List UInt8) ++ Q).getD i [] = Q.getD (i - a) [] by
        unfold List.getD
        rw [List.getElem?_append_right (by simp; omega)]
        simp, Qg _ (by omega)]
      obtain ⟨j, rfl⟩ : ∃ j, i = a + j := ⟨i - a, by omega⟩
      rw [show a + j - a = j by omega]
      by_cases ej : j = i1
      · rw [if_pos ej, hz, ← ej]
        exact sub j (by omega) e (Or.inr ⟨rfl, ej⟩)
      · rw [if_neg ej]
        exact sub j (by omega) 0 (Or.inl rfl)
  have hQne : Q ≠ [] := by intro hc; rw [hc] at Ql; simp at Ql; omega
  have hfirst : ∃ d0 M0, jn Q = d0 :: M0 ∧ d0 ≠ 36 := by
    have h0 := Qg 0 (by omega)
    by_cases e1 : 0 = i1
    · rw [if_pos e1, hzM] at h0
      by_cases e0 : e = 0
      · rw [e0] at h0
        obtain ⟨M0, hM0⟩ := jn_first h0
        exact ⟨d, M0, hM0, s36⟩
      · obtain ⟨j, rfl⟩ : ∃ j, e = j + 1 := ⟨e - 1, by omega⟩
        rw [List.replicate_succ, List.cons_append] at h0
        obtain ⟨M0, hM0⟩ := jn_first h0
        exact ⟨46, M0, hM0, by decide⟩
    · rw [if_neg e1] at h0
      have hx := (hin _ _ hXT).1
      have e9 : ((XT - L).toNat : Int) = XT - L := by omega
      have hne0 : xrow (fun x => G x (T + (0 : Nat))) L n ≠ [] := xrow_ne _ _ _ (XT - L).toNat (by omega) (by
        skip
        rw [e9, show L + (XT - L) = XT by omega, show T + ((0 : Nat) : Int) = T by omega]
        exact hXT)
      obtain ⟨M1, hM1⟩ := xrow_first _ L (fun x => hG x _) n hne0
      unfold Rd at h0
      rw [hM1] at h0
      obtain ⟨M0, hM0⟩ := jn_first h0
      exact ⟨_, M0, hM0, (sg_facts (G := fun x => G x (T + (0 : Nat))) (l := L) (fun x => hG x _) 0).2.1⟩
  have hc1 := cst_sub hsub 0 0
  rw [jn_down a Q hQne] at hc1
  obtain ⟨d0, M0, hM0, hd0⟩ := hfirst
  rw [hM0, cst_ahead a hd0, ← hM0] at hc1
  have hc2 : cst 0 0 (jn Q) = cs e + cst 0 0 (jn q) := by
    rw [Q1, jn_mid]
    conv => rhs; rw [q1, jn_mid]
    rw [hzM, List.append_assoc, List.cons_append]
    exact cst_dots s36 s46' e _
  rw [hc2] at hc1
  rw [xrows_jn, ← hq]
  rw [← hR, jn_sp] at hc1
  omega
end Go.Proofs.YtbdbkjngdhcjpaaDoor
