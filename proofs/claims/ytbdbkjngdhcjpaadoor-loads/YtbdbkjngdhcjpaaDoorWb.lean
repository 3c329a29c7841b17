import Derived.Test.YtbdbkjngdhcjpaaDoorWa
import Derived.Deep.LoopGhost
namespace Go.Proofs.YtbdbkjngdhcjpaaDoor
open Go.RowKit
open Go.Proofs

set_option maxHeartbeats 400000 in
theorem begins_any (v lo hi : Int) (w : World) (h0 : 0 ≤ v) (h1 : v ≤ 9999999) (h2 : 0 ≤ lo) (h3 : lo ≤ 999999) (h4 : 0 ≤ hi) (h5 : hi ≤ 999999) :
    Calls Tryd.prog 112 #[.int .i64 v, .int .i64 lo, .int .i64 hi] w fun e w' => e = .returned (.bool (Pu.begins v lo hi)) ∧ w' = w := by
  by_cases hv : v = 0
  · subst hv
    go_enter Tryd.func112, Tryd.ntmps112
    go_wp2
    go_ret
    exact ⟨ret_bool (by unfold Pu.begins; rw [if_pos rfl, Bool.eq_iff_iff]; simp), rfl⟩
  · have hb : (v == 0) = false := by simpa using hv
    have HE : Hid (Pu.begins v lo hi = Pu.bgS lo hi v v) := by unfold Hid Pu.begins; rw [if_neg hv]
    rw [HE.out]
    clear HE
    go_enter Tryd.func112, Tryd.ntmps112
    go_wp2
    go_loop [7, 8] (fun l a => ∃ x y : Int, l = .int .i64 x ∧ a = .int .i64 y ∧ 1 ≤ y ∧ y ≤ 9999999 ∧ 0 ≤ x ∧ x ≤ 10000000 ∧ Pu.bgS lo hi y x = Pu.bgS lo hi v v) (fun _ a => (hi + 1 - intOf a).toNat)
    case atStart => exact ⟨v, v, rfl, rfl, by omega, by omega, by omega, by omega, rfl⟩
    case round =>
      obtain ⟨x, y, rfl, rfl, g1, g2, g3, g4, g5⟩ := hrel
      have G : Hid (Pu.bgS lo hi y x = Pu.bgS lo hi v v) := g5
      have E : Hid (Pu.bgS lo hi y x = if y ≤ hi then (if lo ≤ x then true else Pu.bgS lo hi (y * 10) (x * 10 + 9)) else false) := Pu.bgS_eq lo hi y x g1
      clear g5
      by_cases k1 : y ≤ hi
      · by_cases k2 : lo ≤ x
        · go_wp2
          go_ret
          refine ⟨ret_bool ?_, rfl⟩
          rw [← G.out, E.out, if_pos k1, if_pos k2]
        · go_wp2
          go_round
          case rel => exact ⟨x * 10 + 9, y * 10, rfl, rfl, by omega, by omega, by omega, by omega, by rw [← G.out, E.out, if_pos k1, if_neg k2]⟩
          case measure => simp [intOf]; omega
      · go_wp2
        go_ret
        refine ⟨ret_bool ?_, rfl⟩
        rw [← G.out, E.out, if_neg (by omega)]

theorem many_stop {σ : Type} {step : σ → Int → Option σ} {f : Pu.Src} {n i : Nat} {v : σ} (h : step v (Pu.digit f i) = none) : Pu.many step n v f i = (i, some v) := by
  cases n with
  | zero => rfl
  | succ n => unfold Pu.many; rw [h]
theorem many_go {σ : Type} {step : σ → Int → Option σ} {f : Pu.Src} {n i : Nat} {v v' : σ} (h : step v (Pu.digit f i) = some v') : Pu.many step (n + 1) v f i = Pu.many step n v' f (i + 1) := by
  conv => lhs; unfold Pu.many
  rw [h]

/-- What number has done behind k digits. -/
def NumRel (s : ByteArray) (lo hi : Int) (i k : Nat) (x : Int) : Prop :=
  Pu.many (Pu.numStep lo hi) 401 (false, 0) (src s) i = Pu.many (Pu.numStep lo hi) (401 - k) (decide (0 < k), x) (src s) (i + k)
theorem NumRel.done {s : ByteArray} {lo hi : Int} {i k : Nat} {x : Int} (h : NumRel s lo hi i k x) {j : Nat} {o : Option Int} (hq : Pu.number lo hi (src s) i = (j, o))
    (hst : Pu.numStep lo hi (decide (0 < k), x) (Pu.digit (src s) (i + k)) = none) : j = i + k ∧ o = if 0 < k ∧ lo ≤ x ∧ x ≤ hi then some x else none := by
  unfold NumRel at h
  rw [many_stop hst] at h
  unfold Pu.number Pu.bnd at hq
  rw [h] at hq
  simp at hq
  exact ⟨hq.1.symm, hq.2.symm⟩
theorem NumRel.next {s : ByteArray} {lo hi : Int} {i k : Nat} {x : Int} (h : NumRel s lo hi i k x) (hk : k < 401) (h1 : 0 ≤ Pu.digit (src s) (i + k)) (h2 : ¬ (x = 0 ∧ 0 < k))
    (h3 : Pu.begins (x * 10 + Pu.digit (src s) (i + k)) lo hi = true) : NumRel s lo hi i (k + 1) (x * 10 + Pu.digit (src s) (i + k)) := by
  unfold NumRel at h ⊢
  rw [h]
  have e : 401 - k = (401 - (k + 1)) + 1 := by omega
  rw [e, many_go (v' := (true, x * 10 + Pu.digit (src s) (i + k)))]
  · simp; rfl
  · unfold Pu.numStep
    rw [if_neg]
    simp only [h3]
    simp
    refine ⟨h1, fun hx => ?_⟩
    omega
theorem num_stop1 {lo hi d x : Int} {k : Nat} (h : d < 0) : Pu.numStep lo hi (decide (0 < k), x) d = none := by unfold Pu.numStep; rw [if_pos (Or.inl h)]
theorem num_stop2 {lo hi d x : Int} {k : Nat} (h : x = 0) (h2 : 0 < k) : Pu.numStep lo hi (decide (0 < k), x) d = none := by unfold Pu.numStep; rw [if_pos (Or.inr (Or.inl ⟨h, by simpa using h2⟩))]
theorem num_stop3 {lo hi d x : Int} {k : Nat} (h : Pu.begins (x * 10 + d) lo hi = false) : Pu.numStep lo hi (decide (0 < k), x) d = none := by unfold Pu.numStep; rw [if_pos (Or.inr (Or.inr h))]

/-- What a call that reads a number hands back. -/
def NumRet (e : Ending) (o : Option Int) : Prop := ∃ x : Int, e = .returned (.tuple #[.int .i64 x, .bool o.isSome]) ∧ ∀ a, o = some a → x = a

set_option maxRecDepth 100000 in
set_option maxHeartbeats 1000000 in
theorem number_any (b : Nat) (s : ByteArray) (i : Nat) (lo hi : Int) (w : World) (h : RdAt w b s i) (h2 : 0 ≤ lo) (h3 : lo ≤ 999999) (h4 : 0 ≤ hi) (h5 : hi ≤ 999999) (j : Nat) (o : Option Int) (hq : Hid (Pu.number lo hi (src s) i = (j, o))) :
    Calls Tryd.prog 95 #[.pointer (some ⟨b, 0, none⟩), .int .i64 lo, .int .i64 hi] w fun e w' => NumRet e o ∧ RdAt w' b s j ∧ Kp (· = b) w w' := by
  have H0 : Hid (RdAt w b s i) := h
  have hs := h.few
  have hle := h.le
  have c1 := h.c1
  clear h
  go_enter Tryd.func95, Tryd.ntmps95
  go_wp2
  clear c1
  go_loopg [9] (s.size - i) (fun gk v wr => ∃ (k : Nat) (x : Int), i + k ≤ s.size ∧ s.size ≤ i + k + gk ∧ v = .int .i64 x ∧ 0 ≤ x ∧ x ≤ hi ∧ RdAt wr b s (i + k) ∧ Kp (· = b) w wr ∧ NumRel s lo hi i k x)
  case atStart => exact ⟨0, 0, hle, by omega, rfl, by omega, h4, H0.out, Kp.refl _ _, rfl⟩
  case round =>
    obtain ⟨k, x, g1, g1', rfl, g2, g3, g4, g5, g6⟩ := hrel
    have c0 := g4.c0
    have c1 := g4.c1
    have f1 := g4.f1
    have e1 : ((i + k : Nat) : Int) = (i : Int) + k := by omega
    rw [e1] at c1
    clear e1
    have G4 : Hid (RdAt wr b s (i + k)) := g4
    have G5 : Hid (Kp (· = b) w wr) := g5
    have G6 : Hid (NumRel s lo hi i k x) := g6
    clear g4 g5 g6
    have hdb := Pu.digit_bd (src s) (i + k)
    have hfin : ∀ a : World, RdAt a b s (i + k) → Kp (· = b) w a → Pu.numStep lo hi (decide (0 < k), x) (Pu.digit (src s) (i + k)) = none → ∀ e : Ending, (∃ y : Bool, e = .returned (.tuple #[.int .i64 x, .bool y]) ∧ y = decide (0 < k ∧ lo ≤ x ∧ x ≤ hi)) → NumRet e o ∧ RdAt a b s j ∧ Kp (· = b) w a := by
      rintro a ha hka hst e ⟨y, rfl, rfl⟩
      obtain ⟨rfl, rfl⟩ := G6.out.done hq.out hst
      refine ⟨⟨x, ?_, ?_⟩, ha, hka⟩
      · by_cases hc : 0 < k ∧ lo ≤ x ∧ x ≤ hi
        · rw [if_pos hc, decide_eq_true hc]; rfl
        · rw [if_neg hc, decide_eq_false hc]; rfl
      · intro a ha
        by_cases hc : 0 < k ∧ lo ≤ x ∧ x ≤ hi
        · rw [if_pos hc] at ha; exact Option.some.inj ha
        · rw [if_neg hc] at ha; simp at ha
    have HF := hide hfin
    clear hfin
    have GD : Hid (∀ n, RdAt (wr.drewN n) b s (i + k)) := fun n => G4.out.drewN n
    by_cases hlt : i + k < s.size
    · by_cases d0 : Pu.digit (src s) (i + k) < 0
      · have ST : Hid (Pu.numStep lo hi (decide (0 < k), x) (Pu.digit (src s) (i + k)) = none) := num_stop1 d0
        by_cases x0 : x = 0
        · subst x0
          go_wp2_with fail
          go_quiet (fail)
          go_wp2_with fail
          refine (digit_any b s (i + k) _ (GD.out _)).mono ?_
          rintro e w' ⟨rfl, n, rfl⟩
          generalize Pu.digit (src s) (i + k) = d at *
          go_wp2_with fail
          all_goals
            go_ret2
            refine HF.out _ (GD.out _) (G5.out.drewN _) ST.out _ ⟨_, rfl, ?_⟩
            symm
            first | (apply decide_eq_true; omega) | (apply decide_eq_false; omega)
        · have x1 : (x == 0) = false := by simpa using x0
          go_wp2_with fail
          go_quiet (fail)
          go_wp2_with fail
          refine (digit_any b s (i + k) _ (GD.out _)).mono ?_
          rintro e w' ⟨rfl, n, rfl⟩
          generalize Pu.digit (src s) (i + k) = d at *
          go_wp2_with fail
          all_goals
            go_ret2
            refine HF.out _ (GD.out _) (G5.out.drewN _) ST.out _ ⟨_, rfl, ?_⟩
            symm
            first | (apply decide_eq_true; omega) | (apply decide_eq_false; omega)
      · by_cases d1 : x = 0 ∧ 0 < k
        · have ST : Hid (Pu.numStep lo hi (decide (0 < k), x) (Pu.digit (src s) (i + k)) = none) := num_stop2 d1.1 d1.2
          obtain ⟨x0, k0⟩ := d1
          subst x0
          go_wp2_with fail
          go_quiet (fail)
          go_wp2_with fail
          refine (digit_any b s (i + k) _ (GD.out _)).mono ?_
          rintro e w' ⟨rfl, n, rfl⟩
          generalize Pu.digit (src s) (i + k) = d at *
          go_wp2_with fail
          all_goals
            go_ret2
            refine HF.out _ (GD.out _) (G5.out.drewN _) ST.out _ ⟨_, rfl, ?_⟩
            symm
            first | (apply decide_eq_true; omega) | (apply decide_eq_false; omega)
        · have d3 : 0 ≤ Pu.digit (src s) (i + k) := by omega
          cases d2 : Pu.begins (x * 10 + Pu.digit (src s) (i + k)) lo hi with
          | false =>
            have ST : Hid (Pu.numStep lo hi (decide (0 < k), x) (Pu.digit (src s) (i + k)) = none) := num_stop3 d2
            have D2 := hide d2
            clear d2
            go_wp2_with fail
            go_quiet (fail)
            go_wp2_with fail
            refine (digit_any b s (i + k) _ (GD.out _)).mono ?_
            rintro e w' ⟨rfl, n, rfl⟩
            generalize Pu.digit (src s) (i + k) = d at *
            by_cases x0 : x = 0
            · subst x0
              have k0 : k = 0 := by omega
              subst k0
              rw [show (0 : Int) * 10 + d = d from by omega] at D2
              go_wp2_with fail
              refine (begins_any d lo hi _ (by omega) (by omega) h2 h3 h4 h5).mono ?_
              rw [D2.out]
              rintro e w' ⟨rfl, rfl⟩
              go_wp2_with fail
              all_goals
                go_ret2
                refine HF.out _ (GD.out _) (G5.out.drewN _) ST.out _ ⟨_, rfl, ?_⟩
                symm
                first | (apply decide_eq_true; omega) | (apply decide_eq_false; omega)
            · go_wp2_with fail
              refine (begins_any (x * 10 + d) lo hi _ (by omega) (by omega) h2 h3 h4 h5).mono ?_
              rw [D2.out]
              rintro e w' ⟨rfl, rfl⟩
              go_wp2_with fail
              all_goals
                go_ret2
                refine HF.out _ (GD.out _) (G5.out.drewN _) ST.out _ ⟨_, rfl, ?_⟩
                symm
                first | (apply decide_eq_true; omega) | (apply decide_eq_false; omega)
          | true =>
            have HB : Hid (x * 10 + Pu.digit (src s) (i + k) ≤ hi) := Pu.begins_le d2 (by omega) h4
            have HN : Hid (NumRel s lo hi i (k + 1) (x * 10 + Pu.digit (src s) (i + k))) := G6.out.next (by omega) d3 d1 d2
            have D2 := hide d2
            clear d2
            go_wp2_with fail
            go_quiet (fail)
            go_wp2_with fail
            refine (digit_any b s (i + k) _ (GD.out _)).mono ?_
            rintro e w' ⟨rfl, n, rfl⟩
            generalize Pu.digit (src s) (i + k) = d at *
            by_cases x0 : x = 0
            · subst x0
              have k0 : k = 0 := by omega
              subst k0
              rw [show (0 : Int) * 10 + d = d from by omega] at D2 HB HN
              go_wp2_with fail
              refine (begins_any d lo hi _ (by omega) (by omega) h2 h3 h4 h5).mono ?_
              rw [D2.out]
              rintro e w' ⟨rfl, rfl⟩
              go_wp2_with fail
              go_roundg (gk - 1)
              case measure => omega
              case rel => exact ⟨1, d, by omega, by omega, rfl, by omega, HB.out, (GD.out _).up2 hlt (by omega) (by omega), (G5.out.drewN _).setCell rfl _, HN.out⟩
            · go_wp2_with fail
              refine (begins_any (x * 10 + d) lo hi _ (by omega) (by omega) h2 h3 h4 h5).mono ?_
              rw [D2.out]
              rintro e w' ⟨rfl, rfl⟩
              go_wp2_with fail
              all_goals
                go_roundg (gk - 1)
                case measure => omega
                case rel => exact ⟨k + 1, x * 10 + d, by omega, by omega, rfl, by omega, HB.out, (GD.out _).up2 hlt (by omega) (by omega), (G5.out.drewN _).setCell rfl _, HN.out⟩
    · have ST : Hid (Pu.numStep lo hi (decide (0 < k), x) (Pu.digit (src s) (i + k)) = none) := num_stop1 (by rw [Pu.digit_end (src_ge hlt)]; omega)
      go_wp2_with fail
      go_quiet (fail)
      go_wp2_with fail
      all_goals
        go_ret2
        refine HF.out _ (GD.out _) (G5.out.drewN _) ST.out _ ⟨_, rfl, ?_⟩
        symm
        first | (apply decide_eq_true; omega) | (apply decide_eq_false; omega)
end Go.Proofs.YtbdbkjngdhcjpaaDoor
