import Derived.Test.YtbdbkjngdhcjpaaDoorM2
import Derived.Test.YtbdbkjngdhcjpaaDoorM3
namespace Go.Proofs.YtbdbkjngdhcjpaaDoor
open Go.RowKit
open Go.Proofs

/-- The document's reader at block b. -/
structure RxAt (w : World) (b : Nat) (s : ByteArray) (i : Nat) : Prop where
  row : w.heap[b]? = some (.cells #[.string s, .int .i64 i] 75 (0, 0))
  le : i ≤ s.size
  few : s.size ≤ 400
section
variable {w w' : World} {b : Nat} {s : ByteArray} {i : Nat}
theorem RxAt.c0 (h : RxAt w b s i) : w.cell? ⟨b, 0, none⟩ = some (.string s) := by
  rw [cell_of_row w b 0 _ _ _ h.row]; rfl
theorem RxAt.c1 (h : RxAt w b s i) : w.cell? ⟨b, 1, none⟩ = some (.int .i64 i) := by
  rw [cell_of_row w b 1 _ _ _ h.row]; rfl
theorem RxAt.f1 (h : RxAt w b s i) : w.frozen? ⟨b, 1, none⟩ = false := frozen_of_row w b 1 _ _ h.row
theorem RxAt.lt (h : RxAt w b s i) : b < w.heap.size := block_lt_of_cell h.c0
theorem RxAt.set (h : RxAt w b s i) (j : Nat) (hj : j ≤ s.size) : RxAt (w.setCell ⟨b, 1, none⟩ (.int .i64 j)) b s j := by
  refine ⟨?_, hj, h.few⟩
  rw [heap_setCell_same w b 1 _ _ _ h.row]
  rfl
theorem RxAt.up (h : RxAt w b s i) (hj : i < s.size) : RxAt (w.setCell ⟨b, 1, none⟩ (.int .i64 ((i : Int) + 1))) b s (i + 1) := h.set (i + 1) hj
theorem RxAt.up2 (h : RxAt w b s i) (hj : i < s.size) {z : Int} (hz : z = (i : Int) + 1) {k : Nat} (hk : k = i + 1) : RxAt (w.setCell ⟨b, 1, none⟩ (.int .i64 z)) b s k := by
  subst hz; subst hk; exact h.up hj
theorem RxAt.drewN (h : RxAt w b s i) (n : Nat) : RxAt (w.drewN n) b s i := ⟨h.row, h.le, h.few⟩
theorem RxAt.keep {T : Nat → Prop} (h : RxAt w b s i) (k : Kp T w w') (hn : ¬ T b) : RxAt w' b s i := ⟨k.row h.row hn, h.le, h.few⟩
end

set_option maxHeartbeats 400000 in
theorem xis_any (b : Nat) (s : ByteArray) (i : Nat) (m : Int) (w : World) (h : RxAt w b s i) (hm : 0 ≤ m) :
    Calls Tryd.prog 88 #[.pointer (some ⟨b, 0, none⟩), .int .u8 m] w fun e w' => e = .returned (.bool (decide (src s i = m))) ∧ ∃ n, w' = w.drewN n := by
  have c0 := h.c0
  have c1 := h.c1
  have hs := h.few
  clear h
  by_cases hi : i < s.size
  · rw [src_lt hi]
    go_enter Tryd.func88, Tryd.ntmps88
    go_wp2
    go_quiet (fail)
    go_wp2
    go_ret
    exact ⟨ret_bool (by rw [Bool.eq_iff_iff]; simp), _, rfl⟩
  · rw [src_ge hi]
    go_enter Tryd.func88, Tryd.ntmps88
    go_wp2
    go_quiet (fail)
    go_wp2
    go_ret
    exact ⟨ret_bool (by symm; simp; omega), _, rfl⟩
/-- Where the reader is behind one byte that it may take. -/
def upIf (s : ByteArray) (i : Nat) (m : Int) : Nat := if src s i = m then i + 1 else i

set_option maxHeartbeats 400000 in
theorem xone_any (b : Nat) (s : ByteArray) (i : Nat) (m : Int) (w : World) (h : RxAt w b s i) (hm : 0 ≤ m) :
    Calls Tryd.prog 62 #[.pointer (some ⟨b, 0, none⟩), .int .u8 m] w fun e w' => e = .returned (.bool (decide (src s i = m))) ∧ RxAt w' b s (upIf s i m) ∧ Kp (· = b) w w' := by
  have c1 := h.c1
  have hs := h.few
  have f1 := h.f1
  have HR : Hid (RxAt w b s i) := h
  have hc := xis_any b s i m w h hm
  unfold upIf
  by_cases hi : src s i = m
  · have hlt : i < s.size := by
      by_cases hlt : i < s.size
      · exact hlt
      · rw [src_ge hlt] at hi; omega
    rw [if_pos hi]
    rw [decide_eq_true hi] at hc ⊢
    clear h hi
    go_enter Tryd.func62, Tryd.ntmps62
    go_wp2_with fail
    refine hc.mono ?_
    clear hc
    rintro e w' ⟨rfl, n, rfl⟩
    go_wp2_with fail
    go_ret
    exact ⟨rfl, (HR.out.drewN n).up hlt, ((Kp.refl (· = b) w).drewN n).setCell (p := ⟨b, 1, none⟩) rfl _⟩
  · rw [if_neg hi]
    rw [decide_eq_false hi] at hc ⊢
    clear h hi
    go_enter Tryd.func62, Tryd.ntmps62
    go_wp2_with fail
    refine hc.mono ?_
    clear hc
    rintro e w' ⟨rfl, n, rfl⟩
    go_wp2_with fail
    go_ret
    exact ⟨rfl, HR.out.drewN n, (Kp.refl _ _).drewN _⟩

set_option maxHeartbeats 400000 in
theorem isDigit_any (c : Int) (w : World) : Calls Tryd.prog 86 #[.int .u8 c] w fun e w' => e = .returned (.bool (decide (48 ≤ c ∧ c ≤ 57))) ∧ w' = w := by
  by_cases h1 : 48 ≤ c
  · go_enter Tryd.func86, Tryd.ntmps86
    go_wp2
    go_ret
    exact ⟨ret_bool (by rw [Bool.eq_iff_iff]; simp; omega), rfl⟩
  · go_enter Tryd.func86, Tryd.ntmps86
    go_wp2
    go_ret
    exact ⟨ret_bool (by symm; simp; omega), rfl⟩

set_option maxHeartbeats 400000 in
theorem may_any (v lo hi : Int) (w : World) (h0 : 0 ≤ v) (h1 : v ≤ 9999999) (h2 : 0 ≤ lo) (h3 : lo ≤ 999999) (h4 : 0 ≤ hi) (h5 : hi ≤ 999999) :
    Calls Tryd.prog 87 #[.int .i64 v, .int .i64 lo, .int .i64 hi] w fun e w' => e = .returned (.bool (Pu.begins v lo hi)) ∧ w' = w := by
  by_cases hv : v = 0
  · subst hv
    have HE : Hid (Pu.begins 0 lo hi = decide (lo = 0)) := by unfold Hid Pu.begins; rw [if_pos rfl]
    rw [HE.out]
    clear HE
    go_enter Tryd.func87, Tryd.ntmps87
    go_wp2
    go_loopg [7, 8] 1 (fun gk a l wr => a = .int .i64 0 ∧ l = .int .i64 0 ∧ wr = w)
    case atStart => exact ⟨rfl, rfl, rfl⟩
    case round =>
      obtain ⟨rfl, rfl, hw⟩ := hrel
      subst hw
      by_cases e : lo = 0
      · subst e
        go_wp2
        go_ret
        exact ⟨rfl, rfl⟩
      · have e2 : ¬ lo ≤ 0 := by omega
        go_wp2
        go_ret
        exact ⟨rfl, rfl⟩
  · have hb : (v == 0) = false := by simpa using hv
    have HE : Hid (Pu.begins v lo hi = Pu.bgS lo hi v v) := by unfold Hid Pu.begins; rw [if_neg hv]
    rw [HE.out]
    clear HE
    go_enter Tryd.func87, Tryd.ntmps87
    go_wp2
    go_loop [7, 8] (fun a l => ∃ x y : Int, l = .int .i64 x ∧ a = .int .i64 y ∧ 1 ≤ y ∧ y ≤ 9999999 ∧ 0 ≤ x ∧ x ≤ 10000000 ∧ Pu.bgS lo hi y x = Pu.bgS lo hi v v) (fun a _ => (hi + 1 - intOf a).toNat)
    case atStart => exact ⟨v, v, rfl, rfl, by omega, by omega, by omega, by omega, rfl⟩
    case round =>
      obtain ⟨x, y, rfl, rfl, g1, g2, g3, g4, g5⟩ := hrel
      have G : Hid (Pu.bgS lo hi y x = Pu.bgS lo hi v v) := g5
      have E : Hid (Pu.bgS lo hi y x = if y ≤ hi then (if lo ≤ x then true else Pu.bgS lo hi (y * 10) (x * 10 + 9)) else false) := Pu.bgS_eq lo hi y x g1
      clear g5
      by_cases k1 : y ≤ hi
      · by_cases k2 : lo ≤ x
        · go_wp2
          go_ret
          refine ⟨ret_bool ?_, rfl⟩
          rw [← G.out, E.out, if_pos k1, if_pos k2]
        · go_wp2
          go_round
          case rel => exact ⟨x * 10 + 9, y * 10, rfl, rfl, by omega, by omega, by omega, by omega, by rw [← G.out, E.out, if_pos k1, if_neg k2]⟩
          case measure => simp [intOf]; omega
      · go_wp2
        go_ret
        refine ⟨ret_bool ?_, rfl⟩
        rw [← G.out, E.out, if_neg (by omega)]
end Go.Proofs.YtbdbkjngdhcjpaaDoor
namespace Go.Proofs.YtbdbkjngdhcjpaaDoor
open Go.RowKit
open Go.Proofs

theorem digit_of {s : ByteArray} {i : Nat} (hi : i < s.size) : Pu.digit (src s) i = if 48 ≤ (s[i].toNat : Int) ∧ (s[i].toNat : Int) ≤ 57 then (s[i].toNat : Int) - 48 else -1 := by unfold Pu.digit; rw [src_lt hi]

theorem val_i {k : IntKind} {a b : Int} (h : a = b) : Value.int k a = Value.int k b := by rw [h]

set_option maxRecDepth 100000 in
set_option maxHeartbeats 8000000 in
theorem xnumber_any (b : Nat) (s : ByteArray) (i : Nat) (lo hi : Int) (w : World) (h : RxAt w b s i) (h2 : 0 ≤ lo) (h3 : lo ≤ 999999) (h4 : 0 ≤ hi) (h5 : hi ≤ 999999) (j : Nat) (o : Option Int) (hq : Hid (Pu.number lo hi (src s) i = (j, o))) :
    Calls Tryd.prog 61 #[.pointer (some ⟨b, 0, none⟩), .int .i64 lo, .int .i64 hi] w fun e w' => NumRet e o ∧ RxAt w' b s j ∧ Kp (· = b) w w' := by
  have H0 : Hid (RxAt w b s i) := h
  have hs := h.few
  have hle := h.le
  clear h
  go_enter Tryd.func61, Tryd.ntmps61
  go_wp2
  go_loopg [8, 9] (s.size - i) (fun gk v n wr => ∃ (k : Nat) (x : Int), i + k ≤ s.size ∧ s.size ≤ i + k + gk ∧ v = .int .i64 x ∧ n = .int .i64 k ∧ 0 ≤ x ∧ x ≤ hi ∧ RxAt wr b s (i + k) ∧ Kp (· = b) w wr ∧ NumRel s lo hi i k x ∧ (x = 0 → 0 < k → k = 1))
  case atStart => exact ⟨0, 0, hle, by omega, rfl, rfl, by omega, h4, H0.out, Kp.refl _ _, rfl, fun _ h => by omega⟩
  case round =>
    obtain ⟨k, x, g1, g1', rfl, rfl, g2, g3, g4, g5, g6, g7⟩ := hrel
    have c0 := g4.c0
    have c1 := g4.c1
    have f1 := g4.f1
    have G4 : Hid (RxAt wr b s (i + k)) := g4
    have G5 : Hid (Kp (· = b) w wr) := g5
    have G6 : Hid (NumRel s lo hi i k x) := g6
    have HK1 := hide g7
    clear g4 g5 g6 g7
    have hfin : ∀ a : World, RxAt a b s (i + k) → Kp (· = b) w a → Pu.numStep lo hi (decide (0 < k), x) (Pu.digit (src s) (i + k)) = none → ∀ e : Ending, (∃ y : Bool, e = .returned (.tuple #[.int .i64 x, .bool y]) ∧ y = decide (0 < k ∧ lo ≤ x ∧ x ≤ hi)) → NumRet e o ∧ RxAt a b s j ∧ Kp (· = b) w a := by
      rintro a ha hka hst e ⟨y, rfl, rfl⟩
      obtain ⟨rfl, rfl⟩ := G6.out.done hq.out hst
      refine ⟨⟨x, ?_, ?_⟩, ha, hka⟩
      · by_cases hc : 0 < k ∧ lo ≤ x ∧ x ≤ hi
        · rw [if_pos hc, decide_eq_true hc]; rfl
        · rw [if_neg hc, decide_eq_false hc]; rfl
      · intro a ha
        by_cases hc : 0 < k ∧ lo ≤ x ∧ x ≤ hi
        · rw [if_pos hc] at ha; exact Option.some.inj ha
        · rw [if_neg hc] at ha; simp at ha
    have HF := hide hfin
    clear hfin
    have GD : Hid (∀ n, RxAt (wr.drewN n) b s (i + k)) := fun n => G4.out.drewN n
    have NX := hide (fun (h0 : 0 ≤ Pu.digit (src s) (i + k)) (h1 : i + k < s.size) (h2 : ¬ (x = 0 ∧ 0 < k)) (h3 : Pu.begins (x * 10 + Pu.digit (src s) (i + k)) lo hi = true) => G6.out.next (by omega) h0 h2 h3)
    obtain ⟨p, hp⟩ : ∃ p, i + k = p := ⟨_, rfl⟩
    have HP := hide hp
    rw [hp] at c1 GD HF NX g1 g1'
    have kb : k ≤ 400 := by omega
    clear hp G4 G6
    by_cases hlt : p < s.size
    · have hb : (s[p].toNat : Int) < 256 := by have := s[p].toNat_lt; omega
      have hb0 : 0 ≤ (s[p].toNat : Int) := by omega
      have hdg := digit_of hlt
      by_cases d0 : 48 ≤ (s[p].toNat : Int) ∧ (s[p].toNat : Int) ≤ 57
      · rw [if_pos d0] at hdg
        have LD := hide (fun wx => isDigit_any (s[p].toNat : Int) wx)
        rw [decide_eq_true d0] at LD
        rw [hdg] at NX HF
        clear hdg
        obtain ⟨d, hd⟩ : ∃ d, (s[p].toNat : Int) - 48 = d := ⟨_, rfl⟩
        rw [hd] at NX HF
        have HD := hide hd
        have dl : 0 ≤ d := by omega
        have dh : d ≤ 9 := by omega
        clear hd
        have LM := hide (fun wx => may_any (x * 10 + d) lo hi wx (by omega) (by omega) h2 h3 h4 h5)
        have UP : Hid (∀ n, RxAt ((wr.drewN n).setCell ⟨b, 1, none⟩ (.int .i64 ((p : Int) + 1))) b s (p + 1)) := fun n => (GD.out n).up hlt
        obtain ⟨K, hK⟩ : ∃ K : Int, (k : Int) = K := ⟨_, rfl⟩
        rw [hK]
        have HKK := hide hK
        have kB1 : 0 ≤ K := by omega
        have kB2 : K ≤ 400 := by omega
        clear hK
        cases hbg : Pu.begins (x * 10 + d) lo hi with
        | false =>
          have ST : Hid (Pu.numStep lo hi (decide (0 < k), x) d = none) := num_stop3 hbg
          rw [hbg] at LM
          clear hbg NX
          cases hb1 : (K == 1)
          · go_wp2_with fail
            go_quiet ((go_at_call 86; exact Calls.quiet_of_same (LD.out _)))
            go_wp2_with fail
            go_quiet (fail)
            rw [HD.out]
            go_wp2_with fail
            refine (LM.out _).mono ?_
            rintro e w' ⟨rfl, hw'⟩
            subst w'
            go_wp2_with fail
            all_goals
              go_ret2
              refine HF.out _ (GD.out _) (G5.out.drewN _) ST.out _ ⟨_, rfl, ?_⟩
              symm
              have hkk := HKK.out
              first | (apply decide_eq_true; omega) | (apply decide_eq_false; omega) | (rw [Bool.eq_iff_iff, decide_eq_true_eq, decide_eq_true_eq]; omega)
          · cases hb2 : (x == 0)
            · go_wp2_with fail
              go_quiet ((go_at_call 86; exact Calls.quiet_of_same (LD.out _)))
              go_wp2_with fail
              go_quiet (fail)
              rw [HD.out]
              go_wp2_with fail
              refine (LM.out _).mono ?_
              rintro e w' ⟨rfl, hw'⟩
              subst w'
              go_wp2_with fail
              all_goals
                go_ret2
                refine HF.out _ (GD.out _) (G5.out.drewN _) ST.out _ ⟨_, rfl, ?_⟩
                symm
                have hkk := HKK.out
                first | (apply decide_eq_true; omega) | (apply decide_eq_false; omega) | (rw [Bool.eq_iff_iff, decide_eq_true_eq, decide_eq_true_eq]; omega)
            · go_wp2_with fail
              go_quiet ((go_at_call 86; exact Calls.quiet_of_same (LD.out _)))
              go_wp2_with fail
              go_quiet (fail)
              rw [HD.out]
              go_wp2_with fail
              refine (LM.out _).mono ?_
              rintro e w' ⟨rfl, hw'⟩
              subst w'
              go_wp2_with fail
              all_goals
                go_ret2
                refine HF.out _ (GD.out _) (G5.out.drewN _) ST.out _ ⟨_, rfl, ?_⟩
                symm
                have hkk := HKK.out
                first | (apply decide_eq_true; omega) | (apply decide_eq_false; omega) | (rw [Bool.eq_iff_iff, decide_eq_true_eq, decide_eq_true_eq]; omega)
        | true =>
          rw [hbg] at LM
          have HB := hide (Pu.begins_le hbg (by omega) h4)
          by_cases hz : x = 0 ∧ 0 < k
          · have ST : Hid (Pu.numStep lo hi (decide (0 < k), x) d = none) := num_stop2 hz.1 hz.2
            have k1 : k = 1 := HK1.out hz.1 hz.2
            have hb1 : (K == 1) = true := by have := HKK.out; simp; omega
            have hb2 : (x == 0) = true := by simpa using hz.1
            have HZ := hide hz
            clear hbg NX k1 hz
            go_wp2_with fail
            go_quiet ((go_at_call 86; exact Calls.quiet_of_same (LD.out _)))
            go_wp2_with fail
            go_quiet (fail)
            rw [HD.out]
            go_wp2_with fail
            refine (LM.out _).mono ?_
            rintro e w' ⟨rfl, hw'⟩
            subst w'
            go_wp2_with fail
            all_goals
              go_ret2
              refine HF.out _ (GD.out _) (G5.out.drewN _) ST.out _ ⟨_, rfl, ?_⟩
              symm
              have hkk := HKK.out
              have hzz := HZ.out
              first | (apply decide_eq_true; omega) | (apply decide_eq_false; omega) | (rw [Bool.eq_iff_iff, decide_eq_true_eq, decide_eq_true_eq]; omega)
          · have NX2 := hide (NX.out dl hlt hz hbg)
            have HX1 : Hid (x * 10 + d = 0 → 0 < k + 1 → k + 1 = 1) := fun h0 _ => by omega
            have ng : (K == 1) = false ∨ ((K == 1) = true ∧ (x == 0) = false) := by
              have := HKK.out
              by_cases e : K = 1
              · right
                exact ⟨by simpa using e, by simp; omega⟩
              · left
                simpa using e
            clear hbg NX hz
            rcases ng with hb1 | ⟨hb1, hb2⟩
            all_goals
              go_wp2_with fail
              go_quiet ((go_at_call 86; exact Calls.quiet_of_same (LD.out _)))
              go_wp2_with fail
              go_quiet (fail)
              rw [HD.out]
              go_wp2_with fail
              refine (LM.out _).mono ?_
              rintro e w' ⟨rfl, hw'⟩
              subst w'
              go_wp2_with fail
              go_roundg (gk - 1)
              case measure => omega
              case rel => exact ⟨k + 1, x * 10 + d, by have := HP.out; omega, by have := HP.out; omega, rfl, val_i (by have := HKK.out; omega), by omega, HB.out, (GD.out _).up2 hlt (by omega) (by have := HP.out; omega), (G5.out.drewN _).setCell rfl _, NX2.out, HX1.out⟩
      · rw [if_neg d0] at hdg
        have LD := hide (fun wx => isDigit_any (s[p].toNat : Int) wx)
        rw [decide_eq_false d0] at LD
        have ST : Hid (Pu.numStep lo hi (decide (0 < k), x) (Pu.digit (src s) p) = none) := num_stop1 (by omega)
        clear hdg d0
        go_wp2_with fail
        go_quiet ((go_at_call 86; exact Calls.quiet_of_same (LD.out _)))
        go_wp2_with fail
        all_goals
          go_ret2
          refine HF.out _ (GD.out _) (G5.out.drewN _) ST.out _ ⟨_, rfl, ?_⟩
          symm
          first | (apply decide_eq_true; omega) | (apply decide_eq_false; omega) | (rw [Bool.eq_iff_iff, decide_eq_true_eq, decide_eq_true_eq]; omega)
    · have ST : Hid (Pu.numStep lo hi (decide (0 < k), x) (Pu.digit (src s) p) = none) := num_stop1 (by rw [Pu.digit_end (src_ge hlt)]; omega)
      go_wp2_with fail
      go_quiet (fail)
      go_wp2_with fail
      all_goals
        go_ret2
        refine HF.out _ (GD.out _) (G5.out.drewN _) ST.out _ ⟨_, rfl, ?_⟩
        symm
        first | (apply decide_eq_true; omega) | (apply decide_eq_false; omega) | (rw [Bool.eq_iff_iff, decide_eq_true_eq, decide_eq_true_eq]; omega)
end Go.Proofs.YtbdbkjngdhcjpaaDoor
