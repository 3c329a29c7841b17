import Derived.Test.YtbdbkjngdhcjpaaDoorXe
import Derived.Deep.CutRange
namespace Go.Proofs.YtbdbkjngdhcjpaaDoor
open Go.RowKit
open Go.Proofs

def shiftIf (c : Prop) [Decidable c] (side : Int) : Pu.Rd Int := if c then Pu.shift side else Pu.ret 0
/-- Behind the columns of a plane or a torus. -/
def openP (k W : Int) : Pu.Rd (Int × Int × Int) := Pu.bnd (shiftIf (k = 84) W) fun ws => Pu.bnd (Pu.take 44) fun _ => Pu.bnd (Pu.number (if W = 0 ∨ ws ≠ 0 then 1 else 0) 12) fun h => Pu.bnd (shiftIf (k = 84 ∧ W ≠ 0 ∧ ws = 0) h) fun hs => Pu.ret (ws, h, hs)
theorem shift_none {c : Prop} [Decidable c] {side : Int} {f : Pu.Src} {i : Nat} (h : ¬ c ∨ side < 2) : shiftIf c side f i = (i, some 0) := by
  unfold shiftIf
  by_cases hc : c
  · rw [if_pos hc]
    unfold Pu.shift
    rw [if_pos (h.resolve_left (fun hn => hn hc))]
    rfl
  · rw [if_neg hc]
    rfl
theorem shift_no {c : Prop} [Decidable c] {side : Int} {s : ByteArray} {i : Nat} (hc : c) (hs : ¬ side < 2) (e : ¬ src s i = 43) : shiftIf c side (src s) i = (i, some 0) := by
  unfold shiftIf
  rw [if_pos hc]
  unfold Pu.shift
  rw [if_neg hs, bnd_some (opt_no e)]
  rfl
theorem shift_yes {c : Prop} [Decidable c] {side : Int} {s : ByteArray} {i : Nat} (hc : c) (hs : ¬ side < 2) (e : src s i = 43) : shiftIf c side (src s) i = Pu.number 1 (side - 1) (src s) (i + 1) := by
  unfold shiftIf
  rw [if_pos hc]
  unfold Pu.shift
  rw [if_neg hs, bnd_some (opt_yes e)]
  rfl

set_option maxRecDepth 100000 in
set_option maxHeartbeats 4000000 in
theorem xopen_any (b q : Nat) (hbq : b ≠ q) (s : ByteArray) (i : Nat) (k W : Int) (a0 a1 a2 a3 a6 a9 a10 a11 a12 : Value) (w : World) (h : RxAt w b s i) (hW : 0 ≤ W ∧ W ≤ 12)
    (hv : VAt w q #[a0, a1, a2, a3, .int .u8 k, .int .i64 W, a6, .int .i64 0, .int .i64 0, a9, a10, a11, a12]) (j : Nat) (o : Option (Int × Int × Int)) (hq : Hid (openP k W (src s) i = (j, o))) :
    Calls Tryd.prog 84 #[.pointer (some ⟨b, 0, none⟩), .pointer (some ⟨q, 0, none⟩)] w fun e w' => e = .returned (.bool o.isSome) ∧ RxAt w' b s j ∧ Kp (bq b q) w w' ∧
      ∀ r, o = some r → VAt w' q #[a0, a1, a2, a3, .int .u8 k, .int .i64 W, .int .i64 r.2.1, .int .i64 r.1, .int .i64 r.2.2, a9, a10, a11, a12] := by
  have H := hide h
  have V := hide hv
  have c4 : w.cell? ⟨q, 4, none⟩ = some (.int .u8 k) := hv.cell 4
  have c5w : w.cell? ⟨q, 5, none⟩ = some (.int .i64 W) := hv.cell 5
  have c7 : w.cell? ⟨q, 7, none⟩ = some (.int .i64 0) := hv.cell 7
  have f7 := hv.fro 7
  clear h hv
  go_enter Tryd.func84, Tryd.ntmps84
  go_upto_region 1 with fail
  go_cut [26] from 15 to 25 (fun c wc => c = .bool (decide (k = 84 ∧ 1 < W)) ∧ RxAt wc b s i ∧ VAt wc q #[a0, a1, a2, a3, .int .u8 k, .int .i64 W, a6, .int .i64 0, .int .i64 0, a9, a10, a11, a12] ∧ Kp (bq b q) w wc)
  case first =>
    have cs : ((k == 84) = false ∧ ¬ (k = 84 ∧ 1 < W)) ∨ ((k == 84) = true ∧ ¬ 1 < W ∧ ¬ (k = 84 ∧ 1 < W)) ∨ ((k == 84) = true ∧ 1 < W ∧ (k = 84 ∧ 1 < W)) := by
      by_cases e : k = 84
      · right
        by_cases e2 : 1 < W
        · right
          exact ⟨by simpa using e, e2, e, e2⟩
        · left
          exact ⟨by simpa using e, e2, fun h => e2 h.2⟩
      · left
        exact ⟨by simpa using e, fun h => e h.1⟩
    rcases cs with ⟨b84, hn⟩ | ⟨b84, hw1, hn⟩ | ⟨b84, hw1, hn⟩
    · have HD := hide (decide_eq_false hn)
      clear hn
      go_wp2_with fail
      go_meet
      case rel => exact ⟨by rw [HD.out], H.out, V.out, Kp.refl _ _⟩
    · have HD := hide (decide_eq_false hn)
      clear hn
      go_wp2_with fail
      go_meet
      case rel => exact ⟨by rw [HD.out], H.out, V.out, Kp.refl _ _⟩
    · have HD := hide (decide_eq_true hn)
      clear hn
      go_wp2_with fail
      go_meet
      case rel => exact ⟨by rw [HD.out], H.out, V.out, Kp.refl _ _⟩
  case rest =>
  obtain ⟨rfl, r0, v0, k0⟩ := hcut
  have H0 := hide r0
  have V0 := hide v0
  have K0 := hide k0
  have c5 : wc.cell? ⟨q, 5, none⟩ = some (.int .i64 W) := v0.cell 5
  clear r0 v0 k0 H V c4 c5w c7 f7
  go_upto_if 26 with fail
  go_cut [5, 6, 7] from 26 to 45 (fun _ _ _ wc => ∃ (ws : Int) (j5 : Nat), shiftIf (k = 84) W (src s) i = (j5, some ws) ∧ (0 ≤ ws ∧ ws ≤ 12) ∧ RxAt wc b s j5 ∧ VAt wc q #[a0, a1, a2, a3, .int .u8 k, .int .i64 W, a6, .int .i64 ws, .int .i64 0, a9, a10, a11, a12] ∧ Kp (bq b q) w wc)
  case first =>
    by_cases hT : k = 84 ∧ 1 < W
    · rw [decide_eq_true hT]
      have hW1 : 1 < W := hT.2
      by_cases e1 : src s i = 43
      · have hs := shift_yes (c := k = 84) (s := s) (i := i) hT.1 (show ¬ W < 2 by omega) e1
        rcases hn : Pu.number 1 (W - 1) (src s) (i + 1) with ⟨jn, on⟩
        have HN := hide hn
        have HS := hide (hs.trans hn)
        have E1 := hide e1
        clear hs hn e1 hT
        go_wp2_with fail
        refine (xone_yes H0.out (by omega) E1.out).mono ?_
        rintro e w1 ⟨rfl, r1, k1⟩
        have V1 := hide (V0.out.keep k1 (fun e => hbq e.symm))
        have R1 := hide r1
        have K1 : Hid (Kp (bq b q) w w1) := K0.out.trans k1.tobq
        have d5 : w1.cell? ⟨q, 5, none⟩ = some (.int .i64 W) := V1.out.cell 5
        clear r1 k1
        go_wp2_with fail
        refine (xnumber_any b s (i + 1) 1 (W - 1) _ R1.out (by omega) (by omega) (by omega) (by omega) jn on HN).mono ?_
        rintro e w2 ⟨⟨x2, rfl, hx2⟩, r2, k2⟩
        have V2 := hide (V1.out.keep k2 (fun e => hbq e.symm))
        have R2 := hide r2
        have K2 := hide (K1.out.trans k2.tobq)
        have HX := hide hx2
        have d7 : w2.cell? ⟨q, 7, none⟩ = some (.int .i64 0) := V2.out.cell 7
        have g7 := V2.out.fro 7
        have V3 : Hid (VAt (w2.setCell ⟨q, 7, none⟩ (.int .i64 x2)) q #[a0, a1, a2, a3, .int .u8 k, .int .i64 W, a6, .int .i64 x2, .int .i64 0, a9, a10, a11, a12]) := V2.out.put 7 _ _ rfl
        have R3 : Hid (RxAt (w2.setCell ⟨q, 7, none⟩ (.int .i64 x2)) b s jn) := R2.out.setOther hbq _
        have K3 : Hid (Kp (bq b q) w (w2.setCell ⟨q, 7, none⟩ (.int .i64 x2))) := K2.out.putq 7 _
        clear r2 k2 hx2 V2 R2 K2
        cases on with
        | none =>
          have HO : Hid (j = jn ∧ o = none) := by
            have := hq.out
            unfold openP at this
            rw [bnd_none HS.out] at this
            exact ⟨(Prod.mk.inj this).1.symm, (Prod.mk.inj this).2.symm⟩
          go_wp2_with fail
          go_ret
          obtain ⟨e1, e2⟩ := HO.out
          subst e1 e2
          exact ⟨rfl, R3.out, K3.out, fun r e => by cases e⟩
        | some ws =>
          have ex := HX.out ws rfl
          subst ex
          have nb := hide (number_bd HN.out)
          go_wp2_with fail
          go_meet
          case rel => exact ⟨x2, jn, HS.out, by have := nb.out; omega, R3.out, V3.out, K3.out⟩
      · have HS := hide (shift_no (c := k = 84) (s := s) (i := i) hT.1 (show ¬ W < 2 by omega) e1)
        have E1 := hide e1
        clear e1 hT
        go_wp2_with fail
        refine (xone_no H0.out (by omega) E1.out).mono ?_
        rintro e w1 ⟨rfl, r1, k1⟩
        have V1 := hide (V0.out.keep k1 (fun e => hbq e.symm))
        have R1 := hide r1
        have K1 : Hid (Kp (bq b q) w w1) := K0.out.trans k1.tobq
        clear r1 k1
        go_wp2_with fail
        go_meet
        case rel => exact ⟨0, i, HS.out, by omega, R1.out, V1.out, K1.out⟩
    · have HS : Hid (shiftIf (k = 84) W (src s) i = (i, some 0)) := shift_none (by omega)
      rw [decide_eq_false hT]
      clear hT
      go_wp2_with fail
      go_meet
      case rel => exact ⟨0, i, HS.out, by omega, H0.out, V0.out, K0.out⟩
  case rest =>
    obtain ⟨ws, j5, hs, hws, r5, v5, k5⟩ := hcut
    have HS := hide hs
    have R5 := hide r5
    have V5 := hide v5
    have K5 := hide k5
    have hq2 := hq.out
    unfold openP at hq2
    rw [bnd_some hs] at hq2
    have HQ := hide hq2
    clear hs r5 v5 k5 hq2 hq c5 H0 V0 K0
    by_cases e6 : src s j5 = 44
    · have q6 := HQ.out
      rw [bnd_some (show Pu.take 44 (src s) j5 = (j5 + 1, some ()) by unfold Pu.take; rw [if_pos e6])] at q6
      obtain ⟨lo, hlo⟩ : ∃ lo : Int, lo = if W = 0 ∨ ws ≠ 0 then 1 else 0 := ⟨_, rfl⟩
      rw [← hlo] at q6
      have HLO := hide hlo
      have lo0 : 0 ≤ lo := by rw [hlo]; split <;> omega
      have lo1 : lo ≤ 1 := by rw [hlo]; split <;> omega
      have HQ6 := hide q6
      have E6 := hide e6
      clear e6 q6 HQ hlo
      go_wp2_with fail
      refine (xone_yes R5.out (by omega) E6.out).mono ?_
      rintro e w6 ⟨rfl, r6, k6⟩
      have V6 := hide (V5.out.keep k6 (fun e => hbq e.symm))
      have R6 := hide r6
      have K6 := hide (K5.out.trans k6.tobq)
      have d5 : w6.cell? ⟨q, 5, none⟩ = some (.int .i64 W) := V6.out.cell 5
      have d7 : w6.cell? ⟨q, 7, none⟩ = some (.int .i64 ws) := V6.out.cell 7
      clear r6 k6 V5 R5 K5
      go_upto_region 12 with fail
      go_cut [61] from 50 to 60 (fun c wc => c = .bool (decide (W = 0 ∨ ws ≠ 0)) ∧ RxAt wc b s (j5 + 1) ∧ VAt wc q #[a0, a1, a2, a3, .int .u8 k, .int .i64 W, a6, .int .i64 ws, .int .i64 0, a9, a10, a11, a12] ∧ Kp (bq b q) w wc)
      case first =>
        by_cases e : W = 0
        · have b0 : (W == 0) = true := by simpa using e
          have HD := hide (decide_eq_true (show W = 0 ∨ ws ≠ 0 from Or.inl e))
          clear e
          go_wp2_with fail
          go_meet
          case rel => exact ⟨by rw [HD.out], R6.out, V6.out, K6.out⟩
        · have b0 : (W == 0) = false := by simpa using e
          by_cases e2 : 0 < ws
          · have HD := hide (decide_eq_true (show W = 0 ∨ ws ≠ 0 from Or.inr (by omega)))
            clear e
            go_wp2_with fail
            go_meet
            case rel => exact ⟨by rw [HD.out], R6.out, V6.out, K6.out⟩
          · have HD := hide (decide_eq_false (show ¬ (W = 0 ∨ ws ≠ 0) by omega))
            clear e
            go_wp2_with fail
            go_meet
            case rel => exact ⟨by rw [HD.out], R6.out, V6.out, K6.out⟩
      case rest =>
      obtain ⟨rfl, r7, v7, k7⟩ := hcut
      have R7 := hide r7
      have V7 := hide v7
      have K7 := hide k7
      clear r7 v7 k7 R6 V6 K6 d5 d7
      go_upto_if 61 with fail
      go_cut [9] from 61 to 61 (fun c wc2 => c = .int .i64 lo ∧ wc2 = wc)
      case first =>
        by_cases e : W = 0 ∨ ws ≠ 0
        · have el : lo = 1 := by rw [HLO.out, if_pos e]
          subst el
          rw [decide_eq_true e]
          clear e
          go_wp2_with fail
          go_meet
          case rel => exact ⟨rfl, rfl⟩
        · have el : lo = 0 := by rw [HLO.out, if_neg e]
          subst el
          rw [decide_eq_false e]
          clear e
          go_wp2_with fail
          go_meet
          case rel => exact ⟨rfl, rfl⟩
      case rest =>
      obtain ⟨rfl, hwc⟩ := hcut
      subst hwc
      rcases hn : Pu.number lo 12 (src s) (j5 + 1) with ⟨jh, oh⟩
      have HN := hide hn
      clear hn HLO
      go_wp2_with fail
      refine (xnumber_any b s (j5 + 1) lo 12 _ R7.out (by omega) (by omega) (by omega) (by omega) jh oh HN).mono ?_
      rintro e w8 ⟨⟨x8, rfl, hx8⟩, r8, k8⟩
      have V8 := hide (V7.out.keep k8 (fun e => hbq e.symm))
      have R8 := hide r8
      have K8 := hide (K7.out.trans k8.tobq)
      have HX := hide hx8
      have d6 : w8.cell? ⟨q, 6, none⟩ = some a6 := V8.out.cell 6
      have g6 := V8.out.fro 6
      have d4 : w8.cell? ⟨q, 4, none⟩ = some (.int .u8 k) := V8.out.cell 4
      have d5 : w8.cell? ⟨q, 5, none⟩ = some (.int .i64 W) := V8.out.cell 5
      have d7 : w8.cell? ⟨q, 7, none⟩ = some (.int .i64 ws) := V8.out.cell 7
      have V9 : Hid (VAt (w8.setCell ⟨q, 6, none⟩ (.int .i64 x8)) q #[a0, a1, a2, a3, .int .u8 k, .int .i64 W, .int .i64 x8, .int .i64 ws, .int .i64 0, a9, a10, a11, a12]) := V8.out.put 6 _ _ rfl
      have R9 : Hid (RxAt (w8.setCell ⟨q, 6, none⟩ (.int .i64 x8)) b s jh) := R8.out.setOther hbq _
      have K9 : Hid (Kp (bq b q) w (w8.setCell ⟨q, 6, none⟩ (.int .i64 x8))) := K8.out.putq 6 _
      clear r8 k8 hx8 V8 R8 K8 V7 R7 K7
      cases oh with
      | none =>
        have HO : Hid (j = jh ∧ o = none) := by
          have := HQ6.out
          rw [bnd_none HN.out] at this
          exact ⟨(Prod.mk.inj this).1.symm, (Prod.mk.inj this).2.symm⟩
        go_wp2_with fail
        go_ret
        obtain ⟨e1, e2⟩ := HO.out
        subst e1 e2
        exact ⟨rfl, R9.out, K9.out, fun r e => by cases e⟩
      | some h =>
        have ex := HX.out h rfl
        subst ex
        have nb := number_bd HN.out
        have q9 := HQ6.out
        rw [bnd_some HN.out] at q9
        have HQ9 := hide q9
        clear q9 HQ6 HN HX
        go_upto_region 18 with fail
        go_cut [96] from 74 to 95 (fun c wc => c = .bool (decide (k = 84 ∧ 0 < W ∧ ws = 0 ∧ 1 < x8)) ∧ RxAt wc b s jh ∧ VAt wc q #[a0, a1, a2, a3, .int .u8 k, .int .i64 W, .int .i64 x8, .int .i64 ws, .int .i64 0, a9, a10, a11, a12] ∧ Kp (bq b q) w wc)
        case first =>
          by_cases e1 : k = 84
          · have b84 : (k == 84) = true := by simpa using e1
            by_cases e2 : 0 < W
            · by_cases e3 : ws = 0
              · have b3 : (ws == 0) = true := by simpa using e3
                by_cases e4 : 1 < x8
                · have HD := hide (decide_eq_true (show k = 84 ∧ 0 < W ∧ ws = 0 ∧ 1 < x8 from ⟨e1, e2, e3, e4⟩))
                  clear e1 e3
                  go_wp2_with fail
                  go_meet
                  case rel => exact ⟨by rw [HD.out], R9.out, V9.out, K9.out⟩
                · have HD := hide (decide_eq_false (show ¬ (k = 84 ∧ 0 < W ∧ ws = 0 ∧ 1 < x8) from fun h => e4 h.2.2.2))
                  clear e1 e3
                  go_wp2_with fail
                  go_meet
                  case rel => exact ⟨by rw [HD.out], R9.out, V9.out, K9.out⟩
              · have b3 : (ws == 0) = false := by simpa using e3
                have HD := hide (decide_eq_false (show ¬ (k = 84 ∧ 0 < W ∧ ws = 0 ∧ 1 < x8) from fun h => e3 h.2.2.1))
                clear e1 e3
                go_wp2_with fail
                go_meet
                case rel => exact ⟨by rw [HD.out], R9.out, V9.out, K9.out⟩
            · have HD := hide (decide_eq_false (show ¬ (k = 84 ∧ 0 < W ∧ ws = 0 ∧ 1 < x8) from fun h => e2 h.2.1))
              clear e1
              go_wp2_with fail
              go_meet
              case rel => exact ⟨by rw [HD.out], R9.out, V9.out, K9.out⟩
          · have b84 : (k == 84) = false := by simpa using e1
            have HD := hide (decide_eq_false (show ¬ (k = 84 ∧ 0 < W ∧ ws = 0 ∧ 1 < x8) from fun h => e1 h.1))
            clear e1
            go_wp2_with fail
            go_meet
            case rel => exact ⟨by rw [HD.out], R9.out, V9.out, K9.out⟩
        case rest =>
        obtain ⟨rfl, r10, v10, k10⟩ := hcut
        have R10 := hide r10
        have V10 := hide v10
        have K10 := hide k10
        clear r10 v10 k10 R9 V9 K9 d4 d5 d6 d7
        by_cases e10 : k = 84 ∧ 0 < W ∧ ws = 0 ∧ 1 < x8
        · rw [decide_eq_true e10]
          have x1 : 1 < x8 := e10.2.2.2
          have hc : k = 84 ∧ W ≠ 0 ∧ ws = 0 := ⟨e10.1, by omega, e10.2.2.1⟩
          by_cases e11 : src s jh = 43
          · have hs := shift_yes (s := s) (i := jh) (side := x8) hc (by omega) e11
            rcases hn : Pu.number 1 (x8 - 1) (src s) (jh + 1) with ⟨jn, on⟩
            have HN := hide hn
            have HO : Hid (j = jn ∧ o = on.map fun hs => (ws, x8, hs)) := by
              have := HQ9.out
              cases on with
              | none =>
                rw [bnd_none (hs.trans hn)] at this
                exact ⟨(Prod.mk.inj this).1.symm, (Prod.mk.inj this).2.symm⟩
              | some y =>
                rw [bnd_some (hs.trans hn)] at this
                exact ⟨(Prod.mk.inj this).1.symm, (Prod.mk.inj this).2.symm⟩
            have E11 := hide e11
            clear hs hn e11 e10 hc HQ9
            go_wp2_with fail
            refine (xone_yes R10.out (by omega) E11.out).mono ?_
            rintro e w11 ⟨rfl, r11, k11⟩
            have V11 := hide (V10.out.keep k11 (fun e => hbq e.symm))
            have R11 := hide r11
            have K11 := hide (K10.out.trans k11.tobq)
            clear r11 k11
            go_wp2_with fail
            refine (xnumber_any b s (jh + 1) 1 (x8 - 1) _ R11.out (by omega) (by omega) (by omega) (by omega) jn on HN).mono ?_
            rintro e w12 ⟨⟨x12, rfl, hx12⟩, r12, k12⟩
            have V12 := hide (V11.out.keep k12 (fun e => hbq e.symm))
            have R12 := hide r12
            have K12 := hide (K11.out.trans k12.tobq)
            have HX := hide hx12
            have d8 : w12.cell? ⟨q, 8, none⟩ = some (.int .i64 0) := V12.out.cell 8
            have g8 := V12.out.fro 8
            have V13 : Hid (VAt (w12.setCell ⟨q, 8, none⟩ (.int .i64 x12)) q #[a0, a1, a2, a3, .int .u8 k, .int .i64 W, .int .i64 x8, .int .i64 ws, .int .i64 x12, a9, a10, a11, a12]) := V12.out.put 8 _ _ rfl
            have R13 : Hid (RxAt (w12.setCell ⟨q, 8, none⟩ (.int .i64 x12)) b s jn) := R12.out.setOther hbq _
            have K13 : Hid (Kp (bq b q) w (w12.setCell ⟨q, 8, none⟩ (.int .i64 x12))) := K12.out.putq 8 _
            clear r12 k12 hx12 V12 R12 K12
            go_wp2_with fail
            go_ret
            obtain ⟨e1, e2⟩ := HO.out
            subst e1 e2
            refine ⟨by cases on <;> rfl, R13.out, K13.out, fun r e => ?_⟩
            cases on with
            | none => cases e
            | some y =>
              obtain rfl := HX.out y rfl
              have er : (ws, x8, x12) = r := Option.some.inj e
              subst er
              exact V13.out
          · have hs := shift_no (s := s) (i := jh) (side := x8) hc (by omega) e11
            have q10 := HQ9.out
            rw [bnd_some hs] at q10
            obtain ⟨e1, e2⟩ := Prod.mk.inj q10
            have HO := hide (⟨e1.symm, e2.symm⟩ : j = jh ∧ o = some (ws, x8, 0))
            have E11 := hide e11
            clear hs e11 e10 hc HQ9 q10 e1 e2
            go_wp2_with fail
            refine (xone_no R10.out (by omega) E11.out).mono ?_
            rintro e w11 ⟨rfl, r11, k11⟩
            have V11 := hide (V10.out.keep k11 (fun e => hbq e.symm))
            have R11 := hide r11
            have K11 := hide (K10.out.trans k11.tobq)
            clear r11 k11
            go_wp2_with fail
            go_ret
            obtain ⟨e1, e2⟩ := HO.out
            subst e1 e2
            refine ⟨rfl, R11.out, K11.out, fun r e => ?_⟩
            have er : (ws, x8, 0) = r := Option.some.inj e
            subst er
            exact V11.out
        · rw [decide_eq_false e10]
          have hs : shiftIf (k = 84 ∧ W ≠ 0 ∧ ws = 0) x8 (src s) jh = (jh, some 0) := shift_none (by omega)
          have q10 := HQ9.out
          rw [bnd_some hs] at q10
          obtain ⟨e1, e2⟩ := Prod.mk.inj q10
          have HO := hide (⟨e1.symm, e2.symm⟩ : j = jh ∧ o = some (ws, x8, 0))
          clear hs e10 HQ9 q10 e1 e2
          go_wp2_with fail
          go_ret
          obtain ⟨e1, e2⟩ := HO.out
          subst e1 e2
          refine ⟨rfl, R10.out, K10.out, fun r e => ?_⟩
          have er : (ws, x8, 0) = r := Option.some.inj e
          subst er
          exact V10.out
    · have q6 := HQ.out
      rw [bnd_none (show Pu.take 44 (src s) j5 = (j5, none) by unfold Pu.take; rw [if_neg e6])] at q6
      obtain ⟨e1, e2⟩ := Prod.mk.inj q6
      subst e1 e2
      have E6 := hide e6
      clear e6 q6 HQ
      go_wp2_with fail
      refine (xone_no R5.out (by omega) E6.out).mono ?_
      rintro e w6 ⟨rfl, r6, k6⟩
      have R6 := hide r6
      have K6 := hide (K5.out.trans k6.tobq)
      clear r6 k6
      go_wp2_with fail
      go_ret
      exact ⟨rfl, R6.out, K6.out, fun r e => by cases e⟩
end Go.Proofs.YtbdbkjngdhcjpaaDoor
