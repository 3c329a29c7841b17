import Derived.Test.YtbdbkjngdhcjpaaDoorXf
namespace Go.Proofs.YtbdbkjngdhcjpaaDoor
open Go.RowKit
open Go.Proofs

/-- These bytes, one behind the other. -/
def lits : List Int → Pu.Rd Unit
  | [] => Pu.ret ()
  | m :: ms => Pu.bnd (Pu.take m) fun _ => lits ms
def optIf (c : Prop) [Decidable c] (m : Int) : Pu.Rd Bool := if c then Pu.opt m else Pu.ret false
/-- Behind the columns of the other shapes: the rows, the stars. -/
def closedP (k W : Int) (ds : List Int) : Pu.Rd (Int × Bool × Bool) := Pu.bnd (optIf (k = 75) 42) fun st => Pu.bnd (Pu.take 44) fun _ =>
  if k = 83 then Pu.bnd (lits ds) fun _ => Pu.ret (W, st, false) else Pu.bnd (Pu.number 1 12) fun h => if k = 75 ∧ st = false then Pu.bnd (Pu.take 42) fun _ => Pu.ret (h, st, true) else Pu.ret (h, st, false)
/-- The bytes of a text from a place on. -/
def bytesAt (s : ByteArray) (i n : Nat) : List Int := (List.range n).map fun k => src s (i + k)
theorem bytesAt_succ (s : ByteArray) (i n : Nat) : bytesAt s i (n + 1) = src s i :: bytesAt s (i + 1) n := by
  unfold bytesAt
  rw [List.range_succ_eq_map, List.map_cons, List.map_map]
  congr 1
  apply List.map_congr_left
  intro k _
  show src s (i + (k + 1)) = src s (i + 1 + k)
  congr 1
  omega

set_option maxRecDepth 100000 in
set_option maxHeartbeats 4000000 in
theorem xclosed_any (b q : Nat) (hbq : b ≠ q) (s : ByteArray) (i from_ n : Nat) (hft : from_ + n ≤ i) (k W : Int) (a0 a1 a2 a3 a6 a7 a8 a11 a12 : Value) (w : World) (h : RxAt w b s i)
    (hv : VAt w q #[a0, a1, a2, a3, .int .u8 k, .int .i64 W, a6, a7, a8, .bool false, .bool false, a11, a12]) (j : Nat) (o : Option (Int × Bool × Bool)) (hq : Hid (closedP k W (bytesAt s from_ n) (src s) i = (j, o))) :
    Calls Tryd.prog 85 #[.pointer (some ⟨b, 0, none⟩), .pointer (some ⟨q, 0, none⟩), .int .i64 from_, .int .i64 ((from_ + n : Nat) : Int)] w fun e w' => e = .returned (.bool o.isSome) ∧ RxAt w' b s j ∧ Kp (bq b q) w w' ∧
      ∀ r, o = some r → VAt w' q #[a0, a1, a2, a3, .int .u8 k, .int .i64 W, .int .i64 r.1, a7, a8, .bool r.2.1, .bool r.2.2, a11, a12] := by
  have H := hide h
  have V := hide hv
  have c4 : w.cell? ⟨q, 4, none⟩ = some (.int .u8 k) := hv.cell 4
  have hs4 := h.few
  have hle := h.le
  clear h hv
  obtain ⟨to_, hto⟩ : ∃ t, from_ + n = t := ⟨_, rfl⟩
  rw [hto]
  rw [hto] at hft
  have HTO := hide hto
  clear hto
  go_enter Tryd.func85, Tryd.ntmps85
  go_upto_if 18 with fail
  go_cut [] from 18 to 23 (fun wc => ∃ (st : Bool) (j1 : Nat), optIf (k = 75) 42 (src s) i = (j1, some st) ∧ from_ + n ≤ j1 ∧ RxAt wc b s j1 ∧ VAt wc q #[a0, a1, a2, a3, .int .u8 k, .int .i64 W, a6, a7, a8, .bool st, .bool false, a11, a12] ∧ Kp (bq b q) w wc)
  case first =>
    by_cases e : k = 75
    · have b75 : (k == 75) = true := by simpa using e
      have HS : Hid (optIf (k = 75) 42 (src s) i = (upIf s i 42, some (decide (src s i = 42)))) := by
        show _ = _
        unfold optIf upIf Pu.opt
        rw [if_pos e]
        by_cases e2 : src s i = 42
        · rw [if_pos e2, if_pos e2, decide_eq_true e2]
        · rw [if_neg e2, if_neg e2, decide_eq_false e2]
      have up0 : i ≤ upIf s i 42 := by unfold upIf; split <;> omega
      clear e
      go_wp2_with fail
      refine (xone_any b s i 42 _ H.out (by omega)).mono ?_
      rintro e w1 ⟨rfl, r1, k1⟩
      have V1 := hide (V.out.keep k1 (fun e => hbq e.symm))
      have d9 : w1.cell? ⟨q, 9, none⟩ = some (.bool false) := V1.out.cell 9
      have g9 := V1.out.fro 9
      generalize decide (src s i = 42) = st at *
      have V2 : Hid (VAt (w1.setCell ⟨q, 9, none⟩ (.bool st)) q #[a0, a1, a2, a3, .int .u8 k, .int .i64 W, a6, a7, a8, .bool st, .bool false, a11, a12]) := V1.out.put 9 _ _ rfl
      have R2 : Hid (RxAt (w1.setCell ⟨q, 9, none⟩ (.bool st)) b s (upIf s i 42)) := r1.setOther hbq _
      have K2 : Hid (Kp (bq b q) w (w1.setCell ⟨q, 9, none⟩ (.bool st))) := k1.tobq.putq 9 _
      clear r1 k1
      go_wp2_with fail
      go_meet
      case rel => exact ⟨st, upIf s i 42, HS.out, by have := HTO.out; omega, R2.out, V2.out, K2.out⟩
    · have b75 : (k == 75) = false := by simpa using e
      have HS : Hid (optIf (k = 75) 42 (src s) i = (i, some false)) := by
        show _ = _
        unfold optIf
        rw [if_neg e]
        rfl
      clear e
      go_wp2_with fail
      go_meet
      case rel => exact ⟨false, i, HS.out, by have := HTO.out; omega, H.out, V.out, Kp.refl _ _⟩
  case rest =>
  obtain ⟨st, j1, hs, hj1, r1, v1, k1⟩ := hcut
  have R1 := hide r1
  have V1 := hide v1
  have K1 := hide k1
  have q1 := hq.out
  unfold closedP at q1
  rw [bnd_some hs] at q1
  have HQ1 := hide q1
  clear hs r1 v1 k1 q1 hq c4 H V hft
  by_cases e2 : src s j1 = 44
  · have q2 := HQ1.out
    rw [bnd_some (show Pu.take 44 (src s) j1 = (j1 + 1, some ()) by unfold Pu.take; rw [if_pos e2])] at q2
    have HQ2 := hide q2
    have E2 := hide e2
    clear e2 q2 HQ1
    go_wp2_with fail
    refine (xone_yes R1.out (by omega) E2.out).mono ?_
    rintro e w2 ⟨rfl, r2, k2⟩
    have V2 := hide (V1.out.keep k2 (fun e => hbq e.symm))
    have R2 := hide r2
    have K2 := hide (K1.out.trans k2.tobq)
    have d4 : w2.cell? ⟨q, 4, none⟩ = some (.int .u8 k) := V2.out.cell 4
    clear r2 k2 V1 R1 K1
    by_cases e3 : k = 83
    · have b83 : (k == 83) = true := by simpa using e3
      have q3 := HQ2.out
      rw [if_pos e3] at q3
      have HQ3 := hide q3
      clear e3 q3 HQ2
      go_wp2_with fail
      have c5' : Hid (∀ wx, VAt wx q #[a0, a1, a2, a3, .int .u8 k, .int .i64 W, a6, a7, a8, .bool st, .bool false, a11, a12] → wx.cell? ⟨q, 5, none⟩ = some (.int .i64 W) ∧ wx.cell? ⟨q, 6, none⟩ = some a6) := fun wx hx => ⟨hx.cell 5, hx.cell 6⟩
      have hto1 : from_ ≤ to_ := by have := HTO.out; omega
      have hto2 : to_ ≤ s.size := by have := HTO.out; have := R2.out.le; omega
      have H0 : Hid (Pu.bnd (lits (bytesAt s from_ (to_ - from_))) (fun _ => Pu.ret (W, st, false)) (src s) (j1 + 1) = (j, o)) := by
        have e : to_ - from_ = n := by have := HTO.out; omega
        show _ = _
        rw [e]
        exact HQ3.out
      clear HQ3 hj1
      go_loopg [10] (to_ - from_) (fun gk v wr => ∃ (p jj : Nat), from_ ≤ p ∧ p ≤ to_ ∧ to_ ≤ p + gk ∧ v = .int .i64 p ∧ RxAt wr b s jj ∧ VAt wr q #[a0, a1, a2, a3, .int .u8 k, .int .i64 W, a6, a7, a8, .bool st, .bool false, a11, a12] ∧ Kp (bq b q) w wr ∧ Pu.bnd (lits (bytesAt s p (to_ - p))) (fun _ => Pu.ret (W, st, false)) (src s) jj = (j, o))
      case atStart => exact ⟨from_, j1 + 1, by omega, by omega, by omega, rfl, R2.out, V2.out, K2.out, H0.out⟩
      case round =>
        obtain ⟨p, jj, p1, p2, p3, rfl, r5, v5, k5, h5⟩ := hrel
        have R5 := hide r5
        have V5 := hide v5
        have K5 := hide k5
        have c0 := r5.c0
        by_cases hp : p < to_
        · have hlt : p < s.size := by omega
          have hb1 : (s[p].toNat : Int) < 256 := by have := s[p].toNat_lt; omega
          have e1 : to_ - p = (to_ - (p + 1)) + 1 := by omega
          rw [e1, bytesAt_succ, src_lt hlt] at h5
          have h6 : Pu.bnd (Pu.bnd (Pu.take (s[p].toNat : Int)) fun _ => lits (bytesAt s (p + 1) (to_ - (p + 1)))) (fun _ => Pu.ret (W, st, false)) (src s) jj = (j, o) := h5
          rw [bnd_assoc] at h6
          have H6 := hide h6
          clear h5 h6 e1 r5 v5 k5
          by_cases e6 : src s jj = (s[p].toNat : Int)
          · have q6 := H6.out
            rw [bnd_some (show Pu.take (s[p].toNat : Int) (src s) jj = (jj + 1, some ()) by unfold Pu.take; rw [if_pos e6])] at q6
            have HQ6 := hide q6
            have E6 := hide e6
            clear e6 q6 H6
            go_wp2_with fail
            refine (xone_yes R5.out (by omega) E6.out).mono ?_
            rintro e w6 ⟨rfl, r6, k6⟩
            have V6 := hide (V5.out.keep k6 (fun e => hbq e.symm))
            have R6 := hide r6
            have K6 := hide (K5.out.trans k6.tobq)
            clear r6 k6
            go_wp2_with fail
            go_roundg (gk - 1)
            case measure => omega
            case rel => exact ⟨p + 1, jj + 1, by omega, by omega, by omega, by go_num, R6.out, V6.out, K6.out, HQ6.out⟩
          · have q6 := H6.out
            rw [bnd_none (show Pu.take (s[p].toNat : Int) (src s) jj = (jj, none) by unfold Pu.take; rw [if_neg e6])] at q6
            obtain ⟨e1, e3⟩ := Prod.mk.inj q6
            have HO := hide (⟨e1.symm, e3.symm⟩ : j = jj ∧ o = none)
            have E6 := hide e6
            clear e6 q6 H6 e1 e3 H0
            go_wp2_with fail
            refine (xone_no R5.out (by omega) E6.out).mono ?_
            rintro e w6 ⟨rfl, r6, k6⟩
            have R6 := hide r6
            have K6 := hide (K5.out.trans k6.tobq)
            clear r6 k6
            go_wp2_with fail
            go_ret
            obtain ⟨e1, e2⟩ := HO.out
            subst e1 e2
            exact ⟨rfl, R6.out, K6.out, fun r e => by cases e⟩
        · have ep : p = to_ := by omega
          rw [ep, Nat.sub_self] at h5
          obtain ⟨e1, e3⟩ := Prod.mk.inj (show (jj, some (W, st, false)) = (j, o) from h5)
          have HO := hide (⟨e1.symm, e3.symm⟩ : j = jj ∧ o = some (W, st, false))
          have hd := c5'.out wr v5
          have hd5 := hd.1
          have hd6 := hd.2
          have g6 := v5.fro 6
          have V7 : Hid (VAt (wr.setCell ⟨q, 6, none⟩ (.int .i64 W)) q #[a0, a1, a2, a3, .int .u8 k, .int .i64 W, .int .i64 W, a7, a8, .bool st, .bool false, a11, a12]) := v5.put 6 _ _ rfl
          have R7 : Hid (RxAt (wr.setCell ⟨q, 6, none⟩ (.int .i64 W)) b s jj) := r5.setOther hbq _
          have K7 : Hid (Kp (bq b q) w (wr.setCell ⟨q, 6, none⟩ (.int .i64 W))) := k5.putq 6 _
          clear h5 r5 v5 k5 e1 e3 H0 hd ep
          go_wp2_with fail
          go_ret
          obtain ⟨e1, e2⟩ := HO.out
          subst e1 e2
          refine ⟨rfl, R7.out, K7.out, fun r e => ?_⟩
          have er := Option.some.inj e
          subst er
          exact V7.out
    · have b83 : (k == 83) = false := by simpa using e3
      have q3 := HQ2.out
      rw [if_neg e3] at q3
      have HQ3 := hide q3
      clear e3 q3 HQ2
      rcases hn : Pu.number 1 12 (src s) (j1 + 1) with ⟨jh, oh⟩
      have HN := hide hn
      clear hn
      go_wp2_with fail
      refine (xnumber_any b s (j1 + 1) 1 12 _ R2.out (by omega) (by omega) (by omega) (by omega) jh oh HN).mono ?_
      rintro e w3 ⟨⟨x3, rfl, hx3⟩, r3, k3⟩
      have V3 := hide (V2.out.keep k3 (fun e => hbq e.symm))
      have R3 := hide r3
      have K3 := hide (K2.out.trans k3.tobq)
      have HX := hide hx3
      have d6 : w3.cell? ⟨q, 6, none⟩ = some a6 := V3.out.cell 6
      have g6 := V3.out.fro 6
      have d4' : w3.cell? ⟨q, 4, none⟩ = some (.int .u8 k) := V3.out.cell 4
      have d9 : w3.cell? ⟨q, 9, none⟩ = some (.bool st) := V3.out.cell 9
      have V4 : Hid (VAt (w3.setCell ⟨q, 6, none⟩ (.int .i64 x3)) q #[a0, a1, a2, a3, .int .u8 k, .int .i64 W, .int .i64 x3, a7, a8, .bool st, .bool false, a11, a12]) := V3.out.put 6 _ _ rfl
      have R4 : Hid (RxAt (w3.setCell ⟨q, 6, none⟩ (.int .i64 x3)) b s jh) := R3.out.setOther hbq _
      have K4 : Hid (Kp (bq b q) w (w3.setCell ⟨q, 6, none⟩ (.int .i64 x3))) := K3.out.putq 6 _
      clear r3 k3 hx3 V3 R3 K3 V2 R2 K2
      cases oh with
      | none =>
        have HO : Hid (j = jh ∧ o = none) := by
          have := HQ3.out
          rw [bnd_none HN.out] at this
          exact ⟨(Prod.mk.inj this).1.symm, (Prod.mk.inj this).2.symm⟩
        go_wp2_with fail
        go_ret
        obtain ⟨e1, e2⟩ := HO.out
        subst e1 e2
        exact ⟨rfl, R4.out, K4.out, fun r e => by cases e⟩
      | some h =>
        have ex := HX.out h rfl
        subst ex
        have q4 := HQ3.out
        rw [bnd_some HN.out] at q4
        by_cases e4 : k = 75 ∧ st = false
        · rw [if_pos e4] at q4
          obtain ⟨ek, es⟩ := e4
          have b75 : (k == 75) = true := by simpa using ek
          subst es
          have HQ4 := hide q4
          have HE : Hid (Pu.take 42 (src s) jh = (j, o.map fun _ => ()) ∧ ∀ r, o = some r → r = (x3, false, true)) := by
            have := HQ4.out
            unfold Pu.bnd at this
            rcases et : Pu.take 42 (src s) jh with ⟨j2, _ | u⟩
            · rw [et] at this
              obtain ⟨rfl, rfl⟩ := Prod.mk.inj this
              exact ⟨rfl, fun r e => by cases e⟩
            · rw [et] at this
              obtain ⟨rfl, rfl⟩ := Prod.mk.inj this
              exact ⟨rfl, fun r e => (Option.some.inj e).symm⟩
          clear q4 HQ4 HQ3 HN HX ek
          go_wp2_with fail
          refine (xone_any b s jh 42 _ R4.out (by omega)).mono ?_
          rintro e w5 ⟨rfl, r5, k5⟩
          have V5 := hide (V4.out.keep k5 (fun e => hbq e.symm))
          have d10 : w5.cell? ⟨q, 10, none⟩ = some (.bool false) := V5.out.cell 10
          have g10 := V5.out.fro 10
          obtain ⟨t1, t2⟩ := HE.out
          obtain ⟨t3, t4⟩ := take_up t1
          have T2 := hide t2
          have T3 := hide t3
          have T4 := hide t4
          clear t1 t2 t3 t4 HE
          generalize decide (src s jh = 42) = s2 at *
          have V6 : Hid (VAt (w5.setCell ⟨q, 10, none⟩ (.bool s2)) q #[a0, a1, a2, a3, .int .u8 k, .int .i64 W, .int .i64 x3, a7, a8, .bool false, .bool s2, a11, a12]) := V5.out.put 10 _ _ rfl
          have R6 : Hid (RxAt (w5.setCell ⟨q, 10, none⟩ (.bool s2)) b s (upIf s jh 42)) := r5.setOther hbq _
          have K6 : Hid (Kp (bq b q) w (w5.setCell ⟨q, 10, none⟩ (.bool s2))) := (K4.out.trans k5.tobq).putq 10 _
          have d10' : (w5.setCell ⟨q, 10, none⟩ (.bool s2)).cell? ⟨q, 10, none⟩ = some (.bool s2) := V6.out.cell 10
          clear r5 k5
          go_wp2_with fail
          go_ret
          refine ⟨ret_bool T3.out, by rw [T4.out]; exact R6.out, K6.out, fun r e => ?_⟩
          obtain rfl := T2.out r e
          have es : s2 = true := by rw [T3.out, e]; rfl
          subst es
          exact V6.out
        · rw [if_neg e4] at q4
          obtain ⟨e1, e2⟩ := Prod.mk.inj q4
          have HO := hide (⟨e1.symm, e2.symm⟩ : j = jh ∧ o = some (x3, st, false))
          have cs : (k == 75) = false ∨ ((k == 75) = true ∧ st = true) := by
            by_cases e : k = 75
            · right
              exact ⟨by simpa using e, by cases st; exact absurd ⟨e, rfl⟩ e4; rfl⟩
            · left
              simpa using e
          clear q4 HQ3 HN HX e4 e1 e2
          rcases cs with b75 | ⟨b75, rfl⟩
          all_goals
            go_wp2_with fail
            go_ret
            obtain ⟨e1, e2⟩ := HO.out
            subst e1 e2
            refine ⟨rfl, R4.out, K4.out, fun r e => ?_⟩
            have er := Option.some.inj e
            subst er
            exact V4.out
  · have q2 := HQ1.out
    rw [bnd_none (show Pu.take 44 (src s) j1 = (j1, none) by unfold Pu.take; rw [if_neg e2])] at q2
    obtain ⟨e1, e3⟩ := Prod.mk.inj q2
    subst e1 e3
    have E2 := hide e2
    clear e2 q2 HQ1
    go_wp2_with fail
    refine (xone_no R1.out (by omega) E2.out).mono ?_
    rintro e w2 ⟨rfl, r2, k2⟩
    have R2 := hide r2
    have K2 := hide (K1.out.trans k2.tobq)
    clear r2 k2
    go_wp2_with fail
    go_ret
    exact ⟨rfl, R2.out, K2.out, fun r e => by cases e⟩
end Go.Proofs.YtbdbkjngdhcjpaaDoor
