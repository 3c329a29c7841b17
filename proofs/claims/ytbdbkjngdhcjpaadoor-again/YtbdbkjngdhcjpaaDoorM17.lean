import Derived.Test.YtbdbkjngdhcjpaaDoorXg
import Derived.Test.YtbdbkjngdhcjpaaDoorM4
namespace Go.Proofs.YtbdbkjngdhcjpaaDoor
open Go.RowKit
open Go.Proofs

/-- The document's shape, with the blank behind it, as it is read. -/
def sideP (k W : Int) (ds : List Int) : Pu.Rd Pu.Shape := if k = 80 ∨ k = 84 then Pu.bnd (openP k W) fun r => Pu.ret ⟨k, W, r.2.1, r.1, r.2.2, false, false⟩ else Pu.bnd (closedP k W ds) fun r => Pu.ret ⟨k, W, r.1, 0, 0, r.2.1, r.2.2⟩
def bytesF (f : Pu.Src) (i n : Nat) : List Int := (List.range n).map fun k => f (i + k)
def xshapeK (k : Int) : Pu.Rd Pu.Shape := fun f i => match Pu.number (Pu.leastSide k) 12 f i with
  | (j, none) => (j, none)
  | (j, some W) => Pu.bnd (sideP k W (bytesF f i (j - i))) (fun x => Pu.bnd (Pu.take 32) fun _ => Pu.ret x) f j
def xshapeP : Pu.Rd Pu.Shape := Pu.bnd (Pu.letter [80, 84, 75, 67, 83]) xshapeK
theorem xlets_shape : lets ⟨#[80, 84, 75, 67, 83]⟩ = [80, 84, 75, 67, 83] := by decide
theorem end32 {α : Type} {p : Pu.Rd α} {f : Pu.Src} {i j : Nat} {o : Option α} {jo : Nat} {x : α} (h : Pu.bnd p (fun x => Pu.bnd (Pu.take 32) fun _ => Pu.ret x) f i = (j, o)) (hp : p f i = (jo, some x)) : Pu.take 32 f jo = (j, o.map fun _ => ()) ∧ ∀ r, o = some r → r = x := by
  rw [bnd_some hp] at h
  unfold Pu.bnd Pu.ret at h
  rcases e : Pu.take 32 f jo with ⟨j2, _ | u⟩
  · rw [e] at h
    obtain ⟨rfl, rfl⟩ := Prod.mk.inj h
    exact ⟨rfl, fun r e => by cases e⟩
  · rw [e] at h
    obtain ⟨rfl, rfl⟩ := Prod.mk.inj h
    exact ⟨rfl, fun r e => (Option.some.inj e).symm⟩
/-- A shape's fields in the document's world. -/
def vshape (x : Pu.Shape) (a0 a1 a2 a3 a11 a12 : Value) : Array Value := #[a0, a1, a2, a3, .int .u8 x.kind, .int .i64 x.w, .int .i64 x.h, .int .i64 x.ws, .int .i64 x.hs, .bool x.wst, .bool x.hst, a11, a12]

set_option maxRecDepth 100000 in
set_option maxHeartbeats 4000000 in
theorem xshape_any (b q : Nat) (hbq : b ≠ q) (s : ByteArray) (i : Nat) (a0 a1 a2 a3 a11 a12 : Value) (w : World) (h : RxAt w b s i) (hv : VAt w q (vshape ⟨0, 0, 0, 0, 0, false, false⟩ a0 a1 a2 a3 a11 a12)) (j : Nat) (o : Option Pu.Shape) (hq : Hid (xshapeP (src s) i = (j, o))) :
    Calls Tryd.prog 60 #[.pointer (some ⟨b, 0, none⟩), .pointer (some ⟨q, 0, none⟩)] w fun e w' => e = .returned (.bool o.isSome) ∧ RxAt w' b s j ∧ Kp (bq b q) w w' ∧ ∀ r, o = some r → VAt w' q (vshape r a0 a1 a2 a3 a11 a12) := by
  have H := hide h
  have V := hide hv
  have hq' := hq.out
  unfold xshapeP at hq'
  clear h hv hq
  rcases hl : Pu.letter [80, 84, 75, 67, 83] (src s) i with ⟨j1, _ | k⟩
  · rw [bnd_none hl] at hq'
    obtain ⟨rfl, rfl⟩ := Prod.mk.inj hq'
    rw [← xlets_shape] at hl
    have HL := hide hl
    clear hq' hl
    go_enter Tryd.func60, Tryd.ntmps60
    go_wp2_with fail
    refine (xof_any b s i ⟨#[80, 84, 75, 67, 83]⟩ _ H.out (by decide) j1 none HL).mono ?_
    rintro e w1 ⟨⟨x, rfl, hx⟩, r1, k1⟩
    have R1 := hide r1
    have K1 := hide k1
    clear hx r1 k1
    go_wp2_with fail
    go_ret
    exact ⟨rfl, R1.out, K1.out.tobq, fun r e => by cases e⟩
  · rw [bnd_some hl] at hq'
    rw [← xlets_shape] at hl
    have HL := hide hl
    have HQ := hide hq'
    clear hq' hl
    obtain ⟨lo, hlo⟩ : ∃ lo, Pu.leastSide k = lo := ⟨_, rfl⟩
    have lo0 : 0 ≤ lo := by rw [← hlo]; unfold Pu.leastSide; split <;> omega
    have lo1 : lo ≤ 1 := by rw [← hlo]; unfold Pu.leastSide; split <;> omega
    have CS : Hid (((k == 80) = true ∧ lo = 0 ∧ (k = 80 ∨ k = 84)) ∨ ((k == 80) = false ∧ (k == 84) = true ∧ lo = 0 ∧ (k = 80 ∨ k = 84)) ∨ ((k == 80) = false ∧ (k == 84) = false ∧ lo = 1 ∧ ¬ (k = 80 ∨ k = 84))) := by
      show _ ∨ _ ∨ _
      rw [← hlo]
      unfold Pu.leastSide
      by_cases e1 : k = 80
      · left
        exact ⟨by simpa using e1, by rw [if_pos (Or.inl e1)], Or.inl e1⟩
      · right
        by_cases e2 : k = 84
        · left
          exact ⟨by simpa using e1, by simpa using e2, by rw [if_pos (Or.inr e2)], Or.inr e2⟩
        · right
          exact ⟨by simpa using e1, by simpa using e2, by rw [if_neg (by omega)], by omega⟩
    have q1 := HQ.out
    unfold xshapeK at q1
    rw [hlo] at q1
    have HQ1 := hide q1
    clear hlo q1 HQ
    go_enter Tryd.func60, Tryd.ntmps60
    go_wp2_with fail
    refine (xof_any b s i ⟨#[80, 84, 75, 67, 83]⟩ _ H.out (by decide) j1 _ HL).mono ?_
    rintro e w1 ⟨⟨x, rfl, hx⟩, r1, k1⟩
    obtain rfl := hx _ rfl
    have V1 := hide (V.out.keep k1 (fun e => hbq e.symm))
    have d4 : w1.cell? ⟨q, 4, none⟩ = some (.int .u8 0) := V1.out.cell 4
    have g4 := V1.out.fro 4
    have V2 : Hid (VAt (w1.setCell ⟨q, 4, none⟩ (.int .u8 x)) q #[a0, a1, a2, a3, .int .u8 x, .int .i64 0, .int .i64 0, .int .i64 0, .int .i64 0, .bool false, .bool false, a11, a12]) := V1.out.put 4 _ _ rfl
    have R2 : Hid (RxAt (w1.setCell ⟨q, 4, none⟩ (.int .u8 x)) b s j1) := r1.setOther hbq _
    have K2 : Hid (Kp (bq b q) w (w1.setCell ⟨q, 4, none⟩ (.int .u8 x))) := k1.tobq.putq 4 _
    have L2 := hide (r1.le)
    clear hx r1 k1 HL V1
    go_upto_region 6 with fail
    generalize w1.setCell ⟨q, 4, none⟩ (.int .u8 x) = w2 at *
    go_cut [27] from 22 to 26 (fun c wc => c = .bool (decide (lo = 0)) ∧ RxAt wc b s j1 ∧ VAt wc q #[a0, a1, a2, a3, .int .u8 x, .int .i64 0, .int .i64 0, .int .i64 0, .int .i64 0, .bool false, .bool false, a11, a12] ∧ Kp (bq b q) w wc)
    case first =>
      rcases CS.out with ⟨b80, el, _⟩ | ⟨b80, b84, el, _⟩ | ⟨b80, b84, el, _⟩
      all_goals
        subst el
        go_wp2_with fail
        go_meet
        case rel => exact ⟨rfl, R2.out, V2.out, K2.out⟩
    case rest =>
    obtain ⟨rfl, r3, v3, k3⟩ := hcut
    have R3 := hide r3
    have V3 := hide v3
    have K3 := hide k3
    clear r3 v3 k3 R2 V2 K2 d4 g4
    go_upto_if 27 with fail
    go_cut [7] from 27 to 27 (fun c wc2 => c = .int .i64 lo ∧ wc2 = wc)
    case first =>
      by_cases e : lo = 0
      · rw [decide_eq_true e]
        subst e
        go_wp2_with fail
        go_meet
        case rel => exact ⟨rfl, rfl⟩
      · rw [decide_eq_false e]
        have el : lo = 1 := by omega
        subst el
        clear e
        go_wp2_with fail
        go_meet
        case rel => exact ⟨rfl, rfl⟩
    case rest =>
    obtain ⟨rfl, hwc⟩ := hcut
    subst hwc
    rcases hn : Pu.number lo 12 (src s) j1 with ⟨jh, oh⟩
    have HN := hide hn
    have jle : j1 ≤ jh := by
      have := (Pu.good_number lo 12).mono (src s) j1
      rw [hn] at this
      exact this
    have c1 := R3.out.c1
    clear hn
    go_wp2_with fail
    refine (xnumber_any b s j1 lo 12 _ R3.out (by omega) (by omega) (by omega) (by omega) jh oh HN).mono ?_
    rintro e w8 ⟨⟨x8, rfl, hx8⟩, r8, k8⟩
    have V8 := hide (V3.out.keep k8 (fun e => hbq e.symm))
    have R8 := hide r8
    have K8 := hide (K3.out.trans k8.tobq)
    have HX := hide hx8
    have d5 : w8.cell? ⟨q, 5, none⟩ = some (.int .i64 0) := V8.out.cell 5
    have g5 := V8.out.fro 5
    have e1 : w8.cell? ⟨b, 1, none⟩ = some (.int .i64 jh) := r8.c1
    have V9 : Hid (VAt (w8.setCell ⟨q, 5, none⟩ (.int .i64 x8)) q #[a0, a1, a2, a3, .int .u8 x, .int .i64 x8, .int .i64 0, .int .i64 0, .int .i64 0, .bool false, .bool false, a11, a12]) := V8.out.put 5 _ _ rfl
    have R9 : Hid (RxAt (w8.setCell ⟨q, 5, none⟩ (.int .i64 x8)) b s jh) := R8.out.setOther hbq _
    have K9 : Hid (Kp (bq b q) w (w8.setCell ⟨q, 5, none⟩ (.int .i64 x8))) := K8.out.putq 5 _
    have e2 : (w8.setCell ⟨q, 5, none⟩ (.int .i64 x8)).cell? ⟨b, 1, none⟩ = some (.int .i64 jh) := R9.out.c1
    clear r8 k8 hx8 V8 R8 K8 V3 R3 K3
    cases oh with
    | none =>
      have HO : Hid (j = jh ∧ o = none) := by
        have := HQ1.out
        rw [HN.out] at this
        exact ⟨(Prod.mk.inj this).1.symm, (Prod.mk.inj this).2.symm⟩
      go_wp2_with fail
      go_ret
      obtain ⟨u1, u2⟩ := HO.out
      subst u1 u2
      exact ⟨rfl, R9.out, K9.out, fun r e => by cases e⟩
    | some W =>
      have ex := HX.out W rfl
      subst ex
      have nb := number_bd HN.out
      have q9 := HQ1.out
      rw [HN.out] at q9
      simp only at q9
      by_cases el : lo = 0
      · have hk : x = 80 ∨ x = 84 := by
          rcases CS.out with ⟨_, _, h⟩ | ⟨_, _, _, h⟩ | ⟨_, _, h, _⟩
          · exact h
          · exact h
          · omega
        have b0 : (lo == 0) = true := by simpa using el
        rcases hop : openP x x8 (src s) jh with ⟨jo, oo⟩
        have HOP := hide hop
        have hside : sideP x x8 (bytesF (src s) j1 (jh - j1)) (src s) jh = (jo, oo.map fun r => (⟨x, x8, r.2.1, r.1, r.2.2, false, false⟩ : Pu.Shape)) := by
          unfold sideP
          rw [if_pos hk]
          cases oo with
          | none => rw [bnd_none hop]; rfl
          | some r => rw [bnd_some hop]; rfl
        have HSD := hide hside
        have HQ9 := hide q9
        clear hop hside q9 HN HQ1 el CS
        go_wp2_with fail
        refine (xopen_any b q hbq s jh x x8 a0 a1 a2 a3 (.int .i64 0) (.bool false) (.bool false) a11 a12 _ R9.out (by omega) V9.out jo oo HOP).mono ?_
        rintro e w10 ⟨rfl, r10, k10, v10⟩
        have R10 := hide r10
        have K10 := hide (K9.out.trans k10)
        have V10 := hide v10
        clear r10 k10 v10
        cases oo with
        | none =>
          have HO : Hid (j = jo ∧ o = none) := by
            have := HQ9.out
            rw [bnd_none HSD.out] at this
            exact ⟨(Prod.mk.inj this).1.symm, (Prod.mk.inj this).2.symm⟩
          go_wp2_with fail
          go_ret
          obtain ⟨u1, u2⟩ := HO.out
          subst u1 u2
          exact ⟨rfl, R10.out, K10.out, fun r e => by cases e⟩
        | some rr =>
          have HE := hide (end32 HQ9.out HSD.out)
          have V11 := hide (V10.out rr rfl)
          go_wp2_with fail
          refine (xone_any b s jo 32 _ R10.out (by omega)).mono ?_
          rintro e w11 ⟨rfl, r11, k11⟩
          have R11 := hide r11
          have V12 := hide (V11.out.keep k11 (fun e => hbq e.symm))
          have K11 := hide (K10.out.trans k11.tobq)
          clear r11 k11
          go_wp2_with fail
          go_ret
          obtain ⟨t1, t2⟩ := HE.out
          obtain ⟨t3, t4⟩ := take_up t1
          refine ⟨ret_bool t3, by rw [t4]; exact R11.out, K11.out, fun r e => ?_⟩
          obtain rfl := t2 r e
          exact V12.out
      · have hk : ¬ (x = 80 ∨ x = 84) := by
          rcases CS.out with ⟨_, h, _⟩ | ⟨_, _, h, _⟩ | ⟨_, _, _, h⟩
          · exact absurd h el
          · exact absurd h el
          · exact h
        have b0 : (lo == 0) = false := by simpa using el
        rcases hop : closedP x x8 (bytesAt s j1 (jh - j1)) (src s) jh with ⟨jo, oo⟩
        have HOP := hide hop
        have hside : sideP x x8 (bytesF (src s) j1 (jh - j1)) (src s) jh = (jo, oo.map fun r => (⟨x, x8, r.1, 0, 0, r.2.1, r.2.2⟩ : Pu.Shape)) := by
          unfold sideP
          rw [if_neg hk]
          have eb : bytesF (src s) j1 (jh - j1) = bytesAt s j1 (jh - j1) := rfl
          rw [eb]
          cases oo with
          | none => rw [bnd_none hop]; rfl
          | some r => rw [bnd_some hop]; rfl
        have HSD := hide hside
        have HQ9 := hide q9
        have LC := hide (fun (wx : World) (hx : RxAt wx b s jh) (hvx : VAt wx q #[a0, a1, a2, a3, .int .u8 x, .int .i64 x8, .int .i64 0, .int .i64 0, .int .i64 0, .bool false, .bool false, a11, a12]) => xclosed_any b q hbq s jh j1 (jh - j1) (by omega) x x8 a0 a1 a2 a3 (.int .i64 0) (.int .i64 0) (.int .i64 0) a11 a12 wx hx hvx jo oo HOP)
        have ejh : ((j1 + (jh - j1) : Nat) : Int) = (jh : Int) := by omega
        rw [ejh] at LC
        clear hop hside q9 HN HQ1 el CS ejh
        go_wp2_with fail
        refine (LC.out _ R9.out V9.out).mono ?_
        rintro e w10 ⟨rfl, r10, k10, v10⟩
        have R10 := hide r10
        have K10 := hide (K9.out.trans k10)
        have V10 := hide v10
        clear r10 k10 v10
        cases oo with
        | none =>
          have HO : Hid (j = jo ∧ o = none) := by
            have := HQ9.out
            rw [bnd_none HSD.out] at this
            exact ⟨(Prod.mk.inj this).1.symm, (Prod.mk.inj this).2.symm⟩
          go_wp2_with fail
          go_ret
          obtain ⟨u1, u2⟩ := HO.out
          subst u1 u2
          exact ⟨rfl, R10.out, K10.out, fun r e => by cases e⟩
        | some rr =>
          have HE := hide (end32 HQ9.out HSD.out)
          have V11 := hide (V10.out rr rfl)
          go_wp2_with fail
          refine (xone_any b s jo 32 _ R10.out (by omega)).mono ?_
          rintro e w11 ⟨rfl, r11, k11⟩
          have R11 := hide r11
          have V12 := hide (V11.out.keep k11 (fun e => hbq e.symm))
          have K11 := hide (K10.out.trans k11.tobq)
          clear r11 k11
          go_wp2_with fail
          go_ret
          obtain ⟨t1, t2⟩ := HE.out
          obtain ⟨t3, t4⟩ := take_up t1
          refine ⟨ret_bool t3, by rw [t4]; exact R11.out, K11.out, fun r e => ?_⟩
          obtain rfl := t2 r e
          exact V12.out
end Go.Proofs.YtbdbkjngdhcjpaaDoor
namespace Go.Proofs.YtbdbkjngdhcjpaaDoor
open Go.RowKit
open Go.Proofs

theorem onSide_zero (a : Int) : onSideB a 0 = true := by unfold onSideB; simp
theorem onSide_in {a s : Int} (h0 : 0 ≤ a) (h1 : a < s) : onSideB a s = true := by unfold onSideB; simp; omega
theorem onSide_low {a s : Int} (hs : ¬ s = 0) (h0 : ¬ 0 ≤ a) : onSideB a s = false := by unfold onSideB; simp; omega
theorem onSide_high {a s : Int} (hs : ¬ s = 0) (h1 : ¬ a < s) : onSideB a s = false := by unfold onSideB; simp; omega

set_option maxRecDepth 100000 in
set_option maxHeartbeats 2000000 in
theorem xhas_any (q : Nat) (a : Array Value) (W H X Y : Int) (w : World) (h : VAt w q a) (hW : a[5]? = some (.int .i64 W)) (hH : a[6]? = some (.int .i64 H)) :
    Calls Tryd.prog 89 #[.pointer (some ⟨q, 0, none⟩), .int .i64 X, .int .i64 Y] w fun e w' => e = .returned (.bool (onSideB X W && onSideB Y H)) ∧ ∃ n, w' = w.drewN n := by
  have c5 : w.cell? ⟨q, 5, none⟩ = some (.int .i64 W) := (h.cell 5).trans hW
  have c6 : w.cell? ⟨q, 6, none⟩ = some (.int .i64 H) := (h.cell 6).trans hH
  clear h hW hH
  have cx : ((W == 0) = true ∧ onSideB X W = true) ∨ ((W == 0) = false ∧ ¬ 0 ≤ X ∧ onSideB X W = false) ∨ ((W == 0) = false ∧ 0 ≤ X ∧ X < W ∧ onSideB X W = true) ∨ ((W == 0) = false ∧ 0 ≤ X ∧ ¬ X < W ∧ onSideB X W = false) := by
    by_cases e : W = 0
    · left; exact ⟨by simpa using e, by rw [e]; exact onSide_zero X⟩
    · right
      by_cases e2 : 0 ≤ X
      · right
        by_cases e3 : X < W
        · left; exact ⟨by simpa using e, e2, e3, onSide_in e2 e3⟩
        · right; exact ⟨by simpa using e, e2, e3, onSide_high e e3⟩
      · left; exact ⟨by simpa using e, e2, onSide_low e e2⟩
  have cy : ((H == 0) = true ∧ onSideB Y H = true) ∨ ((H == 0) = false ∧ ¬ 0 ≤ Y ∧ onSideB Y H = false) ∨ ((H == 0) = false ∧ 0 ≤ Y ∧ Y < H ∧ onSideB Y H = true) ∨ ((H == 0) = false ∧ 0 ≤ Y ∧ ¬ Y < H ∧ onSideB Y H = false) := by
    by_cases e : H = 0
    · left; exact ⟨by simpa using e, by rw [e]; exact onSide_zero Y⟩
    · right
      by_cases e2 : 0 ≤ Y
      · right
        by_cases e3 : Y < H
        · left; exact ⟨by simpa using e, e2, e3, onSide_in e2 e3⟩
        · right; exact ⟨by simpa using e, e2, e3, onSide_high e e3⟩
      · left; exact ⟨by simpa using e, e2, onSide_low e e2⟩
  generalize onSideB X W = bx at *
  generalize onSideB Y H = by' at *
  rcases cx with ⟨x1, rfl⟩ | ⟨x1, x2, rfl⟩ | ⟨x1, x2, x3, rfl⟩ | ⟨x1, x2, x3, rfl⟩
  all_goals
    rcases cy with ⟨y1, rfl⟩ | ⟨y1, y2, rfl⟩ | ⟨y1, y2, y3, rfl⟩ | ⟨y1, y2, y3, rfl⟩
    all_goals
      go_enter Tryd.func89, Tryd.ntmps89
      go_wp2
      first
        | (go_quiet (fail)
           go_wp2
           go_ret
           exact ⟨rfl, _, rfl⟩)
        | (go_ret
           exact ⟨rfl, 0, rfl⟩)
end Go.Proofs.YtbdbkjngdhcjpaaDoor
