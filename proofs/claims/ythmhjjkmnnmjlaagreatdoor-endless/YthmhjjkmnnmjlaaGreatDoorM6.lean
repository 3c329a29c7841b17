import Derived.Test.YthmhjjkmnnmjlaaGreatDoorM5
import Derived.Test.YthmhjjkmnnmjlaaGreatDoorPure
namespace Go.Proofs.YthmhjjkmnnmjlaaGreatDoor
open Go.RowKit
open Go.Proofs

/-- The document's shape, with the blank behind it, as it is read. -/
def sideP (k W : Int) (ds : List Int) : Pu.Rd Pu.Shape := if k = 80 ∨ k = 84 then Pu.bnd (openP k W) fun r => Pu.ret ⟨k, W, r.2.1, r.1, r.2.2, false, false⟩ else Pu.bnd (closedP k W ds) fun r => Pu.ret ⟨k, W, r.1, 0, 0, r.2.1, r.2.2⟩
def bytesF (f : Pu.Src) (i n : Nat) : List Int := (List.range n).map fun k => f (i + k)
def xshapeK (k : Int) : Pu.Rd Pu.Shape := fun f i => match Pu.number (Pu.leastSide k) 12 f i with
  | (j, none) => (j, none)
  | (j, some W) => Pu.bnd (sideP k W (bytesF f i (j - i))) (fun x => Pu.bnd (Pu.take 32) fun _ => Pu.ret x) f j
def xshapeP : Pu.Rd Pu.Shape := Pu.bnd (Pu.letter [80, 84, 75, 67, 83]) xshapeK
theorem xlets_shape : lets ⟨#[80, 84, 75, 67, 83]⟩ = [80, 84, 75, 67, 83] := by decide
theorem end32 {α : Type} {p : Pu.Rd α} {f : Pu.Src} {i j : Nat} {o : Option α} {jo : Nat} {x : α} (h : Pu.bnd p (fun x => Pu.bnd (Pu.take 32) fun _ => Pu.ret x) f i = (j, o)) (hp : p f i = (jo, some x)) : Pu.take 32 f jo = (j, o.map fun _ => ()) ∧ ∀ r, o = some r → r = x := by
  rw [bnd_some hp] at h
  unfold Pu.bnd Pu.ret at h
  rcases e : Pu.take 32 f jo with ⟨j2, _ | u⟩
  · rw [e] at h
    obtain ⟨rfl, rfl⟩ := Prod.mk.inj h
    exact ⟨rfl, fun r e => by cases e⟩
  · rw [e] at h
    obtain ⟨rfl, rfl⟩ := Prod.mk.inj h
    exact ⟨rfl, fun r e => (Option.some.inj e).symm⟩
/-- A shape's fields in the document's world. -/
def vshape (x : Pu.Shape) (a0 a1 a2 a3 a11 a12 : Value) : Array Value := #[a0, a1, a2, a3, .int .u8 x.kind, .int .i64 x.w, .int .i64 x.h, .int .i64 x.ws, .int .i64 x.hs, .bool x.wst, .bool x.hst, a11, a12]

set_option maxRecDepth 100000 in
set_option maxHeartbeats 4000000 in
theorem xshape_any (b q : Nat) (hbq : b ≠ q) (s : ByteArray) (i : Nat) (a0 a1 a2 a3 a11 a12 : Value) (w : World) (h : RxAt w b s i) (hv : VAt w q (vshape ⟨0, 0, 0, 0, 0, false, false⟩ a0 a1 a2 a3 a11 a12)) (j : Nat) (o : Option Pu.Shape) (hq : Hid (xshapeP (src s) i = (j, o))) :
    Calls Tryz.prog 55 #[.pointer (some ⟨b, 0, none⟩), .pointer (some ⟨q, 0, none⟩)] w fun e w' => e = .returned (.bool o.isSome) ∧ RxAt w' b s j ∧ Kp (bq b q) w w' ∧ ∀ r, o = some r → VAt w' q (vshape r a0 a1 a2 a3 a11 a12) := by
  have H := hide h
  have V := hide hv
  have hq' := hq.out
  unfold xshapeP at hq'
  clear h hv hq
  rcases hl : Pu.letter [80, 84, 75, 67, 83] (src s) i with ⟨j1, _ | k⟩
  · rw [bnd_none hl] at hq'
    obtain ⟨rfl, rfl⟩ := Prod.mk.inj hq'
    rw [← xlets_shape] at hl
    have HL := hide hl
    clear hq' hl
    go_enter Tryz.func55, Tryz.ntmps55
    go_wp2_with fail
    refine (xof_any b s i ⟨#[80, 84, 75, 67, 83]⟩ _ H.out (by decide) j1 none HL).mono ?_
    rintro e w1 ⟨⟨x, rfl, hx⟩, r1, k1⟩
    have R1 := hide r1
    have K1 := hide k1
    clear hx r1 k1
    go_wp2_with fail
    go_ret
    exact ⟨rfl, R1.out, K1.out.tobq, fun r e => by cases e⟩
  · rw [bnd_some hl] at hq'
    rw [← xlets_shape] at hl
    have HL := hide hl
    have HQ := hide hq'
    clear hq' hl
    obtain ⟨lo, hlo⟩ : ∃ lo, Pu.leastSide k = lo := ⟨_, rfl⟩
    have lo0 : 0 ≤ lo := by rw [← hlo]; unfold Pu.leastSide; split <;> omega
    have lo1 : lo ≤ 1 := by rw [← hlo]; unfold Pu.leastSide; split <;> omega
    have CS : Hid (((k == 80) = true ∧ lo = 0 ∧ (k = 80 ∨ k = 84)) ∨ ((k == 80) = false ∧ (k == 84) = true ∧ lo = 0 ∧ (k = 80 ∨ k = 84)) ∨ ((k == 80) = false ∧ (k == 84) = false ∧ lo = 1 ∧ ¬ (k = 80 ∨ k = 84))) := by
      show _ ∨ _ ∨ _
      rw [← hlo]
      unfold Pu.leastSide
      by_cases e1 : k = 80
      · left
        exact ⟨by simpa using e1, by rw [if_pos (Or.inl e1)], Or.inl e1⟩
      · right
        by_cases e2 : k = 84
        · left
          exact ⟨by simpa using e1, by simpa using e2, by rw [if_pos (Or.inr e2)], Or.inr e2⟩
        · right
          exact ⟨by simpa using e1, by simpa using e2, by rw [if_neg (by omega)], by omega⟩
    have q1 := HQ.out
    unfold xshapeK at q1
    rw [hlo] at q1
    have HQ1 := hide q1
    clear hlo q1 HQ
    go_enter Tryz.func55, Tryz.ntmps55
    go_wp2_with fail
    refine (xof_any b s i ⟨#[80, 84, 75, 67, 83]⟩ _ H.out (by decide) j1 _ HL).mono ?_
    rintro e w1 ⟨⟨x, rfl, hx⟩, r1, k1⟩
    obtain rfl := hx _ rfl
    have V1 := hide (V.out.keep k1 (fun e => hbq e.symm))
    have d4 : w1.cell? ⟨q, 4, none⟩ = some (.int .u8 0) := V1.out.cell 4
    have g4 := V1.out.fro 4
    have V2 : Hid (VAt (w1.setCell ⟨q, 4, none⟩ (.int .u8 x)) q #[a0, a1, a2, a3, .int .u8 x, .int .i64 0, .int .i64 0, .int .i64 0, .int .i64 0, .bool false, .bool false, a11, a12]) := V1.out.put 4 _ _ rfl
    have R2 : Hid (RxAt (w1.setCell ⟨q, 4, none⟩ (.int .u8 x)) b s j1) := r1.setOther hbq _
    have K2 : Hid (Kp (bq b q) w (w1.setCell ⟨q, 4, none⟩ (.int .u8 x))) := k1.tobq.putq 4 _
    have L2 := hide (r1.le)
    clear hx r1 k1 HL V1
    go_upto_region 6 with fail
    generalize w1.setCell ⟨q, 4, none⟩ (.int .u8 x) = w2 at *
    go_cut [27] from 22 to 26 (fun c wc => c = .bool (decide (lo = 0)) ∧ RxAt wc b s j1 ∧ VAt wc q #[a0, a1, a2, a3, .int .u8 x, .int .i64 0, .int .i64 0, .int .i64 0, .int .i64 0, .bool false, .bool false, a11, a12] ∧ Kp (bq b q) w wc)
    case first =>
      rcases CS.out with ⟨b80, el, _⟩ | ⟨b80, b84, el, _⟩ | ⟨b80, b84, el, _⟩
      all_goals
        subst el
        go_wp2_with fail
        go_meet
        case rel => exact ⟨rfl, R2.out, V2.out, K2.out⟩
    case rest =>
    obtain ⟨rfl, r3, v3, k3⟩ := hcut
    have R3 := hide r3
    have V3 := hide v3
    have K3 := hide k3
    clear r3 v3 k3 R2 V2 K2 d4 g4
    go_upto_if 27 with fail
    go_cut [7] from 27 to 27 (fun c wc2 => c = .int .i64 lo ∧ wc2 = wc)
    case first =>
      by_cases e : lo = 0
      · rw [decide_eq_true e]
        subst e
        go_wp2_with fail
        go_meet
        case rel => exact ⟨rfl, rfl⟩
      · rw [decide_eq_false e]
        have el : lo = 1 := by omega
        subst el
        clear e
        go_wp2_with fail
        go_meet
        case rel => exact ⟨rfl, rfl⟩
    case rest =>
    obtain ⟨rfl, hwc⟩ := hcut
    subst hwc
    rcases hn : Pu.number lo 12 (src s) j1 with ⟨jh, oh⟩
    have HN := hide hn
    have jle : j1 ≤ jh := by
      have := (Pu.good_number lo 12).mono (src s) j1
      rw [hn] at this
      exact this
    have c1 := R3.out.c1
    clear hn
    go_wp2_with fail
    refine (xnumber_any b s j1 lo 12 _ R3.out (by omega) (by omega) (by omega) (by omega) jh oh HN).mono ?_
    rintro e w8 ⟨⟨x8, rfl, hx8⟩, r8, k8⟩
    have V8 := hide (V3.out.keep k8 (fun e => hbq e.symm))
    have R8 := hide r8
    have K8 := hide (K3.out.trans k8.tobq)
    have HX := hide hx8
    have d5 : w8.cell? ⟨q, 5, none⟩ = some (.int .i64 0) := V8.out.cell 5
    have g5 := V8.out.fro 5
    have e1 : w8.cell? ⟨b, 1, none⟩ = some (.int .i64 jh) := r8.c1
    have V9 : Hid (VAt (w8.setCell ⟨q, 5, none⟩ (.int .i64 x8)) q #[a0, a1, a2, a3, .int .u8 x, .int .i64 x8, .int .i64 0, .int .i64 0, .int .i64 0, .bool false, .bool false, a11, a12]) := V8.out.put 5 _ _ rfl
    have R9 : Hid (RxAt (w8.setCell ⟨q, 5, none⟩ (.int .i64 x8)) b s jh) := R8.out.setOther hbq _
    have K9 : Hid (Kp (bq b q) w (w8.setCell ⟨q, 5, none⟩ (.int .i64 x8))) := K8.out.putq 5 _
    have e2 : (w8.setCell ⟨q, 5, none⟩ (.int .i64 x8)).cell? ⟨b, 1, none⟩ = some (.int .i64 jh) := R9.out.c1
    clear r8 k8 hx8 V8 R8 K8 V3 R3 K3
    cases oh with
    | none =>
      have HO : Hid (j = jh ∧ o = none) := by
        have := HQ1.out
        rw [HN.out] at this
        exact ⟨(Prod.mk.inj this).1.symm, (Prod.mk.inj this).2.symm⟩
      go_wp2_with fail
      go_ret
      obtain ⟨u1, u2⟩ := HO.out
      subst u1 u2
      exact ⟨rfl, R9.out, K9.out, fun r e => by cases e⟩
    | some W =>
      have ex := HX.out W rfl
      subst ex
      have nb := number_bd HN.out
      have q9 := HQ1.out
      rw [HN.out] at q9
      simp only at q9
      by_cases el : lo = 0
      · have hk : x = 80 ∨ x = 84 := by
          rcases CS.out with ⟨_, _, h⟩ | ⟨_, _, _, h⟩ | ⟨_, _, h, _⟩
          · exact h
          · exact h
          · omega
        have b0 : (lo == 0) = true := by simpa using el
        rcases hop : openP x x8 (src s) jh with ⟨jo, oo⟩
        have HOP := hide hop
        have hside : sideP x x8 (bytesF (src s) j1 (jh - j1)) (src s) jh = (jo, oo.map fun r => (⟨x, x8, r.2.1, r.1, r.2.2, false, false⟩ : Pu.Shape)) := by
          unfold sideP
          rw [if_pos hk]
          cases oo with
          | none => rw [bnd_none hop]; rfl
          | some r => rw [bnd_some hop]; rfl
        have HSD := hide hside
        have HQ9 := hide q9
        clear hop hside q9 HN HQ1 el CS
        go_wp2_with fail
        refine (xopen_any b q hbq s jh x x8 a0 a1 a2 a3 (.int .i64 0) (.bool false) (.bool false) a11 a12 _ R9.out (by omega) V9.out jo oo HOP).mono ?_
        rintro e w10 ⟨rfl, r10, k10, v10⟩
        have R10 := hide r10
        have K10 := hide (K9.out.trans k10)
        have V10 := hide v10
        clear r10 k10 v10
        cases oo with
        | none =>
          have HO : Hid (j = jo ∧ o = none) := by
            have := HQ9.out
            rw [bnd_none HSD.out] at this
            exact ⟨(Prod.mk.inj this).1.symm, (Prod.mk.inj this).2.symm⟩
          go_wp2_with fail
          go_ret
          obtain ⟨u1, u2⟩ := HO.out
          subst u1 u2
          exact ⟨rfl, R10.out, K10.out, fun r e => by cases e⟩
        | some rr =>
          have HE := hide (end32 HQ9.out HSD.out)
          have V11 := hide (V10.out rr rfl)
          go_wp2_with fail
          refine (xone_any b s jo 32 _ R10.out (by omega)).mono ?_
          rintro e w11 ⟨rfl, r11, k11⟩
          have R11 := hide r11
          have V12 := hide (V11.out.keep k11 (fun e => hbq e.symm))
          have K11 := hide (K10.out.trans k11.tobq)
          clear r11 k11
          go_wp2_with fail
          go_ret
          obtain ⟨t1, t2⟩ := HE.out
          obtain ⟨t3, t4⟩ := take_up t1
          refine ⟨ret_bool t3, by rw [t4]; exact R11.out, K11.out, fun r e => ?_⟩
          obtain rfl := t2 r e
          exact V12.out
      · have hk : ¬ (x = 80 ∨ x = 84) := by
          rcases CS.out with ⟨_, h, _⟩ | ⟨_, _, h, _⟩ | ⟨_, _, _, h⟩
          · exact absurd h el
          · exact absurd h el
          · exact h
        have b0 : (lo == 0) = false := by simpa using el
        rcases hop : closedP x x8 (bytesAt s j1 (jh - j1)) (src s) jh with ⟨jo, oo⟩
        have HOP := hide hop
        have hside : sideP x x8 (bytesF (src s) j1 (jh - j1)) (src s) jh = (jo, oo.map fun r => (⟨x, x8, r.1, 0, 0, r.2.1, r.2.2⟩ : Pu.Shape)) := by
          unfold sideP
          rw [if_neg hk]
          have eb : bytesF (src s) j1 (jh - j1) = bytesAt s j1 (jh - j1) := rfl
          rw [eb]
          cases oo with
          | none => rw [bnd_none hop]; rfl
          | some r => rw [bnd_some hop]; rfl
        have HSD := hide hside
        have HQ9 := hide q9
        have LC := hide (fun (wx : World) (hx : RxAt wx b s jh) (hvx : VAt wx q #[a0, a1, a2, a3, .int .u8 x, .int .i64 x8, .int .i64 0, .int .i64 0, .int .i64 0, .bool false, .bool false, a11, a12]) => xclosed_any b q hbq s jh j1 (jh - j1) (by omega) x x8 a0 a1 a2 a3 (.int .i64 0) (.int .i64 0) (.int .i64 0) a11 a12 wx hx hvx jo oo HOP)
        have ejh : ((j1 + (jh - j1) : Nat) : Int) = (jh : Int) := by omega
        rw [ejh] at LC
        clear hop hside q9 HN HQ1 el CS ejh
        go_wp2_with fail
        refine (LC.out _ R9.out V9.out).mono ?_
        rintro e w10 ⟨rfl, r10, k10, v10⟩
        have R10 := hide r10
        have K10 := hide (K9.out.trans k10)
        have V10 := hide v10
        clear r10 k10 v10
        cases oo with
        | none =>
          have HO : Hid (j = jo ∧ o = none) := by
            have := HQ9.out
            rw [bnd_none HSD.out] at this
            exact ⟨(Prod.mk.inj this).1.symm, (Prod.mk.inj this).2.symm⟩
          go_wp2_with fail
          go_ret
          obtain ⟨u1, u2⟩ := HO.out
          subst u1 u2
          exact ⟨rfl, R10.out, K10.out, fun r e => by cases e⟩
        | some rr =>
          have HE := hide (end32 HQ9.out HSD.out)
          have V11 := hide (V10.out rr rfl)
          go_wp2_with fail
          refine (xone_any b s jo 32 _ R10.out (by omega)).mono ?_
          rintro e w11 ⟨rfl, r11, k11⟩
          have R11 := hide r11
          have V12 := hide (V11.out.keep k11 (fun e => hbq e.symm))
          have K11 := hide (K10.out.trans k11.tobq)
          clear r11 k11
          go_wp2_with fail
          go_ret
          obtain ⟨t1, t2⟩ := HE.out
          obtain ⟨t3, t4⟩ := take_up t1
          refine ⟨ret_bool t3, by rw [t4]; exact R11.out, K11.out, fun r e => ?_⟩
          obtain rfl := t2 r e
          exact V12.out
end Go.Proofs.YthmhjjkmnnmjlaaGreatDoor
namespace Go.Proofs.Pu

theorem bnd_inv {α β : Type} {p : Rd α} {q : α → Rd β} {f : Src} {i j : Nat} {b : β} (h : bnd p q f i = (j, some b)) : ∃ k a, p f i = (k, some a) ∧ q a f k = (j, some b) := by
  unfold bnd at h
  rcases e : p f i with ⟨k, _ | a⟩
  · simp [e] at h
  · simp only [e] at h
    exact ⟨k, a, rfl, h⟩
theorem ret_inv {α : Type} {a b : α} {f : Src} {i j : Nat} (h : ret a f i = (j, some b)) : a = b := Option.some.inj (Prod.mk.inj h).2
theorem number_inv {lo hi : Int} {f : Src} {i j : Nat} {a : Int} (h : number lo hi f i = (j, some a)) : lo ≤ a ∧ a ≤ hi := by
  obtain ⟨k, v, _, h2⟩ := bnd_inv h
  have h3 := (Prod.mk.inj h2).2
  by_cases c : v.1 = true ∧ lo ≤ v.2 ∧ v.2 ≤ hi
  · rw [if_pos c] at h3
    have := Option.some.inj h3
    omega
  · rw [if_neg c] at h3
    simp at h3
theorem states_inv {f : Src} {i j : Nat} {c : Int} (h : states f i = (j, some c)) : 2 ≤ c ∧ c ≤ 9 := by
  obtain ⟨k, b, _, h2⟩ := bnd_inv h
  cases b with
  | true => have := number_inv h2; omega
  | false => have := ret_inv (f := f) h2; omega
theorem letter_inv {ms : List Int} {f : Src} {i j : Nat} {m : Int} (h : letter ms f i = (j, some m)) : m ∈ ms := by
  unfold letter at h
  split at h
  · rename_i hm
    have := Option.some.inj (Prod.mk.inj h).2
    rwa [this] at hm
  · simp at h
theorem rule_inv {f : Src} {i j : Nat} {r : Rule} (h : rule f i = (j, some r)) : 2 ≤ r.states ∧ r.states ≤ 9 := by
  obtain ⟨_, a, _, h⟩ := bnd_inv h
  obtain ⟨_, _, _, h⟩ := bnd_inv h
  obtain ⟨_, bs, _, h⟩ := bnd_inv h
  obtain ⟨_, _, _, h⟩ := bnd_inv h
  obtain ⟨_, _, _, h⟩ := bnd_inv h
  obtain ⟨_, ss, _, h⟩ := bnd_inv h
  obtain ⟨_, c, hc, h⟩ := bnd_inv h
  rw [← ret_inv h]
  exact states_inv hc
/-- A shape that a text can have. -/
structure ShapeOk (x : Shape) : Prop where
  kind : x.kind ∈ [(80 : Int), 84, 75, 67, 83]
  w0 : 0 ≤ x.w
  w12 : x.w ≤ 12
  h0 : 0 ≤ x.h
  h12 : x.h ≤ 12
  one : x.w ≠ 0 ∨ x.h ≠ 0
  ws : 0 ≤ x.ws ∧ (x.ws = 0 ∨ x.ws < x.w)
  hs : 0 ≤ x.hs ∧ (x.hs = 0 ∨ x.hs < x.h)
  open_ : (x.w = 0 ∨ x.h = 0) → x.kind = 80 ∨ x.kind = 84
theorem shift_inv {side : Int} {f : Src} {i j : Nat} {s : Int} (h : shift side f i = (j, some s)) : 0 ≤ s ∧ (s = 0 ∨ s < side) := by
  unfold shift at h
  split at h
  · have := ret_inv h; omega
  · obtain ⟨_, b, _, h2⟩ := bnd_inv h
    cases b with
    | true => have := number_inv h2; omega
    | false => have := ret_inv (f := f) h2; omega
theorem shape_inv {f : Src} {i j : Nat} {x : Shape} (h : shape f i = (j, some x)) : ShapeOk x := by
  obtain ⟨_, k, hk, h⟩ := bnd_inv h
  obtain ⟨_, a, ha, h⟩ := bnd_inv h
  obtain ⟨_, _, _, h⟩ := bnd_inv h
  obtain ⟨_, b, hb, h⟩ := bnd_inv h
  have hk := letter_inv hk
  rw [← ret_inv h]
  have hl : 0 ≤ leastSide k ∧ leastSide k ≤ 1 ∧ (leastSide k = 0 → k = 80 ∨ k = 84) := by
    unfold leastSide
    split
    · exact ⟨by omega, by omega, fun _ => ‹_›⟩
    · exact ⟨by omega, by omega, fun h => by omega⟩
  have hA : 0 ≤ a.1 ∧ a.1 ≤ 12 ∧ (a.1 = 0 → k = 80 ∨ k = 84) ∧ 0 ≤ a.2.1 ∧ (a.2.1 = 0 ∨ a.2.1 < a.1) := by
    obtain ⟨_, w, hw, h2⟩ := bnd_inv ha
    have hw := number_inv hw
    split at h2
    · obtain ⟨_, st, _, h3⟩ := bnd_inv h2
      rw [← ret_inv h3]
      exact ⟨by simp only; omega, by simp only; omega, fun h => hl.2.2 (by simp only at h; omega), by simp only; omega, Or.inl rfl⟩
    · split at h2
      · obtain ⟨_, st, hst, h3⟩ := bnd_inv h2
        have := shift_inv hst
        rw [← ret_inv h3]
        exact ⟨by simp only; omega, by simp only; omega, fun h => hl.2.2 (by simp only at h; omega), this.1, this.2⟩
      · rw [← ret_inv h2]
        exact ⟨by simp only; omega, by simp only; omega, fun h => hl.2.2 (by simp only at h; omega), by simp only; omega, Or.inl rfl⟩
  obtain ⟨a1, a2, a3, a4, a5⟩ := hA
  have hB : 0 ≤ b.1 ∧ b.1 ≤ 12 ∧ (a.1 = 0 → b.1 ≠ 0) ∧ (b.1 = 0 → k = 80 ∨ k = 84) ∧ 0 ≤ b.2.1 ∧ (b.2.1 = 0 ∨ b.2.1 < b.1) := by
    obtain ⟨_, w, hw, h2⟩ := bnd_inv hb
    have hw := number_inv hw
    have hlo : 0 ≤ rowLow k a.1 a.2.1 ∧ (a.1 = 0 → k ≠ 83 → 1 ≤ rowLow k a.1 a.2.1) ∧ (rowLow k a.1 a.2.1 = 0 → k = 80 ∨ k = 84) := by
      unfold rowLow
      split
      · refine ⟨by omega, fun _ h => absurd ‹_› h, fun h => a3 h⟩
      · split
        · exact ⟨by omega, fun _ _ => by omega, fun h => by omega⟩
        · exact ⟨by omega, fun h => by omega, hl.2.2⟩
    have hhi : rowHigh k a.1 ≤ 12 := by unfold rowHigh; split <;> omega
    have key : 0 ≤ w ∧ w ≤ 12 ∧ (a.1 = 0 → w ≠ 0) ∧ (w = 0 → k = 80 ∨ k = 84) := by
      refine ⟨by omega, by omega, fun h => ?_, fun h => hlo.2.2 (by omega)⟩
      have : k ≠ 83 := by have := a3 h; omega
      have := hlo.2.1 h this
      omega
    obtain ⟨k1, k2, k3, k4⟩ := key
    split at h2
    · obtain ⟨_, _, _, h3⟩ := bnd_inv h2
      rw [← ret_inv h3]
      exact ⟨k1, k2, k3, k4, by simp only; omega, Or.inl rfl⟩
    · split at h2
      · rw [← ret_inv h2]
        exact ⟨k1, k2, k3, k4, by simp only; omega, Or.inl rfl⟩
      · obtain ⟨_, st, hst, h3⟩ := bnd_inv h2
        have := shift_inv hst
        rw [← ret_inv h3]
        exact ⟨k1, k2, k3, k4, this.1, this.2⟩
  obtain ⟨b1, b2, b3, b4, b5, b6⟩ := hB
  refine ⟨hk, a1, a2, b1, b2, ?_, ⟨a4, a5⟩, ⟨b5, b6⟩, ?_⟩
  · simp only
    by_cases h0 : a.1 = 0
    · exact Or.inr (b3 h0)
    · exact Or.inl h0
  · simp only
    rintro (h | h)
    · exact a3 h
    · exact b4 h
theorem head_inv {f : Src} {i j : Nat} {a : Rule × Shape × Int} (h : head f i = (j, some a)) : (2 ≤ a.1.states ∧ a.1.states ≤ 9) ∧ ShapeOk a.2.1 ∧ 0 ≤ a.2.2 ∧ a.2.2 ≤ 999999 := by
  obtain ⟨_, r, hr, h⟩ := bnd_inv h
  obtain ⟨_, _, _, h⟩ := bnd_inv h
  obtain ⟨_, x, hx, h⟩ := bnd_inv h
  obtain ⟨_, _, _, h⟩ := bnd_inv h
  obtain ⟨_, g, hg, h⟩ := bnd_inv h
  obtain ⟨_, _, _, h⟩ := bnd_inv h
  rw [← ret_inv h]
  exact ⟨rule_inv hr, shape_inv hx, number_inv hg⟩
theorem signed_inv {m : Int} (hm : 0 ≤ m) {f : Src} {i j : Nat} {v : Int} (h : signed m f i = (j, some v)) : -m ≤ v ∧ v ≤ m := by
  obtain ⟨_, b, _, h⟩ := bnd_inv h
  cases b with
  | true =>
    obtain ⟨_, x, hx, h⟩ := bnd_inv h
    have := number_inv hx
    have := ret_inv h
    omega
  | false => have := number_inv h; omega
theorem place_inv {f : Src} {i j : Nat} {a : Int × Int} (h : place f i = (j, some a)) : (-9999 ≤ a.1 ∧ a.1 ≤ 9999) ∧ -9999 ≤ a.2 ∧ a.2 ≤ 9999 := by
  obtain ⟨_, x, hx, h⟩ := bnd_inv h
  obtain ⟨_, _, _, h⟩ := bnd_inv h
  obtain ⟨_, y, hy, h⟩ := bnd_inv h
  obtain ⟨_, _, _, h⟩ := bnd_inv h
  rw [← ret_inv h]
  exact ⟨signed_inv (by omega) hx, signed_inv (by omega) hy⟩
/-- A run of a world with so many states. -/
def RunOk (c : Int) (r : Run) : Prop := 1 ≤ r.count ∧ r.count ≤ 99 ∧ 0 ≤ r.state ∧ r.state < c
theorem run_inv {c : Int} (hc : 2 ≤ c) (hc9 : c ≤ 9) {f : Src} {i j : Nat} {r : Run} (h : run c f i = (j, some r)) : RunOk c r := by
  obtain ⟨_, n, hn, h⟩ := bnd_inv h
  have hn : 1 ≤ n ∧ n ≤ 99 := by
    unfold count at hn
    split at hn
    · have := number_inv hn; omega
    · have := Option.some.inj (Prod.mk.inj hn).2; omega
  obtain ⟨_, b, _, h⟩ := bnd_inv h
  cases b with
  | true =>
    rw [if_pos rfl] at h
    rw [← ret_inv h]
    exact ⟨hn.1, hn.2, by simp only; omega, by simp only; omega⟩
  | false =>
    rw [if_neg (by simp)] at h
    obtain ⟨_, s, hs, h⟩ := bnd_inv h
    rw [← ret_inv h]
    obtain ⟨_, m, hm, h2⟩ := bnd_inv hs
    have hm := letter_inv hm
    unfold letters at hm
    rw [List.mem_map] at hm
    obtain ⟨k, hk, rfl⟩ := hm
    have hk := List.mem_range.1 hk
    have h3 := ret_inv h2
    unfold stateLetter at h3
    refine ⟨hn.1, hn.2, ?_, ?_⟩
    · simp only
      rw [← h3]
      split
      · omega
      · split at * <;> omega
    · simp only
      rw [← h3]
      split
      · omega
      · split at * <;> omega
theorem body_inv {c : Int} (hc : 2 ≤ c) (hc9 : c ≤ 9) : ∀ (n : Nat) (acc : List Run) (f : Src) (i j : Nat) (rs : List Run), (∀ r, r ∈ acc → RunOk c r) → body c n acc f i = (j, some rs) → (∀ r, r ∈ rs → RunOk c r) ∧ rs.length ≤ acc.length + n := by
  intro n
  induction n with
  | zero => intro acc f i j rs _ h; simp [body] at h
  | succ n ih =>
    intro acc f i j rs ha h
    unfold body at h
    split at h
    · simp at h
    · split at h
      · have h2 := (Prod.mk.inj h).2
        split at h2
        · rw [← Option.some.inj h2]; exact ⟨ha, by omega⟩
        · simp at h2
      · rcases e : run c f i with ⟨k, _ | r⟩
        · simp [e] at h
        · simp only [e] at h
          have := ih _ f k j rs (fun r' hr' => by
            rcases List.mem_append.1 hr' with h1 | h1
            · exact ha r' h1
            · rw [List.mem_singleton.1 h1]; exact run_inv hc hc9 e) h
          exact ⟨this.1, by have := this.2; simp at this; omega⟩
/-- What a right text says. -/
structure PartsOk (p : Parts) : Prop where
  states : 2 ≤ p.rule.states ∧ p.rule.states ≤ 9
  shape : ShapeOk p.shape
  age : 0 ≤ p.age ∧ p.age ≤ 999999
  col : -9999 ≤ p.col ∧ p.col ≤ 9999
  row : -9999 ≤ p.row ∧ p.row ≤ 9999
  runs : ∀ r, r ∈ p.runs → RunOk p.rule.states r
  few : p.runs.length ≤ 401
theorem read_inv {f : Src} {j : Nat} {p : Parts} (h : read f = (j, some p)) : PartsOk p := by
  unfold read at h
  rcases e : pre f 0 with ⟨i, _ | a⟩
  · simp [e] at h
  · simp only [e] at h
    obtain ⟨_, x, hx, h2⟩ := bnd_inv e
    obtain ⟨_, y, hy, h3⟩ := bnd_inv h2
    have h4 := ret_inv h3
    have hh := head_inv hx
    have hp := place_inv hy
    rcases e2 : body a.1.1.states 401 [] f i with ⟨k, _ | rs⟩
    · simp [e2] at h
    · simp only [e2] at h
      have h5 := Option.some.inj (Prod.mk.inj h).2
      subst h4
      have hb := body_inv hh.1.1 hh.1.2 401 [] f i k rs (fun r hr => by simp at hr) e2
      rw [← h5]
      exact ⟨hh.1, hh.2.1, hh.2.2, hp.1, hp.2, hb.1, by simpa using hb.2⟩
theorem read_n1 {f : Src} {j1 : Nat} (hh : head f 0 = (j1, none)) : read f = (j1, none) := by
  have e : pre f 0 = (j1, none) := by unfold pre bnd; rw [hh]
  unfold read
  rw [e]
theorem read_n2 {f : Src} {j1 j2 : Nat} {a : Rule × Shape × Int} (hh : head f 0 = (j1, some a)) (hp : place f j1 = (j2, none)) : read f = (j2, none) := by
  have e : pre f 0 = (j2, none) := by unfold pre bnd; rw [hh]; simp only; rw [hp]
  unfold read
  rw [e]
theorem read_some1 {f : Src} {j2 j3 : Nat} {a : Rule × Shape × Int} {b : Int × Int} {o : Option (List Run)} (e : pre f 0 = (j2, some (a, b))) (hb : body a.1.states 401 [] f j2 = (j3, o)) :
    read f = (j3, o.map fun rs => ⟨a.1, a.2.1, a.2.2, b.1, b.2, rs⟩) := by
  have key : ∀ (B : Int → Nat → List Run → Src → Nat → Nat × Option (List Run)), B a.1.states 401 [] f j2 = (j3, o) → (match pre f 0 with
      | (i, none) => (i, none)
      | (i, some a) => match B a.1.1.states 401 [] f i with
        | (j, none) => (j, none)
        | (j, some rs) => (j, some (⟨a.1.1, a.1.2.1, a.1.2.2, a.2.1, a.2.2, rs⟩ : Parts))) = (j3, o.map fun rs => ⟨a.1, a.2.1, a.2.2, b.1, b.2, rs⟩) := by
    intro B hB
    rw [e]
    simp only [hB]
    cases o <;> simp
  exact key body hb
theorem read_some {f : Src} {j1 j2 j3 : Nat} {a : Rule × Shape × Int} {b : Int × Int} {o : Option (List Run)} (hh : head f 0 = (j1, some a)) (hp : place f j1 = (j2, some b)) (hb : body a.1.states 401 [] f j2 = (j3, o)) :
    read f = (j3, o.map fun rs => ⟨a.1, a.2.1, a.2.2, b.1, b.2, rs⟩) := by
  have e0 : pre f 0 = bnd place (fun p => ret (a, p)) f j1 := by unfold pre bnd; rw [hh]
  have e : pre f 0 = (j2, some (a, b)) := by rw [e0]; unfold bnd; rw [hp]; rfl
  exact read_some1 e hb
end Go.Proofs.Pu
