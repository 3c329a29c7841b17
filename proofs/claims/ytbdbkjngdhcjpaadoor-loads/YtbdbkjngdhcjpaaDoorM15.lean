import Derived.Test.YtbdbkjngdhcjpaaDoorM14
import Derived.Test.YtbdbkjngdhcjpaaDoorSf
import Derived.Test.YtbdbkjngdhcjpaaDoorM13
import Derived.Test.YtbdbkjngdhcjpaaDoorWa
import Derived.Below
namespace Go.Proofs.YtbdbkjngdhcjpaaDoor
open Go.RowKit
open Go.Proofs

set_option maxHeartbeats 400000 in
theorem num_any (n : Int) (w : World) : Calls Tryd.prog 20 #[.int .i64 n] w fun e w' => e = .returned (.int .i64 n) ∧ w' = w := by
  go_enter Tryd.func20, Tryd.ntmps20
  go_wp2
  go_ret
  exact ⟨rfl, rfl⟩
/-- A pair of the law's. -/
def PrAt (w : World) (p : Nat) (a b : Value) : Prop := w.heap[p]? = some (.cells #[a, b] 28 (0, 0))
theorem PrAt.c0 {w : World} {p : Nat} {a b : Value} (h : PrAt w p a b) : w.cell? ⟨p, 0, none⟩ = some a := by rw [cell_of_row w p 0 _ _ _ h]; rfl
theorem PrAt.c1 {w : World} {p : Nat} {a b : Value} (h : PrAt w p a b) : w.cell? ⟨p, 1, none⟩ = some b := by rw [cell_of_row w p 1 _ _ _ h]; rfl
theorem PrAt.keep {S : Nat → Prop} {w w' : World} {p : Nat} {a b : Value} (h : PrAt w p a b) (k : Kp S w w') (hn : ¬ S p) : PrAt w' p a b := k.row h hn
theorem DocAt.keep {w w' : World} {q : Nat} {r : Pu.Rule} {x : Pu.Shape} {age : Int} {l : List Cl} (h : DocAt w q r x age l) (k : Kp (fun _ => False) w w') : DocAt w' q r x age l := by
  obtain ⟨g1, g2, v, h1, h2, h3, h4⟩ := h.at1
  exact ⟨g1, g2, v, h1.keep k (fun h => h), h2.keep k (fun h => h), h3.keep k (fun h => h), h4.keep k (fun _ _ h => h)⟩
/-- The two worlds of a pair, that came of a text's parts. -/
structure Duo (w : World) (q1 q2 : Nat) (p : Pu.Parts) : Prop where
  ok : Pu.PartsOk p
  one : OneB p.shape
  ar : p.rule.around = 77 ∨ p.rule.around = 86 ∨ p.rule.around = 72
  rule : RuleOk p.rule
  e : xloadE p = 0
  gs : GsAt w q1 (preOf p.rule p.shape p.age) p.shape.w p.shape.h (laidG p noS).2
  doc : DocAt w q2 p.rule p.shape p.age (liveOf p)
def Pair (w0 w : World) (a b : Value) : Prop :=
  (a = .pointer none ∧ b = .pointer none) ∨
  ∃ (q1 q2 : Nat) (p : Pu.Parts), a = .pointer (some ⟨q1, 0, none⟩) ∧ b = .pointer (some ⟨q2, 0, none⟩) ∧ w0.heap.size ≤ q1 ∧ w0.heap.size ≤ q2 ∧ Duo w q1 q2 p
theorem Pair.no {w0 w : World} {a b : Value} (ha : a = .pointer none) (hb : b = .pointer none) : Pair w0 w a b := Or.inl ⟨ha, hb⟩
theorem Pair.both {w0 w : World} {a b : Value} (q1 q2 : Nat) (p : Pu.Parts) (ha : a = .pointer (some ⟨q1, 0, none⟩)) (hb : b = .pointer (some ⟨q2, 0, none⟩)) (h1 : w0.heap.size ≤ q1) (h2 : w0.heap.size ≤ q2) (h : Duo w q1 q2 p) : Pair w0 w a b :=
  Or.inr ⟨q1, q2, p, ha, hb, h1, h2, h⟩

set_option maxRecDepth 100000 in
set_option maxHeartbeats 2000000 in
theorem lload_any (s : ByteArray) (w : World) (hs : s.size ≤ 1048576) :
    Calls Tryd.prog 7 #[.string s] w fun e w' => (∃ p a b, e = .returned (.tuple #[.pointer (some ⟨p, 0, none⟩), .bool true]) ∧ w.heap.size ≤ p ∧ PrAt w' p a b ∧ Pair w w' a b) ∧ Kp (fun _ => False) w w' := by
  have HN := hide (fun n wx => num_any n wx)
  by_cases h4 : 400 < s.size
  · have L1 := hide (fun wx => Load_long s wx h4 (by unfold maxLen; omega))
    have L2 := hide (fun wx => xload_long s wx h4 (by unfold maxLen; omega))
    go_enter Tryd.func7, Tryd.ntmps7
    go_wp2_with fail
    refine (L1.out _).mono ?_
    rintro e w1 ⟨rfl, hw1⟩
    subst w1
    go_wp2_with fail
    refine (L2.out _).mono ?_
    rintro e w1 ⟨rfl, hw1⟩
    subst w1
    go_wp2_with fail
    refine (HN.out _ _).mono ?_
    rintro e w1 ⟨rfl, hw1⟩
    have P1 : Hid (PrAt w1 w.heap.size (.pointer none) (.pointer none)) := by rw [hw1]; exact heap_alloc_new _ _
    have K1 : Hid (Kp (fun _ => False) w w1) := by rw [hw1]; exact (Kp.refl _ _).alloc _
    clear hw1
    go_wp2_with fail
    go_ret2
    exact ⟨⟨_, _, _, rfl, Nat.le_refl _, P1.out, Pair.no rfl rfl⟩, K1.out⟩
  · have hs4 : s.size ≤ 400 := by omega
    clear h4
    obtain ⟨R, hR⟩ : ∃ R, Pu.read (src s) = R := ⟨_, rfl⟩
    obtain ⟨j, o⟩ := R
    have L2 := hide (fun wx => xload_any s wx hs4 j o hR)
    cases o with
    | none =>
      have L1 := hide (fun wx => Load_none s wx hs4 j hR)
      clear hR
      go_enter Tryd.func7, Tryd.ntmps7
      go_wp2_with fail
      refine (L1.out _).mono ?_
      rintro e w1 ⟨rfl, k1⟩
      have K1 := hide k1
      clear k1
      go_wp2_with fail
      refine (L2.out _).mono ?_
      rintro e w2 ⟨k2, rfl⟩
      have K2 := hide (K1.out.trans k2)
      clear k2
      go_wp2_with fail
      refine (HN.out _ _).mono ?_
      rintro e w3 ⟨rfl, hw3⟩
      have P3 : Hid (PrAt w3 w2.heap.size (.pointer none) (.pointer none)) := by rw [hw3]; exact heap_alloc_new _ _
      have K3 : Hid (Kp (fun _ => False) w w3) := by rw [hw3]; exact K2.out.alloc _
      have s2 := K2.out.size
      clear hw3
      go_wp2_with fail
      go_ret2
      exact ⟨⟨_, _, _, rfl, s2, P3.out, Pair.no rfl rfl⟩, K3.out⟩
    | some p =>
      have hp := Pu.read_inv hR
      have ho := read_one hR
      have hE := loadE_same hp noS noS_len noS_zero
      have L1 := hide (fun wx => Load_gen s wx hs4 j p hR)
      rw [hE] at L1
      have HE := hide hE
      have HP := hide hp
      have HO := hide ho
      clear hR hp ho hE
      by_cases e0 : xloadE p = 0
      · have E0 := hide e0
        rw [e0] at L1
        clear e0
        go_enter Tryd.func7, Tryd.ntmps7
        go_wp2_with fail
        refine (L1.out _).mono ?_
        rintro e w1 ⟨⟨u, rfl, l1⟩, k1⟩
        obtain ⟨q1, rfl, hq1, hr1, hg1⟩ := l1.good (by rw [HE.out, E0.out])
        have K1 := hide k1
        have HR1 := hide hr1
        have HG1 := hide hg1
        clear k1 l1 hr1 hg1
        go_wp2_with fail
        refine (L2.out _).mono ?_
        rintro e w2 ⟨k2, ⟨u2, he, _, hgood⟩⟩
        obtain ⟨q2, hu2, hq2, hd2⟩ := hgood E0.out
        subst hu2
        rw [E0.out] at he
        subst he
        have HG2 : Hid (GsAt w2 q1 (preOf p.rule p.shape p.age) p.shape.w p.shape.h (laidG p noS).2) := GrAt.keep HG1.out k2 (fun h => h)
        have HD2 := hide hd2
        have K2 := hide (K1.out.trans k2)
        have s1 := K1.out.size
        clear k2 hgood hd2 HG1
        go_wp2_with fail
        refine (HN.out _ _).mono ?_
        rintro e w3 ⟨rfl, hw3⟩
        have P3 : Hid (PrAt w3 w2.heap.size (.pointer (some ⟨q1, 0, none⟩)) (.pointer (some ⟨q2, 0, none⟩))) := by rw [hw3]; exact heap_alloc_new _ _
        have k3 : Kp (fun _ => False) w2 w3 := by rw [hw3]; exact (Kp.refl _ _).alloc _
        have K3 := hide (K2.out.trans k3)
        have T3 : Hid (Duo w3 q1 q2 p) := ⟨HP.out, HO.out.1, HO.out.2, HR1.out, E0.out, GrAt.keep HG2.out k3 (fun h => h), HD2.out.keep k3⟩
        have s2 := K2.out.size
        clear hw3 k3
        go_wp2_with fail
        go_ret2
        exact ⟨⟨_, _, _, rfl, s2, P3.out, Pair.both q1 q2 p rfl rfl hq1 (by omega) T3.out⟩, K3.out⟩
      · have E0 := hide e0
        obtain ⟨ee, hee⟩ : ∃ ee, xloadE p = ee := ⟨_, rfl⟩
        have HEE := hide hee
        rw [hee] at L1
        clear e0 hee
        go_enter Tryd.func7, Tryd.ntmps7
        go_wp2_with fail
        refine (L1.out _).mono ?_
        rintro e w1 ⟨⟨u, rfl, l1⟩, k1⟩
        obtain rfl := l1.bad (by rw [HE.out]; exact E0.out)
        have K1 := hide k1
        clear k1 l1
        go_wp2_with fail
        refine (L2.out _).mono ?_
        rintro e w2 ⟨k2, ⟨u2, he, hbad, _⟩⟩
        obtain rfl := hbad E0.out
        rw [HEE.out] at he
        subst he
        have K2 := hide (K1.out.trans k2)
        clear k2 hbad
        go_wp2_with fail
        refine (HN.out _ _).mono ?_
        rintro e w3 ⟨rfl, hw3⟩
        have P3 : Hid (PrAt w3 w2.heap.size (.pointer none) (.pointer none)) := by rw [hw3]; exact heap_alloc_new _ _
        have K3 : Hid (Kp (fun _ => False) w w3) := by rw [hw3]; exact K2.out.alloc _
        have s2 := K2.out.size
        clear hw3
        go_wp2_with fail
        go_ret2
        exact ⟨⟨_, _, _, rfl, s2, P3.out, Pair.no rfl rfl⟩, K3.out⟩
/-- What the document's Save asks. -/
structure SvOk (r : Pu.Rule) (x : Pu.Shape) (age : Int) (l : List Cl) : Prop where
  hb : HdB r x age
  one : OneB x
  len : l.length ≤ 1000000
  bd : ClBd l
  at8 : ∀ X Y, 0 ≤ atL l X Y ∧ atL l X Y ≤ 8
  sm : l ≠ [] → (boxL l).2.1 - (boxL l).1 < 64 ∧ (boxL l).2.2.2 - (boxL l).2.2.1 < 64
theorem at_bd {c : Int} (c9 : c ≤ 9) {l : List Cl} (h : ∀ d, d ∈ l → 1 ≤ d.2.2 ∧ d.2.2 < c) (X Y : Int) : 0 ≤ atL l X Y ∧ atL l X Y ≤ 8 := by
  induction l with
  | nil => simp [atL]
  | cons d l ih =>
    have h5 := h d List.mem_cons_self
    unfold atL
    split
    · omega
    · exact ih (fun d hd => h d (List.mem_cons_of_mem _ hd))
theorem box_small {x : Pu.Shape} (hx : Pu.ShapeOk x) {l : List Cl} (hin : ∀ d, d ∈ l → onSideB d.1 x.w = true ∧ onSideB d.2.1 x.h = true) (hr : Rm x.w x.h l) (h0 : l ≠ []) : (boxL l).2.1 - (boxL l).1 < 64 ∧ (boxL l).2.2.2 - (boxL l).2.2.1 < 64 := by
  have w12 := hx.w12
  have h12 := hx.h12
  have hb := boxL_is h0
  generalize boxL l = p at *
  obtain ⟨_, ⟨ca, ca1, ca2⟩, ⟨cb, cb1, cb2⟩, ⟨cc, cc1, cc2⟩, ⟨cd, cd1, cd2⟩⟩ := hb
  have ha := (hin ca ca1).1
  have hb := (hin cb cb1).1
  have hc := (hin cc cc1).2
  have hd := (hin cd cd1).2
  unfold onSideB at ha hb hc hd
  rw [decide_eq_true_iff] at ha hb hc hd
  constructor
  · by_cases e : x.w = 0
    · have := (hr.x e cb cb1 ca ca1).2
      omega
    · omega
  · by_cases e : x.h = 0
    · have := (hr.y e cd cd1 cc cc1).2
      omega
    · omega
theorem Duo.sv {w : World} {q1 q2 : Nat} {p : Pu.Parts} (h : Duo w q1 q2 p) : SvOk p.rule p.shape p.age (liveOf p) := by
  have hk := (liveOf_ok h.ok).mem
  have hx := h.ok.shape
  have st := h.ok.states
  have ag := h.ok.age
  have kd := hx.kind
  have ws := hx.ws
  have hs := hx.hs
  have w0 := hx.w0
  have w12 := hx.w12
  have h0 := hx.h0
  have h12 := hx.h12
  have hkd : 0 ≤ p.shape.kind ∧ p.shape.kind < 256 := by
    simp at kd
    omega
  have hroom : roomB p.shape.w p.shape.h (liveOf p) = true := by
    have he := h.e
    unfold xloadE at he
    split at he
    · omega
    · by_cases c : roomB p.shape.w p.shape.h (liveOf p) = true
      · exact c
      · rw [if_neg c] at he
        omega
  have hrm := (room_iff (side_of hx) _).1 hroom
  refine ⟨⟨by have := h.ar; omega, st, hkd, by omega, by omega, by omega, by omega, ag⟩, h.one, (liveOf_bd h.ok).2, (liveOf_bd h.ok).1, at_bd st.2 (fun d hd => (hk d hd).2.2.1), box_small hx (fun d hd => (hk d hd).2.2.2) hrm⟩
/-- Both save the same. -/
theorem Duo.same {w : World} {q1 q2 : Nat} {p : Pu.Parts} (h : Duo w q1 q2 p) : saveT p.rule p.shape p.age (laidG p noS).2.l (laidG p noS).2.t (laidG p noS).2.S = ustr (xsaveT p.rule p.shape p.age (liveOf p)) ∧ GsOk p.rule.states p.shape.w p.shape.h (laidG p noS).2 := by
  have hx := h.ok.shape
  have hroom : (laidG p noS).1 = true := by
    have he := h.e
    rw [← loadE_same h.ok noS noS_len noS_zero] at he
    unfold loadE at he
    split at he
    · omega
    · by_cases c : (laidG p noS).1 = true
      · exact c
      · rw [if_neg c] at he
        omega
  obtain ⟨hs, ho⟩ := (laid_same h.ok noS noS_len noS_zero).2 hroom
  have hk := (liveOf_ok h.ok).mem
  have one := h.one
  refine ⟨save_eq p.rule p.age hs (fun d hd => (hk d hd).2.2.1) h.ok.states.2 hx.ws.1 (fun e => (one.wst e).1) hx.hs.1 (fun e => (one.hst e).2.2), ho⟩
end Go.Proofs.YtbdbkjngdhcjpaaDoor
namespace Go.Proofs.YtbdbkjngdhcjpaaDoor
open Go.RowKit
open Go.Proofs

set_option maxRecDepth 100000 in
set_option maxHeartbeats 2000000 in
theorem loads_walk (s : ByteArray) (w : World) (hm : s.size ≤ maxLen) (ht : Tab w) :
    Calls Tryd.prog 3 #[.string s] w fun e w' => e = .returned (.bool true) ∧ Kp (fun _ => False) w w' := by
  unfold maxLen at hm
  by_cases h1 : 1048576 < s.size
  · clear ht
    go_enter Tryd.func3, Tryd.ntmps3
    go_wp2_with fail
    go_ret
    exact ⟨rfl, Kp.refl _ _⟩
  · have HL := hide (fun wx => lload_any s wx (by omega))
    have HT := hide ht
    clear ht
    go_enter Tryd.func3, Tryd.ntmps3
    go_wp2_with fail
    refine (HL.out _).mono ?_
    rintro e w1 ⟨⟨p, a, b, rfl, hp, hpr, hpair⟩, k1⟩
    have K1 := hide k1
    have PR := hide hpr
    have c0 := hpr.c0
    have c1 := hpr.c1
    have T1 := hide (HT.out.keep k1)
    clear k1 hpr HL HT
    rcases hpair with ⟨ha, hb⟩ | ⟨q1, q2, pp, ha, hb, g1, g2, h2⟩
    ·
      subst ha
      subst hb
      go_wp2_with fail
      go_ret
      exact ⟨rfl, K1.out⟩
    ·
      subst ha
      subst hb
      have hsv := h2.sv
      obtain ⟨hsame, hgo⟩ := h2.same
      have hx := h2.ok.shape
      have L1 := hide (save_any q1 pp.rule pp.shape pp.age _ _ _ w1 h2.gs T1.out h2.rule hsv.hb.ar hsv.hb.st hsv.hb.k ⟨hx.w0, hx.w12⟩ ⟨hx.h0, hx.h12⟩ hsv.hb.ws hsv.hb.hs ⟨hsv.hb.ag.1, by have := hsv.hb.ag.2; omega⟩ (by have := hgo.lb; omega) (by have := hgo.lb; omega) (by have := hgo.tb; omega) (by have := hgo.tb; omega))
      rw [hsame] at L1
      have HD := hide h2.doc
      have L2 := hide (fun wx hx => xsave_any q2 pp.rule pp.shape pp.age (liveOf pp) wx hx hsv.hb hsv.one hsv.len hsv.bd hsv.at8 hsv.sm)
      clear h2 hsv hsame hgo hx
      generalize ustr (xsaveT pp.rule pp.shape pp.age (liveOf pp)) = TT at *
      go_wp2_with fail
      refine L1.out.mono ?_
      rintro e w2 ⟨rfl, k2⟩
      have P2 := hide (PR.out.keep k2 (fun h => h))
      have D2 := hide (HD.out.keep k2)
      have K2 := hide (K1.out.trans k2)
      have d0 := P2.out.c0
      have d1 := P2.out.c1
      clear k2 c0 c1
      go_wp2_with fail
      refine (L2.out _ D2.out).mono ?_
      rintro e w3 ⟨rfl, k3⟩
      have K3 := hide (K2.out.trans k3)
      clear k3
      go_wp2_with fail
      go_ret
      exact ⟨rfl, K3.out⟩
end Go.Proofs.YtbdbkjngdhcjpaaDoor
namespace Go.Proofs.YtbdbkjngdhcjpaaDoor
open Go.RowKit
open Go.Proofs
theorem Kp.below {w w' : World} (h : Kp (fun _ => False) w w') : Below w.heap.size w w' := ⟨h.os, h.tape, h.output, h.size, fun k hk => h.block k hk (fun x => x)⟩
end Go.Proofs.YtbdbkjngdhcjpaaDoor
