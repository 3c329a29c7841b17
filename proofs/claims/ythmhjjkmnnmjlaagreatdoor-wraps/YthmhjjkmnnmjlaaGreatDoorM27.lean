import Derived.Test.YthmhjjkmnnmjlaaGreatDoorM26
import Derived.Test.YthmhjjkmnnmjlaaGreatDoorSf
import Derived.Test.YthmhjjkmnnmjlaaGreatDoorM16
namespace Go.Proofs.YthmhjjkmnnmjlaaGreatDoor
open Go.RowKit
open Go.Proofs

set_option maxHeartbeats 400000 in
theorem num_any (n : Int) (w : World) : Calls Tryz.prog 16 #[.int .i64 n] w fun e w' => e = .returned (.int .i64 n) ∧ w' = w := by
  go_enter Tryz.func16, Tryz.ntmps16
  go_wp2
  go_ret
  exact ⟨rfl, rfl⟩
/-- A pair of the law's. -/
def PrAt (w : World) (p : Nat) (a b : Value) : Prop := w.heap[p]? = some (.cells #[a, b] 34 (0, 0))
theorem PrAt.c0 {w : World} {p : Nat} {a b : Value} (h : PrAt w p a b) : w.cell? ⟨p, 0, none⟩ = some a := by rw [cell_of_row w p 0 _ _ _ h]; rfl
theorem PrAt.c1 {w : World} {p : Nat} {a b : Value} (h : PrAt w p a b) : w.cell? ⟨p, 1, none⟩ = some b := by rw [cell_of_row w p 1 _ _ _ h]; rfl
theorem PrAt.keep {S : Nat → Prop} {w w' : World} {p : Nat} {a b : Value} (h : PrAt w p a b) (k : Kp S w w') (hn : ¬ S p) : PrAt w' p a b := k.row h hn
theorem DocAt.keep {w w' : World} {q : Nat} {r : Pu.Rule} {x : Pu.Shape} {age : Int} {l : List Cl} (h : DocAt w q r x age l) (k : Kp (fun _ => False) w w') : DocAt w' q r x age l := by
  obtain ⟨g1, g2, v, h1, h2, h3, h4⟩ := h.at1
  exact ⟨g1, g2, v, h1.keep k (fun h => h), h2.keep k (fun h => h), h3.keep k (fun h => h), h4.keep k (fun _ _ h => h)⟩
/-- The two worlds of a pair, that came of a text's parts. -/
structure Duo (w : World) (q1 q2 : Nat) (p : Pu.Parts) : Prop where
  ok : Pu.PartsOk p
  one : OneB p.shape
  ar : p.rule.around = 77 ∨ p.rule.around = 86 ∨ p.rule.around = 72
  rule : RuleOk p.rule
  e : xloadE p = 0
  gs : GsAt w q1 (preOf p.rule p.shape p.age) p.shape.w p.shape.h (laidG p noS).2
  doc : DocAt w q2 p.rule p.shape p.age (liveOf p)
def Pair (w0 w : World) (a b : Value) : Prop :=
  (a = .pointer none ∧ b = .pointer none) ∨
  ∃ (q1 q2 : Nat) (p : Pu.Parts), a = .pointer (some ⟨q1, 0, none⟩) ∧ b = .pointer (some ⟨q2, 0, none⟩) ∧ w0.heap.size ≤ q1 ∧ w0.heap.size ≤ q2 ∧ Duo w q1 q2 p
theorem Pair.no {w0 w : World} {a b : Value} (ha : a = .pointer none) (hb : b = .pointer none) : Pair w0 w a b := Or.inl ⟨ha, hb⟩
theorem Pair.both {w0 w : World} {a b : Value} (q1 q2 : Nat) (p : Pu.Parts) (ha : a = .pointer (some ⟨q1, 0, none⟩)) (hb : b = .pointer (some ⟨q2, 0, none⟩)) (h1 : w0.heap.size ≤ q1) (h2 : w0.heap.size ≤ q2) (h : Duo w q1 q2 p) : Pair w0 w a b :=
  Or.inr ⟨q1, q2, p, ha, hb, h1, h2, h⟩

set_option maxRecDepth 100000 in
set_option maxHeartbeats 2000000 in
theorem lload_any (s : ByteArray) (w : World) (hs : s.size ≤ 1048576) :
    Calls Tryz.prog 11 #[.string s] w fun e w' => (∃ p a b, e = .returned (.tuple #[.pointer (some ⟨p, 0, none⟩), .bool true]) ∧ w.heap.size ≤ p ∧ PrAt w' p a b ∧ Pair w w' a b) ∧ Kp (fun _ => False) w w' := by
  have HN := hide (fun n wx => num_any n wx)
  by_cases h4 : 400 < s.size
  · have L1 := hide (fun wx => Load_long s wx h4 (by unfold maxLen; omega))
    have L2 := hide (fun wx => xload_long s wx h4 (by unfold maxLen; omega))
    go_enter Tryz.func11, Tryz.ntmps11
    go_wp2_with fail
    refine (L1.out _).mono ?_
    rintro e w1 ⟨rfl, hw1⟩
    subst w1
    go_wp2_with fail
    refine (L2.out _).mono ?_
    rintro e w1 ⟨rfl, hw1⟩
    subst w1
    go_wp2_with fail
    refine (HN.out _ _).mono ?_
    rintro e w1 ⟨rfl, hw1⟩
    have P1 : Hid (PrAt w1 w.heap.size (.pointer none) (.pointer none)) := by rw [hw1]; exact heap_alloc_new _ _
    have K1 : Hid (Kp (fun _ => False) w w1) := by rw [hw1]; exact (Kp.refl _ _).alloc _
    clear hw1
    go_wp2_with fail
    go_ret2
    exact ⟨⟨_, _, _, rfl, Nat.le_refl _, P1.out, Pair.no rfl rfl⟩, K1.out⟩
  · have hs4 : s.size ≤ 400 := by omega
    clear h4
    obtain ⟨R, hR⟩ : ∃ R, Pu.read (src s) = R := ⟨_, rfl⟩
    obtain ⟨j, o⟩ := R
    have L2 := hide (fun wx => xload_any s wx hs4 j o hR)
    cases o with
    | none =>
      have L1 := hide (fun wx => Load_none s wx hs4 j hR)
      clear hR
      go_enter Tryz.func11, Tryz.ntmps11
      go_wp2_with fail
      refine (L1.out _).mono ?_
      rintro e w1 ⟨rfl, k1⟩
      have K1 := hide k1
      clear k1
      go_wp2_with fail
      refine (L2.out _).mono ?_
      rintro e w2 ⟨k2, rfl⟩
      have K2 := hide (K1.out.trans k2)
      clear k2
      go_wp2_with fail
      refine (HN.out _ _).mono ?_
      rintro e w3 ⟨rfl, hw3⟩
      have P3 : Hid (PrAt w3 w2.heap.size (.pointer none) (.pointer none)) := by rw [hw3]; exact heap_alloc_new _ _
      have K3 : Hid (Kp (fun _ => False) w w3) := by rw [hw3]; exact K2.out.alloc _
      have s2 := K2.out.size
      clear hw3
      go_wp2_with fail
      go_ret2
      exact ⟨⟨_, _, _, rfl, s2, P3.out, Pair.no rfl rfl⟩, K3.out⟩
    | some p =>
      have hp := Pu.read_inv hR
      have ho := read_one hR
      have hE := loadE_same hp noS noS_len noS_zero
      have L1 := hide (fun wx => Load_gen s wx hs4 j p hR)
      rw [hE] at L1
      have HE := hide hE
      have HP := hide hp
      have HO := hide ho
      clear hR hp ho hE
      by_cases e0 : xloadE p = 0
      · have E0 := hide e0
        rw [e0] at L1
        clear e0
        go_enter Tryz.func11, Tryz.ntmps11
        go_wp2_with fail
        refine (L1.out _).mono ?_
        rintro e w1 ⟨⟨u, rfl, l1⟩, k1⟩
        obtain ⟨q1, rfl, hq1, hr1, hg1⟩ := l1.good (by rw [HE.out, E0.out])
        have K1 := hide k1
        have HR1 := hide hr1
        have HG1 := hide hg1
        clear k1 l1 hr1 hg1
        go_wp2_with fail
        refine (L2.out _).mono ?_
        rintro e w2 ⟨k2, ⟨u2, he, _, hgood⟩⟩
        obtain ⟨q2, hu2, hq2, hd2⟩ := hgood E0.out
        subst hu2
        rw [E0.out] at he
        subst he
        have HG2 : Hid (GsAt w2 q1 (preOf p.rule p.shape p.age) p.shape.w p.shape.h (laidG p noS).2) := GrAt.keep HG1.out k2 (fun h => h)
        have HD2 := hide hd2
        have K2 := hide (K1.out.trans k2)
        have s1 := K1.out.size
        clear k2 hgood hd2 HG1
        go_wp2_with fail
        refine (HN.out _ _).mono ?_
        rintro e w3 ⟨rfl, hw3⟩
        have P3 : Hid (PrAt w3 w2.heap.size (.pointer (some ⟨q1, 0, none⟩)) (.pointer (some ⟨q2, 0, none⟩))) := by rw [hw3]; exact heap_alloc_new _ _
        have k3 : Kp (fun _ => False) w2 w3 := by rw [hw3]; exact (Kp.refl _ _).alloc _
        have K3 := hide (K2.out.trans k3)
        have T3 : Hid (Duo w3 q1 q2 p) := ⟨HP.out, HO.out.1, HO.out.2, HR1.out, E0.out, GrAt.keep HG2.out k3 (fun h => h), HD2.out.keep k3⟩
        have s2 := K2.out.size
        clear hw3 k3
        go_wp2_with fail
        go_ret2
        exact ⟨⟨_, _, _, rfl, s2, P3.out, Pair.both q1 q2 p rfl rfl hq1 (by omega) T3.out⟩, K3.out⟩
      · have E0 := hide e0
        obtain ⟨ee, hee⟩ : ∃ ee, xloadE p = ee := ⟨_, rfl⟩
        have HEE := hide hee
        rw [hee] at L1
        clear e0 hee
        go_enter Tryz.func11, Tryz.ntmps11
        go_wp2_with fail
        refine (L1.out _).mono ?_
        rintro e w1 ⟨⟨u, rfl, l1⟩, k1⟩
        obtain rfl := l1.bad (by rw [HE.out]; exact E0.out)
        have K1 := hide k1
        clear k1 l1
        go_wp2_with fail
        refine (L2.out _).mono ?_
        rintro e w2 ⟨k2, ⟨u2, he, hbad, _⟩⟩
        obtain rfl := hbad E0.out
        rw [HEE.out] at he
        subst he
        have K2 := hide (K1.out.trans k2)
        clear k2 hbad
        go_wp2_with fail
        refine (HN.out _ _).mono ?_
        rintro e w3 ⟨rfl, hw3⟩
        have P3 : Hid (PrAt w3 w2.heap.size (.pointer none) (.pointer none)) := by rw [hw3]; exact heap_alloc_new _ _
        have K3 : Hid (Kp (fun _ => False) w w3) := by rw [hw3]; exact K2.out.alloc _
        have s2 := K2.out.size
        clear hw3
        go_wp2_with fail
        go_ret2
        exact ⟨⟨_, _, _, rfl, s2, P3.out, Pair.no rfl rfl⟩, K3.out⟩
/-- What the document's Save asks. -/
structure SvOk (r : Pu.Rule) (x : Pu.Shape) (age : Int) (l : List Cl) : Prop where
  hb : HdB r x age
  one : OneB x
  len : l.length ≤ 1000000
  bd : ClBd l
  at8 : ∀ X Y, 0 ≤ atL l X Y ∧ atL l X Y ≤ 8
  sm : l ≠ [] → (boxL l).2.1 - (boxL l).1 < 64 ∧ (boxL l).2.2.2 - (boxL l).2.2.1 < 64
theorem at_bd {c : Int} (c9 : c ≤ 9) {l : List Cl} (h : ∀ d, d ∈ l → 1 ≤ d.2.2 ∧ d.2.2 < c) (X Y : Int) : 0 ≤ atL l X Y ∧ atL l X Y ≤ 8 := by
  induction l with
  | nil => simp [atL]
  | cons d l ih =>
    have h5 := h d List.mem_cons_self
    unfold atL
    split
    · omega
    · exact ih (fun d hd => h d (List.mem_cons_of_mem _ hd))
theorem box_small {x : Pu.Shape} (hx : Pu.ShapeOk x) {l : List Cl} (hin : ∀ d, d ∈ l → onSideB d.1 x.w = true ∧ onSideB d.2.1 x.h = true) (hr : Rm x.w x.h l) (h0 : l ≠ []) : (boxL l).2.1 - (boxL l).1 < 64 ∧ (boxL l).2.2.2 - (boxL l).2.2.1 < 64 := by
  have w12 := hx.w12
  have h12 := hx.h12
  have hb := boxL_is h0
  generalize boxL l = p at *
  obtain ⟨_, ⟨ca, ca1, ca2⟩, ⟨cb, cb1, cb2⟩, ⟨cc, cc1, cc2⟩, ⟨cd, cd1, cd2⟩⟩ := hb
  have ha := (hin ca ca1).1
  have hb := (hin cb cb1).1
  have hc := (hin cc cc1).2
  have hd := (hin cd cd1).2
  unfold onSideB at ha hb hc hd
  rw [decide_eq_true_iff] at ha hb hc hd
  constructor
  · by_cases e : x.w = 0
    · have := (hr.x e cb cb1 ca ca1).2
      omega
    · omega
  · by_cases e : x.h = 0
    · have := (hr.y e cd cd1 cc cc1).2
      omega
    · omega
theorem Duo.sv {w : World} {q1 q2 : Nat} {p : Pu.Parts} (h : Duo w q1 q2 p) : SvOk p.rule p.shape p.age (liveOf p) := by
  have hk := (liveOf_ok h.ok).mem
  have hx := h.ok.shape
  have st := h.ok.states
  have ag := h.ok.age
  have kd := hx.kind
  have ws := hx.ws
  have hs := hx.hs
  have w0 := hx.w0
  have w12 := hx.w12
  have h0 := hx.h0
  have h12 := hx.h12
  have hkd : 0 ≤ p.shape.kind ∧ p.shape.kind < 256 := by
    simp at kd
    omega
  have hroom : roomB p.shape.w p.shape.h (liveOf p) = true := by
    have he := h.e
    unfold xloadE at he
    split at he
    · omega
    · by_cases c : roomB p.shape.w p.shape.h (liveOf p) = true
      · exact c
      · rw [if_neg c] at he
        omega
  have hrm := (room_iff (side_of hx) _).1 hroom
  refine ⟨⟨by have := h.ar; omega, st, hkd, by omega, by omega, by omega, by omega, ag⟩, h.one, (liveOf_bd h.ok).2, (liveOf_bd h.ok).1, at_bd st.2 (fun d hd => (hk d hd).2.2.1), box_small hx (fun d hd => (hk d hd).2.2.2) hrm⟩
/-- Both save the same. -/
theorem Duo.same {w : World} {q1 q2 : Nat} {p : Pu.Parts} (h : Duo w q1 q2 p) : saveT p.rule p.shape p.age (laidG p noS).2.l (laidG p noS).2.t (laidG p noS).2.S = ustr (xsaveT p.rule p.shape p.age (liveOf p)) ∧ GsOk p.rule.states p.shape.w p.shape.h (laidG p noS).2 := by
  have hx := h.ok.shape
  have hroom : (laidG p noS).1 = true := by
    have he := h.e
    rw [← loadE_same h.ok noS noS_len noS_zero] at he
    unfold loadE at he
    split at he
    · omega
    · by_cases c : (laidG p noS).1 = true
      · exact c
      · rw [if_neg c] at he
        omega
  obtain ⟨hs, ho⟩ := (laid_same h.ok noS noS_len noS_zero).2 hroom
  have hk := (liveOf_ok h.ok).mem
  have one := h.one
  refine ⟨save_eq p.rule p.age hs (fun d hd => (hk d hd).2.2.1) h.ok.states.2 hx.ws.1 (fun e => (one.wst e).1) hx.hs.1 (fun e => (one.hst e).2.2), ho⟩
end Go.Proofs.YthmhjjkmnnmjlaaGreatDoor
namespace Go.Proofs.YthmhjjkmnnmjlaaGreatDoor
open Go.RowKit
open Go.Proofs

/-- A grid that lies alone in its block. -/
def gnv (gw gh l t : Int) (S : List Int) : Array Value := #[.int .i64 gw, .int .i64 gh, .int .i64 l, .int .i64 t] ++ intsv S
structure GnAt (w : World) (q : Nat) (gw gh l t : Int) (S : List Int) : Prop where
  row : w.heap[q]? = some (.cells (gnv gw gh l t S) 68 (0, 0))
  len : S.length = 768
theorem gnv_get (gw gh l t : Int) (S : List Int) (m : Nat) : (gnv gw gh l t S)[m]? = if m < 4 then #[Value.int .i64 gw, .int .i64 gh, .int .i64 l, .int .i64 t][m]? else (intsv S)[m - 4]? := by
  unfold gnv
  rw [Array.getElem?_append]
  rfl
theorem gnv_size (gw gh l t : Int) {S : List Int} (h : S.length = 768) : (gnv gw gh l t S).size = 772 := by
  unfold gnv intsv
  rw [Array.size_append]
  simp only [List.size_toArray, List.length_map, h]
  rfl
section
variable {w w' : World} {q : Nat} {gw gh l t : Int} {S : List Int}
theorem GnAt.fld (h : GnAt w q gw gh l t S) (m : Nat) (hm : m < 4) : w.cell? ⟨q, m, none⟩ = #[Value.int .i64 gw, .int .i64 gh, .int .i64 l, .int .i64 t][m]? := by
  rw [cell_of_row w q _ _ _ _ h.row, gnv_get, if_pos hm]
theorem GnAt.cell (h : GnAt w q gw gh l t S) (k : Nat) (hk : k < 768) : w.cell? ⟨q, 4 + k, none⟩ = some (.int .i64 (S[k]'(by rw [h.len]; exact hk))) := by
  rw [cell_of_row w q _ _ _ _ h.row, gnv_get, if_neg (by omega), show 4 + k - 4 = k by omega, intsv_get S k (by rw [h.len]; exact hk)]
theorem GnAt.fro (h : GnAt w q gw gh l t S) (m : Nat) : w.frozen? ⟨q, m, none⟩ = false := frozen_of_row w q _ _ _ h.row
theorem GnAt.lt (h : GnAt w q gw gh l t S) : q < w.heap.size := (Array.getElem?_eq_some_iff.1 h.row).1
theorem GnAt.keep {T : Nat → Prop} (h : GnAt w q gw gh l t S) (k : Kp T w w') (hn : ¬ T q) : GnAt w' q gw gh l t S := ⟨k.row h.row hn, h.len⟩
theorem GnAt.put (h : GnAt w q gw gh l t S) (k : Nat) (hk : k < 768) (u : Int) : GnAt (w.setCell ⟨q, 4 + k, none⟩ (.int .i64 u)) q gw gh l t (S.set k u) := by
  refine ⟨?_, by simpa using h.len⟩
  rw [heap_setCell_same w q _ _ _ _ h.row]
  congr 2
  apply Array.ext_getElem?
  intro m
  rw [Array.getElem?_setIfInBounds, gnv_get, gnv_get, gnv_size _ _ _ _ h.len]
  by_cases e : 4 + k = m
  · subst e
    rw [if_pos rfl, if_pos (by omega), if_neg (by omega), show 4 + k - 4 = k by omega, intsv_get _ k (by simp [h.len]; omega)]
    simp
  · rw [if_neg e]
    by_cases h1 : m < 4
    · simp [h1]
    · rw [if_neg h1, if_neg h1]
      simp only [intsv, List.getElem?_toArray, List.getElem?_map]
      rw [List.getElem?_set_ne (by omega)]
end

set_option maxRecDepth 100000 in
set_option maxHeartbeats 1000000 in
theorem nslot_any (q : Nat) (gw gh l t : Int) (S : List Int) (x y : Int) (w : World) (h : GnAt w q gw gh l t S) (w0 : 0 ≤ gw) (w1 : gw ≤ 12) (h0 : 0 ≤ gh) (h1 : gh ≤ 12)
    (l0 : -50000000 ≤ l) (l1 : l ≤ 50000000) (t0 : -50000000 ≤ t) (t1 : t ≤ 50000000) :
    Calls Tryz.prog 62 #[.pointer (some ⟨q, 0, none⟩), .int .i64 x, .int .i64 y] w fun e w' => e = .returned (.int .i64 (slotP gw gh l t x y)) ∧ w' = w := by
  have c0 : w.cell? ⟨q, 0, none⟩ = some (.int .i64 gw) := h.fld 0 (by omega)
  have c1 : w.cell? ⟨q, 1, none⟩ = some (.int .i64 gh) := h.fld 1 (by omega)
  have c2 : w.cell? ⟨q, 2, none⟩ = some (.int .i64 l) := h.fld 2 (by omega)
  have c3 : w.cell? ⟨q, 3, none⟩ = some (.int .i64 t) := h.fld 3 (by omega)
  clear h
  have sw := spanP_bd w0 w1
  have sh := spanP_bd h0 h1
  unfold slotP
  by_cases k1 : x < l
  · rw [if_pos (Or.inl k1)]
    go_enter Tryz.func62, Tryz.ntmps62
    go_wp2_with fail
    refine (span_any gw _).mono ?_
    rintro e w1 ⟨rfl, hw⟩
    subst w1
    go_wp2_with fail
    refine (span_any gh _).mono ?_
    rintro e w1 ⟨rfl, hw⟩
    subst w1
    go_wp2_with fail
    go_ret
    exact ⟨rfl, rfl⟩
  · by_cases k2 : l + spanP gw ≤ x
    · rw [if_pos (Or.inr (Or.inl k2))]
      go_enter Tryz.func62, Tryz.ntmps62
      go_wp2_with fail
      refine (span_any gw _).mono ?_
      rintro e w1 ⟨rfl, hw⟩
      subst w1
      go_wp2_with fail
      refine (span_any gh _).mono ?_
      rintro e w1 ⟨rfl, hw⟩
      subst w1
      generalize spanP gw = cols at *
      generalize spanP gh = rows at *
      go_wp2_with fail
      go_ret
      exact ⟨rfl, rfl⟩
    · by_cases k3 : y < t
      · rw [if_pos (Or.inr (Or.inr (Or.inl k3)))]
        go_enter Tryz.func62, Tryz.ntmps62
        go_wp2_with fail
        refine (span_any gw _).mono ?_
        rintro e w1 ⟨rfl, hw⟩
        subst w1
        go_wp2_with fail
        refine (span_any gh _).mono ?_
        rintro e w1 ⟨rfl, hw⟩
        subst w1
        generalize spanP gw = cols at *
        generalize spanP gh = rows at *
        go_wp2_with fail
        go_ret
        exact ⟨rfl, rfl⟩
      · by_cases k4 : t + spanP gh ≤ y
        · rw [if_pos (Or.inr (Or.inr (Or.inr k4)))]
          go_enter Tryz.func62, Tryz.ntmps62
          go_wp2_with fail
          refine (span_any gw _).mono ?_
          rintro e w1 ⟨rfl, hw⟩
          subst w1
          go_wp2_with fail
          refine (span_any gh _).mono ?_
          rintro e w1 ⟨rfl, hw⟩
          subst w1
          generalize spanP gw = cols at *
          generalize spanP gh = rows at *
          go_wp2_with fail
          go_ret
          exact ⟨rfl, rfl⟩
        · rw [if_neg (by omega)]
          have m1 := Int.emod_nonneg y (show spanP gh ≠ 0 by omega)
          have m2 := Int.emod_lt_of_pos y sh.1
          have m3 := Int.emod_nonneg x (show spanP gw ≠ 0 by omega)
          have m4 := Int.emod_lt_of_pos x sw.1
          have p1 : 0 ≤ y % spanP gh * spanP gw := Int.mul_nonneg m1 (by omega)
          have p2 : y % spanP gh * spanP gw ≤ 4096 := by
            have a1 : y % spanP gh * spanP gw ≤ 64 * spanP gw := Int.mul_le_mul_of_nonneg_right (by omega) (by omega)
            omega
          by_cases k5 : 768 ≤ y % spanP gh * spanP gw + x % spanP gw
          · rw [if_pos k5]
            go_enter Tryz.func62, Tryz.ntmps62
            go_wp2_with fail
            refine (span_any gw _).mono ?_
            rintro e w1 ⟨rfl, hw⟩
            subst w1
            go_wp2_with fail
            refine (span_any gh _).mono ?_
            rintro e w1 ⟨rfl, hw⟩
            subst w1
            go_wp2_with fail
            refine (mod_any y (spanP gh) _ (by omega) (by omega) (by omega) (by omega)).mono ?_
            rintro e w1 ⟨rfl, hw⟩
            subst w1
            go_wp2_with fail
            refine (mod_any x (spanP gw) _ (by omega) (by omega) (by omega) (by omega)).mono ?_
            rintro e w1 ⟨rfl, hw⟩
            subst w1
            go_wp2_with fail
            go_ret
            exact ⟨rfl, rfl⟩
          · rw [if_neg k5]
            go_enter Tryz.func62, Tryz.ntmps62
            go_wp2_with fail
            refine (span_any gw _).mono ?_
            rintro e w1 ⟨rfl, hw⟩
            subst w1
            go_wp2_with fail
            refine (span_any gh _).mono ?_
            rintro e w1 ⟨rfl, hw⟩
            subst w1
            go_wp2_with fail
            refine (mod_any y (spanP gh) _ (by omega) (by omega) (by omega) (by omega)).mono ?_
            rintro e w1 ⟨rfl, hw⟩
            subst w1
            go_wp2_with fail
            refine (mod_any x (spanP gw) _ (by omega) (by omega) (by omega) (by omega)).mono ?_
            rintro e w1 ⟨rfl, hw⟩
            subst w1
            go_wp2_with fail
            go_ret
            exact ⟨rfl, rfl⟩
set_option maxRecDepth 100000 in
set_option maxHeartbeats 1000000 in
theorem nput_in (q : Nat) (gw gh l t : Int) (S : List Int) (x y u : Int) (w : World) (h : GnAt w q gw gh l t S) (w0 : 0 ≤ gw) (w1 : gw ≤ 12) (h0 : 0 ≤ gh) (h1 : gh ≤ 12)
    (l0 : -50000000 ≤ l) (l1 : l ≤ 50000000) (t0 : -50000000 ≤ t) (t1 : t ≤ 50000000) (hz : 0 ≤ slotP gw gh l t x y) :
    Calls Tryz.prog 39 #[.pointer (some ⟨q, 0, none⟩), .int .i64 x, .int .i64 y, .int .i64 u] w fun e w' => e = .returned (.bool true) ∧ GnAt w' q gw gh l t (S.set (slotP gw gh l t x y).toNat u) ∧ Kp (· = q) w w' := by
  have hb := slotP_bd gw gh l t x y w0 w1 h0 h1
  have HS := hide (fun wx hx => nslot_any q gw gh l t S x y wx hx w0 w1 h0 h1 l0 l1 t0 t1)
  generalize slotP gw gh l t x y = z at *
  obtain ⟨k, rfl⟩ := Int.eq_ofNat_of_zero_le hz
  have hk : k < 768 := by omega
  have hc := h.cell k hk
  have hf := h.fro (4 + k)
  rw [Int.toNat_natCast]
  have H := hide h
  go_enter Tryz.func39, Tryz.ntmps39
  go_wp2_with fail
  refine (HS.out _ h).mono ?_
  rintro e w1 ⟨rfl, hw⟩
  subst w1
  go_wp2_with fail
  go_ret
  exact ⟨rfl, H.out.put k hk u, (Kp.refl (· = q) w).setCell (p := ⟨q, 4 + k, none⟩) rfl _⟩

end Go.Proofs.YthmhjjkmnnmjlaaGreatDoor
