import Derived.Test.YtflbkgfcnggkpabM11
namespace Go.Proofs.Ytflbkgfcnggkpab
open Go.RowKit
open Go.Proofs

theorem kindsL : ∀ k (h : k < ({ data := #[84, 75, 67] } : ByteArray).size), ((({ data := #[84, 75, 67] } : ByteArray)[k]).toNat : Int) ∈ [(80 : Int), 84, 75, 67, 83] := by
  intro k h
  have h5 : k < 3 := h
  have : k = 0 ∨ k = 1 ∨ k = 2 := by omega
  rcases this with rfl | rfl | rfl <;> (clear h5; revert h; decide)
theorem kindsL_at {x : Int} (h : ∃ k, ∃ h : k < ({ data := #[84, 75, 67] } : ByteArray).size, x = ((({ data := #[84, 75, 67] } : ByteArray)[k]).toNat : Int)) : x = 84 ∨ x = 75 ∨ x = 67 := by
  obtain ⟨k, hk, rfl⟩ := h
  have h5 : k < 3 := hk
  have : k = 0 ∨ k = 1 ∨ k = 2 := by omega
  rcases this with rfl | rfl | rfl <;> (clear h5; revert hk; decide)

theorem MxF.keepW {w w' : World} {base q : Nat} {v : Value} {n W : Nat} {f : Nat → Nat → Int} (h : MxF w base v n W f) (k : Kp (· = q) w w') (hb : q < base) {c : Array Value} {fr : Nat × Nat} (hq : w.heap[q]? = some (Obj.cells c 58 fr)) : MxF w' base v n W f := by
  obtain ⟨vs, ho, hr⟩ := h.own
  refine ⟨vs, own_keep ho k (by intro g hg hx; omega), fun i hi => ?_⟩
  obtain ⟨gi, ci, h1, cur, h2, h3⟩ := hr i hi
  refine ⟨gi, ci, h1, cur, k.row h2 ?_, h3⟩
  intro e
  rw [e, hq] at h2
  simp at h2

set_option maxRecDepth 100000 in
set_option maxHeartbeats 2000000 in
theorem lifts_walk (v : Wish) (hv : WishOk v) (n dx dy : Int) (hn : i64 n) (_hdx : i64 dx) (_hdy : i64 dy) (w : World) :
    Calls Try.prog 4 #[.agg (wishv v), .int .i64 n, .int .i64 dx, .int .i64 dy] w fun e w' => e = .returned (.bool true) ∧ Kp (fun _ => False) w w' := by
  have LPL := hide (fun wx => planned_any v hv { data := #[84, 75, 67] } 12 (by decide) (by decide) kindsL (by omega) wx)
  have LPK := hide (fun wx => pick_any n 4 wx (by omega) (by omega) hn.1 hn.2)
  have bN := pickP_bd n 4 (by omega)
  generalize pickP n 4 = pn at *
  obtain ⟨pn, rfl⟩ := Int.eq_ofNat_of_zero_le bN.1
  go_enter Try.func4, Try.ntmps4
  go_wp2_with (first
    | (refine wpList_box_row rfl 23 _ rfl (wishv v) rfl ?_
       intro w1 hw1
       have W1 : Hid (WsAt w1 w.heap.size v) := ⟨by rw [hw1]; exact heap_alloc_new _ _⟩
       have K1 : Hid (Kp (fun _ => False) w w1) := by rw [hw1]; exact (Kp.refl _ _).alloc _
       clear hw1)
    | (refine wpList_load_row rfl 23 _ rfl w.heap.size rfl 23 (wishv v) (0, 0) _ W1.out.row Try.underlying23 rfl info_wish ?_))
  refine (LPL.out _).mono ?_
  rintro e w2 ⟨⟨p, rfl, hp, _, _, hkd⟩, k2⟩
  have hk3 := kindsL_at hkd
  have W2 := hide (W1.out.keep k2 (fun hx => hx))
  have K2 := hide (K1.out.trans k2)
  have l2 : w.heap.size < w2.heap.size := (Array.getElem?_eq_some_iff.1 W2.out.row).1
  clear k2 hkd LPL
  go_upto_region 2 with (first
    | (refine wpList_alloc_row rfl 25 rfl (planv zp) zero_plan ?_
       intro w3 hw3
       have W3 : Hid (WsAt w3 w.heap.size v) := by rw [hw3]; exact W2.out.keep ((Kp.refl (fun _ => False) _).alloc _) (fun hx => hx)
       have P3 : Hid (PlAt w3 w2.heap.size zp) := ⟨by rw [hw3]; exact heap_alloc_new _ _⟩
       have K3 : Hid (Kp (fun _ => False) w w3) := by rw [hw3]; exact K2.out.alloc _
       clear hw3)
    | (refine wpList_store_row_g rfl 25 _ _ rfl w2.heap.size (planv p) rfl rfl 25 (planv zp) P3.out.row info_plan rfl (planv_one _) ?_
       intro w4 hw4
       have W4 : Hid (WsAt w4 w.heap.size v) := ⟨by rw [hw4]; exact (setRow_other _ _ _ _ (by omega)).trans W3.out.row⟩
       have P4 : Hid (PlAt w4 w2.heap.size p) := ⟨by rw [hw4]; exact setRow_heap _ _ _ _ _ _ P3.out.row⟩
       have K4 : Hid (Kp (fun _ => False) w w4) := by rw [hw4]; exact K3.out.setRowNew K2.out.size _
       clear hw4))
  clear W3 P3 K3 W2 W1 K1
  have HK3 := hide hk3
  have c0 : w4.cell? ⟨w2.heap.size, 0, none⟩ = some (.int .u8 p.near) := P4.out.cell 0
  have c4 : w4.cell? ⟨w2.heap.size, 4, none⟩ = some (.int .u8 p.kind) := P4.out.cell 4
  have LM1 := hide (fun wx => pmade_any p hp v hv.cells wx)
  by_cases hbad : p.near = 72 ∧ p.kind ≠ 84
  · have b1 : (p.near == 72) = true := by simpa using hbad.1
    have b2 : (p.kind != 84) = true := by simpa using hbad.2
    clear hbad hk3
    go_wp2_with fail
    go_ret
    exact ⟨rfl, K4.out⟩
  · have hgood : p.kind = 84 ∨ p.near ≠ 72 := by omega
    have HGD := hide hgood
    obtain ⟨W, hW⟩ := Int.eq_ofNat_of_zero_le (show 0 ≤ p.w by have := hp.w; omega)
    obtain ⟨H, hH⟩ := Int.eq_ofNat_of_zero_le (show 0 ≤ p.h by have := hp.h; omega)
    have LSQ := hide (fun (wx : World) (q : Nat) (S : List Int) (X Y : Int) (rk : RuleOk (Pu.ruleOf p)) (hX : -1099511627776 ≤ X ∧ X ≤ 1099511627776) (hY : -1099511627776 ≤ Y ∧ Y ≤ 1099511627776) (hg : GrAt wx q (preOf (Pu.ruleOf p) (Pu.shapeOf p) 0) p.w p.h 0 0 S) => square_any p hp rk hk3 q 0 S X Y hX hY pn (by omega) wx hg)
    have LON := hide (fun (wx : World) (base : Nat) (u : Value) (m : Nat) (f : Nat → Nat → Int) (h1 : 1 ≤ m) (h2 : m ≤ 24) (hf : ∀ x y, x < m + 2 → y < m + 2 → 0 ≤ f x y ∧ f x y < p.c) (hm : MxF wx base u (m + 2) (m + 2) f) => onward_any p hp u m m h2 h2 h1 f hf base wx hm)
    have LST := hide (fun (wx : World) (q : Nat) (S : List Int) (rk : RuleOk (Pu.ruleOf p)) (hS : StOk (Pu.ruleOf p) S) (hg : GrAt wx q (preOf (Pu.ruleOf p) (Pu.shapeOf p) 0) p.w p.h 0 0 S) => step_plan hp hk3 hW hH rk wx q 0 S pn (by omega) hS (by omega) (by omega) hg)
    have LG := hide (fun (wx : World) (q : Nat) (age : Int) (S : List Int) (X Y : Int) (rk : RuleOk (Pu.ruleOf p)) (hg : GrAt wx q (preOf (Pu.ruleOf p) (Pu.shapeOf p) age) p.w p.h 0 0 S) (hX : -1099511627776 ≤ X ∧ X ≤ 1099511627776) (hY : -1099511627776 ≤ Y ∧ Y ≤ 1099511627776) => wget_fold q (Pu.ruleOf p) (Pu.shapeOf p) age 0 0 S X Y wx hg rk (plan_fold hp) hk3 (by omega) (by omega) (by omega) (by omega) (by omega) (by omega))
    have HN := hide (fun (S : List Int) (hS : StOk (Pu.ruleOf p) S) (X Y : Int) (i j : Nat) => lifts_next hp hgood hW hH hS X Y i j)
    have HOK := hide (fun (S : List Int) (hS : StOk (Pu.ruleOf p) S) (k : Nat) => stepN_ok (Pu.ruleOf p) hp.c.1 (foldG (Pu.shapeOf p)) W H S hS k)
    have HVB := hide (fun (S : List Int) (hS : StOk (Pu.ruleOf p) S) (X Y : Int) (i j : Nat) => viewF_bd hp hW hS X Y i j)
    have HSF := hide (fillS_ok v p hp (p.h * p.w).toNat)
    have HVG : Hid (∀ (S : List Int) (X Y : Int), getP (Pu.shapeOf p).w (Pu.shapeOf p).h 0 0 S (foldX (Pu.shapeOf p) X Y) (foldY (Pu.shapeOf p) X Y) = viewF (Pu.shapeOf p) S X Y 0 0) := fun S X Y => by
      show _ = foldG (Pu.shapeOf p) S (X + ((0 : Nat) : Int)) (Y + ((0 : Nat) : Int))
      rw [show X + ((0 : Nat) : Int) = X by omega, show Y + ((0 : Nat) : Int) = Y by omega]
      rfl
    generalize fillS v p.c (p.h * p.w).toNat = S0 at *
    have HSU : Hid (∀ k, nextS (Pu.ruleOf p) (foldG (Pu.shapeOf p)) W H (stepN (Pu.ruleOf p) (foldG (Pu.shapeOf p)) W H k S0) = stepN (Pu.ruleOf p) (foldG (Pu.shapeOf p)) W H (k + 1) S0) := fun _ => rfl
    have HS0 : Hid (stepN (Pu.ruleOf p) (foldG (Pu.shapeOf p)) W H 0 S0 = S0) := rfl
    have two : (p.near == 72) = false ∨ ((p.near == 72) = true ∧ (p.kind != 84) = false) := by
      by_cases e : p.near = 72
      · right
        have e2 : p.kind = 84 := by omega
        exact ⟨by simpa using e, by simpa using e2⟩
      · left
        simpa using e
    clear hbad hgood hk3 hW hH
    have a1 : -1099511627776 ≤ dx.tmod 1099511627776 ∧ dx.tmod 1099511627776 ≤ 1099511627776 := by rcases tmod_cases dx 1099511627776 (by omega) with ⟨t1, _, t3⟩ | ⟨t1, _, t3, _, _⟩ <;> omega
    have a2 : -1099511627776 ≤ dy.tmod 1099511627776 ∧ dy.tmod 1099511627776 ≤ 1099511627776 := by rcases tmod_cases dy 1099511627776 (by omega) with ⟨t1, _, t3⟩ | ⟨t1, _, t3, _, _⟩ <;> omega
    rcases two with b1 | ⟨b1, b2⟩
    all_goals
      go_wp2_with (first
        | (refine wpList_load_row rfl 25 _ rfl w2.heap.size rfl 25 (planv p) (0, 0) _ P4.out.row Try.underlying25 rfl info_plan ?_)
        | (refine wpList_load_row rfl 23 _ rfl w.heap.size rfl 23 (wishv v) (0, 0) _ W4.out.row Try.underlying23 rfl info_wish ?_))
      refine (LM1.out _).mono ?_
      rintro e w6 ⟨⟨q, rfl, hq, rk, g6⟩, k6⟩
      have P6 := hide (P4.out.keep k6 (fun hx => hx))
      have K6 := hide (K4.out.trans k6)
      have G6 := hide g6
      have RK := hide rk
      have s4 := K4.out.size
      have hqw : w.heap.size ≤ q := by omega
      clear k6 g6 rk c0 c4 b1
      go_wp2_with fail
      refine (LPK.out _).mono ?_
      rintro e w7 ⟨rfl, hw7⟩
      subst w7
      go_wp2_with fail
      generalize dx.tmod 1099511627776 = a at *
      generalize dy.tmod 1099511627776 = b at *
      refine (LSQ.out _ q S0 a b RK.out a1 a2 G6.out).mono ?_
      rintro e w9 ⟨⟨v9, rfl, m9⟩, k9⟩
      have P9 := hide (P6.out.keep k9 (fun hx => hx))
      have K9 := hide (K6.out.trans k9)
      have G9 := hide (G6.out.keep k9 (fun hx => hx))
      have q6 := G6.out.lt
      have M9 := hide m9
      clear k9 m9
      have gne : w2.heap.size ≠ q := by
        intro e
        have h1 := P9.out.row
        have h2 := G9.out.row
        rw [e, h2] at h1
        simp at h1
      go_wp2_with fail
      go_loopg [12, 13] pn (fun gk vl kk wr => ∃ k : Nat, k ≤ pn ∧ pn ≤ k + gk ∧ kk = .int .i64 k ∧ (∃ base, q < base ∧ MxF wr base vl (2 * (pn - k) + 1) (2 * (pn - k) + 1) (viewF (Pu.shapeOf p) (stepN (Pu.ruleOf p) (foldG (Pu.shapeOf p)) W H k S0) (a - ((pn - k : Nat) : Int)) (b - ((pn - k : Nat) : Int)))) ∧ Kp (fun _ => False) w9 wr)
      case atStart => exact ⟨0, by omega, by omega, rfl, ⟨_, q6, by rw [HS0.out, Nat.sub_zero]; exact M9.out⟩, Kp.refl _ _⟩
      case round =>
        obtain ⟨k, g1, g2, rfl, ⟨base, hb, m2⟩, k2⟩ := hrel
        have K2' := hide k2
        have P2 := hide (P9.out.keep k2 (fun hx => hx))
        have G2 := hide (G9.out.keep k2 (fun hx => hx))
        have sq := G2.out.lt
        have OKK := hide (HOK.out S0 HSF.out k)
        by_cases hk : k < pn
        · have e1 : 2 * (pn - k) + 1 = (2 * (pn - (k + 1)) + 1) + 2 := by omega
          rw [e1] at m2
          have M2 := hide m2
          have HSK := hide (HSU.out k)
          have HNK := hide (HN.out _ OKK.out (a - ((pn - k : Nat) : Int)) (b - ((pn - k : Nat) : Int)))
          rw [HSK.out, show a - ((pn - k : Nat) : Int) + 1 = a - ((pn - (k + 1) : Nat) : Int) by omega, show b - ((pn - k : Nat) : Int) + 1 = b - ((pn - (k + 1) : Nat) : Int) by omega] at HNK
          have HB := hide (HVB.out _ OKK.out (a - ((pn - k : Nat) : Int)) (b - ((pn - k : Nat) : Int)))
          clear m2 e1 k2
          generalize viewF (Pu.shapeOf p) (stepN (Pu.ruleOf p) (foldG (Pu.shapeOf p)) W H k S0) (a - ((pn - k : Nat) : Int)) (b - ((pn - k : Nat) : Int)) = F at *
          go_wp2_with (refine wpList_load_row rfl 25 _ rfl w2.heap.size rfl 25 (planv p) (0, 0) _ P2.out.row Try.underlying25 rfl info_plan ?_)
          refine (LON.out _ base _ (2 * (pn - (k + 1)) + 1) F (by omega) (by omega) (fun x y _ _ => HB.out x y) M2.out).mono ?_
          rintro e w10 ⟨⟨v10, rfl, m10⟩, k10⟩
          have M10 := hide (m10.congr (fun i x _ _ => HNK.out x i))
          have K10 := hide (K2'.out.trans k10)
          clear m10 k10
          go_wp2_with fail
          go_roundg (gk - 1)
          case measure => omega
          case rel => exact ⟨k + 1, by omega, by omega, by go_num, ⟨_, sq, M10.out⟩, K10.out⟩
        · have ek : k = pn := by omega
          subst ek
          rw [Nat.sub_self, show a - ((0 : Nat) : Int) = a by omega, show b - ((0 : Nat) : Int) = b by omega] at m2
          have m2' : MxF wr base u12 1 1 (viewF (Pu.shapeOf p) (stepN (Pu.ruleOf p) (foldG (Pu.shapeOf p)) W H k S0) a b) := m2
          obtain ⟨gL, cL, rfl, hL1, hL2, _⟩ := m2'.open_ (by omega)
          have M2 := hide m2'
          unfold maxLen at hL2
          clear k2 m2 m2'
          go_wp2_with fail
          refine (LST.out _ q S0 RK.out HSF.out G2.out).mono ?_
          rintro e w11 ⟨rfl, g11, k11⟩
          have G11 := hide g11
          have K11 := hide ((K9.out.trans K2'.out).tr k11 (by intro z hz1 hz2; omega))
          have M11 := hide (M2.out.keepW k11 hb G2.out.row)
          clear g11 k11
          go_wp2_with fail
          refine (LG.out _ q _ _ a b RK.out G11.out a1 a2).mono ?_
          rintro e w12 ⟨rfl, k12⟩
          rw [HVG.out]
          have M12 := hide (M11.out.keep k12)
          have K12 := hide (K11.out.trans k12)
          obtain ⟨gi, ci, h1, h2⟩ := M12.out.rows 0 (by omega)
          have h3 := h2 0 (by omega)
          clear h2 k12
          generalize viewF (Pu.shapeOf p) (stepN (Pu.ruleOf p) (foldG (Pu.shapeOf p)) W H k S0) a b 0 0 = sv at *
          go_wp2_with fail
          go_ret
          exact ⟨rfl, K12.out⟩
end Go.Proofs.Ytflbkgfcnggkpab
