import Derived.Test.YtiimimclbkjcbaaM21
import Derived.Deep.CutRange
namespace Go.Proofs.Ytiimimclbkjcbaa
open Go.RowKit
open Go.Proofs

set_option maxRecDepth 100000 in
set_option maxHeartbeats 2000000 in
theorem strips_stand (v : Wish) (hv : WishOk v) (n : Int) (hn : i64 n) (w : World) :
    Calls Try.prog 11 #[.agg (wishv v), .int .i64 n, .bool false] w fun e w' => e = .returned (.bool true) ∧ Kp (fun _ => False) w w' := by
  have LPL := hide (fun wx => planned_any v hv { data := #[80, 84] } 12 (by decide) (by decide) kindsPT (by omega) wx)
  have LPK := hide (fun wx => pick_any n 5 wx (by omega) (by omega) hn.1 hn.2)
  have bN := pickP_bd n 5 (by omega)
  generalize pickP n 5 = pn at *
  obtain ⟨pn, rfl⟩ := Int.eq_ofNat_of_zero_le bN.1
  go_enter Try.func11, Try.ntmps11
  go_wp2_with (first
    | (refine wpList_box_row rfl 32 _ rfl (wishv v) rfl ?_
       intro w1 hw1
       have W1 : Hid (WsAt w1 w.heap.size v) := ⟨by rw [hw1]; exact heap_alloc_new _ _⟩
       have K1 : Hid (Kp (fun _ => False) w w1) := by rw [hw1]; exact (Kp.refl _ _).alloc _
       clear hw1)
    | (refine wpList_load_row rfl 32 _ rfl w.heap.size rfl 32 (wishv v) (0, 0) _ W1.out.row Try.underlying32 rfl info_wish ?_))
  refine (LPL.out _).mono ?_
  rintro e w2 ⟨⟨p, rfl, hp, _, _, hkd⟩, k2⟩
  have HKD := hide (kindsPT_at hkd)
  have W2 := hide (W1.out.keep k2 (fun hx => hx))
  have K2 := hide (K1.out.trans k2)
  have l2 : w.heap.size < w2.heap.size := (Array.getElem?_eq_some_iff.1 W2.out.row).1
  clear k2 hkd LPL
  go_upto_region 2 with (first
    | (refine wpList_alloc_row rfl 34 rfl (planv zp) zero_plan ?_
       intro w3 hw3
       have W3 : Hid (WsAt w3 w.heap.size v) := by rw [hw3]; exact W2.out.keep ((Kp.refl (fun _ => False) _).alloc _) (fun hx => hx)
       have P3 : Hid (PlAt w3 w2.heap.size zp) := ⟨by rw [hw3]; exact heap_alloc_new _ _⟩
       have K3 : Hid (Kp (fun _ => False) w w3) := by rw [hw3]; exact K2.out.alloc _
       clear hw3)
    | (refine wpList_store_row_g rfl 34 _ _ rfl w2.heap.size (planv p) rfl rfl 34 (planv zp) P3.out.row info_plan rfl (planv_one _) ?_
       intro w4 hw4
       have W4 : Hid (WsAt w4 w.heap.size v) := ⟨by rw [hw4]; exact (setRow_other _ _ _ _ (by omega)).trans W3.out.row⟩
       have P4 : Hid (PlAt w4 w2.heap.size p) := ⟨by rw [hw4]; exact setRow_heap _ _ _ _ _ _ P3.out.row⟩
       have K4 : Hid (Kp (fun _ => False) w w4) := by rw [hw4]; exact K3.out.setRowNew K2.out.size _
       clear hw4))
  clear W3 P3 K3 W2 W1 K1
  have bb := (bits_bd hp).1
  have hs2 := K2.out.size
  generalize w2.heap.size = g2 at *
  have PP4 := P4
  have WW4 := W4
  have KK4 := K4
  clear P4 W4 K4
  have cc5 : w4.cell? ⟨g2, 1, none⟩ = some (.int .i64 p.births) := PP4.out.cell 1
  have ff5 : w4.frozen? ⟨g2, 1, none⟩ = false := frozen_of_row _ _ _ _ _ PP4.out.row
  go_upto_region 3 with fail
  have PP5 : Hid (PlAt (w4.setCell ⟨g2, 1, none⟩ (.int .i64 ((p.births : Int) - (p.births : Int) % 2))) g2 { p with births := p.births - p.births % 2 }) := PP4.out.set 1 _ { p with births := p.births - p.births % 2 } (by rw [show (p.births : Int) - (p.births : Int) % 2 = ((p.births - p.births % 2 : Nat) : Int) by omega]; rfl)
  have WW5 : Hid (WsAt (w4.setCell ⟨g2, 1, none⟩ (.int .i64 ((p.births : Int) - (p.births : Int) % 2))) w.heap.size v) := ⟨(heap_setCell_other _ _ _ _ (by simp only; omega)).trans WW4.out.row⟩
  have KK5 : Hid (Kp (fun _ => False) w (w4.setCell ⟨g2, 1, none⟩ (.int .i64 ((p.births : Int) - (p.births : Int) % 2)))) := KK4.out.setNew (by simp only; omega) _
  generalize w4.setCell ⟨g2, 1, none⟩ (.int .i64 ((p.births : Int) - (p.births : Int) % 2)) = w5 at *
  clear cc5 ff5 PP4 WW4 KK4
  have cc6 : w5.cell? ⟨g2, 7, none⟩ = some (.int .i64 p.sw) := PP5.out.cell 7
  have ff6 : w5.frozen? ⟨g2, 7, none⟩ = false := frozen_of_row _ _ _ _ _ PP5.out.row
  go_upto_region 4 with fail
  have PP6 : Hid (PlAt (w5.setCell ⟨g2, 7, none⟩ (.int .i64 0)) g2 { p with births := p.births - p.births % 2, sw := 0 }) := PP5.out.set 7 _ { p with births := p.births - p.births % 2, sw := 0 } rfl
  have WW6 : Hid (WsAt (w5.setCell ⟨g2, 7, none⟩ (.int .i64 0)) w.heap.size v) := ⟨(heap_setCell_other _ _ _ _ (by simp only; omega)).trans WW5.out.row⟩
  have KK6 : Hid (Kp (fun _ => False) w (w5.setCell ⟨g2, 7, none⟩ (.int .i64 0))) := KK5.out.setNew (by simp only; omega) _
  generalize w5.setCell ⟨g2, 7, none⟩ (.int .i64 0) = w6 at *
  clear cc6 ff6 PP5 WW5 KK5
  have cc7 : w6.cell? ⟨g2, 8, none⟩ = some (.int .i64 p.sh) := PP6.out.cell 8
  have ff7 : w6.frozen? ⟨g2, 8, none⟩ = false := frozen_of_row _ _ _ _ _ PP6.out.row
  go_upto_region 5 with fail
  have PP7 : Hid (PlAt (w6.setCell ⟨g2, 8, none⟩ (.int .i64 0)) g2 { p with births := p.births - p.births % 2, sw := 0, sh := 0 }) := PP6.out.set 8 _ { p with births := p.births - p.births % 2, sw := 0, sh := 0 } rfl
  have WW7 : Hid (WsAt (w6.setCell ⟨g2, 8, none⟩ (.int .i64 0)) w.heap.size v) := ⟨(heap_setCell_other _ _ _ _ (by simp only; omega)).trans WW6.out.row⟩
  have KK7 : Hid (Kp (fun _ => False) w (w6.setCell ⟨g2, 8, none⟩ (.int .i64 0))) := KK6.out.setNew (by simp only; omega) _
  generalize w6.setCell ⟨g2, 8, none⟩ (.int .i64 0) = w7 at *
  clear cc7 ff7 PP6 WW6 KK6
  have cc8 : w7.cell? ⟨g2, 6, none⟩ = some (.int .i64 p.h) := PP7.out.cell 6
  have ff8 : w7.frozen? ⟨g2, 6, none⟩ = false := frozen_of_row _ _ _ _ _ PP7.out.row
  go_upto_region 8 with fail
  have PP8 : Hid (PlAt (w7.setCell ⟨g2, 6, none⟩ (.int .i64 12)) g2 (planU false p)) := PP7.out.set 6 _ (planU false p) rfl
  have WW8 : Hid (WsAt (w7.setCell ⟨g2, 6, none⟩ (.int .i64 12)) w.heap.size v) := ⟨(heap_setCell_other _ _ _ _ (by simp only; omega)).trans WW7.out.row⟩
  have KK8 : Hid (Kp (fun _ => False) w (w7.setCell ⟨g2, 6, none⟩ (.int .i64 12))) := KK7.out.setNew (by simp only; omega) _
  generalize w7.setCell ⟨g2, 6, none⟩ (.int .i64 12) = w8 at *
  clear cc8 ff8 PP7 WW7 KK7
  have hz := planU_ok false hp HKD.out
  have hy := planW_ok false hp HKD.out
  have HST := hide (plan_strip false hp HKD.out)
  have HEV := hide (planU_even false p)
  have HRU : Hid (Pu.ruleOf (planW false p) = Pu.ruleOf (planU false p)) := rfl
  have HCC : Hid ((planU false p).c = p.c) := rfl
  have LM := hide (fun wx => pmade_any (planU false p) hz zw (by decide) wx)
  rw [fillS_empty] at LM
  have LT := hide (fun wx => ptext_open (planW false p) hy wx)
  have LL := hide (fun wx => Load_open (planW false p) hy HEV.out wx)
  go_upto_region 9 with (first
    | (refine wpList_load_row rfl 34 _ rfl g2 rfl 34 (planv (planU false p)) (0, 0) _ PP8.out.row Try.underlying34 rfl info_plan ?_)
    | (refine wpList_alloc_row rfl 34 rfl (planv zp) zero_plan ?_
       intro w9 hw9
       have W9 : Hid (WsAt w9 w.heap.size v) := by rw [hw9]; exact WW8.out.keep ((Kp.refl (fun _ => False) _).alloc _) (fun hx => hx)
       have U9 : Hid (PlAt w9 g2 (planU false p)) := by rw [hw9]; exact PP8.out.keep ((Kp.refl (fun _ => False) _).alloc _) (fun hx => hx)
       have P9 : Hid (PlAt w9 w8.heap.size zp) := ⟨by rw [hw9]; exact heap_alloc_new _ _⟩
       have K9 : Hid (Kp (fun _ => False) w w9) := by rw [hw9]; exact KK8.out.alloc _
       have l8 : g2 < w8.heap.size := (Array.getElem?_eq_some_iff.1 PP8.out.row).1
       clear hw9)
    | (refine wpList_store_row_g rfl 34 _ _ rfl w8.heap.size (planv (planU false p)) rfl rfl 34 (planv zp) P9.out.row info_plan rfl (planv_one _) ?_
       intro w10 hw10
       have WWa : Hid (WsAt w10 w.heap.size v) := ⟨by rw [hw10]; exact (setRow_other _ _ _ _ (by omega)).trans W9.out.row⟩
       have UUa : Hid (PlAt w10 g2 (planU false p)) := ⟨by rw [hw10]; exact (setRow_other _ _ _ _ (by omega)).trans U9.out.row⟩
       have PPa : Hid (PlAt w10 w8.heap.size (planU false p)) := ⟨by rw [hw10]; exact setRow_heap _ _ _ _ _ _ P9.out.row⟩
       have KKa : Hid (Kp (fun _ => False) w w10) := by rw [hw10]; exact K9.out.setRowNew KK8.out.size _
       clear hw10))
  generalize w8.heap.size = g3 at *
  clear W9 U9 P9 K9 PP8 WW8 KK8
  have l9 : w.heap.size ≤ g3 := by omega
  have ccb : w10.cell? ⟨g3, 6, none⟩ = some (.int .i64 (12 : Int)) := PPa.out.cell 6
  have ffb : w10.frozen? ⟨g3, 6, none⟩ = false := frozen_of_row _ _ _ _ _ PPa.out.row
  go_upto_region 12 with fail
  have PPb : Hid (PlAt (w10.setCell ⟨g3, 6, none⟩ (.int .i64 0)) g3 (planW false p)) := PPa.out.set 6 _ (planW false p) rfl
  have WWb : Hid (WsAt (w10.setCell ⟨g3, 6, none⟩ (.int .i64 0)) w.heap.size v) := ⟨(heap_setCell_other _ _ _ _ (by simp only; omega)).trans WWa.out.row⟩
  have KKb : Hid (Kp (fun _ => False) w (w10.setCell ⟨g3, 6, none⟩ (.int .i64 0))) := KKa.out.setNew (by simp only; omega) _
  have UUb : Hid (PlAt (w10.setCell ⟨g3, 6, none⟩ (.int .i64 0)) g2 (planU false p)) := ⟨(heap_setCell_other _ _ _ _ (by simp only; omega)).trans UUa.out.row⟩
  generalize w10.setCell ⟨g3, 6, none⟩ (.int .i64 0) = w11 at *
  clear ccb ffb PPa WWa KKa UUa
  clear hz hy
  generalize hyE : planW false p = y at *
  generalize hzE : planU false p = z at *
  go_wp2_with (first
    | (refine wpList_load_row rfl 34 _ rfl g3 rfl 34 (planv y) (0, 0) _ PPb.out.row Try.underlying34 rfl info_plan ?_))
  refine (LT.out _).mono ?_
  rintro e w12 ⟨rfl, k12⟩
  have W12 := hide (WWb.out.keep k12 (fun hx => hx))
  have P12 := hide (UUb.out.keep k12 (fun hx => hx))
  have K12 := hide (KKb.out.trans k12)
  clear k12 LT PPb
  go_wp2_with fail
  refine (LL.out _).mono ?_
  rintro e w13 ⟨⟨qw, rfl, hqw, rk, gw⟩, k13⟩
  have W13 := hide (W12.out.keep k13 (fun hx => hx))
  have P13 := hide (P12.out.keep k13 (fun hx => hx))
  have K13 := hide (K12.out.trans k13)
  have GW := hide gw
  have RK := hide rk
  have qwl := gw.lt
  have s12 := K12.out.size
  clear k13 gw rk LL
  go_wp2_with (first
    | (refine wpList_load_row rfl 34 _ rfl g2 rfl 34 (planv z) (0, 0) _ P13.out.row Try.underlying34 rfl info_plan ?_)
    | (refine wpList_build0 rfl 32 rfl (wishv zw) build_zw ?_))
  refine (LM.out _).mono ?_
  rintro e w14 ⟨⟨qu, rfl, hqu, _, gu⟩, k14⟩
  have W14 := hide (W13.out.keep k14 (fun hx => hx))
  have P14 := hide (P13.out.keep k14 (fun hx => hx))
  have K14 := hide (K13.out.trans k14)
  have GW14 := hide (GW.out.keep k14 (fun hx => hx))
  have GU14 : Hid (GsAt w14 qu (preOf (Pu.ruleOf z) (Pu.shapeOf z) 0) z.w z.h ⟨0, 0, noS⟩) := gu
  have qul := gu.lt
  clear k14 gu LM W12 W13 P12 P13 K12 K13 GW
  rw [HRU.out] at RK GW14
  have hne : (Pu.ruleOf z).around = 77 ∨ (Pu.ruleOf z).around = 86 ∨ (Pu.ruleOf z).around = 72 := by rw [← hzE]; exact hp.near
  have hcz : 2 ≤ z.c ∧ z.c ≤ 9 := by rw [HCC.out]; exact hp.c
  have hbz : (Pu.ruleOf z).births.getD 0 false = false := births_even HEV.out
  have HRZ : Hid ((Pu.ruleOf z).states = z.c) := rfl
  have EH : Hid (z.h = 12) := by rw [← hzE]; rfl
  have hw := hp.w
  have EW0 : z.w = p.w := by rw [← hzE]; rfl
  obtain ⟨W, hW⟩ := Int.eq_ofNat_of_zero_le (show 0 ≤ z.w by omega)
  have EW := hide hW
  have W12 : W ≤ 12 := by omega
  clear EW0 hW hw
  have TW0 := hide (twin_begin (r := Pu.ruleOf z) HST.out (by have := HRZ.out; omega))
  have LPU := hide (fun gU gW (h : Twin false (Pu.ruleOf z) (Pu.shapeOf z) (Pu.shapeOf y) 0 gU gW) a b s wx hg hm h3 => put_U HST.out h RK.out qu a b s wx hg hm h3)
  have LPW := hide (fun gU gW (h : Twin false (Pu.ruleOf z) (Pu.shapeOf z) (Pu.shapeOf y) 0 gU gW) a b s wx hg hm h3 => put_W HST.out h RK.out qw a b s wx hg hm h3)
  have LPT := hide (fun gU gW (h : Twin false (Pu.ruleOf z) (Pu.shapeOf z) (Pu.shapeOf y) 0 gU gW) (a b s : Int) hm h3 => (twin_put HST.out h (a := a) (b := b) (s := s) hm h3).2.2)
  have LSU := hide (fun gU gW (h : Twin false (Pu.ruleOf z) (Pu.shapeOf z) (Pu.shapeOf y) 0 gU gW) wx hg => step_U HST.out h RK.out hne (by have := HRZ.out; omega) (by have := HRZ.out; omega) hbz qu pn (by omega) wx hg)
  have LSW := hide (fun gU gW (h : Twin false (Pu.ruleOf z) (Pu.shapeOf z) (Pu.shapeOf y) 0 gU gW) wx hg => step_W HST.out h RK.out hne (by have := HRZ.out; omega) (by have := HRZ.out; omega) hbz qw pn (by omega) wx hg)
  have LST := hide (fun gU gW (h : Twin false (Pu.ruleOf z) (Pu.shapeOf z) (Pu.shapeOf y) 0 gU gW) => (twin_step (by have := HRZ.out; omega) hbz HST.out h pn (by omega)).2.2)
  have LGU := hide (fun gU gW (h : Twin false (Pu.ruleOf z) (Pu.shapeOf z) (Pu.shapeOf y) pn gU gW) a b wx hg ha hb => get_U HST.out h RK.out qu pn a b wx hg ha hb)
  have LGW := hide (fun gU gW (h : Twin false (Pu.ruleOf z) (Pu.shapeOf z) (Pu.shapeOf y) pn gU gW) a b wx hg ha hb => get_W HST.out h RK.out qw pn a b wx hg ha hb)
  have LCT := hide (fun gU gW (h : Twin false (Pu.ruleOf z) (Pu.shapeOf z) (Pu.shapeOf y) pn gU gW) => Twin.count HST.out h (by omega))
  have hqne : qu ≠ qw := by omega
  have gneu : g2 ≠ qu := by
    intro e
    have h1 := P14.out.row
    have h2 := GU14.out.row
    rw [e, h2] at h1
    simp at h1
  have gnew' : g2 ≠ qw := by
    intro e
    have h1 := P14.out.row
    have h2 := GW14.out.row
    rw [e, h2] at h1
    simp at h1
  have wneu : w.heap.size ≠ qu := by
    intro e
    have h1 := W14.out.row
    have h2 := GU14.out.row
    rw [e, h2] at h1
    simp at h1
  have wnew : w.heap.size ≠ qw := by
    intro e
    have h1 := W14.out.row
    have h2 := GW14.out.row
    rw [e, h2] at h1
    simp at h1
  have lqu : w.heap.size ≤ qu := by omega
  have lqw : w.heap.size ≤ qw := by omega
  have hvl := hv.cells
  unfold maxLen at hvl
  obtain ⟨N, hN⟩ : ∃ N, N = min v.cells.size 48 := ⟨_, rfl⟩
  have HN := hide hN
  have N48 : N ≤ 48 := by omega
  clear hN hne hbz UUb WWb KKb bb
  clear bN hs2 l2 l9 l8 s12 hqu hqw qul qwl
  go_wp2_with fail
  go_loopg [15] N (fun gk kk wr => ∃ k : Nat, k ≤ N ∧ N ≤ k + gk ∧ kk = .int .i64 k ∧ WsAt wr w.heap.size v ∧ PlAt wr g2 z ∧ (∃ gU gW, GsAt wr qu (preOf (Pu.ruleOf z) (Pu.shapeOf z) 0) (Pu.shapeOf z).w (Pu.shapeOf z).h gU ∧ GsAt wr qw (preOf (Pu.ruleOf z) (Pu.shapeOf y) 0) (Pu.shapeOf y).w (Pu.shapeOf y).h gW ∧ Twin false (Pu.ruleOf z) (Pu.shapeOf z) (Pu.shapeOf y) 0 gU gW) ∧ Kp (fun _ => False) w wr)
  case atStart => exact ⟨0, by omega, by omega, rfl, W14.out, P14.out, ⟨⟨0, 0, noS⟩, ⟨0, 0, noS⟩, GU14.out, GW14.out, TW0.out⟩, K14.out⟩
  case round =>
    obtain ⟨k, g1, g2', rfl, w5', p5', ⟨gU, gW, u5, v5, tw5⟩, k5⟩ := hrel
    have W5 := hide w5'
    have P5 := hide p5'
    have U5 := hide u5
    have V5 := hide v5
    have T5 := hide tw5
    have K5 := hide k5
    have d8 : wr.cell? ⟨w.heap.size, 8, none⟩ = some (.string v.cells) := w5'.cell 8
    clear w5' p5' u5 v5 tw5 k5
    have kk48 : (k : Int) < 100 := by omega
    go_upto_region 18 with fail
    go_cut [77] from 69 to 125 (fun c wd => c = .bool (decide (k < N)) ∧ wd = wr)
    case first =>
      have hN := HN.out
      by_cases t1 : k < v.cells.size
      · have t1' : (k : Int) < (v.cells.size : Int) := by omega
        by_cases t2 : k < 48
        · have t2' : (k : Int) < 48 := by omega
          go_wp2_with fail
          go_meet
          case rel => exact ⟨by rw [decide_eq_true (by omega)], rfl⟩
        · have t2' : ¬ (k : Int) < 48 := by omega
          go_wp2_with fail
          go_meet
          case rel => exact ⟨by rw [decide_eq_false (by omega)], rfl⟩
      · have t1' : ¬ (k : Int) < (v.cells.size : Int) := by omega
        go_wp2_with fail
        go_meet
        case rel => exact ⟨by rw [decide_eq_false (by omega)], rfl⟩
    case rest =>
      obtain ⟨rfl, rfl⟩ := hcut
      by_cases hk : k < N
      · rw [decide_eq_true hk]
        have hN := HN.out
        have hkl : k < v.cells.size := by omega
        have k48 : k < 48 := by omega
        have c3 : wc.cell? ⟨g2, 3, none⟩ = some (.int .i64 z.c) := P5.out.cell 3
        have q0 : 0 ≤ (k : Int) / 4 := by omega
        have q1 : (k : Int) / 4 < 12 := by omega
        have m0 : 0 ≤ (k : Int) % 4 := by omega
        have m1 : 4 + (k : Int) % 4 < 12 := by omega
        have hb : (v.cells[k].toNat : Int) < 256 := by have := v.cells[k].toNat_lt; omega
        have hs0 : Hid (0 ≤ (v.cells[k].toNat : Int) % z.c ∧ (v.cells[k].toNat : Int) % z.c < (Pu.ruleOf z).states) := by rw [HRZ.out]; exact ⟨Int.emod_nonneg _ (by omega), Int.emod_lt_of_pos _ (by omega)⟩
        have c5 : wc.cell? ⟨g2, 5, none⟩ = some (.int .i64 W) := by rw [← EW.out]; exact P5.out.cell 5
        have c6 : wc.cell? ⟨g2, 6, none⟩ = some (.int .i64 12) := by rw [← EH.out]; exact P5.out.cell 6
        go_upto_region 25 with fail
        by_cases hj : (k : Int) / 4 < W
        · have hm : Hid (Mid false (Pu.shapeOf z) ((k : Int) / 4) (4 + (k : Int) % 4)) := by
            refine ⟨⟨⟨by omega, ?_⟩, ⟨by omega, ?_⟩⟩, ?_⟩
            · show _ < z.w
              rw [EW.out]; exact hj
            · show _ < z.h
              rw [EH.out]; exact m1
            · rw [if_neg (by simp)]; omega
          have LU := hide (fun wx hg => LPU.out gU gW T5.out _ _ _ wx hg hm.out hs0.out)
          have LV := hide (fun wx hg => LPW.out gU gW T5.out _ _ _ wx hg hm.out hs0.out)
          have T6 := hide (LPT.out gU gW T5.out _ _ _ hm.out hs0.out)
          go_upto_region 26 with fail
          go_quiet (fail)
          generalize (v.cells[k].toNat : Int) % z.c = sv at *
          go_wp2_with fail
          refine (LU.out _ (GrAt.drewN U5.out _)).mono ?_
          rintro e w6 ⟨rfl, u6', k6⟩
          have U6 := hide u6'
          have V6 := hide (GrAt.keep (GrAt.drewN V5.out _) k6 (fun hx => hqne hx.symm))
          have P6 := hide ((show PlAt (wc.drewN _) g2 z from ⟨P5.out.row⟩).keep k6 gneu)
          have W6 := hide ((show WsAt (wc.drewN _) w.heap.size v from ⟨W5.out.row⟩).keep k6 wneu)
          have K6 := hide ((K5.out.drewN _).tr k6 (by intro z hz1 hz2; omega))
          clear u6' k6
          go_wp2_with fail
          refine (LV.out _ V6.out).mono ?_
          rintro e w7 ⟨rfl, v7', k7⟩
          have V7 := hide v7'
          have U7 := hide (GrAt.keep U6.out k7 hqne)
          have P7 := hide (P6.out.keep k7 gnew')
          have W7 := hide (W6.out.keep k7 wnew)
          have K7 := hide (K6.out.tr k7 (by intro z hz1 hz2; omega))
          clear v7' k7
          go_wp2_with fail
          go_roundg (gk - 1)
          case measure => omega
          case rel => exact ⟨k + 1, by omega, by omega, by go_num, W7.out, P7.out, ⟨_, _, U7.out, V7.out, T6.out⟩, K7.out⟩
        · go_wp2_with fail
          go_roundg (gk - 1)
          case measure => omega
          case rel => exact ⟨k + 1, by omega, by omega, by go_num, W5.out, P5.out, ⟨gU, gW, U5.out, V5.out, T5.out⟩, K5.out⟩
      · rw [decide_eq_false hk]
        have TS := hide (LST.out gU gW T5.out)
        have CT := hide (LCT.out _ _ TS.out)
        have LU := hide (fun wx hg => LSU.out gU gW T5.out wx hg)
        have LV := hide (fun wx hg => LSW.out gU gW T5.out wx hg)
        have GU := hide (fun a b wx hg ha hb => LGU.out _ _ TS.out a b wx hg ha hb)
        have GV := hide (fun a b wx hg ha hb => LGW.out _ _ TS.out a b wx hg ha hb)
        clear LPU LPW LPT LSU LSW LST LGU LGW LCT d8
        generalize (stepG (Pu.ruleOf z) (Pu.shapeOf z) gU pn).2 = hU at *
        generalize (stepG (Pu.ruleOf z) (Pu.shapeOf y) gW pn).2 = hW at *
        go_wp2_with fail
        refine (LPK.out _).mono ?_
        rintro e w8 ⟨rfl, hw8⟩
        subst w8
        go_wp2_with fail
        refine (LU.out _ U5.out).mono ?_
        rintro e w8 ⟨rfl, u8, k8⟩
        have U8 := hide u8
        have V8 := hide (GrAt.keep V5.out k8 (fun hx => hqne hx.symm))
        have P8 := hide (P5.out.keep k8 gneu)
        have K8 := hide (K5.out.tr k8 (by intro z hz1 hz2; omega))
        clear u8 k8
        go_wp2_with fail
        refine (LV.out _ V8.out).mono ?_
        rintro e w9 ⟨rfl, v9, k9⟩
        have V9 := hide v9
        have U9 := hide (GrAt.keep U8.out k9 hqne)
        have P9 := hide (P8.out.keep k9 gnew')
        have K9 := hide (K8.out.tr k9 (by intro z hz1 hz2; omega))
        clear v9 k9
        have LCU := hide (wcount_any qu _ _ _ _ _ _ w9 U9.out)
        have LCV := hide (wcount_any qw _ _ _ _ _ _ w9 V9.out)
        rw [← CT.out] at LCV
        generalize ((countP hU.S : Nat) : Int) = cn at *
        go_wp2_with fail
        refine LCU.out.mono ?_
        rintro e w10 ⟨rfl, hw10⟩
        subst w10
        go_wp2_with fail
        refine LCV.out.mono ?_
        rintro e w10 ⟨rfl, hw10⟩
        subst w10
        go_wp2_with fail
        go_loopg [23] 12 (fun gk jj wr => ∃ j : Nat, j ≤ 12 ∧ 12 ≤ j + gk ∧ jj = .int .i64 j ∧ Kp (fun _ => False) w9 wr)
        case atStart => exact ⟨0, by omega, by omega, rfl, Kp.refl _ _⟩
        case round =>
          obtain ⟨j, s1, s2, rfl, k10⟩ := hrel
          have K10 := hide k10
          have P10 := hide (P9.out.keep k10 (fun hx => hx))
          have c6 : wr.cell? ⟨g2, 6, none⟩ = some (.int .i64 12) := by rw [← EH.out]; exact P10.out.cell 6
          clear k10
          by_cases hj : j < 12
          · have hjz : Hid (0 ≤ (j : Int) ∧ (j : Int) < (Pu.shapeOf z).h) := ⟨by omega, by show _ < z.h; rw [EH.out]; omega⟩
            have hj' : (j : Int) < 12 := by omega
            go_wp2_with fail
            obtain ⟨gO, hgO⟩ : ∃ g, g = gk := ⟨gk, rfl⟩
            have HGO := hide hgO
            clear hgO c6
            go_loopg [24] W (fun gi ii ws => ∃ i : Nat, i ≤ W ∧ W ≤ i + gi ∧ ii = .int .i64 i ∧ Kp (fun _ => False) w9 ws)
            case atStart => exact ⟨0, by omega, by omega, rfl, K10.out⟩
            case round =>
              obtain ⟨i, r1, r2, rfl, k11⟩ := hrel
              have K11 := hide k11
              have P11 := hide (P9.out.keep k11 (fun hx => hx))
              have U11 := hide (GrAt.keep U9.out k11 (fun hx => hx))
              have V11 := hide (GrAt.keep V9.out k11 (fun hx => hx))
              have c5 : wr.cell? ⟨g2, 5, none⟩ = some (.int .i64 W) := by rw [← EW.out]; exact P11.out.cell 5
              clear k11
              by_cases hi : i < W
              · have hiz : Hid (0 ≤ (i : Int) ∧ (i : Int) < (Pu.shapeOf z).w) := ⟨by omega, by show _ < z.w; rw [EW.out]; omega⟩
                have LGu := hide (fun wx hg => GU.out i j wx hg hiz.out hjz.out)
                have LGw := hide (fun wx hg => GV.out i j wx hg hiz.out hjz.out)
                generalize getG (Pu.shapeOf z).w (Pu.shapeOf z).h hU i j = sv at *
                go_wp2_with fail
                refine (LGu.out _ U11.out).mono ?_
                rintro e w12 ⟨rfl, k12⟩
                have V12 := hide (GrAt.keep V11.out k12 (fun hx => hx))
                have K12 := hide (K11.out.trans k12)
                clear k12
                go_wp2_with fail
                refine (LGw.out _ V12.out).mono ?_
                rintro e w13 ⟨rfl, k13⟩
                have K13 := hide (K12.out.trans k13)
                clear k13
                go_wp2_with fail
                go_roundg (gk - 1)
                case measure => omega
                case rel => exact ⟨i + 1, by omega, by omega, by go_num, K13.out⟩
              · have _ht : True := trivial
                go_wp2_with fail
                go_roundg (gO - 1)
                case measure => have := HGO.out; omega
                case rel => exact ⟨j + 1, by omega, by have := HGO.out; omega, by go_num, K11.out⟩
          · have _ht : True := trivial
            have hj' : ¬ (j : Int) < 12 := by omega
            go_wp2_with fail
            go_ret
            exact ⟨rfl, K9.out.trans K10.out⟩
end Go.Proofs.Ytiimimclbkjcbaa
