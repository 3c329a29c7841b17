import Derived.Test.YtbdbkjngdhcjpaaDoorM28
import Derived.Deep.CutRange
namespace Go.Proofs.YtbdbkjngdhcjpaaDoor
open Go.RowKit
open Go.Proofs

theorem build_box2 (a b : Int) (w : World) : (Instr.build 81 #[(3, .int .i64 a), (4, .int .i64 b)]).run Tryd.prog w = .ok (.agg (bxv false 0 0 a b)) w := by kernel_rfl

set_option maxRecDepth 100000 in
set_option maxHeartbeats 1000000 in
theorem area_exact (q : Nat) (r : Pu.Rule) (x : Pu.Shape) (age : Int) (g : Gs) (w : World) (h : GsAt w q (preOf r x age) x.w x.h g) (hr : RuleOk r) (hx : Pu.ShapeOk x) (lb : -9999 ≤ g.l ∧ g.l ≤ 9999) (tb : -9999 ≤ g.t ∧ g.t ≤ 9999) :
    Calls Tryd.prog 55 #[.pointer (some ⟨q, 0, none⟩)] w fun e w' => e = .returned (.agg (bxV (areaG x g))) ∧ Kp (fun _ => False) w w' := by
  have H : Hid (GrAt w q (preOf r x age) x.w x.h g.l g.t g.S) := h
  have ROK := hide hr
  have hq := H.out.lt
  have bu := build_box2
  have w0 := hx.w0
  have w12 := hx.w12
  have h0 := hx.h0
  have h12 := hx.h12
  have one := hx.one
  have LV := hide (fun (wx : World) (hg : GrAt wx q (preOf r x age) x.w x.h g.l g.t g.S) => live_exact q (preOf r x age) x.w x.h g.l g.t g.S wx hg w0 w12 h0 h12 (by omega) (by omega) (by omega) (by omega))
  have hlb := live_bd x.w x.h g.l g.t g.S w0 w12 h0 h12
  unfold areaG areaP
  generalize liveP x.w x.h g.l g.t g.S = b at *
  obtain ⟨be, bL, bT, bR, bB⟩ := b
  simp only at hlb ⊢
  have d1 : w.cell? ⟨q, 21, none⟩ = some (.int .i64 x.w) := H.out.shape hr 1 _ rfl
  have d2 : w.cell? ⟨q, 22, none⟩ = some (.int .i64 x.h) := H.out.shape hr 2 _ rfl
  obtain ⟨RB, hRB⟩ : ∃ RB : Bx, RB = if be = true then ⟨false, 0, 0, x.w - 1, x.h - 1⟩ else ⟨false, if x.w = 0 then bL - 1 else 0, if x.h = 0 then bT - 1 else 0, if x.w = 0 then bR + 1 else x.w - 1, if x.h = 0 then bB + 1 else x.h - 1⟩ := ⟨_, rfl⟩
  rw [← hRB]
  have HRB := hide hRB
  clear h hx hr hRB
  go_enter Tryd.func55, Tryd.ntmps55
  go_wp2_with fail
  go_cut [3] from 5 to 17 (fun p wc => p = .pointer (some ⟨w.heap.size + 1, 0, none⟩) ∧ wc.heap[w.heap.size + 1]? = some (.cells (bxv false 0 0 (x.w - 1) (x.h - 1)) 81 (0, 0)) ∧ wc.heap[w.heap.size]? = some (.cells (bxv false 0 0 0 0) 81 (0, 0)) ∧ Kp (fun _ => False) w wc)
  case first =>
    go_region
    all_goals
      go_wp2_with fail
      go_meet
    all_goals exact ⟨rfl, heap_alloc2_new _ _ _, heap_alloc2_old _ _ _, (((Kp.refl _ _).alloc _).alloc _).drewN 1⟩
  case rest =>
    obtain ⟨rfl, r1, r0, k1⟩ := hcut
    have G1 := hide (H.out.keep k1 (fun hx => hx))
    have R1 := hide r0
    have A1 := hide r1
    have K1 := hide k1
    have hs1 := (Array.getElem?_eq_some_iff.1 r1).1
    clear r0 r1 k1
    go_wp2_with fail
    refine (LV.out _ G1.out).mono ?_
    rintro e w2 ⟨rfl, k2⟩
    have hs2 := k2.size
    have G2 := hide (G1.out.keep k2 (fun hx => hx))
    have R2 := hide (k2.row R1.out (fun hx => hx))
    have A2 := hide (k2.row A1.out (fun hx => hx))
    have K2 := hide (K1.out.trans k2)
    clear k2 LV G1 R1 A1 K1
    cases be
    · replace hlb := hlb.resolve_left (by simp)
      by_cases z1 : x.w = 0
      · by_cases z2 : x.h = 0
        · exact absurd one (by omega)
        · have bz2 : (x.h == 0) = false := by simpa using z2
          go_upto_region 3 with (refine wpList_store_row_g rfl 81 _ _ rfl w2.heap.size (bxV ⟨false, bL, bT, bR, bB⟩) rfl rfl 81 (bxv false 0 0 0 0) (heap_alloc_new _ _) info_box rfl (bxv_one _ _ _ _ _) ?_
                                 intro w3 hw3
                                 have KA : Kp (fun _ => False) w2 w3 := by rw [hw3]; exact ((Kp.refl _ _).alloc _).setRowNew (Nat.le_refl _) _
                                 have L3 : w3.heap[w2.heap.size]? = some (.cells (bxv false bL bT bR bB) 81 (0, 0)) := by rw [hw3]; exact setRow_heap _ _ _ _ _ _ (heap_alloc_new _ _)
                                 have A3 : Hid (BxE w3 (w.heap.size + 1) false 0 0 (x.w - 1) (x.h - 1)) := KA.row A2.out (fun hx => hx)
                                 have R3 := hide (KA.row R2.out (fun hx => hx))
                                 have G3 := hide (G2.out.keep KA (fun hx => hx))
                                 have K3 := hide (K2.out.trans KA)
                                 clear hw3 KA)
          have e0 : w3.cell? ⟨w2.heap.size, 0, none⟩ = some (.bool false) := cell_of_row _ _ 0 _ _ _ L3
          have e1 : w3.cell? ⟨w2.heap.size, 1, none⟩ = some (.int .i64 bL) := cell_of_row _ _ 1 _ _ _ L3
          have e2 : w3.cell? ⟨w2.heap.size, 2, none⟩ = some (.int .i64 bT) := cell_of_row _ _ 2 _ _ _ L3
          have e3 : w3.cell? ⟨w2.heap.size, 3, none⟩ = some (.int .i64 bR) := cell_of_row _ _ 3 _ _ _ L3
          have e4 : w3.cell? ⟨w2.heap.size, 4, none⟩ = some (.int .i64 bB) := cell_of_row _ _ 4 _ _ _ L3
          have a0 : w3.cell? ⟨w.heap.size + 1, 0, none⟩ = some (.bool false) := cell_of_row _ _ 0 _ _ _ A3.out
          have a1 : w3.cell? ⟨w.heap.size + 1, 1, none⟩ = some (.int .i64 0) := cell_of_row _ _ 1 _ _ _ A3.out
          have a2 : w3.cell? ⟨w.heap.size + 1, 2, none⟩ = some (.int .i64 0) := cell_of_row _ _ 2 _ _ _ A3.out
          have a3 : w3.cell? ⟨w.heap.size + 1, 3, none⟩ = some (.int .i64 (x.w - 1)) := cell_of_row _ _ 3 _ _ _ A3.out
          have a4 : w3.cell? ⟨w.heap.size + 1, 4, none⟩ = some (.int .i64 (x.h - 1)) := cell_of_row _ _ 4 _ _ _ A3.out
          have f1 := frozen_of_row w3 (w.heap.size + 1) 1 _ _ A3.out
          have f2 := frozen_of_row w3 (w.heap.size + 1) 2 _ _ A3.out
          have f3 := frozen_of_row w3 (w.heap.size + 1) 3 _ _ A3.out
          have f4 := frozen_of_row w3 (w.heap.size + 1) 4 _ _ A3.out
          clear d1 d2
          have d1 : w3.cell? ⟨q, 21, none⟩ = some (.int .i64 x.w) := G3.out.shape ROK.out 1 _ rfl
          have d2 : w3.cell? ⟨q, 22, none⟩ = some (.int .i64 x.h) := G3.out.shape ROK.out 2 _ rfl
          have n1 : w2.heap.size ≠ w.heap.size + 1 := by omega
          have n2 : q ≠ w.heap.size + 1 := by omega
          clear L3
          rw [z1] at d1
          go_upto_region 11 with fail
          generalize hw5 : (w3.setCell ⟨w.heap.size + 1, 1, none⟩ (.int .i64 (bL - 1))).setCell ⟨w.heap.size + 1, 3, none⟩ (.int .i64 (bR + 1)) = w5
          have KP5 : Kp (· = w.heap.size + 1) w3 w5 := by rw [← hw5]; exact Kp.setB (Kp.setB (Kp.refl (· = w.heap.size + 1) w3))
          have A5 : Hid (BxE w5 (w.heap.size + 1) false (bL - 1) (0) (bR + 1) (x.h - 1)) := by rw [← hw5]; exact BxE.s3 (BxE.s1 A3.out)
          have R5 := hide (KP5.row R3.out (by omega))
          have K5 := hide (K3.out.tr KP5 (by intro z hz1 hz2; omega))
          clear hw5 KP5 a0 a1 a2 a3 a4 e0 e1 e2 e3 e4 f1 f2 f3 f4 d1 d2
          go_wp2_with (first
            | (refine wpList_load_row rfl 81 _ rfl (w.heap.size + 1) rfl 81 (bxv false (bL - 1) (0) (bR + 1) (x.h - 1)) (0, 0) _ A5.out Tryd.underlying81 rfl info_box ?_)
            | (refine wpList_store_row_g rfl 81 _ _ rfl w.heap.size (bxv false (bL - 1) (0) (bR + 1) (x.h - 1)) rfl rfl 81 (bxv false 0 0 0 0) R5.out info_box rfl (bxv_one _ _ _ _ _) ?_
               intro w4 hw4
               have R4 : Hid (w4.heap[w.heap.size]? = some (.cells (bxv false (bL - 1) (0) (bR + 1) (x.h - 1)) 81 (0, 0))) := by rw [hw4]; exact setRow_heap _ _ _ _ _ _ R5.out
               have K4 : Hid (Kp (fun _ => False) w w4) := by rw [hw4]; exact K5.out.setRowNew (Nat.le_refl _) _
               clear hw4))
          exact bodyPost_ret (v := .agg (bxv false (bL - 1) (0) (bR + 1) (x.h - 1))) (results_cell_row Tryd.results55 _ _ w.heap.size 81 (bxv false (bL - 1) (0) (bR + 1) (x.h - 1)) (0, 0) _ rfl R4.out Tryd.underlying81 rfl info_box) rfl ⟨by rw [HRB.out, if_neg (by simp), if_pos z1, if_pos z1, if_neg z2, if_neg z2]; rfl, K4.out⟩
      · have bz1 : (x.w == 0) = false := by simpa using z1
        by_cases z2 : x.h = 0
        · go_upto_region 3 with (refine wpList_store_row_g rfl 81 _ _ rfl w2.heap.size (bxV ⟨false, bL, bT, bR, bB⟩) rfl rfl 81 (bxv false 0 0 0 0) (heap_alloc_new _ _) info_box rfl (bxv_one _ _ _ _ _) ?_
                                 intro w3 hw3
                                 have KA : Kp (fun _ => False) w2 w3 := by rw [hw3]; exact ((Kp.refl _ _).alloc _).setRowNew (Nat.le_refl _) _
                                 have L3 : w3.heap[w2.heap.size]? = some (.cells (bxv false bL bT bR bB) 81 (0, 0)) := by rw [hw3]; exact setRow_heap _ _ _ _ _ _ (heap_alloc_new _ _)
                                 have A3 : Hid (BxE w3 (w.heap.size + 1) false 0 0 (x.w - 1) (x.h - 1)) := KA.row A2.out (fun hx => hx)
                                 have R3 := hide (KA.row R2.out (fun hx => hx))
                                 have G3 := hide (G2.out.keep KA (fun hx => hx))
                                 have K3 := hide (K2.out.trans KA)
                                 clear hw3 KA)
          have e0 : w3.cell? ⟨w2.heap.size, 0, none⟩ = some (.bool false) := cell_of_row _ _ 0 _ _ _ L3
          have e1 : w3.cell? ⟨w2.heap.size, 1, none⟩ = some (.int .i64 bL) := cell_of_row _ _ 1 _ _ _ L3
          have e2 : w3.cell? ⟨w2.heap.size, 2, none⟩ = some (.int .i64 bT) := cell_of_row _ _ 2 _ _ _ L3
          have e3 : w3.cell? ⟨w2.heap.size, 3, none⟩ = some (.int .i64 bR) := cell_of_row _ _ 3 _ _ _ L3
          have e4 : w3.cell? ⟨w2.heap.size, 4, none⟩ = some (.int .i64 bB) := cell_of_row _ _ 4 _ _ _ L3
          have a0 : w3.cell? ⟨w.heap.size + 1, 0, none⟩ = some (.bool false) := cell_of_row _ _ 0 _ _ _ A3.out
          have a1 : w3.cell? ⟨w.heap.size + 1, 1, none⟩ = some (.int .i64 0) := cell_of_row _ _ 1 _ _ _ A3.out
          have a2 : w3.cell? ⟨w.heap.size + 1, 2, none⟩ = some (.int .i64 0) := cell_of_row _ _ 2 _ _ _ A3.out
          have a3 : w3.cell? ⟨w.heap.size + 1, 3, none⟩ = some (.int .i64 (x.w - 1)) := cell_of_row _ _ 3 _ _ _ A3.out
          have a4 : w3.cell? ⟨w.heap.size + 1, 4, none⟩ = some (.int .i64 (x.h - 1)) := cell_of_row _ _ 4 _ _ _ A3.out
          have f1 := frozen_of_row w3 (w.heap.size + 1) 1 _ _ A3.out
          have f2 := frozen_of_row w3 (w.heap.size + 1) 2 _ _ A3.out
          have f3 := frozen_of_row w3 (w.heap.size + 1) 3 _ _ A3.out
          have f4 := frozen_of_row w3 (w.heap.size + 1) 4 _ _ A3.out
          clear d1 d2
          have d1 : w3.cell? ⟨q, 21, none⟩ = some (.int .i64 x.w) := G3.out.shape ROK.out 1 _ rfl
          have d2 : w3.cell? ⟨q, 22, none⟩ = some (.int .i64 x.h) := G3.out.shape ROK.out 2 _ rfl
          have n1 : w2.heap.size ≠ w.heap.size + 1 := by omega
          have n2 : q ≠ w.heap.size + 1 := by omega
          clear L3
          rw [z2] at d2
          go_upto_region 11 with fail
          generalize hw5 : (w3.setCell ⟨w.heap.size + 1, 2, none⟩ (.int .i64 (bT - 1))).setCell ⟨w.heap.size + 1, 4, none⟩ (.int .i64 (bB + 1)) = w5
          have KP5 : Kp (· = w.heap.size + 1) w3 w5 := by rw [← hw5]; exact Kp.setB (Kp.setB (Kp.refl (· = w.heap.size + 1) w3))
          have A5 : Hid (BxE w5 (w.heap.size + 1) false (0) (bT - 1) (x.w - 1) (bB + 1)) := by rw [← hw5]; exact BxE.s4 (BxE.s2 A3.out)
          have R5 := hide (KP5.row R3.out (by omega))
          have K5 := hide (K3.out.tr KP5 (by intro z hz1 hz2; omega))
          clear hw5 KP5 a0 a1 a2 a3 a4 e0 e1 e2 e3 e4 f1 f2 f3 f4 d1 d2
          go_wp2_with (first
            | (refine wpList_load_row rfl 81 _ rfl (w.heap.size + 1) rfl 81 (bxv false (0) (bT - 1) (x.w - 1) (bB + 1)) (0, 0) _ A5.out Tryd.underlying81 rfl info_box ?_)
            | (refine wpList_store_row_g rfl 81 _ _ rfl w.heap.size (bxv false (0) (bT - 1) (x.w - 1) (bB + 1)) rfl rfl 81 (bxv false 0 0 0 0) R5.out info_box rfl (bxv_one _ _ _ _ _) ?_
               intro w4 hw4
               have R4 : Hid (w4.heap[w.heap.size]? = some (.cells (bxv false (0) (bT - 1) (x.w - 1) (bB + 1)) 81 (0, 0))) := by rw [hw4]; exact setRow_heap _ _ _ _ _ _ R5.out
               have K4 : Hid (Kp (fun _ => False) w w4) := by rw [hw4]; exact K5.out.setRowNew (Nat.le_refl _) _
               clear hw4))
          exact bodyPost_ret (v := .agg (bxv false (0) (bT - 1) (x.w - 1) (bB + 1))) (results_cell_row Tryd.results55 _ _ w.heap.size 81 (bxv false (0) (bT - 1) (x.w - 1) (bB + 1)) (0, 0) _ rfl R4.out Tryd.underlying81 rfl info_box) rfl ⟨by rw [HRB.out, if_neg (by simp), if_neg z1, if_neg z1, if_pos z2, if_pos z2]; rfl, K4.out⟩
        · have bz2 : (x.h == 0) = false := by simpa using z2
          go_upto_region 3 with (refine wpList_store_row_g rfl 81 _ _ rfl w2.heap.size (bxV ⟨false, bL, bT, bR, bB⟩) rfl rfl 81 (bxv false 0 0 0 0) (heap_alloc_new _ _) info_box rfl (bxv_one _ _ _ _ _) ?_
                                 intro w3 hw3
                                 have KA : Kp (fun _ => False) w2 w3 := by rw [hw3]; exact ((Kp.refl _ _).alloc _).setRowNew (Nat.le_refl _) _
                                 have L3 : w3.heap[w2.heap.size]? = some (.cells (bxv false bL bT bR bB) 81 (0, 0)) := by rw [hw3]; exact setRow_heap _ _ _ _ _ _ (heap_alloc_new _ _)
                                 have A3 : Hid (BxE w3 (w.heap.size + 1) false 0 0 (x.w - 1) (x.h - 1)) := KA.row A2.out (fun hx => hx)
                                 have R3 := hide (KA.row R2.out (fun hx => hx))
                                 have G3 := hide (G2.out.keep KA (fun hx => hx))
                                 have K3 := hide (K2.out.trans KA)
                                 clear hw3 KA)
          have e0 : w3.cell? ⟨w2.heap.size, 0, none⟩ = some (.bool false) := cell_of_row _ _ 0 _ _ _ L3
          have e1 : w3.cell? ⟨w2.heap.size, 1, none⟩ = some (.int .i64 bL) := cell_of_row _ _ 1 _ _ _ L3
          have e2 : w3.cell? ⟨w2.heap.size, 2, none⟩ = some (.int .i64 bT) := cell_of_row _ _ 2 _ _ _ L3
          have e3 : w3.cell? ⟨w2.heap.size, 3, none⟩ = some (.int .i64 bR) := cell_of_row _ _ 3 _ _ _ L3
          have e4 : w3.cell? ⟨w2.heap.size, 4, none⟩ = some (.int .i64 bB) := cell_of_row _ _ 4 _ _ _ L3
          have a0 : w3.cell? ⟨w.heap.size + 1, 0, none⟩ = some (.bool false) := cell_of_row _ _ 0 _ _ _ A3.out
          have a1 : w3.cell? ⟨w.heap.size + 1, 1, none⟩ = some (.int .i64 0) := cell_of_row _ _ 1 _ _ _ A3.out
          have a2 : w3.cell? ⟨w.heap.size + 1, 2, none⟩ = some (.int .i64 0) := cell_of_row _ _ 2 _ _ _ A3.out
          have a3 : w3.cell? ⟨w.heap.size + 1, 3, none⟩ = some (.int .i64 (x.w - 1)) := cell_of_row _ _ 3 _ _ _ A3.out
          have a4 : w3.cell? ⟨w.heap.size + 1, 4, none⟩ = some (.int .i64 (x.h - 1)) := cell_of_row _ _ 4 _ _ _ A3.out
          have f1 := frozen_of_row w3 (w.heap.size + 1) 1 _ _ A3.out
          have f2 := frozen_of_row w3 (w.heap.size + 1) 2 _ _ A3.out
          have f3 := frozen_of_row w3 (w.heap.size + 1) 3 _ _ A3.out
          have f4 := frozen_of_row w3 (w.heap.size + 1) 4 _ _ A3.out
          clear d1 d2
          have d1 : w3.cell? ⟨q, 21, none⟩ = some (.int .i64 x.w) := G3.out.shape ROK.out 1 _ rfl
          have d2 : w3.cell? ⟨q, 22, none⟩ = some (.int .i64 x.h) := G3.out.shape ROK.out 2 _ rfl
          have n1 : w2.heap.size ≠ w.heap.size + 1 := by omega
          have n2 : q ≠ w.heap.size + 1 := by omega
          clear L3
          go_upto_region 11 with fail
          have A5 := hide A3.out
          have R5 := hide R3.out
          have K5 := hide K3.out
          clear a0 a1 a2 a3 a4 f1 f2 f3 f4
          go_wp2_with (first
            | (refine wpList_load_row rfl 81 _ rfl (w.heap.size + 1) rfl 81 (bxv false (0) (0) (x.w - 1) (x.h - 1)) (0, 0) _ A5.out Tryd.underlying81 rfl info_box ?_)
            | (refine wpList_store_row_g rfl 81 _ _ rfl w.heap.size (bxv false (0) (0) (x.w - 1) (x.h - 1)) rfl rfl 81 (bxv false 0 0 0 0) R5.out info_box rfl (bxv_one _ _ _ _ _) ?_
               intro w4 hw4
               have R4 : Hid (w4.heap[w.heap.size]? = some (.cells (bxv false (0) (0) (x.w - 1) (x.h - 1)) 81 (0, 0))) := by rw [hw4]; exact setRow_heap _ _ _ _ _ _ R5.out
               have K4 : Hid (Kp (fun _ => False) w w4) := by rw [hw4]; exact K5.out.setRowNew (Nat.le_refl _) _
               clear hw4))
          exact bodyPost_ret (v := .agg (bxv false (0) (0) (x.w - 1) (x.h - 1))) (results_cell_row Tryd.results55 _ _ w.heap.size 81 (bxv false (0) (0) (x.w - 1) (x.h - 1)) (0, 0) _ rfl R4.out Tryd.underlying81 rfl info_box) rfl ⟨by rw [HRB.out, if_neg (by simp), if_neg z1, if_neg z1, if_neg z2, if_neg z2]; rfl, K4.out⟩
    · have XX := hide hlb
      go_upto_region 3 with (refine wpList_store_row_g rfl 81 _ _ rfl w2.heap.size (bxV ⟨true, bL, bT, bR, bB⟩) rfl rfl 81 (bxv false 0 0 0 0) (heap_alloc_new _ _) info_box rfl (bxv_one _ _ _ _ _) ?_
                             intro w3 hw3
                             have KA : Kp (fun _ => False) w2 w3 := by rw [hw3]; exact ((Kp.refl _ _).alloc _).setRowNew (Nat.le_refl _) _
                             have L3 : w3.heap[w2.heap.size]? = some (.cells (bxv true bL bT bR bB) 81 (0, 0)) := by rw [hw3]; exact setRow_heap _ _ _ _ _ _ (heap_alloc_new _ _)
                             have A3 : Hid (BxE w3 (w.heap.size + 1) false 0 0 (x.w - 1) (x.h - 1)) := KA.row A2.out (fun hx => hx)
                             have R3 := hide (KA.row R2.out (fun hx => hx))
                             have G3 := hide (G2.out.keep KA (fun hx => hx))
                             have K3 := hide (K2.out.trans KA)
                             clear hw3 KA)
      have e0 : w3.cell? ⟨w2.heap.size, 0, none⟩ = some (.bool true) := cell_of_row _ _ 0 _ _ _ L3
      have e1 : w3.cell? ⟨w2.heap.size, 1, none⟩ = some (.int .i64 bL) := cell_of_row _ _ 1 _ _ _ L3
      have e2 : w3.cell? ⟨w2.heap.size, 2, none⟩ = some (.int .i64 bT) := cell_of_row _ _ 2 _ _ _ L3
      have e3 : w3.cell? ⟨w2.heap.size, 3, none⟩ = some (.int .i64 bR) := cell_of_row _ _ 3 _ _ _ L3
      have e4 : w3.cell? ⟨w2.heap.size, 4, none⟩ = some (.int .i64 bB) := cell_of_row _ _ 4 _ _ _ L3
      have a0 : w3.cell? ⟨w.heap.size + 1, 0, none⟩ = some (.bool false) := cell_of_row _ _ 0 _ _ _ A3.out
      have a1 : w3.cell? ⟨w.heap.size + 1, 1, none⟩ = some (.int .i64 0) := cell_of_row _ _ 1 _ _ _ A3.out
      have a2 : w3.cell? ⟨w.heap.size + 1, 2, none⟩ = some (.int .i64 0) := cell_of_row _ _ 2 _ _ _ A3.out
      have a3 : w3.cell? ⟨w.heap.size + 1, 3, none⟩ = some (.int .i64 (x.w - 1)) := cell_of_row _ _ 3 _ _ _ A3.out
      have a4 : w3.cell? ⟨w.heap.size + 1, 4, none⟩ = some (.int .i64 (x.h - 1)) := cell_of_row _ _ 4 _ _ _ A3.out
      have f1 := frozen_of_row w3 (w.heap.size + 1) 1 _ _ A3.out
      have f2 := frozen_of_row w3 (w.heap.size + 1) 2 _ _ A3.out
      have f3 := frozen_of_row w3 (w.heap.size + 1) 3 _ _ A3.out
      have f4 := frozen_of_row w3 (w.heap.size + 1) 4 _ _ A3.out
      clear d1 d2
      have d1 : w3.cell? ⟨q, 21, none⟩ = some (.int .i64 x.w) := G3.out.shape ROK.out 1 _ rfl
      have d2 : w3.cell? ⟨q, 22, none⟩ = some (.int .i64 x.h) := G3.out.shape ROK.out 2 _ rfl
      have n1 : w2.heap.size ≠ w.heap.size + 1 := by omega
      have n2 : q ≠ w.heap.size + 1 := by omega
      clear L3
      have A5 := hide A3.out
      have R5 := hide R3.out
      have K5 := hide K3.out
      clear a0 a1 a2 a3 a4 f1 f2 f3 f4
      go_wp2_with (first
        | (refine wpList_load_row rfl 81 _ rfl (w.heap.size + 1) rfl 81 (bxv false (0) (0) (x.w - 1) (x.h - 1)) (0, 0) _ A5.out Tryd.underlying81 rfl info_box ?_)
        | (refine wpList_store_row_g rfl 81 _ _ rfl w.heap.size (bxv false (0) (0) (x.w - 1) (x.h - 1)) rfl rfl 81 (bxv false 0 0 0 0) R5.out info_box rfl (bxv_one _ _ _ _ _) ?_
           intro w4 hw4
           have R4 : Hid (w4.heap[w.heap.size]? = some (.cells (bxv false (0) (0) (x.w - 1) (x.h - 1)) 81 (0, 0))) := by rw [hw4]; exact setRow_heap _ _ _ _ _ _ R5.out
           have K4 : Hid (Kp (fun _ => False) w w4) := by rw [hw4]; exact K5.out.setRowNew (Nat.le_refl _) _
           clear hw4))
      exact bodyPost_ret (v := .agg (bxv false (0) (0) (x.w - 1) (x.h - 1))) (results_cell_row Tryd.results55 _ _ w.heap.size 81 (bxv false (0) (0) (x.w - 1) (x.h - 1)) (0, 0) _ rfl R4.out Tryd.underlying81 rfl info_box) rfl ⟨by rw [HRB.out, if_pos (by simp)]; rfl, K4.out⟩
end Go.Proofs.YtbdbkjngdhcjpaaDoor
