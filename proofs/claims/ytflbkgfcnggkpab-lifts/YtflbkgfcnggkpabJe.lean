import Derived.Test.YtflbkgfcnggkpabM5
import Derived.Deep.CutRange
namespace Go.Proofs.Ytflbkgfcnggkpab
open Go.RowKit
open Go.Proofs

def fillG (val : Nat → Int) (k : Nat) : List Int := (List.range 768).map fun m => if m < k then val m else 0
theorem fillGN_zero (N : Nat) (val : Nat → Int) : ((List.range N).map fun m => if m < 0 then val m else 0) = List.replicate N 0 := by
  apply List.ext_getElem
  · simp
  · intro i h1 h2
    simp
theorem fillG_zero (val : Nat → Int) : fillG val 0 = noS := fillGN_zero 768 val
theorem fillG_len (val : Nat → Int) (k : Nat) : (fillG val k).length = 768 := by unfold fillG; rw [List.length_map, List.length_range]
theorem fillG_succ (val : Nat → Int) (k : Nat) (_h : k < 768) : (fillG val k).set k (val k) = fillG val (k + 1) := by
  unfold fillG
  apply List.ext_getElem
  · simp
  · intro i h1 h2
    rw [List.getElem_set]
    simp only [List.getElem_map, List.getElem_range]
    by_cases e : k = i
    · subst e; simp
    · rw [if_neg e]
      by_cases l : i < k
      · rw [if_pos l, if_pos (by omega)]
      · rw [if_neg l, if_neg (by omega)]
theorem fillG_get (val : Nat → Int) (k m : Nat) (h : m < k) (h2 : m < 768) : (fillG val k).getD m 0 = val m := by
  unfold fillG
  simp [List.getD, h, h2]

/-- What follows at the m-th cell, where G tells of all cells. -/
def nxv (r : Pu.Rule) (G : Int → Int → Int) (S : List Int) (W : Nat) (m : Nat) : Int := nextR r (S.getD m 0) (ones9 (onesW r.around fun a b => G (((m % W : Nat) : Int) + ((a : Int) - 1)) (((m / W : Nat) : Int) + ((b : Int) - 1))) 9)
theorem nxv_at (r : Pu.Rule) (G : Int → Int → Int) (S : List Int) (W i j : Nat) (hi : i < W) : nxv r G S W (j * W + i) = nextR r (S.getD (j * W + i) 0) (ones9 (onesW r.around fun a b => G ((i : Int) + ((a : Int) - 1)) ((j : Int) + ((b : Int) - 1))) 9) := by
  unfold nxv
  rw [Nat.mul_comm j W, Nat.mul_add_mod, Nat.mod_eq_of_lt hi, Nat.mul_add_div (by omega), Nat.div_eq_of_lt hi, Nat.add_zero]
theorem onesW_mid (a : Int) (g : Nat → Nat → Int) (ha : a = 77 ∨ a = 86 ∨ a = 72) : onesW a g 1 1 = false := by
  unfold onesW
  rcases ha with rfl | rfl | rfl <;> simp [nearR]

set_option maxRecDepth 100000 in
set_option maxHeartbeats 1000000 in
theorem wnext_core (Z : List Int) (hZ : Z.length = 768) (hz0 : (Try.prog.info? 56).map (·.zero) = some (some (.agg (gnew 0 0 Z))))
    (hnew : ∀ gw gh w, Calls Try.prog 34 #[.int .i64 gw, .int .i64 gh] w fun e w' => e = .returned (.agg (gnew gw gh Z)) ∧ Kp (fun _ => False) w w')
    (q : Nat) (r : Pu.Rule) (x : Pu.Shape) (age : Int) (S : List Int) (w : World) (h : GrAt w q (preOf r x age) x.w x.h 0 0 S) (hr : RuleOk r)
    (hx : Two x) (W H' : Nat) (hW : x.w = W) (hH : x.h = H') (ha : r.around = 77 ∨ r.around = 86 ∨ r.around = 72) (hst : r.states ≤ 9) (hS : ∀ k, 0 ≤ S.getD k 0 ∧ S.getD k 0 < r.states) (hZ0 : Z = noS) (G : Int → Int → Int)
    (hget : ∀ (wx : World) (X Y : Int), -1 ≤ X → X ≤ W → -1 ≤ Y → Y ≤ H' → GrAt wx q (preOf r x age) x.w x.h 0 0 S → Calls Try.prog 13 #[.pointer (some ⟨q, 0, none⟩), .int .i64 X, .int .i64 Y] wx fun e w' => e = .returned (.int .i64 (G X Y)) ∧ Kp (fun _ => False) wx w') :
    Calls Try.prog 24 #[.pointer (some ⟨q, 0, none⟩)] w fun e w' => e = .returned (.agg (gnew x.w x.h (fillG (nxv r G S W) (H' * W)))) ∧ Kp (fun _ => False) w w' := by
  obtain ⟨SR, hSR⟩ : ∃ SR, fillG (nxv r G S W) (H' * W) = SR := ⟨_, rfl⟩
  rw [hSR]
  have HSR := hide hSR
  clear hSR
  have EW := hide hW
  have EH := hide hH
  have HX := hide hx
  have ROK := hide hr
  have HS' := hide hS
  have W12 : W ≤ 12 := by have := hx.2.1; omega
  have H12 : H' ≤ 12 := by have := hx.2.2.2; omega
  have LO := hide (fun (wx : World) (X Y : Int) (h1 : 0 ≤ X ∧ X < W) (h2 : 0 ≤ Y ∧ Y < H') (hg : GrAt wx q (preOf r x age) x.w x.h 0 0 S) => ones_any q r x age x.w x.h 0 0 S X Y (fun a b => G (X + ((a : Int) - 1)) (Y + ((b : Int) - 1))) wx hg hr ha (by omega) (by omega) (fun wy a b h3 h4 hg2 => hget wy _ _ (by omega) (by omega) (by omega) (by omega) hg2))
  have L8 := hide (fun (g : Nat → Nat → Int) => ones9_8 (onesW r.around g) (onesW_mid r.around g ha))
  have LG := hide (fun (wx : World) (a b : Int) (hg : GrAt wx q (preOf r x age) x.w x.h 0 0 S) => gget_any q (preOf r x age) x.w x.h 0 0 S a b wx hg (by have := hx.1; omega) hx.2.1 (by have := hx.2.2.1; omega) hx.2.2.2 (by omega) (by omega) (by omega) (by omega))
  have LR := hide (fun (wx : World) (s : Int) (k : Nat) (h1 : 0 ≤ s ∧ s < r.states) (h2 : k < 9) => rnext_any r hr s k wx h1 hst h2)
  have LP := hide (fun (wx : World) (g : Nat) (S2 : List Int) (a b s : Int) (hg : GnAt wx g x.w x.h 0 0 S2) (h1 : 0 ≤ a ∧ a < x.w) (h2 : 0 ≤ b ∧ b < x.h) => nput_in g x.w x.h 0 0 S2 a b s wx hg (by omega) hx.2.1 (by omega) hx.2.2.2 (by omega) (by omega) (by omega) (by omega) (by rw [(slot_two hx h1 h2).1]; exact (slot_two hx h1 h2).2.1))
  have HZ0 := hide hZ0
  clear hW hH hx hS hst ha hget hZ0
  have ld := hide (fun j v => h.shape hr j v)
  have H := hide h
  have HZ := hide hz0
  have d1 : w.cell? ⟨q, 21, none⟩ = some (.int .i64 x.w) := ld.out 1 _ rfl
  have d2 : w.cell? ⟨q, 22, none⟩ = some (.int .i64 x.h) := ld.out 2 _ rfl
  clear h hz0
  go_enter Try.func24, Try.ntmps24
  go_upto_region 1 with (refine wpList_alloc_row rfl 56 rfl (gnew 0 0 Z) HZ.out ?_
                         intro w1 hw1
                         have A1 : Hid (w1.heap[w.heap.size]? = some (.cells (gnew 0 0 Z) 56 (0, 0))) := by rw [hw1]; exact heap_alloc_new _ _
                         have K1 : Hid (Kp (fun _ => False) w w1) := by rw [hw1]; exact (Kp.refl _ _).alloc _
                         have e1 : w1.cell? ⟨q, 21, none⟩ = some (.int .i64 x.w) := by rw [hw1]; exact ((H.out.alloc _).shape hr 1 _ rfl)
                         have e2 : w1.cell? ⟨q, 22, none⟩ = some (.int .i64 x.h) := by rw [hw1]; exact ((H.out.alloc _).shape hr 2 _ rfl)
                         clear hw1)
  have HZL := hide hZ
  have HN := hide hnew
  have FK : Hid (∀ wx, Kp (fun _ => False) w1 wx → wx.cell? ⟨q, 21, none⟩ = some (.int .i64 x.w) ∧ wx.cell? ⟨q, 22, none⟩ = some (.int .i64 x.h) ∧ wx.heap[w.heap.size]? = some (.cells (gnew 0 0 Z) 56 (0, 0)) ∧ Kp (fun _ => False) w wx ∧ w.heap.size < wx.heap.size) := by
    intro wx kx
    have hl := (Array.getElem?_eq_some_iff.1 A1.out).1
    have hs := kx.size
    have G := H.out.keep (K1.out.trans kx) (fun hx => hx)
    exact ⟨G.shape hr 1 _ rfl, G.shape hr 2 _ rfl, kx.row A1.out (fun hx => hx), K1.out.trans kx, by omega⟩
  clear hZ hnew d1 d2 e1 e2
  try go_simp
  go_cut [3] from 9 to 59 (fun p3 wc => ∃ g, p3 = .pointer (some ⟨g, 0, none⟩) ∧ w.heap.size < g ∧ GnAt wc g x.w x.h 0 0 Z ∧ wc.heap[w.heap.size]? = some (.cells (gnew 0 0 Z) 56 (0, 0)) ∧ Kp (fun _ => False) w wc)
  case first =>
    refine wp_region_any (by kernel_rfl) ?_
    change wpAny _ _ _ _ _ _ _ (World.drew _)
    generalize hD : World.drew w1 = wc0
    have KC0 : Hid (Kp (fun _ => False) w1 wc0) := by rw [← hD]; exact (Kp.refl _ _).drewN 1
    clear hD
    refine wpAny_take (i := 0) (v := .pointer (some ⟨q, 0, none⟩)) rfl (by kernel_rfl) (by kernel_rfl) (by kernel_rfl) (fun _ _ _ h => h) (Or.inl ⟨by rfl, by intro w; go_simp⟩) ?_
    refine wpAny_take (i := 1) (v := .pointer (some ⟨q, 0, none⟩)) rfl (by kernel_rfl) (by kernel_rfl) (by kernel_rfl) (fun _ _ _ h => h) (Or.inl ⟨by rfl, by intro w; go_simp⟩) ?_
    refine wpAny_take (i := 2) (v := .pointer (some ⟨q, 20, none⟩)) rfl (by kernel_rfl) (by kernel_rfl) (by kernel_rfl) (fun _ _ _ h => h) (Or.inl ⟨by rfl, by intro w; go_simp⟩) ?_
    refine wpAny_take (i := 3) (v := .pointer (some ⟨q, 21, none⟩)) rfl (by kernel_rfl) (by kernel_rfl) (by kernel_rfl) (fun _ _ _ h => h) (Or.inl ⟨by rfl, by intro w; go_simp⟩) ?_
    refine wpAny_take (i := 5) (v := .pointer (some ⟨q, 0, none⟩)) rfl (by kernel_rfl) (by kernel_rfl) (by kernel_rfl) (fun _ _ _ h => h) (Or.inl ⟨by rfl, by intro w; go_simp⟩) ?_
    refine wpAny_take (i := 6) (v := .pointer (some ⟨q, 0, none⟩)) rfl (by kernel_rfl) (by kernel_rfl) (by kernel_rfl) (fun _ _ _ h => h) (Or.inl ⟨by rfl, by intro w; go_simp⟩) ?_
    refine wpAny_take (i := 7) (v := .pointer (some ⟨q, 20, none⟩)) rfl (by kernel_rfl) (by kernel_rfl) (by kernel_rfl) (fun _ _ _ h => h) (Or.inl ⟨by rfl, by intro w; go_simp⟩) ?_
    refine wpAny_take (i := 8) (v := .pointer (some ⟨q, 22, none⟩)) rfl (by kernel_rfl) (by kernel_rfl) (by kernel_rfl) (fun _ _ _ h => h) (Or.inl ⟨by rfl, by intro w; go_simp⟩) ?_
    try go_simp
    refine wpAny_ready (rs := [4, 9, 11]) (by kernel_rfl) (by simp) ?_
    refine ready_load_int rfl rfl 3 _ rfl ⟨q, 21, none⟩ rfl _ (FK.out _ KC0.out).1 Try.underlying3 ?_ ?_
    · try go_simp
      refine wpAny_ready (rs := [9, 11]) (by kernel_rfl) (by simp) ?_
      refine ready_load_int rfl rfl 3 _ rfl ⟨q, 22, none⟩ rfl _ (FK.out _ KC0.out).2.1 Try.underlying3 ?_ ?_
      · try go_simp
        refine wpAny_ready (rs := [10, 11]) (by kernel_rfl) (by simp) ?_
        refine ready_new rfl rfl _ _ rfl (.int .i64 x.w) (.int .i64 x.h) rfl rfl (fun r w' => r = .agg (gnew x.w x.h Z) ∧ Kp (fun _ => False) wc0 w') ((HN.out x.w x.h _).mono fun e w' h => ⟨_, h.1, rfl, h.2⟩) ?_ ?_
        · rintro r wc1 ⟨rfl, kn1⟩
          have KC1 := hide (KC0.out.trans kn1)
          clear kn1
          try go_simp
          refine wpAny_ready (rs := [11]) (by kernel_rfl) (by simp) ?_
          refine ready_alloc_row rfl rfl 56 rfl (gnew 0 0 Z) HZ.out ?_ AllReady.nil
          generalize hA2 : wc1.alloc (.cells (gnew 0 0 Z) 56) = wc2
          have KC2 : Hid (Kp (fun _ => False) w1 wc2) := by rw [← hA2]; exact KC1.out.alloc _
          have RA2 : Hid (wc2.heap[wc1.heap.size]? = some (.cells (gnew 0 0 Z) 56 (0, 0))) := by rw [← hA2]; exact heap_alloc_new _ _
          clear hA2
          try go_simp
          refine wpAny_ready (rs := [12]) (by kernel_rfl) (by simp) ?_
          have SG3 : w.heap.size < wc1.heap.size := by have h1 := (FK.out _ KC1.out).2.2.2.2; omega
          refine ready_store_row rfl rfl 56 _ _ rfl (wc1.heap.size) (gnew x.w x.h Z) rfl rfl 56 (gnew 0 0 Z) RA2.out (by rw [info_grid, gnew_size _ _ HZL.out]) (by rw [gnew_size _ _ HZL.out, gnew_size _ _ HZL.out]) (gnew_one _ _ _) ?_ AllReady.nil
          generalize hS3 : wc2.setRow (wc1.heap.size) (gnew x.w x.h Z) = wc3
          have GN3 : Hid (GnAt wc3 (wc1.heap.size) x.w x.h 0 0 Z) := ⟨by rw [← hS3]; exact setRow_heap _ _ _ _ _ _ RA2.out, HZL.out⟩
          have RR3 : Hid (wc3.heap[w.heap.size]? = some (.cells (gnew 0 0 Z) 56 (0, 0))) := by rw [← hS3]; exact (setRow_other _ _ _ _ (by omega)).trans (FK.out _ KC2.out).2.2.1
          have KK3 : Hid (Kp (fun _ => False) w wc3) := by rw [← hS3]; exact (FK.out _ KC2.out).2.2.2.1.setRowNew (by omega) _
          have SZ3 := SG3
          clear hS3
          refine wpAny_done (by kernel_rfl) ?_ _
          go_wp2
          go_meet
          case rel => exact ⟨_, rfl, SZ3, GN3.out, RR3.out, KK3.out⟩
        · refine ready_alloc_row rfl rfl 56 rfl (gnew 0 0 Z) HZ.out ?_ AllReady.nil
          generalize hA1 : wc0.alloc (.cells (gnew 0 0 Z) 56) = wc1
          have KC1 : Hid (Kp (fun _ => False) w1 wc1) := by rw [← hA1]; exact KC0.out.alloc _
          have RA1 : Hid (wc1.heap[wc0.heap.size]? = some (.cells (gnew 0 0 Z) 56 (0, 0))) := by rw [← hA1]; exact heap_alloc_new _ _
          clear hA1
          try go_simp
          refine wpAny_ready (rs := [10]) (by kernel_rfl) (by simp) ?_
          refine ready_new rfl rfl _ _ rfl (.int .i64 x.w) (.int .i64 x.h) rfl rfl (fun r w' => r = .agg (gnew x.w x.h Z) ∧ Kp (fun _ => False) wc1 w') ((HN.out x.w x.h _).mono fun e w' h => ⟨_, h.1, rfl, h.2⟩) ?_ AllReady.nil
          rintro r wc2 ⟨rfl, kn2⟩
          have KC2 := hide (KC1.out.trans kn2)
          have RA2 := hide (kn2.row RA1.out (fun hx => hx))
          clear kn2
          try go_simp
          refine wpAny_ready (rs := [12]) (by kernel_rfl) (by simp) ?_
          have SG3 : w.heap.size < wc0.heap.size := by have h1 := (FK.out _ KC0.out).2.2.2.2; omega
          refine ready_store_row rfl rfl 56 _ _ rfl (wc0.heap.size) (gnew x.w x.h Z) rfl rfl 56 (gnew 0 0 Z) RA2.out (by rw [info_grid, gnew_size _ _ HZL.out]) (by rw [gnew_size _ _ HZL.out, gnew_size _ _ HZL.out]) (gnew_one _ _ _) ?_ AllReady.nil
          generalize hS3 : wc2.setRow (wc0.heap.size) (gnew x.w x.h Z) = wc3
          have GN3 : Hid (GnAt wc3 (wc0.heap.size) x.w x.h 0 0 Z) := ⟨by rw [← hS3]; exact setRow_heap _ _ _ _ _ _ RA2.out, HZL.out⟩
          have RR3 : Hid (wc3.heap[w.heap.size]? = some (.cells (gnew 0 0 Z) 56 (0, 0))) := by rw [← hS3]; exact (setRow_other _ _ _ _ (by omega)).trans (FK.out _ KC2.out).2.2.1
          have KK3 : Hid (Kp (fun _ => False) w wc3) := by rw [← hS3]; exact (FK.out _ KC2.out).2.2.2.1.setRowNew (by omega) _
          have SZ3 := SG3
          clear hS3
          refine wpAny_done (by kernel_rfl) ?_ _
          go_wp2
          go_meet
          case rel => exact ⟨_, rfl, SZ3, GN3.out, RR3.out, KK3.out⟩
      · refine ready_alloc_row rfl rfl 56 rfl (gnew 0 0 Z) HZ.out ?_ AllReady.nil
        generalize hA1 : wc0.alloc (.cells (gnew 0 0 Z) 56) = wc1
        have KC1 : Hid (Kp (fun _ => False) w1 wc1) := by rw [← hA1]; exact KC0.out.alloc _
        have RA1 : Hid (wc1.heap[wc0.heap.size]? = some (.cells (gnew 0 0 Z) 56 (0, 0))) := by rw [← hA1]; exact heap_alloc_new _ _
        clear hA1
        try go_simp
        refine wpAny_ready (rs := [9]) (by kernel_rfl) (by simp) ?_
        refine ready_load_int rfl rfl 3 _ rfl ⟨q, 22, none⟩ rfl _ (FK.out _ KC1.out).2.1 Try.underlying3 ?_ AllReady.nil
        try go_simp
        refine wpAny_ready (rs := [10]) (by kernel_rfl) (by simp) ?_
        refine ready_new rfl rfl _ _ rfl (.int .i64 x.w) (.int .i64 x.h) rfl rfl (fun r w' => r = .agg (gnew x.w x.h Z) ∧ Kp (fun _ => False) wc1 w') ((HN.out x.w x.h _).mono fun e w' h => ⟨_, h.1, rfl, h.2⟩) ?_ AllReady.nil
        rintro r wc2 ⟨rfl, kn2⟩
        have KC2 := hide (KC1.out.trans kn2)
        have RA2 := hide (kn2.row RA1.out (fun hx => hx))
        clear kn2
        try go_simp
        refine wpAny_ready (rs := [12]) (by kernel_rfl) (by simp) ?_
        have SG3 : w.heap.size < wc0.heap.size := by have h1 := (FK.out _ KC0.out).2.2.2.2; omega
        refine ready_store_row rfl rfl 56 _ _ rfl (wc0.heap.size) (gnew x.w x.h Z) rfl rfl 56 (gnew 0 0 Z) RA2.out (by rw [info_grid, gnew_size _ _ HZL.out]) (by rw [gnew_size _ _ HZL.out, gnew_size _ _ HZL.out]) (gnew_one _ _ _) ?_ AllReady.nil
        generalize hS3 : wc2.setRow (wc0.heap.size) (gnew x.w x.h Z) = wc3
        have GN3 : Hid (GnAt wc3 (wc0.heap.size) x.w x.h 0 0 Z) := ⟨by rw [← hS3]; exact setRow_heap _ _ _ _ _ _ RA2.out, HZL.out⟩
        have RR3 : Hid (wc3.heap[w.heap.size]? = some (.cells (gnew 0 0 Z) 56 (0, 0))) := by rw [← hS3]; exact (setRow_other _ _ _ _ (by omega)).trans (FK.out _ KC2.out).2.2.1
        have KK3 : Hid (Kp (fun _ => False) w wc3) := by rw [← hS3]; exact (FK.out _ KC2.out).2.2.2.1.setRowNew (by omega) _
        have SZ3 := SG3
        clear hS3
        refine wpAny_done (by kernel_rfl) ?_ _
        go_wp2
        go_meet
        case rel => exact ⟨_, rfl, SZ3, GN3.out, RR3.out, KK3.out⟩
    · refine ready_load_int rfl rfl 3 _ rfl ⟨q, 22, none⟩ rfl _ (FK.out _ KC0.out).2.1 Try.underlying3 ?_ ?_
      · try go_simp
        refine wpAny_ready (rs := [4, 11]) (by kernel_rfl) (by simp) ?_
        refine ready_load_int rfl rfl 3 _ rfl ⟨q, 21, none⟩ rfl _ (FK.out _ KC0.out).1 Try.underlying3 ?_ ?_
        · try go_simp
          refine wpAny_ready (rs := [10, 11]) (by kernel_rfl) (by simp) ?_
          refine ready_new rfl rfl _ _ rfl (.int .i64 x.w) (.int .i64 x.h) rfl rfl (fun r w' => r = .agg (gnew x.w x.h Z) ∧ Kp (fun _ => False) wc0 w') ((HN.out x.w x.h _).mono fun e w' h => ⟨_, h.1, rfl, h.2⟩) ?_ ?_
          · rintro r wc1 ⟨rfl, kn1⟩
            have KC1 := hide (KC0.out.trans kn1)
            clear kn1
            try go_simp
            refine wpAny_ready (rs := [11]) (by kernel_rfl) (by simp) ?_
            refine ready_alloc_row rfl rfl 56 rfl (gnew 0 0 Z) HZ.out ?_ AllReady.nil
            generalize hA2 : wc1.alloc (.cells (gnew 0 0 Z) 56) = wc2
            have KC2 : Hid (Kp (fun _ => False) w1 wc2) := by rw [← hA2]; exact KC1.out.alloc _
            have RA2 : Hid (wc2.heap[wc1.heap.size]? = some (.cells (gnew 0 0 Z) 56 (0, 0))) := by rw [← hA2]; exact heap_alloc_new _ _
            clear hA2
            try go_simp
            refine wpAny_ready (rs := [12]) (by kernel_rfl) (by simp) ?_
            have SG3 : w.heap.size < wc1.heap.size := by have h1 := (FK.out _ KC1.out).2.2.2.2; omega
            refine ready_store_row rfl rfl 56 _ _ rfl (wc1.heap.size) (gnew x.w x.h Z) rfl rfl 56 (gnew 0 0 Z) RA2.out (by rw [info_grid, gnew_size _ _ HZL.out]) (by rw [gnew_size _ _ HZL.out, gnew_size _ _ HZL.out]) (gnew_one _ _ _) ?_ AllReady.nil
            generalize hS3 : wc2.setRow (wc1.heap.size) (gnew x.w x.h Z) = wc3
            have GN3 : Hid (GnAt wc3 (wc1.heap.size) x.w x.h 0 0 Z) := ⟨by rw [← hS3]; exact setRow_heap _ _ _ _ _ _ RA2.out, HZL.out⟩
            have RR3 : Hid (wc3.heap[w.heap.size]? = some (.cells (gnew 0 0 Z) 56 (0, 0))) := by rw [← hS3]; exact (setRow_other _ _ _ _ (by omega)).trans (FK.out _ KC2.out).2.2.1
            have KK3 : Hid (Kp (fun _ => False) w wc3) := by rw [← hS3]; exact (FK.out _ KC2.out).2.2.2.1.setRowNew (by omega) _
            have SZ3 := SG3
            clear hS3
            refine wpAny_done (by kernel_rfl) ?_ _
            go_wp2
            go_meet
            case rel => exact ⟨_, rfl, SZ3, GN3.out, RR3.out, KK3.out⟩
          · refine ready_alloc_row rfl rfl 56 rfl (gnew 0 0 Z) HZ.out ?_ AllReady.nil
            generalize hA1 : wc0.alloc (.cells (gnew 0 0 Z) 56) = wc1
            have KC1 : Hid (Kp (fun _ => False) w1 wc1) := by rw [← hA1]; exact KC0.out.alloc _
            have RA1 : Hid (wc1.heap[wc0.heap.size]? = some (.cells (gnew 0 0 Z) 56 (0, 0))) := by rw [← hA1]; exact heap_alloc_new _ _
            clear hA1
            try go_simp
            refine wpAny_ready (rs := [10]) (by kernel_rfl) (by simp) ?_
            refine ready_new rfl rfl _ _ rfl (.int .i64 x.w) (.int .i64 x.h) rfl rfl (fun r w' => r = .agg (gnew x.w x.h Z) ∧ Kp (fun _ => False) wc1 w') ((HN.out x.w x.h _).mono fun e w' h => ⟨_, h.1, rfl, h.2⟩) ?_ AllReady.nil
            rintro r wc2 ⟨rfl, kn2⟩
            have KC2 := hide (KC1.out.trans kn2)
            have RA2 := hide (kn2.row RA1.out (fun hx => hx))
            clear kn2
            try go_simp
            refine wpAny_ready (rs := [12]) (by kernel_rfl) (by simp) ?_
            have SG3 : w.heap.size < wc0.heap.size := by have h1 := (FK.out _ KC0.out).2.2.2.2; omega
            refine ready_store_row rfl rfl 56 _ _ rfl (wc0.heap.size) (gnew x.w x.h Z) rfl rfl 56 (gnew 0 0 Z) RA2.out (by rw [info_grid, gnew_size _ _ HZL.out]) (by rw [gnew_size _ _ HZL.out, gnew_size _ _ HZL.out]) (gnew_one _ _ _) ?_ AllReady.nil
            generalize hS3 : wc2.setRow (wc0.heap.size) (gnew x.w x.h Z) = wc3
            have GN3 : Hid (GnAt wc3 (wc0.heap.size) x.w x.h 0 0 Z) := ⟨by rw [← hS3]; exact setRow_heap _ _ _ _ _ _ RA2.out, HZL.out⟩
            have RR3 : Hid (wc3.heap[w.heap.size]? = some (.cells (gnew 0 0 Z) 56 (0, 0))) := by rw [← hS3]; exact (setRow_other _ _ _ _ (by omega)).trans (FK.out _ KC2.out).2.2.1
            have KK3 : Hid (Kp (fun _ => False) w wc3) := by rw [← hS3]; exact (FK.out _ KC2.out).2.2.2.1.setRowNew (by omega) _
            have SZ3 := SG3
            clear hS3
            refine wpAny_done (by kernel_rfl) ?_ _
            go_wp2
            go_meet
            case rel => exact ⟨_, rfl, SZ3, GN3.out, RR3.out, KK3.out⟩
        · refine ready_alloc_row rfl rfl 56 rfl (gnew 0 0 Z) HZ.out ?_ AllReady.nil
          generalize hA1 : wc0.alloc (.cells (gnew 0 0 Z) 56) = wc1
          have KC1 : Hid (Kp (fun _ => False) w1 wc1) := by rw [← hA1]; exact KC0.out.alloc _
          have RA1 : Hid (wc1.heap[wc0.heap.size]? = some (.cells (gnew 0 0 Z) 56 (0, 0))) := by rw [← hA1]; exact heap_alloc_new _ _
          clear hA1
          try go_simp
          refine wpAny_ready (rs := [4]) (by kernel_rfl) (by simp) ?_
          refine ready_load_int rfl rfl 3 _ rfl ⟨q, 21, none⟩ rfl _ (FK.out _ KC1.out).1 Try.underlying3 ?_ AllReady.nil
          try go_simp
          refine wpAny_ready (rs := [10]) (by kernel_rfl) (by simp) ?_
          refine ready_new rfl rfl _ _ rfl (.int .i64 x.w) (.int .i64 x.h) rfl rfl (fun r w' => r = .agg (gnew x.w x.h Z) ∧ Kp (fun _ => False) wc1 w') ((HN.out x.w x.h _).mono fun e w' h => ⟨_, h.1, rfl, h.2⟩) ?_ AllReady.nil
          rintro r wc2 ⟨rfl, kn2⟩
          have KC2 := hide (KC1.out.trans kn2)
          have RA2 := hide (kn2.row RA1.out (fun hx => hx))
          clear kn2
          try go_simp
          refine wpAny_ready (rs := [12]) (by kernel_rfl) (by simp) ?_
          have SG3 : w.heap.size < wc0.heap.size := by have h1 := (FK.out _ KC0.out).2.2.2.2; omega
          refine ready_store_row rfl rfl 56 _ _ rfl (wc0.heap.size) (gnew x.w x.h Z) rfl rfl 56 (gnew 0 0 Z) RA2.out (by rw [info_grid, gnew_size _ _ HZL.out]) (by rw [gnew_size _ _ HZL.out, gnew_size _ _ HZL.out]) (gnew_one _ _ _) ?_ AllReady.nil
          generalize hS3 : wc2.setRow (wc0.heap.size) (gnew x.w x.h Z) = wc3
          have GN3 : Hid (GnAt wc3 (wc0.heap.size) x.w x.h 0 0 Z) := ⟨by rw [← hS3]; exact setRow_heap _ _ _ _ _ _ RA2.out, HZL.out⟩
          have RR3 : Hid (wc3.heap[w.heap.size]? = some (.cells (gnew 0 0 Z) 56 (0, 0))) := by rw [← hS3]; exact (setRow_other _ _ _ _ (by omega)).trans (FK.out _ KC2.out).2.2.1
          have KK3 : Hid (Kp (fun _ => False) w wc3) := by rw [← hS3]; exact (FK.out _ KC2.out).2.2.2.1.setRowNew (by omega) _
          have SZ3 := SG3
          clear hS3
          refine wpAny_done (by kernel_rfl) ?_ _
          go_wp2
          go_meet
          case rel => exact ⟨_, rfl, SZ3, GN3.out, RR3.out, KK3.out⟩
      · refine ready_alloc_row rfl rfl 56 rfl (gnew 0 0 Z) HZ.out ?_ AllReady.nil
        generalize hA1 : wc0.alloc (.cells (gnew 0 0 Z) 56) = wc1
        have KC1 : Hid (Kp (fun _ => False) w1 wc1) := by rw [← hA1]; exact KC0.out.alloc _
        have RA1 : Hid (wc1.heap[wc0.heap.size]? = some (.cells (gnew 0 0 Z) 56 (0, 0))) := by rw [← hA1]; exact heap_alloc_new _ _
        clear hA1
        try go_simp
        refine wpAny_ready (rs := [4, 9]) (by kernel_rfl) (by simp) ?_
        refine ready_load_int rfl rfl 3 _ rfl ⟨q, 21, none⟩ rfl _ (FK.out _ KC1.out).1 Try.underlying3 ?_ ?_
        · try go_simp
          refine wpAny_ready (rs := [9]) (by kernel_rfl) (by simp) ?_
          refine ready_load_int rfl rfl 3 _ rfl ⟨q, 22, none⟩ rfl _ (FK.out _ KC1.out).2.1 Try.underlying3 ?_ AllReady.nil
          try go_simp
          refine wpAny_ready (rs := [10]) (by kernel_rfl) (by simp) ?_
          refine ready_new rfl rfl _ _ rfl (.int .i64 x.w) (.int .i64 x.h) rfl rfl (fun r w' => r = .agg (gnew x.w x.h Z) ∧ Kp (fun _ => False) wc1 w') ((HN.out x.w x.h _).mono fun e w' h => ⟨_, h.1, rfl, h.2⟩) ?_ AllReady.nil
          rintro r wc2 ⟨rfl, kn2⟩
          have KC2 := hide (KC1.out.trans kn2)
          have RA2 := hide (kn2.row RA1.out (fun hx => hx))
          clear kn2
          try go_simp
          refine wpAny_ready (rs := [12]) (by kernel_rfl) (by simp) ?_
          have SG3 : w.heap.size < wc0.heap.size := by have h1 := (FK.out _ KC0.out).2.2.2.2; omega
          refine ready_store_row rfl rfl 56 _ _ rfl (wc0.heap.size) (gnew x.w x.h Z) rfl rfl 56 (gnew 0 0 Z) RA2.out (by rw [info_grid, gnew_size _ _ HZL.out]) (by rw [gnew_size _ _ HZL.out, gnew_size _ _ HZL.out]) (gnew_one _ _ _) ?_ AllReady.nil
          generalize hS3 : wc2.setRow (wc0.heap.size) (gnew x.w x.h Z) = wc3
          have GN3 : Hid (GnAt wc3 (wc0.heap.size) x.w x.h 0 0 Z) := ⟨by rw [← hS3]; exact setRow_heap _ _ _ _ _ _ RA2.out, HZL.out⟩
          have RR3 : Hid (wc3.heap[w.heap.size]? = some (.cells (gnew 0 0 Z) 56 (0, 0))) := by rw [← hS3]; exact (setRow_other _ _ _ _ (by omega)).trans (FK.out _ KC2.out).2.2.1
          have KK3 : Hid (Kp (fun _ => False) w wc3) := by rw [← hS3]; exact (FK.out _ KC2.out).2.2.2.1.setRowNew (by omega) _
          have SZ3 := SG3
          clear hS3
          refine wpAny_done (by kernel_rfl) ?_ _
          go_wp2
          go_meet
          case rel => exact ⟨_, rfl, SZ3, GN3.out, RR3.out, KK3.out⟩
        · refine ready_load_int rfl rfl 3 _ rfl ⟨q, 22, none⟩ rfl _ (FK.out _ KC1.out).2.1 Try.underlying3 ?_ AllReady.nil
          try go_simp
          refine wpAny_ready (rs := [4]) (by kernel_rfl) (by simp) ?_
          refine ready_load_int rfl rfl 3 _ rfl ⟨q, 21, none⟩ rfl _ (FK.out _ KC1.out).1 Try.underlying3 ?_ AllReady.nil
          try go_simp
          refine wpAny_ready (rs := [10]) (by kernel_rfl) (by simp) ?_
          refine ready_new rfl rfl _ _ rfl (.int .i64 x.w) (.int .i64 x.h) rfl rfl (fun r w' => r = .agg (gnew x.w x.h Z) ∧ Kp (fun _ => False) wc1 w') ((HN.out x.w x.h _).mono fun e w' h => ⟨_, h.1, rfl, h.2⟩) ?_ AllReady.nil
          rintro r wc2 ⟨rfl, kn2⟩
          have KC2 := hide (KC1.out.trans kn2)
          have RA2 := hide (kn2.row RA1.out (fun hx => hx))
          clear kn2
          try go_simp
          refine wpAny_ready (rs := [12]) (by kernel_rfl) (by simp) ?_
          have SG3 : w.heap.size < wc0.heap.size := by have h1 := (FK.out _ KC0.out).2.2.2.2; omega
          refine ready_store_row rfl rfl 56 _ _ rfl (wc0.heap.size) (gnew x.w x.h Z) rfl rfl 56 (gnew 0 0 Z) RA2.out (by rw [info_grid, gnew_size _ _ HZL.out]) (by rw [gnew_size _ _ HZL.out, gnew_size _ _ HZL.out]) (gnew_one _ _ _) ?_ AllReady.nil
          generalize hS3 : wc2.setRow (wc0.heap.size) (gnew x.w x.h Z) = wc3
          have GN3 : Hid (GnAt wc3 (wc0.heap.size) x.w x.h 0 0 Z) := ⟨by rw [← hS3]; exact setRow_heap _ _ _ _ _ _ RA2.out, HZL.out⟩
          have RR3 : Hid (wc3.heap[w.heap.size]? = some (.cells (gnew 0 0 Z) 56 (0, 0))) := by rw [← hS3]; exact (setRow_other _ _ _ _ (by omega)).trans (FK.out _ KC2.out).2.2.1
          have KK3 : Hid (Kp (fun _ => False) w wc3) := by rw [← hS3]; exact (FK.out _ KC2.out).2.2.2.1.setRowNew (by omega) _
          have SZ3 := SG3
          clear hS3
          refine wpAny_done (by kernel_rfl) ?_ _
          go_wp2
          go_meet
          case rel => exact ⟨_, rfl, SZ3, GN3.out, RR3.out, KK3.out⟩
  case rest =>
    obtain ⟨g, rfl, sg, gn, rr, kk⟩ := hcut
    have VV := hide (fun i j hi => nxv_at r G S W i j hi)
    have GN : Hid (GnAt wc g x.w x.h 0 0 (fillG (nxv r G S W) (0 * W))) := by
      show GnAt _ _ _ _ _ _ _
      rw [Nat.zero_mul, fillG_zero, ← HZ0.out]
      exact gn
    have RR := hide rr
    have KK := hide kk
    generalize nxv r G S W = val at *
    clear gn rr kk
    go_wp2_with fail
    go_loopg [4] H' (fun gk yy wr => ∃ j : Nat, j ≤ H' ∧ H' ≤ j + gk ∧ yy = .int .i64 j ∧ GnAt wr g x.w x.h 0 0 (fillG val (j * W)) ∧ wr.heap[w.heap.size]? = some (.cells (gnew 0 0 Z) 56 (0, 0)) ∧ Kp (fun _ => False) w wr)
    case atStart => exact ⟨0, by omega, by omega, rfl, GN.out, RR.out, KK.out⟩
    case round =>
      obtain ⟨j, g1, g2, rfl, n2, r2, k2⟩ := hrel
      have N2 := hide n2
      have R2 := hide r2
      have K2 := hide k2
      have G2 := hide (H.out.keep k2 (fun hx => hx))
      have c2 : wr.cell? ⟨q, 22, none⟩ = some (.int .i64 H') := by rw [← EH.out]; exact G2.out.shape ROK.out 2 _ rfl
      clear n2 r2 k2
      by_cases hj : j < H'
      · go_wp2_with fail
        obtain ⟨gO, hgO⟩ : ∃ g, g = gk := ⟨gk, rfl⟩
        have HGO := hide hgO
        obtain ⟨wO, hwO⟩ : ∃ u, u = wr := ⟨wr, rfl⟩
        rw [← hwO] at N2 R2 K2
        have e0 : j * W = j * W + 0 := by omega
        rw [e0] at N2
        clear e0 hgO c2 G2
        go_loopg [5] W (fun gi xx ws => ∃ i : Nat, i ≤ W ∧ W ≤ i + gi ∧ xx = .int .i64 i ∧ GnAt ws g x.w x.h 0 0 (fillG val (j * W + i)) ∧ ws.heap[w.heap.size]? = some (.cells (gnew 0 0 Z) 56 (0, 0)) ∧ Kp (fun _ => False) w ws)
        case atStart => exact ⟨0, by omega, by omega, rfl, by rw [← hwO]; exact N2.out, by rw [← hwO]; exact R2.out, by rw [← hwO]; exact K2.out⟩
        case round =>
          obtain ⟨i, r1, r2, rfl, n3, r3, k3⟩ := hrel
          have N3 := hide n3
          have R3 := hide r3
          have K3 := hide k3
          have G3 := hide (H.out.keep k3 (fun hx => hx))
          have c1 : wr.cell? ⟨q, 21, none⟩ = some (.int .i64 W) := by rw [← EW.out]; exact G3.out.shape ROK.out 1 _ rfl
          clear n3 r3 k3
          by_cases hi : i < W
          · have klt : j * W + i < 768 := by
              have : j * W ≤ 12 * W := Nat.mul_le_mul_right W (by omega)
              omega
            have HK : Hid ((j : Int) * x.w + i = ((j * W + i : Nat) : Int)) := by show _ = _; rw [EW.out]; simp
            have HV := hide (VV.out i j hi)
            have hgp : Hid (getP x.w x.h 0 0 S i j = S.getD (j * W + i) 0) := by
              have sl := slot_two HX.out (a := i) (b := j) (by rw [EW.out]; omega) (by rw [EH.out]; omega)
              show _ = _
              unfold getP
              rw [sl.1, if_neg (by omega), HK.out]
              rfl
            have LGk := hide (fun wx hg => LG.out wx i j hg)
            rw [hgp.out] at LGk
            have LOk := hide (fun wx hg => LO.out wx i j (by omega) (by omega) hg)
            have h8 := L8.out (fun a b => G ((i : Int) + ((a : Int) - 1)) ((j : Int) + ((b : Int) - 1)))
            have hsb := HS'.out (j * W + i)
            generalize ones9 (onesW r.around fun a b => G ((i : Int) + ((a : Int) - 1)) ((j : Int) + ((b : Int) - 1))) 9 = on at *
            generalize S.getD (j * W + i) 0 = sb at *
            go_wp2_with fail
            refine (LOk.out _ G3.out).mono ?_
            rintro e w4 ⟨rfl, k4⟩
            have N4 := hide (N3.out.keep k4 (fun hx => hx))
            have R4 := hide (k4.row R3.out (fun hx => hx))
            have K4 := hide (K3.out.trans k4)
            have G4 := hide (G3.out.keep k4 (fun hx => hx))
            clear k4
            go_wp2_with fail
            refine (LGk.out _ G4.out).mono ?_
            rintro e w5 ⟨rfl, hw5⟩
            subst w5
            have ld2 := hide (fun j v => G4.out.rule ROK.out j v)
            go_wp2_with (refine wpList_load_at rfl 51 _ rfl q 0 rfl (rulev r) ld2.out _ Try.underlying51 rfl (by rw [info_rule, rulev_size ROK.out]) ?_)
            refine (LR.out _ sb on hsb (by omega)).mono ?_
            rw [← HV.out]
            rintro e w6 ⟨rfl, k6⟩
            have N6 := hide (N4.out.keep k6 (fun hx => hx))
            have R6 := hide (k6.row R4.out (fun hx => hx))
            have K6 := hide (K4.out.trans k6)
            clear k6
            go_wp2_with fail
            refine (LP.out _ g _ i j (val (j * W + i)) N6.out (by rw [EW.out]; omega) (by rw [EH.out]; omega)).mono ?_
            rintro e w7 ⟨rfl, n7, k7⟩
            have N7 : Hid (GnAt w7 g x.w x.h 0 0 (fillG val (j * W + i + 1))) := by
              rw [← fillG_succ val (j * W + i) klt]
              have sl := slot_two HX.out (a := i) (b := j) (by rw [EW.out]; omega) (by rw [EH.out]; omega)
              rw [sl.1, HK.out] at n7
              exact n7
            have R7 := hide (k7.row R6.out (by omega))
            have K7 := hide (K6.out.tr k7 (by intro z hz1 hz2; omega))
            clear n7 k7
            go_wp2_with fail
            go_roundg (gk - 1)
            case measure => omega
            case rel => exact ⟨i + 1, by omega, by omega, by go_num, N7.out, R7.out, K7.out⟩
          · have ei : i = W := by omega
            subst ei
            have e1 : j * i + i = (j + 1) * i := by rw [Nat.add_mul]; omega
            rw [e1] at N3
            clear e1
            go_wp2_with fail
            go_roundg (gO - 1)
            case measure => have := HGO.out; omega
            case rel => exact ⟨j + 1, by omega, by have := HGO.out; omega, by go_num, N3.out, R3.out, K3.out⟩
      · have ej : j = H' := by omega
        subst ej
        rw [HSR.out] at N2
        go_wp2_with (first
          | (refine wpList_load_row rfl 56 _ rfl g rfl 56 (gnew x.w x.h SR) (0, 0) _ N2.out.row Try.underlying56 rfl (by rw [info_grid, gnew_size _ _ N2.out.len]) ?_)
          | (refine wpList_store_row_g rfl 56 _ _ rfl w.heap.size (gnew x.w x.h SR) rfl rfl 56 (gnew 0 0 Z) R2.out (by rw [info_grid, gnew_size _ _ N2.out.len]) (by rw [gnew_size _ _ HZL.out, gnew_size _ _ N2.out.len]) (gnew_one _ _ _) ?_
             intro w8 hw8
             have R8 : Hid (w8.heap[w.heap.size]? = some (.cells (gnew x.w x.h SR) 56 (0, 0))) := by rw [hw8]; exact setRow_heap _ _ _ _ _ _ R2.out
             have K8 : Hid (Kp (fun _ => False) w w8) := by rw [hw8]; exact K2.out.setRowNew (Nat.le_refl _) _
             clear hw8))
        exact bodyPost_ret (v := .agg (gnew x.w x.h SR)) (results_cell_row Try.results24 _ _ w.heap.size 56 (gnew x.w x.h SR) (0, 0) _ rfl R8.out Try.underlying56 rfl (by rw [info_grid, gnew_size _ _ N2.out.len])) rfl ⟨rfl, K8.out⟩
end Go.Proofs.Ytflbkgfcnggkpab
