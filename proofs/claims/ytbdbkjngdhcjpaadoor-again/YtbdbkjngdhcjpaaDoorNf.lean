import Derived.Test.YtbdbkjngdhcjpaaDoorNe
import Derived.Test.YtbdbkjngdhcjpaaDoorM29
import Derived.Laws.ResultCell
namespace Go.Proofs.YtbdbkjngdhcjpaaDoor
open Go.RowKit
open Go.Proofs

theorem gnv_one (gw gh l t : Int) (S : List Int) : (gnv gw gh l t S).all (·.oneCell') = true := by
  unfold gnv
  rw [Array.all_append, intsv_one]
  simp [Value.oneCell']
theorem results_row2 {P : Program} {fn : Func} {p u : Tmp} {ty : TypeId} (h : fn.results = #[.cell p ty, .tmp u]) (tmps : Array Value) (w : World) (g : Nat) (t : TypeId) (cs : Array Value) (fr : Nat × Nat) (d : TypeDesc) (v : Value)
    (hp : tmps.getD p undef = .pointer (some ⟨g, 0, none⟩)) (hv : tmps.getD u undef = v) (hg : w.heap[g]? = some (.cells cs t fr))
    (hu : P.underlying ty = some d) (hd : (match d with | .struct _ | .array _ _ => true | _ => false) = true) (hi : (P.info? ty).map (·.size) = some cs.size) :
    (results fn tmps).run P w = .ok (.tuple #[.agg cs, v]) w := by
  rw [results_cell_tmp h, hp, hv]
  simp [asAddr, Result.andThen, run_loadVar_row w g t ty cs fr d hg hu hd hi]

set_option maxRecDepth 100000 in
set_option maxHeartbeats 400000 in
/-- A live cell is put into a grid of its own, whatever the world's shape. -/
theorem nsettle_exact (q gb : Nat) (r : Pu.Rule) (x : Pu.Shape) (age c l t : Int) (S : List Int) (g : Gs) (a b u : Int) (w : World) (h : GrAt w q (preOf r x age) x.w x.h l t S) (hm : GmAt w gb x.w x.h g) (hr : RuleOk r) (hx : Pu.ShapeOk x) (ho : GsOk c x.w x.h g) (hh : hasB x a b = true) :
    Calls Tryd.prog 58 #[.pointer (some ⟨q, 0, none⟩), .pointer (some ⟨gb, 0, none⟩), .int .i64 a, .int .i64 b, .int .i64 u] w fun e w' => e = .returned (.bool (if nearB x a b = false then (false, g) else putG x.w x.h g a b u).1) ∧ GmAt w' gb x.w x.h (if nearB x a b = false then (false, g) else putG x.w x.h g a b u).2 ∧ Kp (· = gb) w w' := by
  have HM := hide hm
  have ld := hide (fun j v => h.shape hr j v)
  cases hnear : nearB x a b with
  | false =>
    have HNr := hide (fun wx => by have := near_any x a b wx; rw [hnear] at this; exact this)
    rw [if_pos rfl]
    clear hnear hh h hx ho hm
    go_enter Tryd.func58, Tryd.ntmps58
    go_wp2_with (refine wpList_load_at rfl 50 _ rfl q 20 rfl (shv x) ld.out _ Tryd.underlying50 rfl info_shape ?_)
    refine (HNr.out _).mono ?_
    rintro e w2 ⟨rfl, k2⟩
    have A2 : Hid (GmAt w2 gb x.w x.h g) := GnAt.keep HM.out k2 (fun hx => hx)
    have K2 := hide (k2.mono (T := (· = gb)) (fun _ hx => hx.elim))
    clear k2
    go_wp2_with fail
    go_ret
    exact ⟨rfl, A2.out, K2.out⟩
  | true =>
    have HNr := hide (fun wx => by have := near_any x a b wx; rw [hnear] at this; exact this)
    have nb := near_bd hx hh hnear
    have lb := ho.lb
    have tb := ho.tb
    rw [if_neg (by simp)]
    have HP := hide (fun (wx : World) (hg : GmAt wx gb x.w x.h g) => nput_exact gb x.w x.h g a b u wx hg hx.w0 hx.w12 hx.h0 hx.h12 (by omega) (by omega) (by omega) (by omega) (by omega) (by omega))
    clear hnear hh h hx ho hm
    generalize putG x.w x.h g a b u = R at *
    obtain ⟨y, g2⟩ := R
    simp only at HP ⊢
    go_enter Tryd.func58, Tryd.ntmps58
    go_wp2_with (refine wpList_load_at rfl 50 _ rfl q 20 rfl (shv x) ld.out _ Tryd.underlying50 rfl info_shape ?_)
    refine (HNr.out _).mono ?_
    rintro e w2 ⟨rfl, k2⟩
    have A2 : Hid (GmAt w2 gb x.w x.h g) := GnAt.keep HM.out k2 (fun hx => hx)
    have K2 := hide (k2.mono (T := (· = gb)) (fun _ hx => hx.elim))
    clear k2
    go_wp2_with fail
    refine (HP.out _ A2.out).mono ?_
    rintro e w3 ⟨rfl, g8, k3⟩
    have A3 := hide g8
    have K3 := hide (K2.out.trans k3)
    clear g8 k3
    go_wp2_with fail
    go_ret
    exact ⟨rfl, A3.out, K3.out⟩

theorem onesW_mid' (a : Int) (g : Nat → Nat → Int) (ha : a = 77 ∨ a = 86 ∨ a = 72) : onesW a g 1 1 = false := onesW_mid a g ha

set_option maxRecDepth 100000 in
set_option maxHeartbeats 2000000 in
theorem wnext_exact (Z : List Int) (hZ : Z.length = 768) (hz0 : (Tryd.prog.info? 53).map (·.zero) = some (some (.agg (gnew 0 0 Z))))
    (hnew : ∀ gw gh w, Calls Tryd.prog 47 #[.int .i64 gw, .int .i64 gh] w fun e w' => e = .returned (.agg (gnew gw gh Z)) ∧ Kp (fun _ => False) w w')
    (q : Nat) (r : Pu.Rule) (x : Pu.Shape) (age : Int) (g : Gs) (w : World) (h : GsAt w q (preOf r x age) x.w x.h g) (hr : RuleOk r)
    (hx : Pu.ShapeOk x) (hfo : foldsB x → FoldOk x) (ha : r.around = 77 ∨ r.around = 86 ∨ r.around = 72) (h2 : 2 ≤ r.states) (hst : r.states ≤ 9) (ho : GsOk r.states x.w x.h g) (hZ0 : Z = noS) :
    Calls Tryd.prog 35 #[.pointer (some ⟨q, 0, none⟩)] w fun e w' => e = .returned (.tuple #[.agg (gnv x.w x.h (nextG r x g).2.l (nextG r x g).2.t (nextG r x g).2.S), .bool (nextG r x g).1]) ∧ Kp (fun _ => False) w w' := by
  have lb := ho.lb
  have tb := ho.tb
  have LA := hide (fun (wx : World) (hg : GrAt wx q (preOf r x age) x.w x.h g.l g.t g.S) => area_exact q r x age g wx hg hr hx lb tb)
  have abd := area_bd hx ho
  have AHAS := hide (fun (X Y : Int) h1 h2 => area_has (X := X) (Y := Y) hx g h1 h2)
  have ASPH := hide (fun (e : x.kind = 83) => show 0 < x.w ∧ 0 < x.h from by
    have h1 := hx.open_
    have h2 := hx.w0
    have h3 := hx.h0
    constructor
    · rcases Int.lt_or_le 0 x.w with h | h
      · exact h
      · have := h1 (Or.inl (by omega)); omega
    · rcases Int.lt_or_le 0 x.h with h | h
      · exact h
      · have := h1 (Or.inr (by omega)); omega)
  have HIFF := hide (fun (X Y : Int) (e : hasB x X Y = true) => show (x.w = 0 ∨ (0 ≤ X ∧ X < x.w)) ∧ (x.h = 0 ∨ (0 ≤ Y ∧ Y < x.h)) from by
    unfold hasB onSideB at e
    rwa [Bool.and_eq_true, decide_eq_true_iff, decide_eq_true_iff] at e)
  obtain ⟨NR, hNR⟩ : ∃ NR, nextG r x g = NR := ⟨_, rfl⟩
  rw [hNR]
  unfold nextG at hNR
  obtain ⟨A, hA⟩ : ∃ A, areaG x g = A := ⟨_, rfl⟩
  rw [hA] at hNR LA abd AHAS
  clear hA
  obtain ⟨ae, aL, aT, aR, aB⟩ := A
  simp only at hNR abd AHAS
  have ABD := hide abd
  have HNR := hide hNR
  clear hNR abd
  have LO := hide (fun (wx : World) (X Y : Int) (hX : -10000 ≤ X ∧ X ≤ 10000) (hY : -10000 ≤ Y ∧ Y ≤ 10000) (hh : hasB x X Y = true) (hg : GrAt wx q (preOf r x age) x.w x.h g.l g.t g.S) => ones_any q r x age x.w x.h g.l g.t g.S X Y (fun a b => nbG x g (X + ((a : Int) - 1)) (Y + ((b : Int) - 1))) wx hg hr ha (by omega) (by omega) (fun wy a b h3 h4 hg2 => isone_any q r x age g _ _ wy hg2 hr hx hfo lb tb ⟨by omega, by omega, fun e => by have h5 := HIFF.out X Y hh; have h6 := ASPH.out e; omega⟩))
  have L8 := hide (fun (g : Nat → Nat → Int) => ones9_8 (onesW r.around g) (onesW_mid r.around g ha))
  have LG := hide (fun (wx : World) (a b : Int) (hg : GrAt wx q (preOf r x age) x.w x.h g.l g.t g.S) => gget_any q (preOf r x age) x.w x.h g.l g.t g.S a b wx hg hx.w0 hx.w12 hx.h0 hx.h12 (by omega) (by omega) (by omega) (by omega))
  have LR := hide (fun (wx : World) (s : Int) (k : Nat) (h1 : 0 ≤ s ∧ s < r.states) (h2 : k < 9) => rnext_any r hr s k wx h1 hst h2)
  have LS := hide (fun (wx : World) (gb : Nat) (g2 : Gs) (a b u : Int) (hg : GrAt wx q (preOf r x age) x.w x.h g.l g.t g.S) (hm : GmAt wx gb x.w x.h g2) (ho2 : GsOk r.states x.w x.h g2) (hh : hasB x a b = true) => nsettle_exact q gb r x age r.states g.l g.t g.S g2 a b u wx hg hm hr hx ho2 hh)
  have GB := hide (fun (X Y : Int) => show 0 ≤ getP x.w x.h g.l g.t g.S X Y ∧ getP x.w x.h g.l g.t g.S X Y < r.states from by
    unfold getP
    split
    · omega
    · exact ho.st _)
  have VDEF : Hid (∀ X Y, valN r x g X Y = nextR r (getP x.w x.h g.l g.t g.S X Y) (ones9 (onesW r.around fun a b => nbG x g (X + ((a : Int) - 1)) (Y + ((b : Int) - 1))) 9)) := fun _ _ => rfl
  have AOK := hide (fun (k : Nat) (hh : ∀ i j : Nat, i < (aR - aL + 1).toNat → j < k → hasB x (aL + i) (aT + j) = true) => allX_ok h2 hx ho (p := (true, ⟨0, 0, noS⟩)) (empty_ok (by omega) hx) (X0 := aL) (Y0 := aT) (n := (aR - aL + 1).toNat) k hh)
  have ROKX := hide (fun (j : Nat) (hp : GsOk r.states x.w x.h (allX r x g aL aT (aR - aL + 1).toNat (true, ⟨0, 0, noS⟩) j).2) (k : Nat) (hh : ∀ i : Nat, i < k → hasB x (aL + i) (aT + j) = true) => rowX_ok h2 hx ho hp (X0 := aL) (Y := aT + j) k hh)
  have CUT := hide (fun (j i : Nat) (hi : i ≤ (aR - aL + 1).toNat) (hf : (rowX r x g aL (aT + j) (allX r x g aL aT (aR - aL + 1).toNat (true, ⟨0, 0, noS⟩) j) i).1 = false) (m : Nat) (hm : j < m) => allX_cut (p := (true, ⟨0, 0, noS⟩)) hi hf m hm)
  have CELL : Hid (∀ (p : Bool × Gs) (X Y : Int), cellN r x g p X Y = if p.1 = false then p else if valN r x g X Y = 0 then p else if nearB x X Y = false then (false, p.2) else putG x.w x.h p.2 X Y (valN r x g X Y)) := fun _ _ _ => rfl
  have AX0 : Hid (allX r x g aL aT (aR - aL + 1).toNat (true, ⟨0, 0, noS⟩) 0 = (true, ⟨0, 0, noS⟩)) := rfl
  have AXS : Hid (∀ j, allX r x g aL aT (aR - aL + 1).toNat (true, ⟨0, 0, noS⟩) (j + 1) = rowX r x g aL (aT + j) (allX r x g aL aT (aR - aL + 1).toNat (true, ⟨0, 0, noS⟩) j) (aR - aL + 1).toNat) := fun _ => rfl
  generalize allX r x g aL aT (aR - aL + 1).toNat (true, ⟨0, 0, noS⟩) = AX at *
  have RX0 : Hid (∀ j, rowX r x g aL (aT + (j : Nat)) (AX j) 0 = AX j) := fun _ => rfl
  have RXS : Hid (∀ j i, rowX r x g aL (aT + (j : Nat)) (AX j) (i + 1) = cellN r x g (rowX r x g aL (aT + (j : Nat)) (AX j) i) (aL + i) (aT + (j : Nat))) := fun _ _ => rfl
  obtain ⟨RX, hRX⟩ : ∃ RX : Nat → Nat → Bool × Gs, ∀ j i, rowX r x g aL (aT + (j : Nat)) (AX j) i = RX j i := ⟨_, fun _ _ => rfl⟩
  simp only [hRX] at ROKX CUT AXS RX0 RXS
  generalize cellN r x g = CN at *
  clear hRX
  have H : Hid (GrAt w q (preOf r x age) x.w x.h g.l g.t g.S) := h
  have ROK := hide hr
  have HZ := hide hz0
  have HZ0 := hide hZ0
  have d1 : w.cell? ⟨q, 21, none⟩ = some (.int .i64 x.w) := H.out.shape hr 1 _ rfl
  have d2 : w.cell? ⟨q, 22, none⟩ = some (.int .i64 x.h) := H.out.shape hr 2 _ rfl
  clear h hz0 hZ0 hx hfo ha h2 hst ho lb tb
  go_enter Tryd.func35, Tryd.ntmps35
  go_upto_region 1 with (refine wpList_alloc_row rfl 53 rfl (gnew 0 0 Z) HZ.out ?_
                         intro w1 hw1
                         have A1 : Hid (w1.heap[w.heap.size]? = some (.cells (gnew 0 0 Z) 53 (0, 0))) := by rw [hw1]; exact heap_alloc_new _ _
                         have K1 : Hid (Kp (fun _ => False) w w1) := by rw [hw1]; exact (Kp.refl _ _).alloc _
                         have e1 : w1.cell? ⟨q, 21, none⟩ = some (.int .i64 x.w) := by rw [hw1]; exact ((H.out.alloc _).shape hr 1 _ rfl)
                         have e2 : w1.cell? ⟨q, 22, none⟩ = some (.int .i64 x.h) := by rw [hw1]; exact ((H.out.alloc _).shape hr 2 _ rfl)
                         clear hw1)
  have HZL := hide hZ
  have HN := hide hnew
  have FK : Hid (∀ wx, Kp (fun _ => False) w1 wx → wx.cell? ⟨q, 21, none⟩ = some (.int .i64 x.w) ∧ wx.cell? ⟨q, 22, none⟩ = some (.int .i64 x.h) ∧ wx.heap[w.heap.size]? = some (.cells (gnew 0 0 Z) 53 (0, 0)) ∧ Kp (fun _ => False) w wx ∧ w.heap.size < wx.heap.size) := by
    intro wx kx
    have hl := (Array.getElem?_eq_some_iff.1 A1.out).1
    have hs := kx.size
    have G := H.out.keep (K1.out.trans kx) (fun hx => hx)
    exact ⟨G.shape hr 1 _ rfl, G.shape hr 2 _ rfl, kx.row A1.out (fun hx => hx), K1.out.trans kx, by omega⟩
  clear hZ hnew d1 d2 e1 e2
  try go_simp
  go_cut [4] from 11 to 67 (fun p3 wc => ∃ gb, p3 = .pointer (some ⟨gb, 0, none⟩) ∧ w.heap.size < gb ∧ GnAt wc gb x.w x.h 0 0 Z ∧ wc.heap[w.heap.size]? = some (.cells (gnew 0 0 Z) 53 (0, 0)) ∧ Kp (fun _ => False) w wc)
  case first =>
    refine wp_region_any (by kernel_rfl) ?_
    change wpAny _ _ _ _ _ _ _ (World.drew _)
    generalize hD : World.drew w1 = wc0
    have KC0 : Hid (Kp (fun _ => False) w1 wc0) := by rw [← hD]; exact (Kp.refl _ _).drewN 1
    clear hD
    refine wpAny_take (i := 0) (v := .pointer (some ⟨q, 0, none⟩)) rfl (by kernel_rfl) (by kernel_rfl) (by kernel_rfl) (fun _ _ _ h => h) (Or.inl ⟨by rfl, by intro w; go_simp⟩) ?_
    refine wpAny_take (i := 1) (v := .pointer (some ⟨q, 0, none⟩)) rfl (by kernel_rfl) (by kernel_rfl) (by kernel_rfl) (fun _ _ _ h => h) (Or.inl ⟨by rfl, by intro w; go_simp⟩) ?_
    refine wpAny_take (i := 2) (v := .pointer (some ⟨q, 20, none⟩)) rfl (by kernel_rfl) (by kernel_rfl) (by kernel_rfl) (fun _ _ _ h => h) (Or.inl ⟨by rfl, by intro w; go_simp⟩) ?_
    refine wpAny_take (i := 3) (v := .pointer (some ⟨q, 21, none⟩)) rfl (by kernel_rfl) (by kernel_rfl) (by kernel_rfl) (fun _ _ _ h => h) (Or.inl ⟨by rfl, by intro w; go_simp⟩) ?_
    refine wpAny_take (i := 5) (v := .pointer (some ⟨q, 0, none⟩)) rfl (by kernel_rfl) (by kernel_rfl) (by kernel_rfl) (fun _ _ _ h => h) (Or.inl ⟨by rfl, by intro w; go_simp⟩) ?_
    refine wpAny_take (i := 6) (v := .pointer (some ⟨q, 0, none⟩)) rfl (by kernel_rfl) (by kernel_rfl) (by kernel_rfl) (fun _ _ _ h => h) (Or.inl ⟨by rfl, by intro w; go_simp⟩) ?_
    refine wpAny_take (i := 7) (v := .pointer (some ⟨q, 20, none⟩)) rfl (by kernel_rfl) (by kernel_rfl) (by kernel_rfl) (fun _ _ _ h => h) (Or.inl ⟨by rfl, by intro w; go_simp⟩) ?_
    refine wpAny_take (i := 8) (v := .pointer (some ⟨q, 22, none⟩)) rfl (by kernel_rfl) (by kernel_rfl) (by kernel_rfl) (fun _ _ _ h => h) (Or.inl ⟨by rfl, by intro w; go_simp⟩) ?_
    try go_simp
    refine wpAny_ready (rs := [4, 9, 11]) (by kernel_rfl) (by simp) ?_
    refine ready_load_int rfl rfl 3 _ rfl ⟨q, 21, none⟩ rfl _ (FK.out _ KC0.out).1 Tryd.underlying3 ?_ ?_
    · try go_simp
      refine wpAny_ready (rs := [9, 11]) (by kernel_rfl) (by simp) ?_
      refine ready_load_int rfl rfl 3 _ rfl ⟨q, 22, none⟩ rfl _ (FK.out _ KC0.out).2.1 Tryd.underlying3 ?_ ?_
      · try go_simp
        refine wpAny_ready (rs := [10, 11]) (by kernel_rfl) (by simp) ?_
        refine ready_new rfl rfl _ _ rfl (.int .i64 x.w) (.int .i64 x.h) rfl rfl (fun r w' => r = .agg (gnew x.w x.h Z) ∧ Kp (fun _ => False) wc0 w') ((HN.out x.w x.h _).mono fun e w' h => ⟨_, h.1, rfl, h.2⟩) ?_ ?_
        · rintro r wc1 ⟨rfl, kn1⟩
          have KC1 := hide (KC0.out.trans kn1)
          clear kn1
          try go_simp
          refine wpAny_ready (rs := [11]) (by kernel_rfl) (by simp) ?_
          refine ready_alloc_row rfl rfl 53 rfl (gnew 0 0 Z) HZ.out ?_ AllReady.nil
          generalize hA2 : wc1.alloc (.cells (gnew 0 0 Z) 53) = wc2
          have KC2 : Hid (Kp (fun _ => False) w1 wc2) := by rw [← hA2]; exact KC1.out.alloc _
          have RA2 : Hid (wc2.heap[wc1.heap.size]? = some (.cells (gnew 0 0 Z) 53 (0, 0))) := by rw [← hA2]; exact heap_alloc_new _ _
          clear hA2
          try go_simp
          refine wpAny_ready (rs := [12]) (by kernel_rfl) (by simp) ?_
          have SG3 : w.heap.size < wc1.heap.size := by have h1 := (FK.out _ KC1.out).2.2.2.2; omega
          refine ready_store_row rfl rfl 53 _ _ rfl (wc1.heap.size) (gnew x.w x.h Z) rfl rfl 53 (gnew 0 0 Z) RA2.out (by rw [info_grid, gnew_size _ _ HZL.out]) (by rw [gnew_size _ _ HZL.out, gnew_size _ _ HZL.out]) (gnew_one _ _ _) ?_ AllReady.nil
          generalize hS3 : wc2.setRow (wc1.heap.size) (gnew x.w x.h Z) = wc3
          have GN3 : Hid (GnAt wc3 (wc1.heap.size) x.w x.h 0 0 Z) := ⟨by rw [← hS3]; exact setRow_heap _ _ _ _ _ _ RA2.out, HZL.out⟩
          have RR3 : Hid (wc3.heap[w.heap.size]? = some (.cells (gnew 0 0 Z) 53 (0, 0))) := by rw [← hS3]; exact (setRow_other _ _ _ _ (by omega)).trans (FK.out _ KC2.out).2.2.1
          have KK3 : Hid (Kp (fun _ => False) w wc3) := by rw [← hS3]; exact (FK.out _ KC2.out).2.2.2.1.setRowNew (by omega) _
          have SZ3 := SG3
          clear hS3
          refine wpAny_done (by kernel_rfl) ?_ _
          go_wp2
          go_meet
          case rel => exact ⟨_, rfl, SZ3, GN3.out, RR3.out, KK3.out⟩
        · refine ready_alloc_row rfl rfl 53 rfl (gnew 0 0 Z) HZ.out ?_ AllReady.nil
          generalize hA1 : wc0.alloc (.cells (gnew 0 0 Z) 53) = wc1
          have KC1 : Hid (Kp (fun _ => False) w1 wc1) := by rw [← hA1]; exact KC0.out.alloc _
          have RA1 : Hid (wc1.heap[wc0.heap.size]? = some (.cells (gnew 0 0 Z) 53 (0, 0))) := by rw [← hA1]; exact heap_alloc_new _ _
          clear hA1
          try go_simp
          refine wpAny_ready (rs := [10]) (by kernel_rfl) (by simp) ?_
          refine ready_new rfl rfl _ _ rfl (.int .i64 x.w) (.int .i64 x.h) rfl rfl (fun r w' => r = .agg (gnew x.w x.h Z) ∧ Kp (fun _ => False) wc1 w') ((HN.out x.w x.h _).mono fun e w' h => ⟨_, h.1, rfl, h.2⟩) ?_ AllReady.nil
          rintro r wc2 ⟨rfl, kn2⟩
          have KC2 := hide (KC1.out.trans kn2)
          have RA2 := hide (kn2.row RA1.out (fun hx => hx))
          clear kn2
          try go_simp
          refine wpAny_ready (rs := [12]) (by kernel_rfl) (by simp) ?_
          have SG3 : w.heap.size < wc0.heap.size := by have h1 := (FK.out _ KC0.out).2.2.2.2; omega
          refine ready_store_row rfl rfl 53 _ _ rfl (wc0.heap.size) (gnew x.w x.h Z) rfl rfl 53 (gnew 0 0 Z) RA2.out (by rw [info_grid, gnew_size _ _ HZL.out]) (by rw [gnew_size _ _ HZL.out, gnew_size _ _ HZL.out]) (gnew_one _ _ _) ?_ AllReady.nil
          generalize hS3 : wc2.setRow (wc0.heap.size) (gnew x.w x.h Z) = wc3
          have GN3 : Hid (GnAt wc3 (wc0.heap.size) x.w x.h 0 0 Z) := ⟨by rw [← hS3]; exact setRow_heap _ _ _ _ _ _ RA2.out, HZL.out⟩
          have RR3 : Hid (wc3.heap[w.heap.size]? = some (.cells (gnew 0 0 Z) 53 (0, 0))) := by rw [← hS3]; exact (setRow_other _ _ _ _ (by omega)).trans (FK.out _ KC2.out).2.2.1
          have KK3 : Hid (Kp (fun _ => False) w wc3) := by rw [← hS3]; exact (FK.out _ KC2.out).2.2.2.1.setRowNew (by omega) _
          have SZ3 := SG3
          clear hS3
          refine wpAny_done (by kernel_rfl) ?_ _
          go_wp2
          go_meet
          case rel => exact ⟨_, rfl, SZ3, GN3.out, RR3.out, KK3.out⟩
      · refine ready_alloc_row rfl rfl 53 rfl (gnew 0 0 Z) HZ.out ?_ AllReady.nil
        generalize hA1 : wc0.alloc (.cells (gnew 0 0 Z) 53) = wc1
        have KC1 : Hid (Kp (fun _ => False) w1 wc1) := by rw [← hA1]; exact KC0.out.alloc _
        have RA1 : Hid (wc1.heap[wc0.heap.size]? = some (.cells (gnew 0 0 Z) 53 (0, 0))) := by rw [← hA1]; exact heap_alloc_new _ _
        clear hA1
        try go_simp
        refine wpAny_ready (rs := [9]) (by kernel_rfl) (by simp) ?_
        refine ready_load_int rfl rfl 3 _ rfl ⟨q, 22, none⟩ rfl _ (FK.out _ KC1.out).2.1 Tryd.underlying3 ?_ AllReady.nil
        try go_simp
        refine wpAny_ready (rs := [10]) (by kernel_rfl) (by simp) ?_
        refine ready_new rfl rfl _ _ rfl (.int .i64 x.w) (.int .i64 x.h) rfl rfl (fun r w' => r = .agg (gnew x.w x.h Z) ∧ Kp (fun _ => False) wc1 w') ((HN.out x.w x.h _).mono fun e w' h => ⟨_, h.1, rfl, h.2⟩) ?_ AllReady.nil
        rintro r wc2 ⟨rfl, kn2⟩
        have KC2 := hide (KC1.out.trans kn2)
        have RA2 := hide (kn2.row RA1.out (fun hx => hx))
        clear kn2
        try go_simp
        refine wpAny_ready (rs := [12]) (by kernel_rfl) (by simp) ?_
        have SG3 : w.heap.size < wc0.heap.size := by have h1 := (FK.out _ KC0.out).2.2.2.2; omega
        refine ready_store_row rfl rfl 53 _ _ rfl (wc0.heap.size) (gnew x.w x.h Z) rfl rfl 53 (gnew 0 0 Z) RA2.out (by rw [info_grid, gnew_size _ _ HZL.out]) (by rw [gnew_size _ _ HZL.out, gnew_size _ _ HZL.out]) (gnew_one _ _ _) ?_ AllReady.nil
        generalize hS3 : wc2.setRow (wc0.heap.size) (gnew x.w x.h Z) = wc3
        have GN3 : Hid (GnAt wc3 (wc0.heap.size) x.w x.h 0 0 Z) := ⟨by rw [← hS3]; exact setRow_heap _ _ _ _ _ _ RA2.out, HZL.out⟩
        have RR3 : Hid (wc3.heap[w.heap.size]? = some (.cells (gnew 0 0 Z) 53 (0, 0))) := by rw [← hS3]; exact (setRow_other _ _ _ _ (by omega)).trans (FK.out _ KC2.out).2.2.1
        have KK3 : Hid (Kp (fun _ => False) w wc3) := by rw [← hS3]; exact (FK.out _ KC2.out).2.2.2.1.setRowNew (by omega) _
        have SZ3 := SG3
        clear hS3
        refine wpAny_done (by kernel_rfl) ?_ _
        go_wp2
        go_meet
        case rel => exact ⟨_, rfl, SZ3, GN3.out, RR3.out, KK3.out⟩
    · refine ready_load_int rfl rfl 3 _ rfl ⟨q, 22, none⟩ rfl _ (FK.out _ KC0.out).2.1 Tryd.underlying3 ?_ ?_
      · try go_simp
        refine wpAny_ready (rs := [4, 11]) (by kernel_rfl) (by simp) ?_
        refine ready_load_int rfl rfl 3 _ rfl ⟨q, 21, none⟩ rfl _ (FK.out _ KC0.out).1 Tryd.underlying3 ?_ ?_
        · try go_simp
          refine wpAny_ready (rs := [10, 11]) (by kernel_rfl) (by simp) ?_
          refine ready_new rfl rfl _ _ rfl (.int .i64 x.w) (.int .i64 x.h) rfl rfl (fun r w' => r = .agg (gnew x.w x.h Z) ∧ Kp (fun _ => False) wc0 w') ((HN.out x.w x.h _).mono fun e w' h => ⟨_, h.1, rfl, h.2⟩) ?_ ?_
          · rintro r wc1 ⟨rfl, kn1⟩
            have KC1 := hide (KC0.out.trans kn1)
            clear kn1
            try go_simp
            refine wpAny_ready (rs := [11]) (by kernel_rfl) (by simp) ?_
            refine ready_alloc_row rfl rfl 53 rfl (gnew 0 0 Z) HZ.out ?_ AllReady.nil
            generalize hA2 : wc1.alloc (.cells (gnew 0 0 Z) 53) = wc2
            have KC2 : Hid (Kp (fun _ => False) w1 wc2) := by rw [← hA2]; exact KC1.out.alloc _
            have RA2 : Hid (wc2.heap[wc1.heap.size]? = some (.cells (gnew 0 0 Z) 53 (0, 0))) := by rw [← hA2]; exact heap_alloc_new _ _
            clear hA2
            try go_simp
            refine wpAny_ready (rs := [12]) (by kernel_rfl) (by simp) ?_
            have SG3 : w.heap.size < wc1.heap.size := by have h1 := (FK.out _ KC1.out).2.2.2.2; omega
            refine ready_store_row rfl rfl 53 _ _ rfl (wc1.heap.size) (gnew x.w x.h Z) rfl rfl 53 (gnew 0 0 Z) RA2.out (by rw [info_grid, gnew_size _ _ HZL.out]) (by rw [gnew_size _ _ HZL.out, gnew_size _ _ HZL.out]) (gnew_one _ _ _) ?_ AllReady.nil
            generalize hS3 : wc2.setRow (wc1.heap.size) (gnew x.w x.h Z) = wc3
            have GN3 : Hid (GnAt wc3 (wc1.heap.size) x.w x.h 0 0 Z) := ⟨by rw [← hS3]; exact setRow_heap _ _ _ _ _ _ RA2.out, HZL.out⟩
            have RR3 : Hid (wc3.heap[w.heap.size]? = some (.cells (gnew 0 0 Z) 53 (0, 0))) := by rw [← hS3]; exact (setRow_other _ _ _ _ (by omega)).trans (FK.out _ KC2.out).2.2.1
            have KK3 : Hid (Kp (fun _ => False) w wc3) := by rw [← hS3]; exact (FK.out _ KC2.out).2.2.2.1.setRowNew (by omega) _
            have SZ3 := SG3
            clear hS3
            refine wpAny_done (by kernel_rfl) ?_ _
            go_wp2
            go_meet
            case rel => exact ⟨_, rfl, SZ3, GN3.out, RR3.out, KK3.out⟩
          · refine ready_alloc_row rfl rfl 53 rfl (gnew 0 0 Z) HZ.out ?_ AllReady.nil
            generalize hA1 : wc0.alloc (.cells (gnew 0 0 Z) 53) = wc1
            have KC1 : Hid (Kp (fun _ => False) w1 wc1) := by rw [← hA1]; exact KC0.out.alloc _
            have RA1 : Hid (wc1.heap[wc0.heap.size]? = some (.cells (gnew 0 0 Z) 53 (0, 0))) := by rw [← hA1]; exact heap_alloc_new _ _
            clear hA1
            try go_simp
            refine wpAny_ready (rs := [10]) (by kernel_rfl) (by simp) ?_
            refine ready_new rfl rfl _ _ rfl (.int .i64 x.w) (.int .i64 x.h) rfl rfl (fun r w' => r = .agg (gnew x.w x.h Z) ∧ Kp (fun _ => False) wc1 w') ((HN.out x.w x.h _).mono fun e w' h => ⟨_, h.1, rfl, h.2⟩) ?_ AllReady.nil
            rintro r wc2 ⟨rfl, kn2⟩
            have KC2 := hide (KC1.out.trans kn2)
            have RA2 := hide (kn2.row RA1.out (fun hx => hx))
            clear kn2
            try go_simp
            refine wpAny_ready (rs := [12]) (by kernel_rfl) (by simp) ?_
            have SG3 : w.heap.size < wc0.heap.size := by have h1 := (FK.out _ KC0.out).2.2.2.2; omega
            refine ready_store_row rfl rfl 53 _ _ rfl (wc0.heap.size) (gnew x.w x.h Z) rfl rfl 53 (gnew 0 0 Z) RA2.out (by rw [info_grid, gnew_size _ _ HZL.out]) (by rw [gnew_size _ _ HZL.out, gnew_size _ _ HZL.out]) (gnew_one _ _ _) ?_ AllReady.nil
            generalize hS3 : wc2.setRow (wc0.heap.size) (gnew x.w x.h Z) = wc3
            have GN3 : Hid (GnAt wc3 (wc0.heap.size) x.w x.h 0 0 Z) := ⟨by rw [← hS3]; exact setRow_heap _ _ _ _ _ _ RA2.out, HZL.out⟩
            have RR3 : Hid (wc3.heap[w.heap.size]? = some (.cells (gnew 0 0 Z) 53 (0, 0))) := by rw [← hS3]; exact (setRow_other _ _ _ _ (by omega)).trans (FK.out _ KC2.out).2.2.1
            have KK3 : Hid (Kp (fun _ => False) w wc3) := by rw [← hS3]; exact (FK.out _ KC2.out).2.2.2.1.setRowNew (by omega) _
            have SZ3 := SG3
            clear hS3
            refine wpAny_done (by kernel_rfl) ?_ _
            go_wp2
            go_meet
            case rel => exact ⟨_, rfl, SZ3, GN3.out, RR3.out, KK3.out⟩
        · refine ready_alloc_row rfl rfl 53 rfl (gnew 0 0 Z) HZ.out ?_ AllReady.nil
          generalize hA1 : wc0.alloc (.cells (gnew 0 0 Z) 53) = wc1
          have KC1 : Hid (Kp (fun _ => False) w1 wc1) := by rw [← hA1]; exact KC0.out.alloc _
          have RA1 : Hid (wc1.heap[wc0.heap.size]? = some (.cells (gnew 0 0 Z) 53 (0, 0))) := by rw [← hA1]; exact heap_alloc_new _ _
          clear hA1
          try go_simp
          refine wpAny_ready (rs := [4]) (by kernel_rfl) (by simp) ?_
          refine ready_load_int rfl rfl 3 _ rfl ⟨q, 21, none⟩ rfl _ (FK.out _ KC1.out).1 Tryd.underlying3 ?_ AllReady.nil
          try go_simp
          refine wpAny_ready (rs := [10]) (by kernel_rfl) (by simp) ?_
          refine ready_new rfl rfl _ _ rfl (.int .i64 x.w) (.int .i64 x.h) rfl rfl (fun r w' => r = .agg (gnew x.w x.h Z) ∧ Kp (fun _ => False) wc1 w') ((HN.out x.w x.h _).mono fun e w' h => ⟨_, h.1, rfl, h.2⟩) ?_ AllReady.nil
          rintro r wc2 ⟨rfl, kn2⟩
          have KC2 := hide (KC1.out.trans kn2)
          have RA2 := hide (kn2.row RA1.out (fun hx => hx))
          clear kn2
          try go_simp
          refine wpAny_ready (rs := [12]) (by kernel_rfl) (by simp) ?_
          have SG3 : w.heap.size < wc0.heap.size := by have h1 := (FK.out _ KC0.out).2.2.2.2; omega
          refine ready_store_row rfl rfl 53 _ _ rfl (wc0.heap.size) (gnew x.w x.h Z) rfl rfl 53 (gnew 0 0 Z) RA2.out (by rw [info_grid, gnew_size _ _ HZL.out]) (by rw [gnew_size _ _ HZL.out, gnew_size _ _ HZL.out]) (gnew_one _ _ _) ?_ AllReady.nil
          generalize hS3 : wc2.setRow (wc0.heap.size) (gnew x.w x.h Z) = wc3
          have GN3 : Hid (GnAt wc3 (wc0.heap.size) x.w x.h 0 0 Z) := ⟨by rw [← hS3]; exact setRow_heap _ _ _ _ _ _ RA2.out, HZL.out⟩
          have RR3 : Hid (wc3.heap[w.heap.size]? = some (.cells (gnew 0 0 Z) 53 (0, 0))) := by rw [← hS3]; exact (setRow_other _ _ _ _ (by omega)).trans (FK.out _ KC2.out).2.2.1
          have KK3 : Hid (Kp (fun _ => False) w wc3) := by rw [← hS3]; exact (FK.out _ KC2.out).2.2.2.1.setRowNew (by omega) _
          have SZ3 := SG3
          clear hS3
          refine wpAny_done (by kernel_rfl) ?_ _
          go_wp2
          go_meet
          case rel => exact ⟨_, rfl, SZ3, GN3.out, RR3.out, KK3.out⟩
      · refine ready_alloc_row rfl rfl 53 rfl (gnew 0 0 Z) HZ.out ?_ AllReady.nil
        generalize hA1 : wc0.alloc (.cells (gnew 0 0 Z) 53) = wc1
        have KC1 : Hid (Kp (fun _ => False) w1 wc1) := by rw [← hA1]; exact KC0.out.alloc _
        have RA1 : Hid (wc1.heap[wc0.heap.size]? = some (.cells (gnew 0 0 Z) 53 (0, 0))) := by rw [← hA1]; exact heap_alloc_new _ _
        clear hA1
        try go_simp
        refine wpAny_ready (rs := [4, 9]) (by kernel_rfl) (by simp) ?_
        refine ready_load_int rfl rfl 3 _ rfl ⟨q, 21, none⟩ rfl _ (FK.out _ KC1.out).1 Tryd.underlying3 ?_ ?_
        · try go_simp
          refine wpAny_ready (rs := [9]) (by kernel_rfl) (by simp) ?_
          refine ready_load_int rfl rfl 3 _ rfl ⟨q, 22, none⟩ rfl _ (FK.out _ KC1.out).2.1 Tryd.underlying3 ?_ AllReady.nil
          try go_simp
          refine wpAny_ready (rs := [10]) (by kernel_rfl) (by simp) ?_
          refine ready_new rfl rfl _ _ rfl (.int .i64 x.w) (.int .i64 x.h) rfl rfl (fun r w' => r = .agg (gnew x.w x.h Z) ∧ Kp (fun _ => False) wc1 w') ((HN.out x.w x.h _).mono fun e w' h => ⟨_, h.1, rfl, h.2⟩) ?_ AllReady.nil
          rintro r wc2 ⟨rfl, kn2⟩
          have KC2 := hide (KC1.out.trans kn2)
          have RA2 := hide (kn2.row RA1.out (fun hx => hx))
          clear kn2
          try go_simp
          refine wpAny_ready (rs := [12]) (by kernel_rfl) (by simp) ?_
          have SG3 : w.heap.size < wc0.heap.size := by have h1 := (FK.out _ KC0.out).2.2.2.2; omega
          refine ready_store_row rfl rfl 53 _ _ rfl (wc0.heap.size) (gnew x.w x.h Z) rfl rfl 53 (gnew 0 0 Z) RA2.out (by rw [info_grid, gnew_size _ _ HZL.out]) (by rw [gnew_size _ _ HZL.out, gnew_size _ _ HZL.out]) (gnew_one _ _ _) ?_ AllReady.nil
          generalize hS3 : wc2.setRow (wc0.heap.size) (gnew x.w x.h Z) = wc3
          have GN3 : Hid (GnAt wc3 (wc0.heap.size) x.w x.h 0 0 Z) := ⟨by rw [← hS3]; exact setRow_heap _ _ _ _ _ _ RA2.out, HZL.out⟩
          have RR3 : Hid (wc3.heap[w.heap.size]? = some (.cells (gnew 0 0 Z) 53 (0, 0))) := by rw [← hS3]; exact (setRow_other _ _ _ _ (by omega)).trans (FK.out _ KC2.out).2.2.1
          have KK3 : Hid (Kp (fun _ => False) w wc3) := by rw [← hS3]; exact (FK.out _ KC2.out).2.2.2.1.setRowNew (by omega) _
          have SZ3 := SG3
          clear hS3
          refine wpAny_done (by kernel_rfl) ?_ _
          go_wp2
          go_meet
          case rel => exact ⟨_, rfl, SZ3, GN3.out, RR3.out, KK3.out⟩
        · refine ready_load_int rfl rfl 3 _ rfl ⟨q, 22, none⟩ rfl _ (FK.out _ KC1.out).2.1 Tryd.underlying3 ?_ AllReady.nil
          try go_simp
          refine wpAny_ready (rs := [4]) (by kernel_rfl) (by simp) ?_
          refine ready_load_int rfl rfl 3 _ rfl ⟨q, 21, none⟩ rfl _ (FK.out _ KC1.out).1 Tryd.underlying3 ?_ AllReady.nil
          try go_simp
          refine wpAny_ready (rs := [10]) (by kernel_rfl) (by simp) ?_
          refine ready_new rfl rfl _ _ rfl (.int .i64 x.w) (.int .i64 x.h) rfl rfl (fun r w' => r = .agg (gnew x.w x.h Z) ∧ Kp (fun _ => False) wc1 w') ((HN.out x.w x.h _).mono fun e w' h => ⟨_, h.1, rfl, h.2⟩) ?_ AllReady.nil
          rintro r wc2 ⟨rfl, kn2⟩
          have KC2 := hide (KC1.out.trans kn2)
          have RA2 := hide (kn2.row RA1.out (fun hx => hx))
          clear kn2
          try go_simp
          refine wpAny_ready (rs := [12]) (by kernel_rfl) (by simp) ?_
          have SG3 : w.heap.size < wc0.heap.size := by have h1 := (FK.out _ KC0.out).2.2.2.2; omega
          refine ready_store_row rfl rfl 53 _ _ rfl (wc0.heap.size) (gnew x.w x.h Z) rfl rfl 53 (gnew 0 0 Z) RA2.out (by rw [info_grid, gnew_size _ _ HZL.out]) (by rw [gnew_size _ _ HZL.out, gnew_size _ _ HZL.out]) (gnew_one _ _ _) ?_ AllReady.nil
          generalize hS3 : wc2.setRow (wc0.heap.size) (gnew x.w x.h Z) = wc3
          have GN3 : Hid (GnAt wc3 (wc0.heap.size) x.w x.h 0 0 Z) := ⟨by rw [← hS3]; exact setRow_heap _ _ _ _ _ _ RA2.out, HZL.out⟩
          have RR3 : Hid (wc3.heap[w.heap.size]? = some (.cells (gnew 0 0 Z) 53 (0, 0))) := by rw [← hS3]; exact (setRow_other _ _ _ _ (by omega)).trans (FK.out _ KC2.out).2.2.1
          have KK3 : Hid (Kp (fun _ => False) w wc3) := by rw [← hS3]; exact (FK.out _ KC2.out).2.2.2.1.setRowNew (by omega) _
          have SZ3 := SG3
          clear hS3
          refine wpAny_done (by kernel_rfl) ?_ _
          go_wp2
          go_meet
          case rel => exact ⟨_, rfl, SZ3, GN3.out, RR3.out, KK3.out⟩
  case rest =>
    obtain ⟨gb, rfl, sg, gn, rr, kk⟩ := hcut
    have GN : Hid (GmAt wc gb x.w x.h (AX 0).2) := by
      show GnAt _ _ _ _ _ _ _
      rw [AX0.out, ← HZ0.out]
      exact gn
    have RR := hide rr
    have KK := hide kk
    have G0 := hide (H.out.keep kk (fun hx => hx))
    have sgb := GnAt.lt gn
    clear gn rr kk
    go_wp2_with fail
    refine (LA.out _ G0.out).mono ?_
    rintro e w2 ⟨rfl, k2⟩
    have hk2 := k2.size
    have GN2 : Hid (GmAt w2 gb x.w x.h (AX 0).2) := GnAt.keep GN.out k2 (fun hx => hx)
    have RR2 := hide (k2.row RR.out (fun hx => hx))
    have KK2 := hide (KK.out.trans k2)
    clear k2 G0 LA
    go_wp2_with (refine wpList_store_row_g rfl 81 _ _ rfl w2.heap.size (bxv ae aL aT aR aB) rfl rfl 81 (bxv false 0 0 0 0) (heap_alloc_new _ _) info_box rfl (bxv_one _ _ _ _ _) ?_
                 intro w3 hw3
                 have B3 : Hid (w3.heap[w2.heap.size]? = some (.cells (bxv ae aL aT aR aB) 81 (0, 0))) := by rw [hw3]; exact setRow_heap _ _ _ _ _ _ (heap_alloc_new _ _)
                 have KA : Kp (fun _ => False) w2 w3 := by rw [hw3]; exact ((Kp.refl _ _).alloc _).setRowNew (Nat.le_refl _) _
                 have GN3 : Hid (GmAt w3 gb x.w x.h (AX 0).2) := GnAt.keep GN2.out KA (fun hx => hx)
                 have RR3 := hide (KA.row RR2.out (fun hx => hx))
                 have KK3 := hide (KK2.out.trans KA)
                 have b2 : w3.cell? ⟨w2.heap.size, 2, none⟩ = some (.int .i64 aT) := cell_of_row _ _ 2 _ _ _ B3.out
                 clear hw3 KA)
    obtain ⟨bb, hbb⟩ : ∃ bb, bb = w2.heap.size := ⟨_, rfl⟩
    rw [← hbb] at B3 b2 ⊢
    have sbb : gb < bb := by omega
    clear hbb GN2 RR2 KK2 GN RR KK hk2 sgb
    have abd := ABD.out
    obtain ⟨nX, hnX⟩ : ∃ nX, nX = (aR - aL + 1).toNat := ⟨_, rfl⟩
    obtain ⟨nY, hnY⟩ : ∃ nY, nY = (aB - aT + 1).toNat := ⟨_, rfl⟩
    rw [← hnX] at AOK CUT AXS
    rw [← hnY] at HNR
    go_loopg [6] nY (fun gk yy wr => ∃ j : Nat, j ≤ nY ∧ nY ≤ j + gk ∧ yy = .int .i64 (aT + j) ∧ GmAt wr gb x.w x.h (AX j).2 ∧ (AX j).1 = true ∧ wr.heap[w.heap.size]? = some (.cells (gnew 0 0 Z) 53 (0, 0)) ∧ wr.heap[bb]? = some (.cells (bxv ae aL aT aR aB) 81 (0, 0)) ∧ Kp (fun _ => False) w wr)
    case atStart => exact ⟨0, by omega, by omega, by simp, GN3.out, by rw [AX0.out], RR3.out, B3.out, KK3.out⟩
    case round =>
      obtain ⟨j, g1, g2, rfl, m2, ok2, r2, b2', k2⟩ := hrel
      have N2 := hide m2
      have OK2 := hide ok2
      have R2 := hide r2
      have B2 := hide b2'
      have K2 := hide k2
      have c4 : wr.cell? ⟨bb, 4, none⟩ = some (.int .i64 aB) := cell_of_row _ _ 4 _ _ _ b2'
      have c1 : wr.cell? ⟨bb, 1, none⟩ = some (.int .i64 aL) := cell_of_row _ _ 1 _ _ _ b2'
      clear m2 r2 b2' k2 b2 ok2
      by_cases hj : aT + j ≤ aB
      · have AOKj := hide (AOK.out j (fun i j' hi hj' => AHAS.out _ _ (by omega) (by omega)))
        go_wp2_with fail
        obtain ⟨gO, hgO⟩ : ∃ g, g = gk := ⟨gk, rfl⟩
        have HGO := hide hgO
        obtain ⟨wO, hwO⟩ : ∃ u, u = wr := ⟨wr, rfl⟩
        rw [← hwO] at N2 R2 K2 B2
        rw [← RX0.out] at N2 OK2
        clear hgO c4 c1
        go_loopg [7] nX (fun gi xx ws => ∃ i : Nat, i ≤ nX ∧ nX ≤ i + gi ∧ xx = .int .i64 (aL + i) ∧ GmAt ws gb x.w x.h (RX j i).2 ∧ (RX j i).1 = true ∧ ws.heap[w.heap.size]? = some (.cells (gnew 0 0 Z) 53 (0, 0)) ∧ ws.heap[bb]? = some (.cells (bxv ae aL aT aR aB) 81 (0, 0)) ∧ Kp (fun _ => False) w ws)
        case atStart => exact ⟨0, by omega, by omega, by simp, by rw [← hwO]; exact N2.out, OK2.out, by rw [← hwO]; exact R2.out, by rw [← hwO]; exact B2.out, by rw [← hwO]; exact K2.out⟩
        case round =>
          obtain ⟨i, r1, r2, rfl, n3, ok3, r3, b3, k3⟩ := hrel
          have N3 := hide n3
          have OK3 := hide ok3
          have R3 := hide r3
          have B3' := hide b3
          have K3 := hide k3
          have G3 := hide (H.out.keep k3 (fun hx => hx))
          have c3 : wr.cell? ⟨bb, 3, none⟩ = some (.int .i64 aR) := cell_of_row _ _ 3 _ _ _ b3
          clear n3 r3 k3 b3 ok3
          by_cases hi : aL + i ≤ aR
          · have hhas := AHAS.out (aL + i) (aT + j) (by omega) (by omega)
            have HHAS := hide hhas
            have ROKj := hide (ROKX.out j AOKj.out i (fun i' hi' => AHAS.out _ _ (by omega) (by omega)))
            have LGk := hide (fun wx hg => LG.out wx (aL + i) (aT + j) hg)
            have LOk := hide (fun wx hg => LO.out wx (aL + i) (aT + j) (by omega) (by omega) hhas hg)
            have h8 := L8.out (fun a b => nbG x g ((aL + i) + ((a : Int) - 1)) ((aT + j) + ((b : Int) - 1)))
            have hsb := GB.out (aL + i) (aT + j)
            have HV := hide (VDEF.out (aL + i) (aT + j))
            have HC := hide ((RXS.out j i).trans (CELL.out (RX j i) (aL + i) (aT + j)))
            rw [OK3.out, if_neg (by simp)] at HC
            generalize valN r x g (aL + i) (aT + j) = vv at *
            generalize ones9 (onesW r.around fun a b => nbG x g ((aL + i) + ((a : Int) - 1)) ((aT + j) + ((b : Int) - 1))) 9 = on at *
            generalize getP x.w x.h g.l g.t g.S (aL + i) (aT + j) = sb at *
            clear hhas
            go_wp2_with fail
            refine (LOk.out _ G3.out).mono ?_
            rintro e w4 ⟨rfl, k4⟩
            have N4 : Hid (GmAt w4 gb x.w x.h (RX j i).2) := GnAt.keep N3.out k4 (fun hx => hx)
            have R4 := hide (k4.row R3.out (fun hx => hx))
            have B4 := hide (k4.row B3'.out (fun hx => hx))
            have K4 := hide (K3.out.trans k4)
            have G4 := hide (G3.out.keep k4 (fun hx => hx))
            clear k4 c3
            go_wp2_with fail
            refine (LGk.out _ G4.out).mono ?_
            rintro e w5 ⟨rfl, hw5⟩
            subst w5
            have ld2 := hide (fun j v => G4.out.rule ROK.out j v)
            go_wp2_with (refine wpList_load_at rfl 48 _ rfl q 0 rfl (rulev r) ld2.out _ Tryd.underlying48 rfl (by rw [info_rule, rulev_size ROK.out]) ?_)
            refine (LR.out _ sb on hsb (by omega)).mono ?_
            rw [← HV.out]
            rintro e w6 ⟨rfl, k6⟩
            have N6 : Hid (GmAt w6 gb x.w x.h (RX j i).2) := GnAt.keep N4.out k6 (fun hx => hx)
            have R6 := hide (k6.row R4.out (fun hx => hx))
            have B6 := hide (k6.row B4.out (fun hx => hx))
            have K6 := hide (K4.out.trans k6)
            have G6 := hide (G4.out.keep k6 (fun hx => hx))
            clear k6
            by_cases hv : vv = 0
            · rw [if_pos hv] at HC
              subst hv
              go_wp2_with fail
              go_roundg (gk - 1)
              case measure => omega
              case rel => exact ⟨i + 1, by omega, by omega, by go_num, by rw [HC.out]; exact N6.out, by rw [HC.out]; exact OK3.out, R6.out, B6.out, K6.out⟩
            · rw [if_neg hv] at HC
              have bv : (vv == 0) = false := by simpa using hv
              clear hv
              have HP := hide (LS.out w6 gb (RX j i).2 (aL + i) (aT + j) vv G6.out N6.out ROKj.out HHAS.out)
              rw [← HC.out] at HP
              go_wp2_with fail
              refine HP.out.mono ?_
              rintro e w7 ⟨rfl, n7, k7⟩
              have N7 := hide n7
              have R7 := hide (k7.row R6.out (by omega))
              have B7 := hide (k7.row B6.out (by omega))
              have K7 := hide (K6.out.tr k7 (by intro z hz1 hz2; omega))
              clear n7 k7
              cases hy : (RX j (i + 1)).1
              · have HE : Hid (NR = RX j (i + 1)) := (HNR.out.symm.trans (CUT.out j (i + 1) (by omega) hy nY (by omega)))
                have HY := hide hy
                clear hy
                generalize RX j (i + 1) = RR' at *
                have RW7 : Hid (w7.heap[gb]? = some (.cells (gnv x.w x.h RR'.2.l RR'.2.t RR'.2.S) 53 (0, 0))) := N7.out.row
                have LN7 := hide N7.out.len
                go_wp2_with (first
                  | (refine wpList_load_row rfl 53 _ rfl gb rfl 53 (gnv x.w x.h RR'.2.l RR'.2.t RR'.2.S) (0, 0) _ RW7.out Tryd.underlying53 rfl (by rw [info_grid, gnv_size _ _ _ _ LN7.out]) ?_)
                  | (refine wpList_store_row_g rfl 53 _ _ rfl w.heap.size (gnv x.w x.h RR'.2.l RR'.2.t RR'.2.S) rfl rfl 53 (gnew 0 0 Z) R7.out (by rw [info_grid, gnv_size _ _ _ _ LN7.out]) (by rw [gnew_size _ _ HZL.out, gnv_size _ _ _ _ LN7.out]) (gnv_one _ _ _ _ _) ?_
                     intro w8 hw8
                     have R8 : Hid (w8.heap[w.heap.size]? = some (.cells (gnv x.w x.h RR'.2.l RR'.2.t RR'.2.S) 53 (0, 0))) := by rw [hw8]; exact setRow_heap _ _ _ _ _ _ R7.out
                     have K8 : Hid (Kp (fun _ => False) w w8) := by rw [hw8]; exact K7.out.setRowNew (Nat.le_refl _) _
                     clear hw8))
                exact bodyPost_ret (v := .tuple #[.agg (gnv x.w x.h RR'.2.l RR'.2.t RR'.2.S), .bool false]) (results_row2 Tryd.results35 _ _ w.heap.size 53 (gnv x.w x.h RR'.2.l RR'.2.t RR'.2.S) (0, 0) _ _ rfl rfl R8.out Tryd.underlying53 rfl (by rw [info_grid, gnv_size _ _ _ _ LN7.out])) rfl ⟨by rw [HE.out, HY.out], K8.out⟩
              · have HY := hide hy
                go_wp2_with fail
                go_roundg (gk - 1)
                case measure => omega
                case rel => exact ⟨i + 1, by omega, by omega, by go_num, N7.out, HY.out, R7.out, B7.out, K7.out⟩
          · have ei : i = nX := by omega
            rw [ei, ← AXS.out] at N3 OK3
            clear ei
            go_wp2_with fail
            go_roundg (gO - 1)
            case measure => have := HGO.out; omega
            case rel => exact ⟨j + 1, by omega, by have := HGO.out; omega, by go_num, N3.out, OK3.out, R3.out, B3'.out, K3.out⟩
      · have ej : j = nY := by omega
        have HE : Hid (NR = AX j) := by
          show _ = _
          rw [← HNR.out, ej]
        clear ej
        generalize AX j = RR' at *
        have RW7 : Hid (wr.heap[gb]? = some (.cells (gnv x.w x.h RR'.2.l RR'.2.t RR'.2.S) 53 (0, 0))) := N2.out.row
        have LN7 := hide N2.out.len
        go_wp2_with (first
          | (refine wpList_load_row rfl 53 _ rfl gb rfl 53 (gnv x.w x.h RR'.2.l RR'.2.t RR'.2.S) (0, 0) _ RW7.out Tryd.underlying53 rfl (by rw [info_grid, gnv_size _ _ _ _ LN7.out]) ?_)
          | (refine wpList_store_row_g rfl 53 _ _ rfl w.heap.size (gnv x.w x.h RR'.2.l RR'.2.t RR'.2.S) rfl rfl 53 (gnew 0 0 Z) R2.out (by rw [info_grid, gnv_size _ _ _ _ LN7.out]) (by rw [gnew_size _ _ HZL.out, gnv_size _ _ _ _ LN7.out]) (gnv_one _ _ _ _ _) ?_
             intro w8 hw8
             have R8 : Hid (w8.heap[w.heap.size]? = some (.cells (gnv x.w x.h RR'.2.l RR'.2.t RR'.2.S) 53 (0, 0))) := by rw [hw8]; exact setRow_heap _ _ _ _ _ _ R2.out
             have K8 : Hid (Kp (fun _ => False) w w8) := by rw [hw8]; exact K2.out.setRowNew (Nat.le_refl _) _
             clear hw8))
        exact bodyPost_ret (v := .tuple #[.agg (gnv x.w x.h RR'.2.l RR'.2.t RR'.2.S), .bool true]) (results_row2 Tryd.results35 _ _ w.heap.size 53 (gnv x.w x.h RR'.2.l RR'.2.t RR'.2.S) (0, 0) _ _ rfl rfl R8.out Tryd.underlying53 rfl (by rw [info_grid, gnv_size _ _ _ _ LN7.out])) rfl ⟨by rw [HE.out, OK2.out], K8.out⟩
end Go.Proofs.YtbdbkjngdhcjpaaDoor
