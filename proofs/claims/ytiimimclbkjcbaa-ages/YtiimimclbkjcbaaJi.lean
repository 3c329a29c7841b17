import Derived.Test.YtiimimclbkjcbaaM12
namespace Go.Proofs.Ytiimimclbkjcbaa
open Go.RowKit
open Go.Proofs

theorem kinds1 : ∀ k (h : k < ({ data := #[80] } : ByteArray).size), ((({ data := #[80] } : ByteArray)[k]).toNat : Int) ∈ [(80 : Int), 84, 75, 67, 83] := by
  intro k h
  have h5 : k < 1 := h
  have : k = 0 := by omega
  subst this
  exact List.mem_cons_self
theorem kinds1_at {x : Int} (h : ∃ k, ∃ h : k < ({ data := #[80] } : ByteArray).size, x = ((({ data := #[80] } : ByteArray)[k]).toNat : Int)) : x = 80 := by
  obtain ⟨k, hk, rfl⟩ := h
  have h5 : k < 1 := hk
  have : k = 0 := by omega
  subst this
  rfl
theorem MxF.keepq {w w' : World} {base q : Nat} {v : Value} {n W : Nat} {f : Nat → Nat → Int} (h : MxF w base v n W f) (k : Kp (· = q) w w') (hb : q < base) {c : Array Value} {fr : Nat × Nat} (hq : w.heap[q]? = some (Obj.cells c 63 fr)) : MxF w' base v n W f := by
  obtain ⟨vs, ho, hr⟩ := h.own
  refine ⟨vs, own_keep ho k (by intro g hg hx; omega), fun i hi => ?_⟩
  obtain ⟨gi, ci, h1, cur, h2, h3⟩ := hr i hi
  refine ⟨gi, ci, h1, cur, k.row h2 ?_, h3⟩
  intro e
  rw [e, hq] at h2
  simp at h2
/-- What 'Ages' keeps. -/
structure Ast (w wr : World) (g2 q : Nat) (p : Pu.Plan) (v : Wish) (age : Int) (S : List Int) : Prop where
  wish : WsAt wr w.heap.size v
  plan : PlAt wr g2 p
  grid : GrAt wr q (preOf (Pu.ruleOf p) (Pu.shapeOf p) age) p.w p.h 0 0 S
  keep : Kp (fun _ => False) w wr
theorem Ast.kp {w wr w' : World} {g2 q : Nat} {p : Pu.Plan} {v : Wish} {age : Int} {S : List Int} (h : Ast w wr g2 q p v age S) (k : Kp (fun _ => False) wr w') : Ast w w' g2 q p v age S :=
  ⟨h.wish.keep k (fun hx => hx), h.plan.keep k (fun hx => hx), h.grid.keep k (fun hx => hx), h.keep.trans k⟩

set_option maxRecDepth 100000 in
set_option maxHeartbeats 2000000 in
theorem ages_walk (v : Wish) (hv : WishOk v) (w : World) :
    Calls Try.prog 6 #[.agg (wishv v)] w fun e w' => e = .returned (.bool true) ∧ Kp (fun _ => False) w w' := by
  have LPL := hide (fun wx => planned_any v hv { data := #[80] } 12 (by decide) (by decide) kinds1 (by omega) wx)
  obtain ⟨ti, ti1, ti2, ti3, ti4⟩ := info_int1
  obtain ⟨tr, tr1, tr2, tr3, tr4⟩ := info_row1
  have TI1 := hide ti1
  have TI2 := hide ti2
  have TI3 := hide ti3
  have TI4 := hide ti4
  have TR1 := hide tr1
  have TR2 := hide tr2
  have TR3 := hide tr3
  have TR4 := hide tr4
  clear ti1 ti2 ti3 ti4 tr1 tr2 tr3 tr4
  go_enter Try.func6, Try.ntmps6
  go_wp2_with (first
    | (refine wpList_box_row rfl 32 _ rfl (wishv v) rfl ?_
       intro w1 hw1
       have W1 : Hid (WsAt w1 w.heap.size v) := ⟨by rw [hw1]; exact heap_alloc_new _ _⟩
       have K1 : Hid (Kp (fun _ => False) w w1) := by rw [hw1]; exact (Kp.refl _ _).alloc _
       clear hw1)
    | (refine wpList_load_row rfl 32 _ rfl w.heap.size rfl 32 (wishv v) (0, 0) _ W1.out.row Try.underlying32 rfl info_wish ?_))
  refine (LPL.out _).mono ?_
  rintro e w2 ⟨⟨p, rfl, hp, _, _, hkd⟩, k2⟩
  have hk80 := kinds1_at hkd
  have W2 := hide (W1.out.keep k2 (fun hx => hx))
  have K2 := hide (K1.out.trans k2)
  clear k2 hkd
  have LMA := hide (fun wx => pmade_any p hp v hv.cells wx)
  go_wp2_with (first
    | (refine wpList_alloc_row rfl 34 rfl (planv zp) zero_plan ?_
       intro w3 hw3
       have W3 : Hid (WsAt w3 w.heap.size v) := by rw [hw3]; exact W2.out.keep ((Kp.refl (fun _ => False) _).alloc _) (fun hx => hx)
       have P3 : Hid (PlAt w3 w2.heap.size zp) := ⟨by rw [hw3]; exact heap_alloc_new _ _⟩
       have K3 : Hid (Kp (fun _ => False) w w3) := by rw [hw3]; exact K2.out.alloc _
       clear hw3)
    | (refine wpList_store_row_g rfl 34 _ _ rfl w2.heap.size (planv p) rfl rfl 34 (planv zp) P3.out.row info_plan rfl (planv_one _) ?_
       intro w4 hw4
       have n1 : w.heap.size ≠ w2.heap.size := by
         have := W2.out.row
         have h1 := (Array.getElem?_eq_some_iff.1 this).1
         omega
       have W4 : Hid (WsAt w4 w.heap.size v) := ⟨by rw [hw4]; exact (setRow_other _ _ _ _ n1).trans W3.out.row⟩
       have P4 : Hid (PlAt w4 w2.heap.size p) := ⟨by rw [hw4]; exact setRow_heap _ _ _ _ _ _ P3.out.row⟩
       have K4 : Hid (Kp (fun _ => False) w w4) := by rw [hw4]; exact K3.out.setRowNew K2.out.size _
       clear hw4)
    | (refine wpList_load_row rfl 34 _ rfl w2.heap.size rfl 34 (planv p) (0, 0) _ P4.out.row Try.underlying34 rfl info_plan ?_)
    | (refine wpList_load_row rfl 32 _ rfl w.heap.size rfl 32 (wishv v) (0, 0) _ W4.out.row Try.underlying32 rfl info_wish ?_))
  refine (LMA.out _).mono ?_
  rintro e w5 ⟨⟨q, rfl, hq0, rk, g5⟩, k5⟩
  have sz4 := K4.out.size
  have RK := hide rk
  have hql : w.heap.size ≤ q := by omega
  have hw := hp.w
  have hh := hp.h
  have hc := hp.c
  obtain ⟨W, hW⟩ := Int.eq_ofNat_of_zero_le (show 0 ≤ p.w by omega)
  obtain ⟨H, hH⟩ := Int.eq_ofNat_of_zero_le (show 0 ≤ p.h by omega)
  have EW := hide hW
  have EH := hide hH
  have W12 : W ≤ 12 := by omega
  have H12 : H ≤ 12 := by omega
  have W1' : 1 ≤ W := by omega
  have H1' : 1 ≤ H := by omega
  have e1 : (p.h * p.w).toNat = H * W := by rw [hW, hH, ← Int.natCast_mul]; rfl
  rw [e1] at g5
  have H5 : Hid (Ast w w5 w2.heap.size q p v 0 (fillS v p.c (H * W))) := ⟨W4.out.keep k5 (fun hx => hx), P4.out.keep k5 (fun hx => hx), g5, K4.out.trans k5⟩
  clear g5 k5 rk hq0 LMA LPL sz4 e1 hW hH
  have gne1 : w.heap.size ≠ q := by
    intro e
    have h1 := H5.out.wish.row
    have h2 := H5.out.grid.row
    rw [e, h2] at h1
    simp at h1
  have gne2 : w2.heap.size ≠ q := by
    intro e
    have h1 := H5.out.plan.row
    have h2 := H5.out.grid.row
    rw [e, h2] at h1
    simp at h1
  have LS := hide (fun (wx : World) (x y k : Nat) (h1 : x ≤ 12) (h2 : y ≤ 12) (h3 : (y : Int) * p.w + x = k) => pstate_any p hp v hv.cells x y k h1 h2 h3 wx)
  have HED : Hid (∀ x y, edgeF v p.c W H x y = if 1 ≤ x ∧ x ≤ W ∧ 1 ≤ y ∧ y ≤ H then stP v p.c ((y - 1) * W + (x - 1)) else 0) := fun _ _ => rfl
  have LON := hide (fun (wx : World) (base : Nat) (u : Value) (hm : MxF wx base u (H + 2) (W + 2) (edgeF v p.c W H)) => onward_any p hp u H W (by omega) (by omega) W1' (edgeF v p.c W H) (fun x y _ _ => edgeF_bd v p.c W H x y hc.1) base wx hm)
  have LST := hide (fun (wx : World) (hg : GrAt wx q (preOf (Pu.ruleOf p) (Pu.shapeOf p) 0) p.w p.h 0 0 (fillS v p.c (H * W))) => wstep_plane q (Pu.ruleOf p) (Pu.shapeOf p) 0 (fillS v p.c (H * W)) 1 wx hg RK.out (two_plan hp) (plan_shape hp) hk80 W H EW.out EH.out hp.near hc.1 hc.2 (fillS_ok v p hp _) (by omega) (by omega) (by omega))
  have HEQ := hide (fun i j hi hj => ages_eq v p hp W H i j EW.out EH.out hi hj)
  generalize stepN (Pu.ruleOf p) (planeG (Pu.shapeOf p)) W H 1 (fillS v p.c (H * W)) = S1 at *
  generalize hS0 : fillS v p.c (H * W) = S0 at *
  clear hS0
  have LG := hide (fun (wx : World) (age : Int) (h : GrAt wx q (preOf (Pu.ruleOf p) (Pu.shapeOf p) age) p.w p.h 0 0 S1) (i j : Int) (hi : 0 ≤ i ∧ i < p.w) (hj : 0 ≤ j ∧ j < p.h) => wget_two q (Pu.ruleOf p) (Pu.shapeOf p) age S1 i j wx h RK.out (two_plan hp) hp.kind (by show 0 ≤ p.sw ∧ p.sw ≤ 64; have := hp.torus; omega) (by show 0 ≤ p.sh ∧ p.sh ≤ 64; have := hp.torus; omega) hi hj)
  clear W4 P4 K4 W3 P3 K3 W2 K2 W1 K1 n1
  generalize edgeF v p.c W H = E at *
  go_wp2_with fail
  go_loopg [6, 7] (H + 2) (fun gk vl jj wr => ∃ k : Nat, k ≤ H + 2 ∧ H + 2 ≤ k + gk ∧ jj = .int .i64 ((k : Int) - 1) ∧ MxF wr w5.heap.size vl k (W + 2) E ∧ Kp (fun _ => False) w5 wr)
  case atStart => exact ⟨0, by omega, by omega, rfl, MxF.nil _ _ _ _, Kp.refl _ _⟩
  case round =>
    obtain ⟨k, g1, g2, rfl, m2, k2⟩ := hrel
    have M2 := hide m2
    have K2 := hide k2
    have A2 := hide (H5.out.kp k2)
    have c6 : wr.cell? ⟨w2.heap.size, 6, none⟩ = some (.int .i64 H) := by rw [← EH.out]; exact A2.out.plan.cell 6
    clear m2 k2
    by_cases hk : k < H + 2
    · have hkk : (k : Int) - 1 ≤ (H : Int) := by omega
      go_wp2_with fail
      obtain ⟨gO, hgO⟩ : ∃ g, g = gk := ⟨gk, rfl⟩
      have HGO := hide hgO
      obtain ⟨wO, hwO⟩ : ∃ u, u = wr := ⟨wr, rfl⟩
      rw [← hwO] at M2 K2 A2
      clear hgO c6
      go_loopg [8, 9] (W + 2) (fun gi vr ii ws => ∃ m : Nat, m ≤ W + 2 ∧ W + 2 ≤ m + gi ∧ ii = .int .i64 ((m : Int) - 1) ∧ ws.ownsRow wO.heap.size 3 1 vr m (rowL (fun x => E x k) m) ∧ Kp (fun _ => False) wO ws)
      case atStart => exact ⟨0, by omega, by omega, rfl, World.ownsRow_nil _ _ _ _, by rw [hwO]; exact Kp.refl _ _⟩
      case round =>
        obtain ⟨m, r1, r2, rfl, o3, k3⟩ := hrel
        have O3 := hide o3
        have K3 := hide k3
        have A3 := hide (A2.out.kp k3)
        have c5 : wr.cell? ⟨w2.heap.size, 5, none⟩ = some (.int .i64 W) := by rw [← EW.out]; exact A3.out.plan.cell 5
        have c6 : wr.cell? ⟨w2.heap.size, 6, none⟩ = some (.int .i64 H) := by rw [← EH.out]; exact A3.out.plan.cell 6
        clear o3 k3
        by_cases hm : m < W + 2
        · have hmm : (m : Int) - 1 ≤ (W : Int) := by omega
          go_upto_region 14 with fail
          go_cut [54] from 31 to 63 (fun c wd => c = .bool (decide (1 ≤ m ∧ m ≤ W ∧ 1 ≤ k ∧ k ≤ H)) ∧ wd = wr)
          case first =>
            by_cases t1 : m = 0
            · subst t1
              go_wp2_with fail
              go_meet
              case rel => exact ⟨by rw [decide_eq_false (by omega)], rfl⟩
            · have a1 : 0 ≤ (m : Int) - 1 := by omega
              have a2 : 1 ≤ (m : Int) := by omega
              by_cases t2 : k = 0
              · subst t2
                go_wp2_with fail
                go_meet
                case rel => exact ⟨by rw [decide_eq_false (by omega)], rfl⟩
              · have b1 : 0 ≤ (k : Int) - 1 := by omega
                have b2 : 1 ≤ (k : Int) := by omega
                by_cases t3 : m ≤ W
                · have d1 : (m : Int) - 1 < (W : Int) := by omega
                  by_cases t4 : k ≤ H
                  · have e1 : (k : Int) - 1 < (H : Int) := by omega
                    go_wp2_with fail
                    go_meet
                    case rel => exact ⟨by rw [decide_eq_true (by omega)], rfl⟩
                  · have e1 : ¬ (k : Int) - 1 < (H : Int) := by omega
                    go_wp2_with fail
                    go_meet
                    case rel => exact ⟨by rw [decide_eq_false (by omega)], rfl⟩
                · have d1 : ¬ (m : Int) - 1 < (W : Int) := by omega
                  go_wp2_with fail
                  go_meet
                  case rel => exact ⟨by rw [decide_eq_false (by omega)], rfl⟩
          case rest =>
            obtain ⟨rfl, hwc⟩ := hcut
            subst hwc
            have hed := HED.out m k
            clear c5 c6
            by_cases hin : 1 ≤ m ∧ m ≤ W ∧ 1 ≤ k ∧ k ≤ H
            · rw [decide_eq_true hin]
              rw [if_pos hin] at hed
              have eM : (m : Int) - 1 = ((m - 1 : Nat) : Int) := by omega
              have eK : (k : Int) - 1 = ((k - 1 : Nat) : Int) := by omega
              have LSk := hide (fun wx => LS.out wx (m - 1) (k - 1) ((k - 1) * W + (m - 1)) (by omega) (by omega) (by rw [EW.out, ← Int.natCast_mul, ← Int.natCast_add]))
              rw [← hed, ← eM, ← eK] at LSk
              clear hed eM eK hin
              go_wp2_with (first
                | (refine wpList_load_row rfl 34 _ rfl w2.heap.size rfl 34 (planv p) (0, 0) _ A3.out.plan.row Try.underlying34 rfl info_plan ?_)
                | (refine wpList_load_row rfl 32 _ rfl w.heap.size rfl 32 (wishv v) (0, 0) _ A3.out.wish.row Try.underlying32 rfl info_wish ?_))
              refine (LSk.out _).mono ?_
              rintro e w6 ⟨rfl, k6⟩
              have O6 := hide (own_keep O3.out k6 (by intro g hg hx; exact hx))
              have K6 := hide (K3.out.trans k6)
              clear k6
              go_wp2_with (refine wpList_append_own _ rfl _ _ 43 rfl wO.heap.size 3 ti (.int .i64 0) 1 8 Try.underlying43 TI1.out TI2.out TI3.out TI4.out rfl (by decide) u8 m (rowL (fun x => E x k) m) rfl
                            (own_of O6.out fun g hg _ => Below.heap_alloc _ _ _ hg) ⟨w6.heap.size, 0, none⟩ 1 1 [.int .i64 (E m k)] rfl rfl (World.news_of_block (heap_alloc_new w6 (.cells #[.int .i64 (E m k)] 3)))
                            (by simp [Value.oneCell']) (by unfold maxLen; omega) (by omega) (by rw [alloc_size]; have := K6.out.size; omega) ?_
                           intro v9 w9 hown hgrow _
                           have O9 := hide hown
                           have K9 := hide (grow_kp K6.out O6.out (Nat.le_refl _) hgrow)
                           clear hown hgrow)
              go_roundg (gk - 1)
              case measure => omega
              case rel => exact ⟨m + 1, by omega, by omega, val_int (by omega), by rw [rowL_succ]; exact O9.out, K9.out⟩
            · rw [decide_eq_false hin]
              rw [if_neg hin] at hed
              have HE0 := hide hed
              clear hed hin
              go_wp2_with (refine wpList_append_own _ rfl _ _ 43 rfl wO.heap.size 3 ti (.int .i64 0) 1 8 Try.underlying43 TI1.out TI2.out TI3.out TI4.out rfl (by decide) u8 m (rowL (fun x => E x k) m) rfl
                            (own_of O3.out fun g hg _ => Below.heap_alloc _ _ _ hg) ⟨wc.heap.size, 0, none⟩ 1 1 [.int .i64 0] rfl rfl (World.news_of_block (heap_alloc_new wc (.cells #[.int .i64 0] 3)))
                            (by simp [Value.oneCell']) (by unfold maxLen; omega) (by omega) (by rw [alloc_size]; have := K3.out.size; omega) ?_
                           intro v9 w9 hown hgrow _
                           have O9 : Hid (w9.ownsRow wO.heap.size 3 1 v9 (m + 1) (rowL (fun x => E x k) (m + 1))) := by
                             rw [rowL_succ]
                             show w9.ownsRow _ _ _ _ _ (rowL (fun x => E x k) m ++ [.int .i64 (E m k)])
                             rw [HE0.out]
                             exact hown
                           have K9 := hide (grow_kp K3.out O3.out (Nat.le_refl _) hgrow)
                           clear hown hgrow)
              go_roundg (gk - 1)
              case measure => omega
              case rel => exact ⟨m + 1, by omega, by omega, val_int (by omega), O9.out, K9.out⟩
        · have em : m = W + 2 := by omega
          subst em
          have hmm : ¬ ((W + 2 : Nat) : Int) - 1 ≤ (W : Int) := by omega
          obtain ⟨gr, cr, rfl, hgr, hrow⟩ := rowF_of_own O3.out (by omega)
          have HR := hide hrow
          clear hrow
          have MK := hide (M2.out.keep K3.out)
          have KW := hide (K2.out.trans K3.out)
          obtain ⟨vs, hvs, _⟩ := MK.out.own
          have HVS := hide hvs
          clear hvs
          go_wp2_with (refine wpList_append_own _ rfl _ _ 42 rfl w5.heap.size 43 tr (.slice none 0 0) 1 24 Try.underlying42 TR1.out TR2.out TR3.out TR4.out rfl (by decide) u6 k vs rfl
                        (own_of HVS.out fun g hg _ => Below.heap_alloc _ _ _ hg) ⟨wr.heap.size, 0, none⟩ 1 1 [.slice (some ⟨gr, 0, none⟩) (W + 2) cr] rfl rfl (World.news_of_block (heap_alloc_new wr (.cells #[.slice (some ⟨gr, 0, none⟩) (W + 2) cr] 43)))
                        (by simp [Value.oneCell']) (by unfold maxLen; omega) (by omega) (by rw [alloc_size]; have := KW.out.size; omega) ?_
                       intro v9 w9 hown hgrow _
                       have M9 : Hid (MxF w9 w5.heap.size v9 (k + 1) (W + 2) E) := MK.out.push HR.out (fun vs2 h2 => by
                         have e : vs2 = vs := own_uniq h2 HVS.out
                         subst e
                         exact ⟨hown, grow_ints HVS.out hgrow⟩)
                       have K9 := hide (grow_kp KW.out HVS.out (Nat.le_refl _) hgrow)
                       clear hown hgrow)
          go_roundg (gO - 1)
          case measure => have := HGO.out; omega
          case rel => exact ⟨k + 1, by omega, by have := HGO.out; omega, val_int (by omega), M9.out, K9.out⟩
    · have ek : k = H + 2 := by omega
      subst ek
      have hkk : ¬ ((H + 2 : Nat) : Int) - 1 ≤ (H : Int) := by omega
      go_wp2_with (refine wpList_load_row rfl 34 _ rfl w2.heap.size rfl 34 (planv p) (0, 0) _ A2.out.plan.row Try.underlying34 rfl info_plan ?_)
      refine (LON.out _ _ u6 M2.out).mono ?_
      rintro e w6 ⟨⟨v6, rfl, m6⟩, k6⟩
      have A6 := hide (A2.out.kp k6)
      have hqb : q < wr.heap.size := A2.out.grid.lt
      obtain ⟨gL, cL, rfl, hL1, hL2, _⟩ := m6.open_ (by omega)
      have M6 := hide m6
      unfold maxLen at hL2
      clear k6 m6 c6
      go_wp2_with fail
      refine (LST.out _ A6.out.grid).mono ?_
      rintro e w7 ⟨rfl, g7, k7⟩
      have A7 : Hid (Ast w w7 w2.heap.size q p v (0 + (1 : Nat)) S1) := ⟨A6.out.wish.keep k7 gne1, A6.out.plan.keep k7 gne2, g7, A6.out.keep.tr k7 (by intro z hz1 hz2; omega)⟩
      have M7 := hide (M6.out.keepq k7 hqb A6.out.grid.row)
      have HROW := hide (fun (wy : World) (ky : Kp (fun _ => False) w7 wy) (i : Nat) (hi : i < H) => (M7.out.keep ky).rows i hi)
      clear g7 k7
      go_wp2_with fail
      go_loopg [12] H (fun gk jj wr => ∃ j : Nat, j ≤ H ∧ H ≤ j + gk ∧ jj = .int .i64 j ∧ Kp (fun _ => False) w7 wr)
      case atStart => exact ⟨0, by omega, by omega, rfl, Kp.refl _ _⟩
      case round =>
        obtain ⟨j, s1, s2, rfl, k8⟩ := hrel
        have K8 := hide k8
        have A8 := hide (A7.out.kp k8)
        have c6 : wr.cell? ⟨w2.heap.size, 6, none⟩ = some (.int .i64 H) := by rw [← EH.out]; exact A8.out.plan.cell 6
        clear k8
        by_cases hj : j < H
        · go_wp2_with fail
          obtain ⟨gQ, hgQ⟩ : ∃ g, g = gk := ⟨gk, rfl⟩
          have HGQ := hide hgQ
          obtain ⟨wQ, hwQ⟩ : ∃ u, u = wr := ⟨wr, rfl⟩
          rw [← hwQ] at K8 A8
          clear hgQ c6
          go_loopg [13] W (fun gi ii ws => ∃ i : Nat, i ≤ W ∧ W ≤ i + gi ∧ ii = .int .i64 i ∧ Kp (fun _ => False) w7 ws)
          case atStart => exact ⟨0, by omega, by omega, rfl, by rw [← hwQ]; exact K8.out⟩
          case round =>
            obtain ⟨i, r1, r2, rfl, k9⟩ := hrel
            have K9 := hide k9
            have A9 := hide (A7.out.kp k9)
            have c5 : wr.cell? ⟨w2.heap.size, 5, none⟩ = some (.int .i64 W) := by rw [← EW.out]; exact A9.out.plan.cell 5
            clear k9
            by_cases hi : i < W
            · have e2 : ((j : Int) * (Pu.shapeOf p).w + i).toNat = j * W + i := by
                show ((j : Int) * p.w + i).toNat = _
                rw [EW.out, ← Int.natCast_mul, ← Int.natCast_add]; rfl
              have LGk := hide (fun wx hg => LG.out wx (0 + (1 : Nat)) hg i j (by rw [EW.out]; omega) (by rw [EH.out]; omega))
              rw [e2, HEQ.out i j hi hj] at LGk
              clear e2
              go_wp2_with fail
              refine (LGk.out _ A9.out.grid).mono ?_
              rintro e w10 ⟨rfl, k10⟩
              have K10 := hide (K9.out.trans k10)
              obtain ⟨gi, ci, h1, h2⟩ := HROW.out w10 K10.out j hj
              have h3 := h2 i hi
              clear h2 k10
              generalize onF p E i j = sv at *
              go_wp2_with fail
              go_roundg (gk - 1)
              case measure => omega
              case rel => exact ⟨i + 1, by omega, by omega, by go_num, K10.out⟩
            · have ei : i = W := by omega
              subst ei
              go_wp2_with fail
              go_roundg (gQ - 1)
              case measure => have := HGQ.out; omega
              case rel => exact ⟨j + 1, by omega, by have := HGQ.out; omega, by go_num, K9.out⟩
        · have ej : j = H := by omega
          subst ej
          go_wp2_with fail
          go_ret
          exact ⟨rfl, A8.out.keep⟩
end Go.Proofs.Ytiimimclbkjcbaa
