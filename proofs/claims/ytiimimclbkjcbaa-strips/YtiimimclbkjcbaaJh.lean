import Derived.Test.YtiimimclbkjcbaaM19
import Derived.Test.YtiimimclbkjcbaaIc
import Derived.Deep.CutRange
namespace Go.Proofs.Ytiimimclbkjcbaa
open Go.RowKit
open Go.Proofs

theorem info_int1 : ∃ i, Try.prog.info? 3 = some i ∧ i.zero = some (.int .i64 0) ∧ i.size = 1 ∧ i.bytes = 8 := by
  have h : (Try.prog.info? 3).map (fun i => (i.zero, i.size, i.bytes)) = some (some (.int .i64 0), 1, 8) := by kernel_rfl
  cases hq : Try.prog.info? 3 with
  | none => simp [hq] at h
  | some i => simp [hq] at h; exact ⟨i, rfl, h.1, h.2.1, h.2.2⟩
theorem info_row1 : ∃ i, Try.prog.info? 43 = some i ∧ i.zero = some (.slice none 0 0) ∧ i.size = 1 ∧ i.bytes = 24 := by
  have h : (Try.prog.info? 43).map (fun i => (i.zero, i.size, i.bytes)) = some (some (.slice none 0 0), 1, 24) := by kernel_rfl
  cases hq : Try.prog.info? 43 with
  | none => simp [hq] at h
  | some i => simp [hq] at h; exact ⟨i, rfl, h.1, h.2.1, h.2.2⟩
theorem grow_kp {w0 w w' : World} {base : Nat} {e : TypeId} {sz n : Nat} {v : Value} {xs : List Value} {o : Obj} (k : Kp (fun _ => False) w0 w) (own : w.ownsRow base e sz v n xs) (hb : w0.heap.size ≤ base) (g : (w.alloc o).grownBy w' v.ownBlock) : Kp (fun _ => False) w0 w' :=
  ⟨g.os.trans k.os, g.tape.trans k.tape, g.output.trans k.output, Nat.le_trans k.size (Nat.le_trans (by rw [alloc_size]; omega) g.size), fun i hi hn => by
    have h1 := k.size
    rw [g.block i (by rw [alloc_size]; omega) (own_far own (by omega)), Below.heap_alloc _ _ _ (by omega)]
    exact k.block i hi hn⟩
/-- A row of numbers lies on where a row of rows grows. -/
theorem grow_ints {w w' : World} {base : Nat} {n : Nat} {v : Value} {xs : List Value} {o : Obj} (own : w.ownsRow base 43 1 v n xs) (g : (w.alloc o).grownBy w' v.ownBlock) (k : Nat) (cur : Array Value) (h : w.heap[k]? = some (Obj.cells cur 3 (0, 0))) : w'.heap[k]? = some (Obj.cells cur 3 (0, 0)) := by
  have hk := (Array.getElem?_eq_some_iff.1 h).1
  have hne : some k ≠ v.ownBlock := by
    rcases own.2 with ⟨rfl, _⟩ | ⟨g', cap, cur', rfl, _, hg, _⟩
    · simp [Value.ownBlock]
    · intro e
      simp [Value.ownBlock] at e
      subst e
      rw [h] at hg
      simp at hg
  rw [g.block k (by rw [alloc_size]; omega) hne, Below.heap_alloc _ _ _ hk]
  exact h

theorem MxF.rows {w : World} {base g cap : Nat} {n W : Nat} {f : Nat → Nat → Int} (h : MxF w base (.slice (some ⟨g, 0, none⟩) n cap) n W f) (i : Nat) (hi : i < n) : ∃ gi ci, w.cell? ⟨g, i, none⟩ = some (.slice (some ⟨gi, 0, none⟩) W ci) ∧ ∀ x, x < W → w.cell? ⟨gi, x, none⟩ = some (.int .i64 (f x i)) := by
  obtain ⟨g', cap', e, _, _, hr⟩ := h.open_ (by omega)
  simp at e
  obtain ⟨rfl, rfl⟩ := e
  exact hr i hi
theorem val_int {k : IntKind} {a b : Int} (h : a = b) : Value.int k a = Value.int k b := by rw [h]
theorem grow_other {w w' : World} {base : Nat} {n : Nat} {v : Value} {xs : List Value} {o : Obj} (own : w.ownsRow base 43 1 v n xs) (g : (w.alloc o).grownBy w' v.ownBlock) {k : Nat} {cur : Array Value} {t : TypeId} {fr : Nat × Nat} (ht : t ≠ 43) (h : w.heap[k]? = some (Obj.cells cur t fr)) : w'.heap[k]? = some (Obj.cells cur t fr) := by
  have hk := (Array.getElem?_eq_some_iff.1 h).1
  have hne : some k ≠ v.ownBlock := by
    rcases own.2 with ⟨rfl, _⟩ | ⟨g', cap, cur', rfl, _, hg, _⟩
    · simp [Value.ownBlock]
    · intro e
      simp [Value.ownBlock] at e
      subst e
      rw [h] at hg
      simp at hg
      exact ht hg.2.1
  rw [g.block k (by rw [alloc_size]; omega) hne, Below.heap_alloc _ _ _ hk]
  exact h
theorem own_uniq {w : World} {base : Nat} {e : TypeId} {sz n : Nat} {v : Value} {xs ys : List Value} (h1 : w.ownsRow base e sz v n xs) (h2 : w.ownsRow base e sz v n ys) : xs = ys := by
  rcases h1.2 with ⟨rfl, h0⟩ | ⟨g, cap, cur, rfl, _, hg, _, _, _, ht⟩
  · have l1 := h1.1
    have l2 := h2.1
    rw [h0, Nat.zero_mul] at l1 l2
    rw [List.length_eq_zero_iff.1 l1, List.length_eq_zero_iff.1 l2]
  · rcases h2.2 with ⟨e, _⟩ | ⟨g', cap', cur', e, _, hg', _, _, _, ht'⟩
    · simp at e
    · simp at e
      obtain ⟨rfl, rfl⟩ := e
      rw [hg] at hg'
      simp at hg'
      subst hg'
      rw [← ht, ← ht']
/-- The square within, one generation on. -/
def onesF (p : Pu.Plan) (f : Nat → Nat → Int) (x y : Nat) : Nat → Nat → Bool := fun a b => countsP p.near ((a : Int) - 1) ((b : Int) - 1) && (f (x + a) (y + b) == 1)
def onF (p : Pu.Plan) (f : Nat → Nat → Int) (x y : Nat) : Int := nextP p (f (x + 1) (y + 1)) (ones9 (onesF p f x y) 9)

set_option maxRecDepth 100000 in
set_option maxHeartbeats 2000000 in
theorem onward_any (p : Pu.Plan) (hp : Pu.PlanOk p) (v : Value) (H W : Nat) (hH : H ≤ 24) (hW : W ≤ 24) (hW1 : 1 ≤ W) (f : Nat → Nat → Int) (hf : ∀ x y, x < W + 2 → y < H + 2 → 0 ≤ f x y ∧ f x y < p.c) (base : Nat) (w : World) (h : MxF w base v (H + 2) (W + 2) f) :
    Calls Try.prog 22 #[.agg (planv p), v] w fun e w' => (∃ v', e = .returned v' ∧ MxF w' w.heap.size v' H W (onF p f)) ∧ Kp (fun _ => False) w w' := by
  obtain ⟨g, cap, rfl, hc1, hc2, hrows⟩ := h.open_ (by omega)
  unfold maxLen at hc2
  have HROW := hide (fun (wr : World) (k : Kp (fun _ => False) w wr) (i : Nat) (hi : i < H + 2) => (h.keep k).rows i hi)
  have HF := hide hf
  have LC := hide (fun (wx : World) (dx dy : Int) (h1 : -1 ≤ dx ∧ dx ≤ 1) (h2 : -1 ≤ dy ∧ dy ≤ 1) => pcounts_any p dx dy wx h1 h2)
  have LN := hide (fun (wx : World) (s : Int) (k : Nat) (h1 : 0 ≤ s ∧ s < p.c) (h2 : k < 9) => pnext_any p hp s k wx h1 h2)
  obtain ⟨ti, ti1, ti2, ti3, ti4⟩ := info_int1
  obtain ⟨tr, tr1, tr2, tr3, tr4⟩ := info_row1
  have TI1 := hide ti1
  have TI2 := hide ti2
  have TI3 := hide ti3
  have TI4 := hide ti4
  have TR1 := hide tr1
  have TR2 := hide tr2
  have TR3 := hide tr3
  have TR4 := hide tr4
  clear h hf ti1 ti2 ti3 ti4 tr1 tr2 tr3 tr4 hrows
  go_enter Try.func22, Try.ntmps22
  go_wp2_with (refine wpList_box_row rfl 34 _ rfl (planv p) rfl ?_
               intro w1 hw1
               have P1 : Hid (PlAt w1 w.heap.size p) := ⟨by rw [hw1]; exact heap_alloc_new _ _⟩
               have K1 : Hid (Kp (fun _ => False) w w1) := by rw [hw1]; exact (Kp.refl _ _).alloc _
               clear hw1)
  go_loopg [5, 6] H (fun gk vo yy wr => ∃ k : Nat, k ≤ H ∧ H ≤ k + gk ∧ yy = .int .i64 ((k : Int) + 1) ∧ MxF wr w.heap.size vo k W (onF p f) ∧ PlAt wr w.heap.size p ∧ Kp (fun _ => False) w wr)
  case atStart => exact ⟨0, by omega, by omega, rfl, MxF.nil _ _ _ _, P1.out, K1.out⟩
  case round =>
    obtain ⟨k, g1, g2, rfl, m2, p2, k2⟩ := hrel
    have M2 := hide m2
    have P2 := hide p2
    have K2 := hide k2
    clear m2 p2 k2
    by_cases hk : k < H
    · have hkk : (k : Int) + 1 + 1 < (H : Int) + 2 := by omega
      go_wp2_with fail
      obtain ⟨gO, hgO⟩ : ∃ g, g = gk := ⟨gk, rfl⟩
      have HGO := hide hgO
      obtain ⟨wO, hwO⟩ : ∃ u, u = wr := ⟨wr, rfl⟩
      rw [← hwO] at M2 P2 K2
      have sO := K2.out.size
      go_loopg [7, 8] W (fun gi vr xx ws => ∃ j : Nat, j ≤ W ∧ W ≤ j + gi ∧ xx = .int .i64 ((j : Int) + 1) ∧ ws.ownsRow wO.heap.size 3 1 vr j (rowL (fun x => onF p f x k) j) ∧ Kp (fun _ => False) wO ws)
      case atStart => exact ⟨0, by omega, by omega, rfl, World.ownsRow_nil _ _ _ _, by rw [hwO]; exact Kp.refl _ _⟩
      case round =>
        obtain ⟨j, r1, r2, rfl, o3, k3⟩ := hrel
        clear hgO
        have O3 := hide o3
        have K3 := hide k3
        have KW := hide (K2.out.trans k3)
        have P3 := hide (P2.out.keep k3 (fun hx => hx))
        clear o3 k3
        obtain ⟨gi, ci, hci, hcx⟩ := HROW.out wr KW.out (k + 1) (by omega)
        have HCX := hide hcx
        clear hcx
        by_cases hj : j < W
        · have hjj : (j : Int) + 1 + 1 < (W : Int) + 2 := by omega
          go_wp2_with fail
          obtain ⟨gP, hgP⟩ : ∃ g, g = gk := ⟨gk, rfl⟩
          have HGP := hide hgP
          obtain ⟨wP, hwP⟩ : ∃ u, u = wr := ⟨wr, rfl⟩
          rw [← hwP] at O3 K3 KW P3 HCX hci
          have HFX := hide (fun a b (ha : a < 3) => ones9_at (onesF p f j k) a b ha)
          have HLE := hide (fun n => ones9_le (onesF p f j k) n)
          have HON : Hid (∀ a b, onesF p f j k a b = (countsP p.near ((a : Int) - 1) ((b : Int) - 1) && (f (j + a) (k + b) == 1))) := fun _ _ => rfl
          have HEND : Hid (onF p f j k = nextP p (f (j + 1) (k + 1)) (ones9 (onesF p f j k) 9)) := rfl
          have HL8 := hide (ones9_8 (onesF p f j k) (by unfold onesF countsP; simp))
          have HZ : Hid (ones9 (onesF p f j k) 0 = 0) := rfl
          generalize onesF p f j k = F at *
          go_loopg [9, 10] 3 (fun gc kk dd ws => ∃ b : Nat, b ≤ 3 ∧ 3 ≤ b + gc ∧ kk = .int .i64 (ones9 F (3 * b)) ∧ dd = .int .i64 ((b : Int) - 1) ∧ Kp (fun _ => False) wP ws)
          case atStart => exact ⟨0, by omega, by omega, by rw [Nat.mul_zero, HZ.out]; rfl, rfl, by rw [hwP]; exact Kp.refl _ _⟩
          case round =>
            obtain ⟨b, s1, s2, rfl, rfl, k4⟩ := hrel
            clear hgP
            have K4 := hide k4
            clear k4
            by_cases hb : b < 3
            · have hbb : (b : Int) - 1 ≤ 1 := by omega
              go_wp2_with fail
              obtain ⟨gQ, hgQ⟩ : ∃ g, g = gk := ⟨gk, rfl⟩
              have HGQ := hide hgQ
              obtain ⟨wQ, hwQ⟩ : ∃ u, u = wr := ⟨wr, rfl⟩
              rw [← hwQ] at K4
              go_loopg [9, 11] 3 (fun gd kk dd ws => ∃ a : Nat, a ≤ 3 ∧ 3 ≤ a + gd ∧ kk = .int .i64 (ones9 F (3 * b + a)) ∧ dd = .int .i64 ((a : Int) - 1) ∧ Kp (fun _ => False) wQ ws)
              case atStart => exact ⟨0, by omega, by omega, rfl, rfl, by rw [hwQ]; exact Kp.refl _ _⟩
              case round =>
                obtain ⟨a, q1, q2, rfl, rfl, k5⟩ := hrel
                clear hgQ
                have KQ := hide k5
                have K5 := hide (K4.out.trans k5)
                have PX := hide (P3.out.keep K5.out (fun hx => hx))
                have hle := HLE.out (3 * b + a)
                clear k5
                by_cases ha : a < 3
                · have haa : (a : Int) - 1 ≤ 1 := by omega
                  go_wp2_with (refine wpList_load_row rfl 34 _ rfl w.heap.size rfl 34 (planv p) (0, 0) _ PX.out.row Try.underlying34 rfl info_plan ?_)
                  refine (LC.out _ ((a : Int) - 1) ((b : Int) - 1) (by omega) (by omega)).mono ?_
                  have hon := HON.out a b
                  have hfx := HFX.out a b ha
                  rw [hon] at hfx
                  clear hon
                  have HFA := hide hfx
                  clear hfx
                  generalize countsP p.near ((a : Int) - 1) ((b : Int) - 1) = cb at *
                  rintro e w6 ⟨rfl, k6⟩
                  have K6 := hide (K5.out.trans k6)
                  have KQ6 := hide (KQ.out.trans k6)
                  clear k6
                  cases cb
                  · have hfa := HFA.out
                    rw [Bool.false_and, if_neg (by simp)] at hfa
                    have HFA := hide hfa
                    clear hfa
                    go_wp2_with fail
                    go_roundg (gk - 1)
                    case measure => omega
                    case rel => exact ⟨a + 1, by omega, by omega, by rw [show 3 * b + (a + 1) = 3 * b + a + 1 from rfl, HFA.out]; rfl, val_int (by omega), KQ6.out⟩
                  · obtain ⟨gy, cy, hy1, hy2⟩ := HROW.out w6 (KW.out.trans K6.out) (k + b) (by omega)
                    have hy3 := hy2 (j + a) (by omega)
                    clear hy2
                    have eY : (k : Int) + 1 + ((b : Int) - 1) = ((k + b : Nat) : Int) := by omega
                    have eX : (j : Int) + 1 + ((a : Int) - 1) = ((j + a : Nat) : Int) := by omega
                    have hfa := HFA.out
                    by_cases h1 : f (j + a) (k + b) = 1
                    · rw [h1] at hy3 hfa
                      rw [if_pos (by simp)] at hfa
                      have HFA := hide hfa
                      clear hfa h1
                      go_wp2_with fail
                      go_roundg (gk - 1)
                      case measure => omega
                      case rel => exact ⟨a + 1, by omega, by omega, by rw [show 3 * b + (a + 1) = 3 * b + a + 1 from rfl, HFA.out]; go_num, val_int (by omega), KQ6.out⟩
                    · have b1 : (f (j + a) (k + b) == 1) = false := by simpa using h1
                      rw [b1, if_neg (by simp)] at hfa
                      have HFA := hide hfa
                      clear hfa h1
                      go_wp2_with fail
                      go_roundg (gk - 1)
                      case measure => omega
                      case rel => exact ⟨a + 1, by omega, by omega, by rw [show 3 * b + (a + 1) = 3 * b + a + 1 from rfl, HFA.out]; rfl, val_int (by omega), KQ6.out⟩
                · have ea : a = 3 := by omega
                  subst ea
                  go_wp2_with fail
                  go_roundg (gQ - 1)
                  case measure => have := HGQ.out; omega
                  case rel => exact ⟨b + 1, by omega, by have := HGQ.out; omega, rfl, val_int (by omega), K5.out⟩
            · have eb : b = 3 := by omega
              subst eb
              have PX := hide (P3.out.keep K4.out (fun hx => hx))
              have c0 : wr.cell? ⟨w.heap.size, 0, none⟩ = some (.int .u8 p.near) := PX.out.cell 0
              have c1 : wr.cell? ⟨w.heap.size, 1, none⟩ = some (.int .i64 p.births) := PX.out.cell 1
              have c2 : wr.cell? ⟨w.heap.size, 2, none⟩ = some (.int .i64 p.lives) := PX.out.cell 2
              have c3 : wr.cell? ⟨w.heap.size, 3, none⟩ = some (.int .i64 p.c) := PX.out.cell 3
              have c4 : wr.cell? ⟨w.heap.size, 4, none⟩ = some (.int .u8 p.kind) := PX.out.cell 4
              have c5 : wr.cell? ⟨w.heap.size, 5, none⟩ = some (.int .i64 p.w) := PX.out.cell 5
              have c6 : wr.cell? ⟨w.heap.size, 6, none⟩ = some (.int .i64 p.h) := PX.out.cell 6
              have c7 : wr.cell? ⟨w.heap.size, 7, none⟩ = some (.int .i64 p.sw) := PX.out.cell 7
              have c8 : wr.cell? ⟨w.heap.size, 8, none⟩ = some (.int .i64 p.sh) := PX.out.cell 8
              have c9 : wr.cell? ⟨w.heap.size, 9, none⟩ = some (.bool p.star) := PX.out.cell 9
              have c10 : wr.cell? ⟨w.heap.size, 10, none⟩ = some (.bool p.starH) := PX.out.cell 10
              obtain ⟨gy, cy, hy1, hy2⟩ := HROW.out wr (KW.out.trans K4.out) (k + 1) (by omega)
              have hy3 := hy2 (j + 1) (by omega)
              clear hy2
              have hfb := HF.out (j + 1) (k + 1) (by omega) (by omega)
              have LNk := hide (fun wx => LN.out wx (f (j + 1) (k + 1)) (ones9 F 9) hfb (by have := HL8.out; omega))
              rw [← HEND.out] at LNk
              go_upto_region 19 with fail
              go_cut [13] from 21 to 73 (fun sv wc => sv = .int .i64 (onF p f j k) ∧ Kp (fun _ => False) wP wc)
              case first =>
                go_region_with (go_at_call 37; refine (LNk.out _).mono ?_; rintro e w7 ⟨rfl, k7⟩)
                all_goals
                  go_wp2_with fail
                  go_meet
                  case rel => exact ⟨rfl, (K4.out.drewN _).trans k7⟩
              case rest =>
                obtain ⟨rfl, k8⟩ := hcut
                have KC := hide k8
                clear k8 c0 c1 c2 c3 c4 c5 c6 c7 c8 c9 c10 hy1 hy3 hfb LNk
                have OC := hide (own_keep O3.out KC.out (by intro g hg hx; exact hx))
                have KO := hide (K3.out.trans KC.out)
                have szO := KO.out.size
                go_wp2_with (refine wpList_append_own _ rfl _ _ 43 rfl wO.heap.size 3 ti (.int .i64 0) 1 8 Try.underlying43 TI1.out TI2.out TI3.out TI4.out rfl (by decide) u7 j (rowL (fun x => onF p f x k) j) rfl
                              (own_of OC.out fun g hg _ => Below.heap_alloc _ _ _ hg) ⟨wc.heap.size, 0, none⟩ 1 1 [.int .i64 (onF p f j k)] rfl rfl (World.news_of_block (heap_alloc_new wc (.cells #[.int .i64 (onF p f j k)] 3)))
                              (by simp [Value.oneCell']) (by unfold maxLen; omega) (by omega) (by rw [alloc_size]; omega) ?_
                             intro v9 w9 hown hgrow _
                             have O9 := hide hown
                             have K9 := hide (grow_kp KO.out OC.out (Nat.le_refl _) hgrow)
                             clear hown hgrow)
                go_roundg (gP - 1)
                case measure => have := HGP.out; omega
                case rel => exact ⟨j + 1, by omega, by have := HGP.out; omega, val_int (by omega), by rw [rowL_succ]; exact O9.out, K9.out⟩
        · have ej : j = W := by omega
          subst ej
          have hjj : ¬ (j : Int) + 1 + 1 < (j : Int) + 2 := by omega
          obtain ⟨gr, cr, rfl, hgr, hrow⟩ := rowF_of_own O3.out (by omega)
          have HR := hide hrow
          clear hrow
          have MK := hide (M2.out.keep K3.out)
          obtain ⟨vs, hvs, _⟩ := MK.out.own
          have HVS := hide hvs
          clear hvs
          have szO := K3.out.size
          go_wp2_with (refine wpList_append_own _ rfl _ _ 42 rfl w.heap.size 43 tr (.slice none 0 0) 1 24 Try.underlying42 TR1.out TR2.out TR3.out TR4.out rfl (by decide) u5 k vs rfl
                        (own_of HVS.out fun g hg _ => Below.heap_alloc _ _ _ hg) ⟨wr.heap.size, 0, none⟩ 1 1 [.slice (some ⟨gr, 0, none⟩) j cr] rfl rfl (World.news_of_block (heap_alloc_new wr (.cells #[.slice (some ⟨gr, 0, none⟩) j cr] 43)))
                        (by simp [Value.oneCell']) (by unfold maxLen; omega) (by omega) (by rw [alloc_size]; omega) ?_
                       intro v9 w9 hown hgrow _
                       have M9 : Hid (MxF w9 w.heap.size v9 (k + 1) j (onF p f)) := MK.out.push HR.out (fun vs2 h2 => by
                         have e : vs2 = vs := own_uniq h2 HVS.out
                         subst e
                         exact ⟨hown, grow_ints HVS.out hgrow⟩)
                       have K9 := hide (grow_kp KW.out HVS.out (Nat.le_refl _) hgrow)
                       have P9 : Hid (PlAt w9 w.heap.size p) := ⟨grow_other HVS.out hgrow (by decide) P3.out.row⟩
                       clear hown hgrow)
          go_roundg (gO - 1)
          case measure => have := HGO.out; omega
          case rel => exact ⟨k + 1, by omega, by have := HGO.out; omega, val_int (by omega), M9.out, P9.out, K9.out⟩
    · have ek : k = H := by omega
      subst ek
      have hkk : ¬ (k : Int) + 1 + 1 < (k : Int) + 2 := by omega
      go_wp2_with fail
      go_ret
      exact ⟨⟨_, rfl, M2.out⟩, K2.out⟩
end Go.Proofs.Ytiimimclbkjcbaa
