import Derived.Test.YtiimimclbkjcbaaKc
import Derived.Test.YtiimimclbkjcbaaM16
namespace Go.Proofs.Ytiimimclbkjcbaa
open Go.RowKit
open Go.Proofs

/-- Step where every pair of numbers folds. -/
theorem wstep_fold (q : Nat) (r : Pu.Rule) (x : Pu.Shape) (age : Int) (S : List Int) (n : Nat) (w : World) (h : GrAt w q (preOf r x age) x.w x.h 0 0 S) (hr : RuleOk r) (hx : Two x) (hsh : Pu.ShapeOk x) (hf : FoldOk x) (hk : x.kind = 84 ∨ x.kind = 75 ∨ x.kind = 67) (W H : Nat) (hW : x.w = W) (hH : x.h = H)
    (ha : r.around = 77 ∨ r.around = 86 ∨ r.around = 72) (h2 : 2 ≤ r.states) (h9 : r.states ≤ 9) (hS : StOk r S) (hn : n ≤ 100) (hage : 0 ≤ age) (hage2 : age + n ≤ 999999) :
    Calls Try.prog 23 #[.pointer (some ⟨q, 0, none⟩), .int .i64 n] w fun e w' => e = .returned (.int .i64 0) ∧ GrAt w' q (preOf r x (age + n)) x.w x.h 0 0 (stepN r (foldG x) W H n S) ∧ Kp (· = q) w w' := by
  exact wstep_core (foldG x) q r x age S n w h hr hx hsh (fun _ => hf) W H hW hH ha h2 h9 hS hn hage hage2 (fun T X Y _ _ _ _ => by
    unfold nbG
    rw [if_neg (fun hb : beyond x X Y => by have := hb.1; omega), if_pos (show foldsB x from hk)]
    rfl)
/-- A plan's shape folds. -/
theorem plan_fold {p : Pu.Plan} (hp : Pu.PlanOk p) : FoldOk (Pu.shapeOf p) := by
  have hw := hp.w
  have hh := hp.h
  have ht := hp.torus
  exact ⟨by show 0 ≤ p.w ∧ p.w ≤ 12; omega, by show 0 ≤ p.h ∧ p.h ≤ 12; omega, by show p.sw = 0 ∨ (0 < p.sw ∧ p.sw < p.w); omega, by show p.sh = 0 ∨ (0 < p.sh ∧ p.sh < p.h); omega, fun _ => by show 1 ≤ p.w; omega, fun _ => by show 1 ≤ p.h; omega⟩
theorem step_plan {p : Pu.Plan} (hp : Pu.PlanOk p) (hk : p.kind = 84 ∨ p.kind = 75 ∨ p.kind = 67) {W H : Nat} (hW : p.w = W) (hH : p.h = H) (rk : RuleOk (Pu.ruleOf p)) (wx : World) (q : Nat) (age : Int) (S : List Int) (n : Nat) (hn : n ≤ 100) (hS : StOk (Pu.ruleOf p) S) (h0 : 0 ≤ age) (h1 : age ≤ 1000) (hg : GrAt wx q (preOf (Pu.ruleOf p) (Pu.shapeOf p) age) p.w p.h 0 0 S) :
    Calls Try.prog 23 #[.pointer (some ⟨q, 0, none⟩), .int .i64 n] wx fun e w' => e = .returned (.int .i64 0) ∧ GrAt w' q (preOf (Pu.ruleOf p) (Pu.shapeOf p) (age + n)) p.w p.h 0 0 (stepN (Pu.ruleOf p) (foldG (Pu.shapeOf p)) W H n S) ∧ Kp (· = q) wx w' :=
  wstep_fold q (Pu.ruleOf p) (Pu.shapeOf p) age S n wx hg rk (two_plan hp) (plan_shape hp) (plan_fold hp) hk W H hW hH hp.near hp.c.1 hp.c.2 hS hn h0 (by omega)
theorem flat144 {p : Pu.Plan} (hp : Pu.PlanOk p) {W H : Nat} (hW : p.w = W) (hH : p.h = H) : H * W ≤ 144 := by
  have hw := hp.w
  have hh := hp.h
  exact Nat.mul_le_mul (show H ≤ 12 by omega) (show W ≤ 12 by omega)
theorem mirrors_steps (p : Pu.Plan) (hp : Pu.PlanOk p) (hne : p.near = 77 ∨ p.near = 86) (hk : p.kind ≠ 83) (h1 : p.sw = 0) (h2 : p.sh = 0) (W H : Nat) (hW : p.w = W) (hH : p.h = H) (rk : RuleOk (Pu.ruleOf p)) : ∃ NX, StepsBy p false W H NX := by
  have hkd := hp.kind
  have hWH := flat144 hp hW hH
  by_cases h80 : p.kind = 80
  · refine ⟨nextS (Pu.ruleOf p) (planeG (Pu.shapeOf p)) W H, ⟨fun wx q age S hS h0 h1 hg => ?_, fun S hS => nextS_ok _ hp.c.1 _ _ _ _ hS, fun Su Sw _ _ hr => ?_⟩⟩
    · exact wstep_plane q (Pu.ruleOf p) (Pu.shapeOf p) age S 1 wx hg rk (two_plan hp) (plan_shape hp) h80 W H hW hH hp.near hp.c.1 hp.c.2 hS (by omega) h0 (by omega)
    · exact mirror_next (Pu.ruleOf p) hne _ W H hWH (fun Su Sw hr X Y _ _ _ _ => plane_mirror (two_plan hp) hW hH hr X Y) Su Sw hr
  · have hk3 : p.kind = 84 ∨ p.kind = 75 ∨ p.kind = 67 := by simp at hkd; omega
    refine ⟨nextS (Pu.ruleOf p) (foldG (Pu.shapeOf p)) W H, ⟨fun wx q age S hS h0 h1 hg => ?_, fun S hS => nextS_ok _ hp.c.1 _ _ _ _ hS, fun Su Sw _ _ hr => ?_⟩⟩
    · exact step_plan hp hk3 hW hH rk wx q age S 1 (by omega) hS h0 h1 hg
    · exact mirror_next (Pu.ruleOf p) hne _ W H hWH (fun Su Sw hr X Y _ _ _ _ => foldG_mirror (two_plan hp) h1 h2 hW hH hr X Y) Su Sw hr
end Go.Proofs.Ytiimimclbkjcbaa
namespace Go.Proofs.Ytiimimclbkjcbaa
open Go.RowKit
open Go.Proofs

/-- What is seen of a world, unfolded, from (X, Y) on. -/
def viewF (x : Pu.Shape) (S : List Int) (X Y : Int) (i j : Nat) : Int := foldG x S (X + i) (Y + j)
theorem viewF_bd {p : Pu.Plan} (hp : Pu.PlanOk p) {W : Nat} (hW : p.w = W) {S : List Int} (hS : StOk (Pu.ruleOf p) S) (X Y : Int) (i j : Nat) : 0 ≤ viewF (Pu.shapeOf p) S X Y i j ∧ viewF (Pu.shapeOf p) S X Y i j < p.c := by
  unfold viewF
  rw [foldG_at (two_plan hp) (W := W) hW S]
  exact hS.2 _
theorem plan_turn {p : Pu.Plan} (hp : Pu.PlanOk p) (hk : p.kind = 84) : turnW (Pu.shapeOf p) = false ∧ turnH (Pu.shapeOf p) = false ∧ ((Pu.shapeOf p).ws = 0 ∨ (Pu.shapeOf p).hs = 0) := by
  have ht := hp.torus
  have hs := hp.plain (by omega)
  refine ⟨?_, ?_, ?_⟩
  · show (p.star || (p.kind == 67)) = false
    rw [hs.1, hk]; rfl
  · show (p.starH || (p.kind == 67)) = false
    rw [hs.2, hk]; rfl
  · show p.sw = 0 ∨ p.sh = 0
    omega
theorem lifts_one {p : Pu.Plan} (hp : Pu.PlanOk p) (hk : p.kind = 84 ∨ p.near ≠ 72) {W H : Nat} (hW : p.w = W) (hH : p.h = H) (S : List Int) (X Y : Int) :
    foldG (Pu.shapeOf p) (nextS (Pu.ruleOf p) (foldG (Pu.shapeOf p)) W H S) X Y = nextR (Pu.ruleOf p) (foldG (Pu.shapeOf p) S X Y) (ones9 (onesW (Pu.ruleOf p).around fun a b => foldG (Pu.shapeOf p) S (X + ((a : Int) - 1)) (Y + ((b : Int) - 1))) 9) := by
  by_cases h84 : p.kind = 84
  · have t := plan_turn hp h84
    exact step_torus (Pu.ruleOf p) (two_plan hp) t.1 t.2.1 t.2.2 hW hH S X Y
  · have hn := hp.near
    have hfl := hp.flat h84
    exact step_turned (Pu.ruleOf p) (show p.near = 77 ∨ p.near = 86 by omega) (two_plan hp) hfl.1 hfl.2 hW hH S X Y
theorem lifts_next {p : Pu.Plan} (hp : Pu.PlanOk p) (hk : p.kind = 84 ∨ p.near ≠ 72) {W H : Nat} (hW : p.w = W) (hH : p.h = H) {S : List Int} (hS : StOk (Pu.ruleOf p) S) (X Y : Int) (i j : Nat) :
    onF p (viewF (Pu.shapeOf p) S X Y) i j = viewF (Pu.shapeOf p) (nextS (Pu.ruleOf p) (foldG (Pu.shapeOf p)) W H S) (X + 1) (Y + 1) i j := by
  have hc := hp.c
  unfold onF
  show _ = foldG (Pu.shapeOf p) _ (X + 1 + i) (Y + 1 + j)
  rw [lifts_one hp hk hW hH S]
  have e0 : viewF (Pu.shapeOf p) S X Y (i + 1) (j + 1) = foldG (Pu.shapeOf p) S (X + 1 + i) (Y + 1 + j) := by
    unfold viewF
    congr 1 <;> omega
  have e3 : ones9 (onesW (Pu.ruleOf p).around fun a b => foldG (Pu.shapeOf p) S (X + 1 + i + ((a : Int) - 1)) (Y + 1 + j + ((b : Int) - 1))) 9 = ones9 (onesF p (viewF (Pu.shapeOf p) S X Y) i j) 9 := by
    apply ones9_congr
    intro a b ha hab
    unfold onesW onesF
    show (nearR p.near ((a : Int) - 1) ((b : Int) - 1) && (foldG (Pu.shapeOf p) S (X + 1 + i + ((a : Int) - 1)) (Y + 1 + j + ((b : Int) - 1)) == 1)) = _
    rw [near_counts hp.near (by omega) (by omega)]
    have e4 : viewF (Pu.shapeOf p) S X Y (i + a) (j + b) = foldG (Pu.shapeOf p) S (X + 1 + i + ((a : Int) - 1)) (Y + 1 + j + ((b : Int) - 1)) := by
      unfold viewF
      congr 1 <;> omega
    rw [e4]
  rw [e3, e0]
  refine (next_next ?_ ?_).symm
  · rw [foldG_at (two_plan hp) (W := W) hW S]
    exact hS.2 _
  · have := ones9_8 (onesF p (viewF (Pu.shapeOf p) S X Y) i j) (by unfold onesF countsP; simp)
    omega
end Go.Proofs.Ytiimimclbkjcbaa
namespace Go.Proofs.Ytiimimclbkjcbaa
open Go.RowKit
open Go.Proofs

set_option maxRecDepth 100000 in
set_option maxHeartbeats 2000000 in
theorem square_any (p : Pu.Plan) (hp : Pu.PlanOk p) (rk : RuleOk (Pu.ruleOf p)) (hk : p.kind = 84 ∨ p.kind = 75 ∨ p.kind = 67) (q : Nat) (age : Int) (S : List Int) (X Y : Int) (hX : -1099511627776 ≤ X ∧ X ≤ 1099511627776) (hY : -1099511627776 ≤ Y ∧ Y ≤ 1099511627776) (n : Nat) (hn : n ≤ 3) (w : World)
    (h : GrAt w q (preOf (Pu.ruleOf p) (Pu.shapeOf p) age) p.w p.h 0 0 S) :
    Calls Try.prog 24 #[.pointer (some ⟨q, 0, none⟩), .int .i64 X, .int .i64 Y, .int .i64 n] w fun e w' => (∃ v', e = .returned v' ∧ MxF w' w.heap.size v' (2 * n + 1) (2 * n + 1) (viewF (Pu.shapeOf p) S (X - n) (Y - n))) ∧ Kp (fun _ => False) w w' := by
  have LG := hide (fun (wx : World) (a b : Int) (hg : GrAt wx q (preOf (Pu.ruleOf p) (Pu.shapeOf p) age) p.w p.h 0 0 S) (hX : -1099511627800 ≤ a ∧ a ≤ 1099511627800) (hY : -1099511627800 ≤ b ∧ b ≤ 1099511627800) => wget_fold q (Pu.ruleOf p) (Pu.shapeOf p) age 0 0 S a b wx hg rk (plan_fold hp) hk (by omega) (by omega) (by omega) (by omega) (by omega) (by omega))
  have HV : Hid (∀ i j : Nat, getP (Pu.shapeOf p).w (Pu.shapeOf p).h 0 0 S (foldX (Pu.shapeOf p) (X - n + i) (Y - n + j)) (foldY (Pu.shapeOf p) (X - n + i) (Y - n + j)) = viewF (Pu.shapeOf p) S (X - n) (Y - n) i j) := fun _ _ => rfl
  generalize viewF (Pu.shapeOf p) S (X - n) (Y - n) = E at *
  have G0 := hide h
  obtain ⟨N, hN⟩ : ∃ N : Nat, N = 2 * n + 1 := ⟨_, rfl⟩
  rw [← hN]
  have HN := hide hN
  have hN7 : N ≤ 7 := by omega
  have hN1 : 1 ≤ N := by omega
  clear hN
  obtain ⟨ti, ti1, ti2, ti3, ti4⟩ := info_int1
  obtain ⟨tr, tr1, tr2, tr3, tr4⟩ := info_row1
  have TI1 := hide ti1
  have TI2 := hide ti2
  have TI3 := hide ti3
  have TI4 := hide ti4
  have TR1 := hide tr1
  have TR2 := hide tr2
  have TR3 := hide tr3
  have TR4 := hide tr4
  clear ti1 ti2 ti3 ti4 tr1 tr2 tr3 tr4 h hp rk hk
  go_enter Try.func24, Try.ntmps24
  go_wp2_with fail
  go_loopg [9, 10] N (fun gk vo jj wr => ∃ k : Nat, k ≤ N ∧ N ≤ k + gk ∧ jj = .int .i64 (Y - n + k) ∧ MxF wr w.heap.size vo k N E ∧ Kp (fun _ => False) w wr)
  case atStart => exact ⟨0, by omega, by omega, val_int (by omega), MxF.nil _ _ _ _, Kp.refl _ _⟩
  case round =>
    obtain ⟨k, g1, g2, rfl, m2, k2⟩ := hrel
    have M2 := hide m2
    have K2 := hide k2
    clear m2 k2
    by_cases hk : k < N
    · have hkk : Y - n + k ≤ Y + n := by have := HN.out; omega
      go_wp2_with fail
      obtain ⟨gO, hgO⟩ : ∃ g, g = gk := ⟨gk, rfl⟩
      have HGO := hide hgO
      obtain ⟨wO, hwO⟩ : ∃ u, u = wr := ⟨wr, rfl⟩
      rw [← hwO] at M2 K2
      have sO := K2.out.size
      clear hgO
      go_loopg [11, 12] N (fun gi vr ii ws => ∃ m : Nat, m ≤ N ∧ N ≤ m + gi ∧ ii = .int .i64 (X - n + m) ∧ ws.ownsRow wO.heap.size 3 1 vr m (rowL (fun x => E x k) m) ∧ Kp (fun _ => False) wO ws)
      case atStart => exact ⟨0, by omega, by omega, val_int (by omega), World.ownsRow_nil _ _ _ _, by rw [hwO]; exact Kp.refl _ _⟩
      case round =>
        obtain ⟨m, r1, r2, rfl, o3, k3⟩ := hrel
        have O3 := hide o3
        have K3 := hide k3
        clear o3 k3
        by_cases hm : m < N
        · have hmm : X - n + m ≤ X + n := by have := HN.out; omega
          have LGk := hide (fun (wx : World) (hg : GrAt wx q (preOf (Pu.ruleOf p) (Pu.shapeOf p) age) p.w p.h 0 0 S) => LG.out wx (X - n + m) (Y - n + k) hg (by omega) (by omega))
          rw [HV.out] at LGk
          go_wp2_with fail
          refine (LGk.out _ (G0.out.keep (K2.out.trans K3.out) (fun hx => hx))).mono ?_
          rintro e w6 ⟨rfl, k6⟩
          have O6 := hide (own_keep O3.out k6 (by intro g hg hx; exact hx))
          have K6 := hide (K3.out.trans k6)
          have s6 := K6.out.size
          clear k6
          go_wp2_with (refine wpList_append_own _ rfl _ _ 43 rfl wO.heap.size 3 ti (.int .i64 0) 1 8 Try.underlying43 TI1.out TI2.out TI3.out TI4.out rfl (by decide) u11 m (rowL (fun x => E x k) m) rfl
                        (own_of O6.out fun g hg _ => Below.heap_alloc _ _ _ hg) ⟨w6.heap.size, 0, none⟩ 1 1 [.int .i64 (E m k)] rfl rfl (World.news_of_block (heap_alloc_new w6 (.cells #[.int .i64 (E m k)] 3)))
                        (by simp [Value.oneCell']) (by unfold maxLen; omega) (by omega) (by rw [alloc_size]; omega) ?_
                       intro v9 w9 hown hgrow _
                       have O9 := hide hown
                       have K9 := hide (grow_kp K6.out O6.out (Nat.le_refl _) hgrow)
                       clear hown hgrow)
          go_roundg (gk - 1)
          case measure => omega
          case rel => exact ⟨m + 1, by omega, by omega, val_int (by omega), by rw [rowL_succ]; exact O9.out, K9.out⟩
        · have em : m = N := by omega
          subst em
          have hmm : ¬ X - n + m ≤ X + n := by have := HN.out; omega
          obtain ⟨gr, cr, rfl, hgr, hrow⟩ := rowF_of_own O3.out (by omega)
          have HR := hide hrow
          clear hrow
          have MK := hide (M2.out.keep K3.out)
          have KW := hide (K2.out.trans K3.out)
          obtain ⟨vs, hvs, _⟩ := MK.out.own
          have HVS := hide hvs
          clear hvs
          have szO := KW.out.size
          go_wp2_with (refine wpList_append_own _ rfl _ _ 42 rfl w.heap.size 43 tr (.slice none 0 0) 1 24 Try.underlying42 TR1.out TR2.out TR3.out TR4.out rfl (by decide) u9 k vs rfl
                        (own_of HVS.out fun g hg _ => Below.heap_alloc _ _ _ hg) ⟨wr.heap.size, 0, none⟩ 1 1 [.slice (some ⟨gr, 0, none⟩) m cr] rfl rfl (World.news_of_block (heap_alloc_new wr (.cells #[.slice (some ⟨gr, 0, none⟩) m cr] 43)))
                        (by simp [Value.oneCell']) (by unfold maxLen; omega) (by omega) (by rw [alloc_size]; omega) ?_
                       intro v9 w9 hown hgrow _
                       have M9 : Hid (MxF w9 w.heap.size v9 (k + 1) m E) := MK.out.push HR.out (fun vs2 h2 => by
                         have e : vs2 = vs := own_uniq h2 HVS.out
                         subst e
                         exact ⟨hown, grow_ints HVS.out hgrow⟩)
                       have K9 := hide (grow_kp KW.out HVS.out (Nat.le_refl _) hgrow)
                       clear hown hgrow)
          go_roundg (gO - 1)
          case measure => have := HGO.out; omega
          case rel => exact ⟨k + 1, by omega, by have := HGO.out; omega, val_int (by omega), M9.out, K9.out⟩
    · have ek : k = N := by omega
      subst ek
      have hkk : ¬ Y - n + k ≤ Y + n := by have := HN.out; omega
      go_wp2_with fail
      go_ret
      exact ⟨⟨_, rfl, M2.out⟩, K2.out⟩
end Go.Proofs.Ytiimimclbkjcbaa
