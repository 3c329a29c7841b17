import Derived.Test.YtiimimclbkjcbaaM4
namespace Go.Proofs.Ytiimimclbkjcbaa
open Go.RowKit
open Go.Proofs

/-- The cells of a run. -/
def runv (x : Pu.Run) : Array Value := #[.int .i64 x.count, .int .i64 x.state, .bool x.down]
theorem info_run : (Try.prog.info? 94).map (·.size) = some 3 := by kernel_rfl
theorem runv_one (x : Pu.Run) : (runv x).all (·.oneCell') = true := by
  rw [Array.all_eq_true_iff_forall_mem]
  intro v hv
  simp [runv] at hv
  rcases hv with rfl | rfl | rfl <;> rfl
/-- What a call that reads a run hands back. -/
def RunRet (e : Ending) (o : Option Pu.Run) : Prop := ∃ x : Pu.Run, e = .returned (.tuple #[.agg (runv x), .bool o.isSome]) ∧ ∀ a, o = some a → x = a
theorem build_run0 (w : World) : (Instr.build 94 #[]).run Try.prog w = .ok (.agg (runv ⟨0, 0, false⟩)) w := by kernel_rfl
theorem build_run1 (w : World) (c : Int) : (Instr.build 94 #[(0, .int .i64 c), (2, .bool true)]).run Try.prog w = .ok (.agg (runv ⟨c, 0, true⟩)) w := by kernel_rfl
theorem build_run2 (w : World) (c x : Int) : (Instr.build 94 #[(0, .int .i64 c), (1, .int .i64 x)]).run Try.prog w = .ok (.agg (runv ⟨c, x, false⟩)) w := by kernel_rfl

/-- What run does behind its count. -/
def runRest (c n : Int) : Pu.Rd Pu.Run := Pu.bnd (Pu.opt 36) fun b => if b = true then Pu.ret ⟨n, 0, true⟩ else Pu.bnd (Pu.state c) fun s => Pu.ret ⟨n, s, false⟩
theorem run_eq (c : Int) : Pu.run c = Pu.bnd Pu.count (runRest c) := rfl

set_option maxHeartbeats 1000000 in
theorem run_any (b : Nat) (s : ByteArray) (i : Nat) (c : Int) (w : World) (h : RdAt w b s i) (c0 : 0 ≤ c) (c9 : c ≤ 9) (j : Nat) (o : Option Pu.Run) (hq : Hid (Pu.run c (src s) i = (j, o))) :
    Calls Try.prog 74 #[.pointer (some ⟨b, 0, none⟩), .int .i64 c] w fun e w' => RunRet e o ∧ RdAt w' b s j ∧ Kp (· = b) w w' := by
  have hb := h.lt
  have H := hide (h.alloc (.cells (runv ⟨0, 0, false⟩) 94))
  clear h
  have bu0 := build_run0
  have bu1 := build_run1
  have bu2 := build_run2
  have hdb := Pu.digit_bd (src s) i
  have hrest : ∀ (n : Int) (j1 : Nat) (w1 : World), RdAt w1 b s j1 → Kp (· = b) w w1 → w1.heap[w.heap.size]? = some (.cells (runv ⟨0, 0, false⟩) 94 (0, 0)) → runRest c n (src s) j1 = (j, o) →
      (src s j1 = 36 ∧ j = j1 + 1 ∧ o = some ⟨n, 0, true⟩) ∨ (¬ src s j1 = 36 ∧ ∃ o2, Pu.state c (src s) j1 = (j, o2) ∧ o = o2.map fun x => ⟨n, x, false⟩) := by
    intro n j1 w1 _ _ _ hr
    unfold runRest at hr
    by_cases e : src s j1 = 36
    · rw [bnd_some (opt_yes e), if_pos rfl] at hr
      obtain ⟨rfl, rfl⟩ := Prod.mk.inj hr
      exact Or.inl ⟨e, rfl, rfl⟩
    · rw [bnd_some (opt_no e), if_neg (by simp)] at hr
      rcases hs : Pu.state c (src s) j1 with ⟨j2, _ | x⟩
      · rw [bnd_none hs] at hr
        obtain ⟨rfl, rfl⟩ := Prod.mk.inj hr
        exact Or.inr ⟨e, none, rfl, rfl⟩
      · rw [bnd_some hs] at hr
        obtain ⟨rfl, rfl⟩ := Prod.mk.inj hr
        exact Or.inr ⟨e, some x, rfl, rfl⟩
  have HREST := hide hrest
  clear hrest
  have hq' := hq.out
  rw [run_eq] at hq'
  by_cases hd : 0 ≤ Pu.digit (src s) i
  · have ec : Pu.count (src s) i = Pu.number 2 99 (src s) i := by unfold Pu.count; rw [if_pos hd]
    rcases hn : Pu.number 2 99 (src s) i with ⟨j1, _ | n⟩
    · rw [bnd_none (ec.trans hn)] at hq'
      obtain ⟨rfl, rfl⟩ := Prod.mk.inj hq'
      have HN := hide hn
      clear hq' hn ec hq HREST
      go_enter Try.func74, Try.ntmps74
      go_wp2_with fail
      refine (digit_any b s i _ H.out).mono ?_
      rintro e w1 ⟨rfl, n1, rfl⟩
      go_wp2_with fail
      refine (number_any b s i 2 99 _ (H.out.drewN _) (by omega) (by omega) (by omega) (by omega) j1 none HN).mono ?_
      rintro e w2 ⟨⟨x, rfl, hx⟩, r2, k2⟩
      clear hx
      have A2 := hide (k2.row (g := w.heap.size) (heap_alloc_new w (.cells (runv ⟨0, 0, false⟩) 94)) (by omega))
      have K2 := hide ((((Kp.refl (· = b) w).alloc _).drewN _).trans k2)
      have R2 := hide r2
      clear k2 r2
      go_wp2_with (refine wpList_store_row rfl 94 _ _ rfl w.heap.size (runv ⟨0, 0, false⟩) rfl rfl 94 (runv ⟨0, 0, false⟩) A2.out info_run rfl (runv_one _) ?_)
      exact bodyPost_ret (v := .tuple #[.agg (runv ⟨0, 0, false⟩), .bool false]) (results_row_tmp Try.results74 _ _ w.heap.size 94 _ (0, 0) _ rfl (setRow_heap _ _ _ _ _ _ A2.out) Try.underlying94 rfl info_run) rfl
        ⟨⟨_, rfl, fun a ha => by simp at ha⟩, R2.out.setRow (by omega) _, K2.out.setRowNew (Nat.le_refl _) _⟩
    · rw [bnd_some (ec.trans hn)] at hq'
      have hnb := number_bd hn
      have HN := hide hn
      have HQ := hide hq'
      clear hq' hn ec hq
      go_enter Try.func74, Try.ntmps74
      go_wp2_with fail
      refine (digit_any b s i _ H.out).mono ?_
      rintro e w1 ⟨rfl, n1, rfl⟩
      go_wp2_with fail
      refine (number_any b s i 2 99 _ (H.out.drewN _) (by omega) (by omega) (by omega) (by omega) j1 (some n) HN).mono ?_
      rintro e w2 ⟨⟨x, rfl, hx⟩, r2, k2⟩
      obtain rfl := hx n rfl
      clear hx
      have A2 := hide (k2.row (g := w.heap.size) (heap_alloc_new w (.cells (runv ⟨0, 0, false⟩) 94)) (by omega))
      have K2 := hide ((((Kp.refl (· = b) w).alloc _).drewN _).trans k2)
      have R2 := hide r2
      clear k2 r2
      rcases HREST.out x j1 w2 R2.out K2.out A2.out HQ.out with ⟨e, rfl, rfl⟩ | ⟨e, o2, hst, rfl⟩
      · have E := hide e
        clear e HQ HREST
        go_wp2_with fail
        refine (take_yes R2.out (by omega) E.out).mono ?_
        rintro e w3 ⟨rfl, r3, k3⟩
        have A3 := hide (k3.row A2.out (by omega))
        have K3 := hide (K2.out.trans k3)
        have R3 := hide r3
        clear k3 r3
        go_wp2_with (refine wpList_store_row rfl 94 _ _ rfl w.heap.size (runv ⟨x, 0, true⟩) rfl rfl 94 (runv ⟨0, 0, false⟩) A3.out info_run rfl (runv_one _) ?_)
        exact bodyPost_ret (v := .tuple #[.agg (runv ⟨x, 0, true⟩), .bool true]) (results_row_tmp Try.results74 _ _ w.heap.size 94 _ (0, 0) _ rfl (setRow_heap _ _ _ _ _ _ A3.out) Try.underlying94 rfl info_run) rfl
          ⟨⟨_, rfl, fun a ha => Option.some.inj ha⟩, R3.out.setRow (by omega) _, K3.out.setRowNew (Nat.le_refl _) _⟩
      · have E := hide e
        have HS := hide hst
        clear e HQ HREST hst
        go_wp2_with fail
        refine (take_no R2.out (by omega) E.out).mono ?_
        rintro e w3 ⟨rfl, r3, k3⟩
        have A3 := hide (k3.row A2.out (by omega))
        have K3 := hide (K2.out.trans k3)
        have R3 := hide r3
        clear k3 r3
        go_wp2_with fail
        refine (state_any b s j1 c _ R3.out c0 c9 j o2 HS).mono ?_
        rintro e w4 ⟨⟨y, rfl, hy⟩, r4, k4⟩
        have A4 := hide (k4.row A3.out (by omega))
        have K4 := hide (K3.out.trans k4)
        have R4 := hide r4
        have HY := hide hy
        clear k4 r4 hy
        go_wp2_with (refine wpList_store_row rfl 94 _ _ rfl w.heap.size (runv ⟨x, y, false⟩) rfl rfl 94 (runv ⟨0, 0, false⟩) A4.out info_run rfl (runv_one _) ?_)
        refine bodyPost_ret (v := .tuple #[.agg (runv ⟨x, y, false⟩), .bool o2.isSome]) (results_row_tmp Try.results74 _ _ w.heap.size 94 _ (0, 0) _ rfl (setRow_heap _ _ _ _ _ _ A4.out) Try.underlying94 rfl info_run) rfl
          ⟨⟨⟨x, y, false⟩, by cases o2 <;> rfl, ?_⟩, R4.out.setRow (by omega) _, K4.out.setRowNew (Nat.le_refl _) _⟩
        intro a ha
        cases o2 with
        | none => simp at ha
        | some z => rw [HY.out z rfl]; exact Option.some.inj ha
  · have ec : Pu.count (src s) i = (i, some 1) := by unfold Pu.count; rw [if_neg hd]
    rw [bnd_some ec] at hq'
    have HQ := hide hq'
    clear hq' ec hq
    go_enter Try.func74, Try.ntmps74
    go_wp2_with fail
    refine (digit_any b s i _ H.out).mono ?_
    rintro e w1 ⟨rfl, n1, rfl⟩
    have A2 : Hid (((w.alloc (.cells (runv ⟨0, 0, false⟩) 94)).drewN n1).heap[w.heap.size]? = some (.cells (runv ⟨0, 0, false⟩) 94 (0, 0))) := heap_alloc_new w (.cells (runv ⟨0, 0, false⟩) 94)
    have K2 := hide (((Kp.refl (· = b) w).alloc (.cells (runv ⟨0, 0, false⟩) 94)).drewN n1)
    have R2 := hide (H.out.drewN n1)
    rcases HREST.out 1 i _ R2.out K2.out A2.out HQ.out with ⟨e, rfl, rfl⟩ | ⟨e, o2, hst, rfl⟩
    · have E := hide e
      clear e HQ HREST
      go_wp2_with fail
      refine (take_yes R2.out (by omega) E.out).mono ?_
      rintro e w3 ⟨rfl, r3, k3⟩
      have A3 := hide (k3.row A2.out (by omega))
      have K3 := hide (K2.out.trans k3)
      have R3 := hide r3
      clear k3 r3
      go_wp2_with (refine wpList_store_row rfl 94 _ _ rfl w.heap.size (runv ⟨1, 0, true⟩) rfl rfl 94 (runv ⟨0, 0, false⟩) A3.out info_run rfl (runv_one _) ?_)
      exact bodyPost_ret (v := .tuple #[.agg (runv ⟨1, 0, true⟩), .bool true]) (results_row_tmp Try.results74 _ _ w.heap.size 94 _ (0, 0) _ rfl (setRow_heap _ _ _ _ _ _ A3.out) Try.underlying94 rfl info_run) rfl
        ⟨⟨_, rfl, fun a ha => Option.some.inj ha⟩, R3.out.setRow (by omega) _, K3.out.setRowNew (Nat.le_refl _) _⟩
    · have E := hide e
      have HS := hide hst
      clear e HQ HREST hst
      go_wp2_with fail
      refine (take_no R2.out (by omega) E.out).mono ?_
      rintro e w3 ⟨rfl, r3, k3⟩
      have A3 := hide (k3.row A2.out (by omega))
      have K3 := hide (K2.out.trans k3)
      have R3 := hide r3
      clear k3 r3
      go_wp2_with fail
      refine (state_any b s i c _ R3.out c0 c9 j o2 HS).mono ?_
      rintro e w4 ⟨⟨y, rfl, hy⟩, r4, k4⟩
      have A4 := hide (k4.row A3.out (by omega))
      have K4 := hide (K3.out.trans k4)
      have R4 := hide r4
      have HY := hide hy
      clear k4 r4 hy
      go_wp2_with (refine wpList_store_row rfl 94 _ _ rfl w.heap.size (runv ⟨1, y, false⟩) rfl rfl 94 (runv ⟨0, 0, false⟩) A4.out info_run rfl (runv_one _) ?_)
      refine bodyPost_ret (v := .tuple #[.agg (runv ⟨1, y, false⟩), .bool o2.isSome]) (results_row_tmp Try.results74 _ _ w.heap.size 94 _ (0, 0) _ rfl (setRow_heap _ _ _ _ _ _ A4.out) Try.underlying94 rfl info_run) rfl
        ⟨⟨⟨1, y, false⟩, by cases o2 <;> rfl, ?_⟩, R4.out.setRow (by omega) _, K4.out.setRowNew (Nat.le_refl _) _⟩
      intro a ha
      cases o2 with
      | none => simp at ha
      | some z => rw [HY.out z rfl]; exact Option.some.inj ha
end Go.Proofs.Ytiimimclbkjcbaa
