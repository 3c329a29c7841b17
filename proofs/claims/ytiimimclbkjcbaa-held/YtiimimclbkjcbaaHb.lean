import Derived.Test.YtiimimclbkjcbaaGh
namespace Go.Proofs.Ytiimimclbkjcbaa
open Go.RowKit
open Go.Proofs

/-- A plane does not fold; nor does a sphere. -/
theorem folds_no (s : Pu.Shape) (w : World) (h : s.kind = 80 ∨ s.kind = 83) : Calls Try.prog 49 #[.agg (shv s)] w fun e w' => e = .returned (.bool false) ∧ Kp (fun _ => False) w w' := by
  obtain ⟨kind, xw, xh, ws, hs, wst, hst⟩ := s
  simp only [shv] at *
  rcases h with rfl | rfl
  all_goals
    go_enter Try.func49, Try.ntmps49
    go_wp2
    go_ret
    exact ⟨rfl, (Kp.refl _ _).alloc _⟩

set_option maxHeartbeats 400000 in
theorem find_no (s : Pu.Shape) (a b : Int) (w : World) (h : s.kind = 80 ∨ s.kind = 83) :
    Calls Try.prog 33 #[.agg (shv s), .int .i64 a, .int .i64 b] w fun e w' => e = .returned (.tuple #[.int .i64 a, .int .i64 b, .bool (hasB s a b)]) ∧ Kp (fun _ => False) w w' := by
  have HF := hide (fun wx => folds_no s wx h)
  have HH := hide (fun wx => has_any s a b wx)
  clear h
  go_enter Try.func33, Try.ntmps33
  go_wp2_with (first
    | (refine wpList_box_row rfl 58 _ rfl (shv s) rfl ?_
       intro w1 hw1
       have A1 : Hid (w1.heap[w.heap.size]? = some (.cells (shv s) 58 (0, 0))) := by rw [hw1]; exact heap_alloc_new _ _
       have K1 : Hid (Kp (fun _ => False) w w1) := by rw [hw1]; exact (Kp.refl _ _).alloc _
       clear hw1)
    | (refine wpList_load_row rfl 58 _ rfl w.heap.size rfl 58 (shv s) (0, 0) _ A1.out Try.underlying58 rfl info_shape ?_))
  refine (HF.out _).mono ?_
  rintro e w2 ⟨rfl, k2⟩
  have A2 := hide (k2.row A1.out (fun hx => hx))
  have K2 := hide (K1.out.trans k2)
  clear k2
  go_wp2_with (refine wpList_load_row rfl 58 _ rfl w.heap.size rfl 58 (shv s) (0, 0) _ A2.out Try.underlying58 rfl info_shape ?_)
  refine (HH.out _).mono ?_
  rintro e w3 ⟨rfl, k3⟩
  have K3 := hide (K2.out.trans k3)
  clear k3
  go_wp2_with fail
  go_ret3
  exact ⟨rfl, K3.out⟩

set_option maxHeartbeats 400000 in
theorem wget_no (q : Nat) (r : Pu.Rule) (x : Pu.Shape) (age l t : Int) (S : List Int) (a b : Int) (w : World) (h : GrAt w q (preOf r x age) x.w x.h l t S) (hr : RuleOk r) (hx : Pu.ShapeOk x) (hk : x.kind = 80 ∨ x.kind = 83)
    (l0 : -50000000 ≤ l) (l1 : l ≤ 50000000) (t0 : -50000000 ≤ t) (t1 : t ≤ 50000000) :
    Calls Try.prog 20 #[.pointer (some ⟨q, 0, none⟩), .int .i64 a, .int .i64 b] w fun e w' => e = .returned (.int .i64 (if hasB x a b = true then getP x.w x.h l t S a b else 0)) ∧ Kp (fun _ => False) w w' := by
  have HF := hide (fun wx => find_no x a b wx hk)
  have ld := hide (fun j v => h.shape hr j v)
  have HG := hide (fun (wx : World) (hx' : GrAt wx q (preOf r x age) x.w x.h l t S) => gget_any q (preOf r x age) x.w x.h l t S a b wx hx' hx.w0 hx.w12 hx.h0 hx.h12 l0 l1 t0 t1)
  have H := hide h
  clear h hk
  cases hh : hasB x a b with
  | false =>
    rw [hh] at HF
    rw [if_neg (by simp)]
    go_enter Try.func20, Try.ntmps20
    go_wp2_with (refine wpList_load_at rfl 58 _ rfl q 20 rfl (shv x) ld.out _ Try.underlying58 rfl info_shape ?_)
    refine (HF.out _).mono ?_
    rintro e w1 ⟨rfl, k1⟩
    have K1 := hide k1
    clear k1
    go_wp2_with fail
    go_ret
    exact ⟨rfl, K1.out⟩
  | true =>
    rw [hh] at HF
    rw [if_pos rfl]
    go_enter Try.func20, Try.ntmps20
    go_wp2_with (refine wpList_load_at rfl 58 _ rfl q 20 rfl (shv x) ld.out _ Try.underlying58 rfl info_shape ?_)
    refine (HF.out _).mono ?_
    rintro e w1 ⟨rfl, k1⟩
    have G1 := hide (H.out.keep k1 (fun hx => hx))
    have K1 := hide k1
    clear k1
    go_wp2_with fail
    refine (HG.out _ G1.out).mono ?_
    rintro e w2 ⟨rfl, hw⟩
    subst w2
    go_wp2_with fail
    go_ret
    exact ⟨rfl, K1.out⟩
end Go.Proofs.Ytiimimclbkjcbaa
