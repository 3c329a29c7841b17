import Derived.Test.YtbdbkjngdhcjpaaDoorM13
import Derived.Test.YtbdbkjngdhcjpaaDoorM14
import Derived.Test.YtbdbkjngdhcjpaaDoorM25
import Derived.Test.YtbdbkjngdhcjpaaDoorTb
namespace Go.Proofs.YtbdbkjngdhcjpaaDoor
open Go.RowKit
open Go.Proofs

/-- A plane does not fold; nor does a sphere. -/
theorem folds_no (s : Pu.Shape) (w : World) (h : s.kind = 80 ∨ s.kind = 83) : Calls Tryd.prog 49 #[.agg (shv s)] w fun e w' => e = .returned (.bool false) ∧ Kp (fun _ => False) w w' := by
  obtain ⟨kind, xw, xh, ws, hs, wst, hst⟩ := s
  simp only [shv] at *
  rcases h with rfl | rfl
  all_goals
    go_enter Tryd.func49, Tryd.ntmps49
    go_wp2
    go_ret
    exact ⟨rfl, (Kp.refl _ _).alloc _⟩

set_option maxHeartbeats 400000 in
theorem find_no (s : Pu.Shape) (a b : Int) (w : World) (h : s.kind = 80 ∨ s.kind = 83) :
    Calls Tryd.prog 29 #[.agg (shv s), .int .i64 a, .int .i64 b] w fun e w' => e = .returned (.tuple #[.int .i64 a, .int .i64 b, .bool (hasB s a b)]) ∧ Kp (fun _ => False) w w' := by
  have HF := hide (fun wx => folds_no s wx h)
  have HH := hide (fun wx => has_any s a b wx)
  clear h
  go_enter Tryd.func29, Tryd.ntmps29
  go_wp2_with (first
    | (refine wpList_box_row rfl 50 _ rfl (shv s) rfl ?_
       intro w1 hw1
       have A1 : Hid (w1.heap[w.heap.size]? = some (.cells (shv s) 50 (0, 0))) := by rw [hw1]; exact heap_alloc_new _ _
       have K1 : Hid (Kp (fun _ => False) w w1) := by rw [hw1]; exact (Kp.refl _ _).alloc _
       clear hw1)
    | (refine wpList_load_row rfl 50 _ rfl w.heap.size rfl 50 (shv s) (0, 0) _ A1.out Tryd.underlying50 rfl info_shape ?_))
  refine (HF.out _).mono ?_
  rintro e w2 ⟨rfl, k2⟩
  have A2 := hide (k2.row A1.out (fun hx => hx))
  have K2 := hide (K1.out.trans k2)
  clear k2
  go_wp2_with (refine wpList_load_row rfl 50 _ rfl w.heap.size rfl 50 (shv s) (0, 0) _ A2.out Tryd.underlying50 rfl info_shape ?_)
  refine (HH.out _).mono ?_
  rintro e w3 ⟨rfl, k3⟩
  have K3 := hide (K2.out.trans k3)
  clear k3
  go_wp2_with fail
  go_ret3
  exact ⟨rfl, K3.out⟩

set_option maxHeartbeats 400000 in
theorem wget_no (q : Nat) (r : Pu.Rule) (x : Pu.Shape) (age l t : Int) (S : List Int) (a b : Int) (w : World) (h : GrAt w q (preOf r x age) x.w x.h l t S) (hr : RuleOk r) (hx : Pu.ShapeOk x) (hk : x.kind = 80 ∨ x.kind = 83)
    (l0 : -50000000 ≤ l) (l1 : l ≤ 50000000) (t0 : -50000000 ≤ t) (t1 : t ≤ 50000000) :
    Calls Tryd.prog 14 #[.pointer (some ⟨q, 0, none⟩), .int .i64 a, .int .i64 b] w fun e w' => e = .returned (.int .i64 (if hasB x a b = true then getP x.w x.h l t S a b else 0)) ∧ Kp (fun _ => False) w w' := by
  have HF := hide (fun wx => find_no x a b wx hk)
  have ld := hide (fun j v => h.shape hr j v)
  have HG := hide (fun (wx : World) (hx' : GrAt wx q (preOf r x age) x.w x.h l t S) => gget_any q (preOf r x age) x.w x.h l t S a b wx hx' hx.w0 hx.w12 hx.h0 hx.h12 l0 l1 t0 t1)
  have H := hide h
  clear h hk
  cases hh : hasB x a b with
  | false =>
    rw [hh] at HF
    rw [if_neg (by simp)]
    go_enter Tryd.func14, Tryd.ntmps14
    go_wp2_with (refine wpList_load_at rfl 50 _ rfl q 20 rfl (shv x) ld.out _ Tryd.underlying50 rfl info_shape ?_)
    refine (HF.out _).mono ?_
    rintro e w1 ⟨rfl, k1⟩
    have K1 := hide k1
    clear k1
    go_wp2_with fail
    go_ret
    exact ⟨rfl, K1.out⟩
  | true =>
    rw [hh] at HF
    rw [if_pos rfl]
    go_enter Tryd.func14, Tryd.ntmps14
    go_wp2_with (refine wpList_load_at rfl 50 _ rfl q 20 rfl (shv x) ld.out _ Tryd.underlying50 rfl info_shape ?_)
    refine (HF.out _).mono ?_
    rintro e w1 ⟨rfl, k1⟩
    have G1 := hide (H.out.keep k1 (fun hx => hx))
    have K1 := hide k1
    clear k1
    go_wp2_with fail
    refine (HG.out _ G1.out).mono ?_
    rintro e w2 ⟨rfl, hw⟩
    subst w2
    go_wp2_with fail
    go_ret
    exact ⟨rfl, K1.out⟩
end Go.Proofs.YtbdbkjngdhcjpaaDoor
namespace Go.Proofs.YtbdbkjngdhcjpaaDoor
open Go.RowKit
open Go.Proofs

set_option maxHeartbeats 400000 in
theorem rhas_any (r : Pu.Rule) (hr : RuleOk r) (s : Int) (w : World) : Calls Tryd.prog 33 #[.agg (rulev r), .int .i64 s] w fun e w' => e = .returned (.bool (decide (0 ≤ s ∧ s < r.states))) ∧ Kp (fun _ => False) w w' := by
  have HS := hide (rulev_states hr)
  by_cases h1 : 0 ≤ s
  · by_cases h2 : s < r.states
    · rw [decide_eq_true ⟨h1, h2⟩]
      go_enter Tryd.func33, Tryd.ntmps33
      go_wp2_with (refine wpList_box_row rfl 48 _ rfl (rulev r) rfl ?_
                   intro w1 hw1
                   have K1 : Hid (Kp (fun _ => False) w w1) := by rw [hw1]; exact (Kp.refl _ _).alloc _
                   have c1 : w1.cell? ⟨w.heap.size, 19, none⟩ = some (.int .i64 r.states) := by rw [hw1, cell_of_row _ _ _ _ _ _ (heap_alloc_new _ _)]; exact HS.out
                   clear hw1)
      go_ret
      exact ⟨rfl, K1.out⟩
    · rw [decide_eq_false (by omega)]
      go_enter Tryd.func33, Tryd.ntmps33
      go_wp2_with (refine wpList_box_row rfl 48 _ rfl (rulev r) rfl ?_
                   intro w1 hw1
                   have K1 : Hid (Kp (fun _ => False) w w1) := by rw [hw1]; exact (Kp.refl _ _).alloc _
                   have c1 : w1.cell? ⟨w.heap.size, 19, none⟩ = some (.int .i64 r.states) := by rw [hw1, cell_of_row _ _ _ _ _ _ (heap_alloc_new _ _)]; exact HS.out
                   clear hw1)
      go_ret
      exact ⟨rfl, K1.out⟩
  · rw [decide_eq_false (by omega)]
    go_enter Tryd.func33, Tryd.ntmps33
    go_wp2_with (refine wpList_box_row rfl 48 _ rfl (rulev r) rfl ?_
                 intro w1 hw1
                 have K1 : Hid (Kp (fun _ => False) w w1) := by rw [hw1]; exact (Kp.refl _ _).alloc _
                 clear hw1)
    go_ret
    exact ⟨rfl, K1.out⟩

/-- Put at a cell of a shape with two sides. -/
theorem slot_two {x : Pu.Shape} (h : Two x) {a b : Int} (ha : 0 ≤ a ∧ a < x.w) (hb : 0 ≤ b ∧ b < x.h) : slotP x.w x.h 0 0 a b = b * x.w + a ∧ 0 ≤ b * x.w + a ∧ b * x.w + a < 144 := by
  obtain ⟨h1, h2, h3, h4⟩ := h
  have sw : spanP x.w = x.w := by unfold spanP; rw [if_neg (by omega)]
  have sh : spanP x.h = x.h := by unfold spanP; rw [if_neg (by omega)]
  have m1 : b % x.h = b := Int.emod_eq_of_lt hb.1 hb.2
  have m2 : a % x.w = a := Int.emod_eq_of_lt ha.1 ha.2
  have p0 : 0 ≤ b * x.w := Int.mul_nonneg hb.1 (by omega)
  have p1 : b * x.w ≤ 11 * x.w := Int.mul_le_mul_of_nonneg_right (by omega) (by omega)
  refine ⟨?_, by omega, by omega⟩
  unfold slotP
  rw [sw, sh, m1, m2, if_neg (by omega), if_neg (by omega)]
theorem has_two {x : Pu.Shape} (h : Two x) {a b : Int} (ha : 0 ≤ a ∧ a < x.w) (hb : 0 ≤ b ∧ b < x.h) : hasB x a b = true ∧ nearB x a b = true := by
  obtain ⟨h1, h2, h3, h4⟩ := h
  unfold hasB nearB onSideB nearOnB
  simp
  omega

set_option maxRecDepth 100000 in
set_option maxHeartbeats 400000 in
theorem wput_two (q : Nat) (r : Pu.Rule) (x : Pu.Shape) (age : Int) (S : List Int) (a b s : Int) (w : World) (h : GrAt w q (preOf r x age) x.w x.h 0 0 S) (hr : RuleOk r) (hx : Two x) (ha : 0 ≤ a ∧ a < x.w) (hb : 0 ≤ b ∧ b < x.h) (hs : 0 ≤ s ∧ s < r.states) :
    Calls Tryd.prog 16 #[.pointer (some ⟨q, 0, none⟩), .int .i64 a, .int .i64 b, .int .i64 s] w fun e w' => e = .returned (.int .i64 0) ∧ GrAt w' q (preOf r x age) x.w x.h 0 0 (S.set (b * x.w + a).toNat s) ∧ Kp (· = q) w w' := by
  have hh := has_two hx ha hb
  have hz := slot_two hx ha hb
  have HF := hide (fun wx => has_any x a b wx)
  have HN := hide (fun wx => near_any x a b wx)
  have HR := hide (fun wx => rhas_any r hr s wx)
  rw [hh.1] at HF
  rw [hh.2] at HN
  rw [decide_eq_true hs] at HR
  have HP := hide (fun (wx : World) (hx' : GrAt wx q (preOf r x age) x.w x.h 0 0 S) => put_in q (preOf r x age) x.w x.h 0 0 S a b s wx hx' (by have := hx.1; omega) hx.2.1 (by have := hx.2.2.1; omega) hx.2.2.2 (by omega) (by omega) (by omega) (by omega) (by rw [hz.1]; exact hz.2.1))
  rw [hz.1] at HP
  have ld := hide (fun j v => h.shape hr j v)
  have H := hide h
  have ROK := hide hr
  have HQ := h.lt
  clear h hr hx ha hb hs hh hz
  go_enter Tryd.func16, Tryd.ntmps16
  go_wp2_with (refine wpList_load_at rfl 50 _ rfl q 20 rfl (shv x) ld.out _ Tryd.underlying50 rfl info_shape ?_)
  refine (HF.out _).mono ?_
  rintro e w1 ⟨rfl, k1⟩
  have G1 := hide (H.out.keep k1 (fun hx => hx))
  have K1 := hide (k1.mono (T := (· = q)) (fun _ hx => hx.elim))
  have ld1 := hide (fun j v => G1.out.shape ROK.out j v)
  have d20 : w1.cell? ⟨q, 20, none⟩ = some (.int .u8 x.kind) := ld1.out 0 _ rfl
  have d21 : w1.cell? ⟨q, 21, none⟩ = some (.int .i64 x.w) := ld1.out 1 _ rfl
  have d22 : w1.cell? ⟨q, 22, none⟩ = some (.int .i64 x.h) := ld1.out 2 _ rfl
  have d23 : w1.cell? ⟨q, 23, none⟩ = some (.int .i64 x.ws) := ld1.out 3 _ rfl
  have d24 : w1.cell? ⟨q, 24, none⟩ = some (.int .i64 x.hs) := ld1.out 4 _ rfl
  have d25 : w1.cell? ⟨q, 25, none⟩ = some (.bool x.wst) := ld1.out 5 _ rfl
  have d26 : w1.cell? ⟨q, 26, none⟩ = some (.bool x.hst) := ld1.out 6 _ rfl
  clear k1
  go_wp2_with fail
  refine (HN.out _).mono ?_
  rintro e w2 ⟨rfl, k2⟩
  have G2 := hide (G1.out.keep k2 (fun hx => hx))
  have K2 := hide (K1.out.trans (k2.mono (T := (· = q)) (fun _ hx => hx.elim)))
  have ld2 := hide (fun j v => G2.out.rule ROK.out j v)
  clear k2 d20 d21 d22 d23 d24 d25 d26
  go_wp2_with (refine wpList_load_at rfl 48 _ rfl q 0 rfl (rulev r) ld2.out _ Tryd.underlying48 rfl (by rw [info_rule, rulev_size ROK.out]) ?_)
  refine (HR.out _).mono ?_
  rintro e w3 ⟨rfl, k3⟩
  have G3 := hide (G2.out.keep k3 (fun hx => hx))
  have K3 := hide (K2.out.trans (k3.mono (T := (· = q)) (fun _ hx => hx.elim)))
  clear k3
  go_wp2_with fail
  refine (HP.out _ G3.out).mono ?_
  rintro e w4 ⟨rfl, g4, k4⟩
  have G4 := hide g4
  have K4 := hide (K3.out.trans k4)
  clear g4 k4
  go_wp2_with fail
  go_ret
  exact ⟨rfl, G4.out, K4.out⟩
end Go.Proofs.YtbdbkjngdhcjpaaDoor
namespace Go.Proofs.YtbdbkjngdhcjpaaDoor
open Go.RowKit
open Go.Proofs

set_option maxRecDepth 100000 in
set_option maxHeartbeats 2000000 in
theorem wput_nohas (q : Nat) (r : Pu.Rule) (x : Pu.Shape) (age : Int) (g : Gs) (a b s : Int) (w : World) (h : GsAt w q (preOf r x age) x.w x.h g) (hr : RuleOk r) (h1 : hasB x a b = false) :
    Calls Tryd.prog 16 #[.pointer (some ⟨q, 0, none⟩), .int .i64 a, .int .i64 b, .int .i64 s] w fun e w' => e = .returned (.int .i64 5) ∧ GsAt w' q (preOf r x age) x.w x.h g ∧ Kp (· = q) w w' := by
  have HF := hide (fun wx => has_any x a b wx)
  rw [h1] at HF
  have H : Hid (GrAt w q (preOf r x age) x.w x.h g.l g.t g.S) := h
  have ld := hide (fun j v => H.out.shape hr j v)
  have ROK := hide hr
  have HQ := H.out.lt
  clear h hr h1
  go_enter Tryd.func16, Tryd.ntmps16
  go_wp2_with (refine wpList_load_at rfl 50 _ rfl q 20 rfl (shv x) ld.out _ Tryd.underlying50 rfl info_shape ?_)
  refine (HF.out _).mono ?_
  rintro e w1 ⟨rfl, k1⟩
  have G1 := hide (H.out.keep k1 (fun hx => hx))
  have K1 := hide (k1.mono (T := (· = q)) (fun _ hx => hx.elim))
  have ld1 := hide (fun j v => G1.out.shape ROK.out j v)
  have d20 : w1.cell? ⟨q, 20, none⟩ = some (.int .u8 x.kind) := ld1.out 0 _ rfl
  have d21 : w1.cell? ⟨q, 21, none⟩ = some (.int .i64 x.w) := ld1.out 1 _ rfl
  have d22 : w1.cell? ⟨q, 22, none⟩ = some (.int .i64 x.h) := ld1.out 2 _ rfl
  have d23 : w1.cell? ⟨q, 23, none⟩ = some (.int .i64 x.ws) := ld1.out 3 _ rfl
  have d24 : w1.cell? ⟨q, 24, none⟩ = some (.int .i64 x.hs) := ld1.out 4 _ rfl
  have d25 : w1.cell? ⟨q, 25, none⟩ = some (.bool x.wst) := ld1.out 5 _ rfl
  have d26 : w1.cell? ⟨q, 26, none⟩ = some (.bool x.hst) := ld1.out 6 _ rfl
  clear k1
  go_wp2_with fail
  go_ret
  exact ⟨rfl, G1.out, K1.out⟩

set_option maxRecDepth 100000 in
set_option maxHeartbeats 2000000 in
theorem wput_nonear (q : Nat) (r : Pu.Rule) (x : Pu.Shape) (age : Int) (g : Gs) (a b s : Int) (w : World) (h : GsAt w q (preOf r x age) x.w x.h g) (hr : RuleOk r) (h1 : hasB x a b = true) (h2 : nearB x a b = false) :
    Calls Tryd.prog 16 #[.pointer (some ⟨q, 0, none⟩), .int .i64 a, .int .i64 b, .int .i64 s] w fun e w' => e = .returned (.int .i64 5) ∧ GsAt w' q (preOf r x age) x.w x.h g ∧ Kp (· = q) w w' := by
  have HF := hide (fun wx => has_any x a b wx)
  rw [h1] at HF
  have HN := hide (fun wx => near_any x a b wx)
  rw [h2] at HN
  have H : Hid (GrAt w q (preOf r x age) x.w x.h g.l g.t g.S) := h
  have ld := hide (fun j v => H.out.shape hr j v)
  have ROK := hide hr
  have HQ := H.out.lt
  clear h hr h1 h2
  go_enter Tryd.func16, Tryd.ntmps16
  go_wp2_with (refine wpList_load_at rfl 50 _ rfl q 20 rfl (shv x) ld.out _ Tryd.underlying50 rfl info_shape ?_)
  refine (HF.out _).mono ?_
  rintro e w1 ⟨rfl, k1⟩
  have G1 := hide (H.out.keep k1 (fun hx => hx))
  have K1 := hide (k1.mono (T := (· = q)) (fun _ hx => hx.elim))
  have ld1 := hide (fun j v => G1.out.shape ROK.out j v)
  have d20 : w1.cell? ⟨q, 20, none⟩ = some (.int .u8 x.kind) := ld1.out 0 _ rfl
  have d21 : w1.cell? ⟨q, 21, none⟩ = some (.int .i64 x.w) := ld1.out 1 _ rfl
  have d22 : w1.cell? ⟨q, 22, none⟩ = some (.int .i64 x.h) := ld1.out 2 _ rfl
  have d23 : w1.cell? ⟨q, 23, none⟩ = some (.int .i64 x.ws) := ld1.out 3 _ rfl
  have d24 : w1.cell? ⟨q, 24, none⟩ = some (.int .i64 x.hs) := ld1.out 4 _ rfl
  have d25 : w1.cell? ⟨q, 25, none⟩ = some (.bool x.wst) := ld1.out 5 _ rfl
  have d26 : w1.cell? ⟨q, 26, none⟩ = some (.bool x.hst) := ld1.out 6 _ rfl
  clear k1
  go_wp2_with fail
  refine (HN.out _).mono ?_
  rintro e w2 ⟨rfl, k2⟩
  have G2 := hide (G1.out.keep k2 (fun hx => hx))
  have K2 := hide (K1.out.trans (k2.mono (T := (· = q)) (fun _ hx => hx.elim)))
  have ld2 := hide (fun j v => G2.out.rule ROK.out j v)
  clear k2 d20 d21 d22 d23 d24 d25 d26
  go_wp2_with fail
  go_ret
  exact ⟨rfl, G2.out, K2.out⟩

set_option maxRecDepth 100000 in
set_option maxHeartbeats 2000000 in
theorem wput_nostate (q : Nat) (r : Pu.Rule) (x : Pu.Shape) (age : Int) (g : Gs) (a b s : Int) (w : World) (h : GsAt w q (preOf r x age) x.w x.h g) (hr : RuleOk r) (h1 : hasB x a b = true) (h2 : nearB x a b = true) (h3 : ¬ (0 ≤ s ∧ s < r.states)) :
    Calls Tryd.prog 16 #[.pointer (some ⟨q, 0, none⟩), .int .i64 a, .int .i64 b, .int .i64 s] w fun e w' => e = .returned (.int .i64 6) ∧ GsAt w' q (preOf r x age) x.w x.h g ∧ Kp (· = q) w w' := by
  have HF := hide (fun wx => has_any x a b wx)
  rw [h1] at HF
  have HN := hide (fun wx => near_any x a b wx)
  rw [h2] at HN
  have HR := hide (fun wx => rhas_any r hr s wx)
  rw [decide_eq_false h3] at HR
  have H : Hid (GrAt w q (preOf r x age) x.w x.h g.l g.t g.S) := h
  have ld := hide (fun j v => H.out.shape hr j v)
  have ROK := hide hr
  have HQ := H.out.lt
  clear h hr h1 h2 h3
  go_enter Tryd.func16, Tryd.ntmps16
  go_wp2_with (refine wpList_load_at rfl 50 _ rfl q 20 rfl (shv x) ld.out _ Tryd.underlying50 rfl info_shape ?_)
  refine (HF.out _).mono ?_
  rintro e w1 ⟨rfl, k1⟩
  have G1 := hide (H.out.keep k1 (fun hx => hx))
  have K1 := hide (k1.mono (T := (· = q)) (fun _ hx => hx.elim))
  have ld1 := hide (fun j v => G1.out.shape ROK.out j v)
  have d20 : w1.cell? ⟨q, 20, none⟩ = some (.int .u8 x.kind) := ld1.out 0 _ rfl
  have d21 : w1.cell? ⟨q, 21, none⟩ = some (.int .i64 x.w) := ld1.out 1 _ rfl
  have d22 : w1.cell? ⟨q, 22, none⟩ = some (.int .i64 x.h) := ld1.out 2 _ rfl
  have d23 : w1.cell? ⟨q, 23, none⟩ = some (.int .i64 x.ws) := ld1.out 3 _ rfl
  have d24 : w1.cell? ⟨q, 24, none⟩ = some (.int .i64 x.hs) := ld1.out 4 _ rfl
  have d25 : w1.cell? ⟨q, 25, none⟩ = some (.bool x.wst) := ld1.out 5 _ rfl
  have d26 : w1.cell? ⟨q, 26, none⟩ = some (.bool x.hst) := ld1.out 6 _ rfl
  clear k1
  go_wp2_with fail
  refine (HN.out _).mono ?_
  rintro e w2 ⟨rfl, k2⟩
  have G2 := hide (G1.out.keep k2 (fun hx => hx))
  have K2 := hide (K1.out.trans (k2.mono (T := (· = q)) (fun _ hx => hx.elim)))
  have ld2 := hide (fun j v => G2.out.rule ROK.out j v)
  clear k2 d20 d21 d22 d23 d24 d25 d26
  go_wp2_with (refine wpList_load_at rfl 48 _ rfl q 0 rfl (rulev r) ld2.out _ Tryd.underlying48 rfl (by rw [info_rule, rulev_size ROK.out]) ?_)
  refine (HR.out _).mono ?_
  rintro e w3 ⟨rfl, k3⟩
  have G3 := hide (G2.out.keep k3 (fun hx => hx))
  have K3 := hide (K2.out.trans (k3.mono (T := (· = q)) (fun _ hx => hx.elim)))
  clear k3
  go_wp2_with fail
  go_ret
  exact ⟨rfl, G3.out, K3.out⟩

set_option maxRecDepth 100000 in
set_option maxHeartbeats 2000000 in
theorem wput_in (q : Nat) (r : Pu.Rule) (x : Pu.Shape) (age : Int) (g : Gs) (a b s : Int) (w : World) (h : GsAt w q (preOf r x age) x.w x.h g) (hr : RuleOk r) (hx : Pu.ShapeOk x) (hgl : -9999 ≤ g.l ∧ g.l ≤ 9999) (hgt : -9999 ≤ g.t ∧ g.t ≤ 9999) (h1 : hasB x a b = true) (h2 : nearB x a b = true) (h3 : 0 ≤ s ∧ s < r.states) :
    Calls Tryd.prog 16 #[.pointer (some ⟨q, 0, none⟩), .int .i64 a, .int .i64 b, .int .i64 s] w fun e w' => e = .returned (.int .i64 (if (putG x.w x.h g a b s).1 = true then 0 else 4)) ∧ GsAt w' q (preOf r x age) x.w x.h (putG x.w x.h g a b s).2 ∧ Kp (· = q) w w' := by
  have HF := hide (fun wx => has_any x a b wx)
  rw [h1] at HF
  have HN := hide (fun wx => near_any x a b wx)
  rw [h2] at HN
  have HR := hide (fun wx => rhas_any r hr s wx)
  rw [decide_eq_true h3] at HR
  have sp := spot_of hx h1 h2
  have HP := hide (fun (wx : World) (hx' : GsAt wx q (preOf r x age) x.w x.h g) => put_exact q (preOf r x age) x.w x.h g a b s wx hx' hx.w0 hx.w12 hx.h0 hx.h12 (by omega) (by omega) (by omega) (by omega) (by have := sp.xb; omega) (by have := sp.yb; omega))
  obtain ⟨pb, hpb⟩ : ∃ pb, (putG x.w x.h g a b s).1 = pb := ⟨_, rfl⟩
  rw [hpb] at HP ⊢
  clear hpb sp
  have H : Hid (GrAt w q (preOf r x age) x.w x.h g.l g.t g.S) := h
  have ld := hide (fun j v => H.out.shape hr j v)
  have ROK := hide hr
  have HQ := H.out.lt
  clear h hr h1 hx h2 h3 hgl hgt
  go_enter Tryd.func16, Tryd.ntmps16
  go_wp2_with (refine wpList_load_at rfl 50 _ rfl q 20 rfl (shv x) ld.out _ Tryd.underlying50 rfl info_shape ?_)
  refine (HF.out _).mono ?_
  rintro e w1 ⟨rfl, k1⟩
  have G1 := hide (H.out.keep k1 (fun hx => hx))
  have K1 := hide (k1.mono (T := (· = q)) (fun _ hx => hx.elim))
  have ld1 := hide (fun j v => G1.out.shape ROK.out j v)
  have d20 : w1.cell? ⟨q, 20, none⟩ = some (.int .u8 x.kind) := ld1.out 0 _ rfl
  have d21 : w1.cell? ⟨q, 21, none⟩ = some (.int .i64 x.w) := ld1.out 1 _ rfl
  have d22 : w1.cell? ⟨q, 22, none⟩ = some (.int .i64 x.h) := ld1.out 2 _ rfl
  have d23 : w1.cell? ⟨q, 23, none⟩ = some (.int .i64 x.ws) := ld1.out 3 _ rfl
  have d24 : w1.cell? ⟨q, 24, none⟩ = some (.int .i64 x.hs) := ld1.out 4 _ rfl
  have d25 : w1.cell? ⟨q, 25, none⟩ = some (.bool x.wst) := ld1.out 5 _ rfl
  have d26 : w1.cell? ⟨q, 26, none⟩ = some (.bool x.hst) := ld1.out 6 _ rfl
  clear k1
  go_wp2_with fail
  refine (HN.out _).mono ?_
  rintro e w2 ⟨rfl, k2⟩
  have G2 := hide (G1.out.keep k2 (fun hx => hx))
  have K2 := hide (K1.out.trans (k2.mono (T := (· = q)) (fun _ hx => hx.elim)))
  have ld2 := hide (fun j v => G2.out.rule ROK.out j v)
  clear k2 d20 d21 d22 d23 d24 d25 d26
  go_wp2_with (refine wpList_load_at rfl 48 _ rfl q 0 rfl (rulev r) ld2.out _ Tryd.underlying48 rfl (by rw [info_rule, rulev_size ROK.out]) ?_)
  refine (HR.out _).mono ?_
  rintro e w3 ⟨rfl, k3⟩
  have G3 := hide (G2.out.keep k3 (fun hx => hx))
  have K3 := hide (K2.out.trans (k3.mono (T := (· = q)) (fun _ hx => hx.elim)))
  clear k3
  go_wp2_with fail
  refine (HP.out _ G3.out).mono ?_
  rintro e w4 ⟨rfl, g4, k4⟩
  have G4 := hide g4
  have K4 := hide (K3.out.trans k4)
  clear g4 k4
  cases pb
  · go_wp2_with fail
    go_ret
    exact ⟨rfl, G4.out, K4.out⟩
  · go_wp2_with fail
    go_ret
    exact ⟨rfl, G4.out, K4.out⟩
end Go.Proofs.YtbdbkjngdhcjpaaDoor
namespace Go.Proofs.YtbdbkjngdhcjpaaDoor
open Go.RowKit
open Go.Proofs

theorem div_in (a n : Int) (w : World) (h0 : 0 ≤ a) (h1 : a < n) (h2 : n ≤ 64) : Calls Tryd.prog 98 #[.int .i64 a, .int .i64 n] w fun e w' => e = .returned (.int .i64 0) ∧ w' = w := by
  have t1 : a.tmod n = a := Int.tmod_eq_of_lt h0 h1
  have t2 : a / n = 0 := Int.ediv_eq_zero_of_lt h0 h1
  have t3 : a.tdiv n = 0 := Int.tdiv_eq_zero_of_lt h0 h1
  have T2 := hide t2
  have T3 := hide t3
  clear t2 t3
  go_enter Tryd.func98, Tryd.ntmps98
  go_wp2
  go_ret
  exact ⟨ret_int (by first | exact T2.out | exact T3.out), rfl⟩
theorem split_in (a n : Int) (w : World) (h0 : 0 ≤ a) (h1 : a < n) (h2 : n ≤ 64) : Calls Tryd.prog 76 #[.int .i64 a, .int .i64 n] w fun e w' => e = .returned (.tuple #[.int .i64 0, .int .i64 a]) ∧ w' = w := by
  have HD := hide (fun wx => div_in a n wx h0 h1 h2)
  have HM := hide (fun wx => mod_any a n wx (by omega) h2 (by omega) (by omega))
  rw [Int.emod_eq_of_lt h0 h1] at HM
  have b1 : (n == 0) = false := by simp; omega
  go_enter Tryd.func76, Tryd.ntmps76
  go_wp2_with fail
  refine (HD.out _).mono ?_
  rintro e w1 ⟨rfl, hw⟩
  subst w1
  go_wp2_with fail
  refine (HM.out _).mono ?_
  rintro e w1 ⟨rfl, hw⟩
  subst w1
  go_wp2_with fail
  go_ret2
  exact ⟨rfl, rfl⟩
theorem shifted_in (a s n : Int) (w : World) (h0 : 0 ≤ a) (h1 : a < n) (h2 : n ≤ 64) (s0 : 0 ≤ s) (s1 : s ≤ 64) : Calls Tryd.prog 77 #[.int .i64 a, .int .i64 0, .int .i64 s, .int .i64 n] w fun e w' => e = .returned (.int .i64 a) ∧ w' = w := by
  by_cases hs : s = 0
  · subst hs
    go_enter Tryd.func77, Tryd.ntmps77
    go_wp2
    go_ret
    exact ⟨rfl, rfl⟩
  · have b1 : (s == 0) = false := by simpa using hs
    have HM := hide (fun wx => mod_any 0 n wx (by omega) h2 (by omega) (by omega))
    have HN := hide (fun wx => mod_any a n wx (by omega) h2 (by omega) (by omega))
    rw [Int.emod_eq_of_lt h0 h1] at HN
    rw [Int.zero_emod] at HM
    go_enter Tryd.func77, Tryd.ntmps77
    go_wp2_with fail
    refine (HM.out _).mono ?_
    rintro e w1 ⟨rfl, hw⟩
    subst w1
    go_wp2_with fail
    refine (HN.out _).mono ?_
    rintro e w1 ⟨rfl, hw⟩
    subst w1
    go_wp2_with fail
    go_ret
    exact ⟨rfl, rfl⟩

set_option maxRecDepth 100000 in
set_option maxHeartbeats 1000000 in
theorem fold_in (s : Pu.Shape) (x y : Int) (w : World) (hx : 0 ≤ x ∧ x < s.w) (hy : 0 ≤ y ∧ y < s.h) (hw : s.w ≤ 12) (hh : s.h ≤ 12) (hws : 0 ≤ s.ws ∧ s.ws ≤ 64) (hhs : 0 ≤ s.hs ∧ s.hs ≤ 64) :
    Calls Tryd.prog 50 #[.agg (shv s), .int .i64 x, .int .i64 y] w fun e w' => e = .returned (.tuple #[.int .i64 x, .int .i64 y]) ∧ Kp (fun _ => False) w w' := by
  have S1 := hide (fun wx => split_in x s.w wx hx.1 hx.2 (by omega))
  have S2 := hide (fun wx => split_in y s.h wx hy.1 hy.2 (by omega))
  have S3 := hide (fun wx => shifted_in x s.ws s.w wx hx.1 hx.2 (by omega) hws.1 hws.2)
  have S4 := hide (fun wx => shifted_in y s.hs s.h wx hy.1 hy.2 (by omega) hhs.1 hhs.2)
  clear hx hy hw hh hws hhs
  obtain ⟨kind, sw, sh, ws, hs, wst, hst⟩ := s
  simp only at S1 S2 S3 S4
  simp only [shv]
  by_cases hk : kind = 67
  · subst hk
    cases wst <;> cases hst
    all_goals
      go_enter Tryd.func50, Tryd.ntmps50
      go_wp2_with fail
      refine (S1.out _).mono ?_
      rintro e w1 ⟨rfl, hw⟩
      subst w1
      go_wp2_with fail
      refine (S2.out _).mono ?_
      rintro e w1 ⟨rfl, hw⟩
      subst w1
      go_wp2_with fail
      refine (S3.out _).mono ?_
      rintro e w1 ⟨rfl, hw⟩
      subst w1
      go_wp2_with fail
      refine (S4.out _).mono ?_
      rintro e w1 ⟨rfl, hw⟩
      subst w1
      go_wp2_with fail
      go_ret2
      exact ⟨rfl, (Kp.refl _ _).alloc _⟩
  · have b1 : (kind == 67) = false := by simpa using hk
    clear hk
    cases wst <;> cases hst
    all_goals
      go_enter Tryd.func50, Tryd.ntmps50
      go_wp2_with fail
      refine (S1.out _).mono ?_
      rintro e w1 ⟨rfl, hw⟩
      subst w1
      go_wp2_with fail
      refine (S2.out _).mono ?_
      rintro e w1 ⟨rfl, hw⟩
      subst w1
      go_wp2_with fail
      refine (S3.out _).mono ?_
      rintro e w1 ⟨rfl, hw⟩
      subst w1
      go_wp2_with fail
      refine (S4.out _).mono ?_
      rintro e w1 ⟨rfl, hw⟩
      subst w1
      go_wp2_with fail
      go_ret2
      exact ⟨rfl, (Kp.refl _ _).alloc _⟩

theorem folds_yes (s : Pu.Shape) (w : World) (h : s.kind = 84 ∨ s.kind = 75 ∨ s.kind = 67) : Calls Tryd.prog 49 #[.agg (shv s)] w fun e w' => e = .returned (.bool true) ∧ Kp (fun _ => False) w w' := by
  obtain ⟨kind, xw, xh, ws, hs, wst, hst⟩ := s
  simp only [shv] at *
  rcases h with rfl | rfl | rfl
  all_goals
    go_enter Tryd.func49, Tryd.ntmps49
    go_wp2
    go_ret
    exact ⟨rfl, (Kp.refl _ _).alloc _⟩
set_option maxHeartbeats 400000 in
theorem find_in (s : Pu.Shape) (a b : Int) (w : World) (h : s.kind = 84 ∨ s.kind = 75 ∨ s.kind = 67) (hx : 0 ≤ a ∧ a < s.w) (hy : 0 ≤ b ∧ b < s.h) (hw : s.w ≤ 12) (hh : s.h ≤ 12) (hws : 0 ≤ s.ws ∧ s.ws ≤ 64) (hhs : 0 ≤ s.hs ∧ s.hs ≤ 64) :
    Calls Tryd.prog 29 #[.agg (shv s), .int .i64 a, .int .i64 b] w fun e w' => e = .returned (.tuple #[.int .i64 a, .int .i64 b, .bool true]) ∧ Kp (fun _ => False) w w' := by
  have HF := hide (fun wx => folds_yes s wx h)
  have HH := hide (fun wx => fold_in s a b wx hx hy hw hh hws hhs)
  clear h hx hy hw hh hws hhs
  go_enter Tryd.func29, Tryd.ntmps29
  go_wp2_with (first
    | (refine wpList_box_row rfl 50 _ rfl (shv s) rfl ?_
       intro w1 hw1
       have A1 : Hid (w1.heap[w.heap.size]? = some (.cells (shv s) 50 (0, 0))) := by rw [hw1]; exact heap_alloc_new _ _
       have K1 : Hid (Kp (fun _ => False) w w1) := by rw [hw1]; exact (Kp.refl _ _).alloc _
       clear hw1)
    | (refine wpList_load_row rfl 50 _ rfl w.heap.size rfl 50 (shv s) (0, 0) _ A1.out Tryd.underlying50 rfl info_shape ?_))
  refine (HF.out _).mono ?_
  rintro e w2 ⟨rfl, k2⟩
  have A2 := hide (k2.row A1.out (fun hx => hx))
  have K2 := hide (K1.out.trans k2)
  clear k2
  go_wp2_with (refine wpList_load_row rfl 50 _ rfl w.heap.size rfl 50 (shv s) (0, 0) _ A2.out Tryd.underlying50 rfl info_shape ?_)
  refine (HH.out _).mono ?_
  rintro e w3 ⟨rfl, k3⟩
  have K3 := hide (K2.out.trans k3)
  clear k3
  go_wp2_with fail
  go_ret3
  exact ⟨rfl, K3.out⟩

/-- Get of a cell of a shape with two sides, of whatever kind. -/
theorem wget_two (q : Nat) (r : Pu.Rule) (x : Pu.Shape) (age : Int) (S : List Int) (a b : Int) (w : World) (h : GrAt w q (preOf r x age) x.w x.h 0 0 S) (hr : RuleOk r) (ht : Two x) (hk : x.kind ∈ [(80 : Int), 84, 75, 67, 83]) (hws : 0 ≤ x.ws ∧ x.ws ≤ 64) (hhs : 0 ≤ x.hs ∧ x.hs ≤ 64) (ha : 0 ≤ a ∧ a < x.w) (hb : 0 ≤ b ∧ b < x.h) :
    Calls Tryd.prog 14 #[.pointer (some ⟨q, 0, none⟩), .int .i64 a, .int .i64 b] w fun e w' => e = .returned (.int .i64 (S.getD (b * x.w + a).toNat 0)) ∧ Kp (fun _ => False) w w' := by
  obtain ⟨t1, t2, t3, t4⟩ := ht
  have FI : Hid (∀ wx, Calls Tryd.prog 29 #[.agg (shv x), .int .i64 a, .int .i64 b] wx fun e w' => e = .returned (.tuple #[.int .i64 a, .int .i64 b, .bool true]) ∧ Kp (fun _ => False) wx w') := by
    intro wx
    by_cases hf : x.kind = 84 ∨ x.kind = 75 ∨ x.kind = 67
    · exact find_in x a b wx hf ha hb t2 t4 hws hhs
    · have hk2 : x.kind = 80 ∨ x.kind = 83 := by simp at hk; omega
      have := find_no x a b wx hk2
      rw [(has_two ⟨t1, t2, t3, t4⟩ ha hb).1] at this
      exact this
  have ld := hide (fun j v => h.shape hr j v)
  have hz := slot_two ⟨t1, t2, t3, t4⟩ ha hb
  have HG := hide (fun (wx : World) (hx' : GrAt wx q (preOf r x age) x.w x.h 0 0 S) => gget_any q (preOf r x age) x.w x.h 0 0 S a b wx hx' (by omega) t2 (by omega) t4 (by omega) (by omega) (by omega) (by omega))
  have e : getP x.w x.h 0 0 S a b = S.getD (b * x.w + a).toNat 0 := by unfold getP; rw [hz.1, if_neg (by omega)]
  rw [e] at HG
  have H := hide h
  clear h hk hz e
  go_enter Tryd.func14, Tryd.ntmps14
  go_wp2_with (refine wpList_load_at rfl 50 _ rfl q 20 rfl (shv x) ld.out _ Tryd.underlying50 rfl info_shape ?_)
  refine (FI.out _).mono ?_
  rintro e w1 ⟨rfl, k1⟩
  have G1 := hide (H.out.keep k1 (fun hx => hx))
  have K1 := hide k1
  clear k1
  go_wp2_with fail
  refine (HG.out _ G1.out).mono ?_
  rintro e w2 ⟨rfl, hw⟩
  subst w2
  go_wp2_with fail
  go_ret
  exact ⟨rfl, K1.out⟩
end Go.Proofs.YtbdbkjngdhcjpaaDoor
