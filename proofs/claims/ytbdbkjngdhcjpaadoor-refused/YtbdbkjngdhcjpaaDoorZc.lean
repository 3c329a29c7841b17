import Derived.Test.YtbdbkjngdhcjpaaDoorM7
import Derived.Test.YtbdbkjngdhcjpaaDoorTb
namespace Go.Proofs.YtbdbkjngdhcjpaaDoor
open Go.RowKit
open Go.Proofs

set_option maxRecDepth 100000 in
set_option maxHeartbeats 2000000 in
theorem wput_nohas (q : Nat) (r : Pu.Rule) (x : Pu.Shape) (age : Int) (g : Gs) (a b s : Int) (w : World) (h : GsAt w q (preOf r x age) x.w x.h g) (hr : RuleOk r) (h1 : hasB x a b = false) :
    Calls Tryd.prog 16 #[.pointer (some ⟨q, 0, none⟩), .int .i64 a, .int .i64 b, .int .i64 s] w fun e w' => e = .returned (.int .i64 5) ∧ GsAt w' q (preOf r x age) x.w x.h g ∧ Kp (· = q) w w' := by
  have HF := hide (fun wx => has_any x a b wx)
  rw [h1] at HF
  have H : Hid (GrAt w q (preOf r x age) x.w x.h g.l g.t g.S) := h
  have ld := hide (fun j v => H.out.shape hr j v)
  have ROK := hide hr
  have HQ := H.out.lt
  clear h hr h1
  go_enter Tryd.func16, Tryd.ntmps16
  go_wp2_with (refine wpList_load_at rfl 50 _ rfl q 20 rfl (shv x) ld.out _ Tryd.underlying50 rfl info_shape ?_)
  refine (HF.out _).mono ?_
  rintro e w1 ⟨rfl, k1⟩
  have G1 := hide (H.out.keep k1 (fun hx => hx))
  have K1 := hide (k1.mono (T := (· = q)) (fun _ hx => hx.elim))
  have ld1 := hide (fun j v => G1.out.shape ROK.out j v)
  have d20 : w1.cell? ⟨q, 20, none⟩ = some (.int .u8 x.kind) := ld1.out 0 _ rfl
  have d21 : w1.cell? ⟨q, 21, none⟩ = some (.int .i64 x.w) := ld1.out 1 _ rfl
  have d22 : w1.cell? ⟨q, 22, none⟩ = some (.int .i64 x.h) := ld1.out 2 _ rfl
  have d23 : w1.cell? ⟨q, 23, none⟩ = some (.int .i64 x.ws) := ld1.out 3 _ rfl
  have d24 : w1.cell? ⟨q, 24, none⟩ = some (.int .i64 x.hs) := ld1.out 4 _ rfl
  have d25 : w1.cell? ⟨q, 25, none⟩ = some (.bool x.wst) := ld1.out 5 _ rfl
  have d26 : w1.cell? ⟨q, 26, none⟩ = some (.bool x.hst) := ld1.out 6 _ rfl
  clear k1
  go_wp2_with fail
  go_ret
  exact ⟨rfl, G1.out, K1.out⟩

set_option maxRecDepth 100000 in
set_option maxHeartbeats 2000000 in
theorem wput_nonear (q : Nat) (r : Pu.Rule) (x : Pu.Shape) (age : Int) (g : Gs) (a b s : Int) (w : World) (h : GsAt w q (preOf r x age) x.w x.h g) (hr : RuleOk r) (h1 : hasB x a b = true) (h2 : nearB x a b = false) :
    Calls Tryd.prog 16 #[.pointer (some ⟨q, 0, none⟩), .int .i64 a, .int .i64 b, .int .i64 s] w fun e w' => e = .returned (.int .i64 5) ∧ GsAt w' q (preOf r x age) x.w x.h g ∧ Kp (· = q) w w' := by
  have HF := hide (fun wx => has_any x a b wx)
  rw [h1] at HF
  have HN := hide (fun wx => near_any x a b wx)
  rw [h2] at HN
  have H : Hid (GrAt w q (preOf r x age) x.w x.h g.l g.t g.S) := h
  have ld := hide (fun j v => H.out.shape hr j v)
  have ROK := hide hr
  have HQ := H.out.lt
  clear h hr h1 h2
  go_enter Tryd.func16, Tryd.ntmps16
  go_wp2_with (refine wpList_load_at rfl 50 _ rfl q 20 rfl (shv x) ld.out _ Tryd.underlying50 rfl info_shape ?_)
  refine (HF.out _).mono ?_
  rintro e w1 ⟨rfl, k1⟩
  have G1 := hide (H.out.keep k1 (fun hx => hx))
  have K1 := hide (k1.mono (T := (· = q)) (fun _ hx => hx.elim))
  have ld1 := hide (fun j v => G1.out.shape ROK.out j v)
  have d20 : w1.cell? ⟨q, 20, none⟩ = some (.int .u8 x.kind) := ld1.out 0 _ rfl
  have d21 : w1.cell? ⟨q, 21, none⟩ = some (.int .i64 x.w) := ld1.out 1 _ rfl
  have d22 : w1.cell? ⟨q, 22, none⟩ = some (.int .i64 x.h) := ld1.out 2 _ rfl
  have d23 : w1.cell? ⟨q, 23, none⟩ = some (.int .i64 x.ws) := ld1.out 3 _ rfl
  have d24 : w1.cell? ⟨q, 24, none⟩ = some (.int .i64 x.hs) := ld1.out 4 _ rfl
  have d25 : w1.cell? ⟨q, 25, none⟩ = some (.bool x.wst) := ld1.out 5 _ rfl
  have d26 : w1.cell? ⟨q, 26, none⟩ = some (.bool x.hst) := ld1.out 6 _ rfl
  clear k1
  go_wp2_with fail
  refine (HN.out _).mono ?_
  rintro e w2 ⟨rfl, k2⟩
  have G2 := hide (G1.out.keep k2 (fun hx => hx))
  have K2 := hide (K1.out.trans (k2.mono (T := (· = q)) (fun _ hx => hx.elim)))
  have ld2 := hide (fun j v => G2.out.rule ROK.out j v)
  clear k2 d20 d21 d22 d23 d24 d25 d26
  go_wp2_with fail
  go_ret
  exact ⟨rfl, G2.out, K2.out⟩

set_option maxRecDepth 100000 in
set_option maxHeartbeats 2000000 in
theorem wput_nostate (q : Nat) (r : Pu.Rule) (x : Pu.Shape) (age : Int) (g : Gs) (a b s : Int) (w : World) (h : GsAt w q (preOf r x age) x.w x.h g) (hr : RuleOk r) (h1 : hasB x a b = true) (h2 : nearB x a b = true) (h3 : ¬ (0 ≤ s ∧ s < r.states)) :
    Calls Tryd.prog 16 #[.pointer (some ⟨q, 0, none⟩), .int .i64 a, .int .i64 b, .int .i64 s] w fun e w' => e = .returned (.int .i64 6) ∧ GsAt w' q (preOf r x age) x.w x.h g ∧ Kp (· = q) w w' := by
  have HF := hide (fun wx => has_any x a b wx)
  rw [h1] at HF
  have HN := hide (fun wx => near_any x a b wx)
  rw [h2] at HN
  have HR := hide (fun wx => rhas_any r hr s wx)
  rw [decide_eq_false h3] at HR
  have H : Hid (GrAt w q (preOf r x age) x.w x.h g.l g.t g.S) := h
  have ld := hide (fun j v => H.out.shape hr j v)
  have ROK := hide hr
  have HQ := H.out.lt
  clear h hr h1 h2 h3
  go_enter Tryd.func16, Tryd.ntmps16
  go_wp2_with (refine wpList_load_at rfl 50 _ rfl q 20 rfl (shv x) ld.out _ Tryd.underlying50 rfl info_shape ?_)
  refine (HF.out _).mono ?_
  rintro e w1 ⟨rfl, k1⟩
  have G1 := hide (H.out.keep k1 (fun hx => hx))
  have K1 := hide (k1.mono (T := (· = q)) (fun _ hx => hx.elim))
  have ld1 := hide (fun j v => G1.out.shape ROK.out j v)
  have d20 : w1.cell? ⟨q, 20, none⟩ = some (.int .u8 x.kind) := ld1.out 0 _ rfl
  have d21 : w1.cell? ⟨q, 21, none⟩ = some (.int .i64 x.w) := ld1.out 1 _ rfl
  have d22 : w1.cell? ⟨q, 22, none⟩ = some (.int .i64 x.h) := ld1.out 2 _ rfl
  have d23 : w1.cell? ⟨q, 23, none⟩ = some (.int .i64 x.ws) := ld1.out 3 _ rfl
  have d24 : w1.cell? ⟨q, 24, none⟩ = some (.int .i64 x.hs) := ld1.out 4 _ rfl
  have d25 : w1.cell? ⟨q, 25, none⟩ = some (.bool x.wst) := ld1.out 5 _ rfl
  have d26 : w1.cell? ⟨q, 26, none⟩ = some (.bool x.hst) := ld1.out 6 _ rfl
  clear k1
  go_wp2_with fail
  refine (HN.out _).mono ?_
  rintro e w2 ⟨rfl, k2⟩
  have G2 := hide (G1.out.keep k2 (fun hx => hx))
  have K2 := hide (K1.out.trans (k2.mono (T := (· = q)) (fun _ hx => hx.elim)))
  have ld2 := hide (fun j v => G2.out.rule ROK.out j v)
  clear k2 d20 d21 d22 d23 d24 d25 d26
  go_wp2_with (refine wpList_load_at rfl 48 _ rfl q 0 rfl (rulev r) ld2.out _ Tryd.underlying48 rfl (by rw [info_rule, rulev_size ROK.out]) ?_)
  refine (HR.out _).mono ?_
  rintro e w3 ⟨rfl, k3⟩
  have G3 := hide (G2.out.keep k3 (fun hx => hx))
  have K3 := hide (K2.out.trans (k3.mono (T := (· = q)) (fun _ hx => hx.elim)))
  clear k3
  go_wp2_with fail
  go_ret
  exact ⟨rfl, G3.out, K3.out⟩

set_option maxRecDepth 100000 in
set_option maxHeartbeats 2000000 in
theorem wput_in (q : Nat) (r : Pu.Rule) (x : Pu.Shape) (age : Int) (g : Gs) (a b s : Int) (w : World) (h : GsAt w q (preOf r x age) x.w x.h g) (hr : RuleOk r) (hx : Pu.ShapeOk x) (hgl : -9999 ≤ g.l ∧ g.l ≤ 9999) (hgt : -9999 ≤ g.t ∧ g.t ≤ 9999) (h1 : hasB x a b = true) (h2 : nearB x a b = true) (h3 : 0 ≤ s ∧ s < r.states) :
    Calls Tryd.prog 16 #[.pointer (some ⟨q, 0, none⟩), .int .i64 a, .int .i64 b, .int .i64 s] w fun e w' => e = .returned (.int .i64 (if (putG x.w x.h g a b s).1 = true then 0 else 4)) ∧ GsAt w' q (preOf r x age) x.w x.h (putG x.w x.h g a b s).2 ∧ Kp (· = q) w w' := by
  have HF := hide (fun wx => has_any x a b wx)
  rw [h1] at HF
  have HN := hide (fun wx => near_any x a b wx)
  rw [h2] at HN
  have HR := hide (fun wx => rhas_any r hr s wx)
  rw [decide_eq_true h3] at HR
  have sp := spot_of hx h1 h2
  have HP := hide (fun (wx : World) (hx' : GsAt wx q (preOf r x age) x.w x.h g) => put_exact q (preOf r x age) x.w x.h g a b s wx hx' hx.w0 hx.w12 hx.h0 hx.h12 (by omega) (by omega) (by omega) (by omega) (by have := sp.xb; omega) (by have := sp.yb; omega))
  obtain ⟨pb, hpb⟩ : ∃ pb, (putG x.w x.h g a b s).1 = pb := ⟨_, rfl⟩
  rw [hpb] at HP ⊢
  clear hpb sp
  have H : Hid (GrAt w q (preOf r x age) x.w x.h g.l g.t g.S) := h
  have ld := hide (fun j v => H.out.shape hr j v)
  have ROK := hide hr
  have HQ := H.out.lt
  clear h hr h1 hx h2 h3 hgl hgt
  go_enter Tryd.func16, Tryd.ntmps16
  go_wp2_with (refine wpList_load_at rfl 50 _ rfl q 20 rfl (shv x) ld.out _ Tryd.underlying50 rfl info_shape ?_)
  refine (HF.out _).mono ?_
  rintro e w1 ⟨rfl, k1⟩
  have G1 := hide (H.out.keep k1 (fun hx => hx))
  have K1 := hide (k1.mono (T := (· = q)) (fun _ hx => hx.elim))
  have ld1 := hide (fun j v => G1.out.shape ROK.out j v)
  have d20 : w1.cell? ⟨q, 20, none⟩ = some (.int .u8 x.kind) := ld1.out 0 _ rfl
  have d21 : w1.cell? ⟨q, 21, none⟩ = some (.int .i64 x.w) := ld1.out 1 _ rfl
  have d22 : w1.cell? ⟨q, 22, none⟩ = some (.int .i64 x.h) := ld1.out 2 _ rfl
  have d23 : w1.cell? ⟨q, 23, none⟩ = some (.int .i64 x.ws) := ld1.out 3 _ rfl
  have d24 : w1.cell? ⟨q, 24, none⟩ = some (.int .i64 x.hs) := ld1.out 4 _ rfl
  have d25 : w1.cell? ⟨q, 25, none⟩ = some (.bool x.wst) := ld1.out 5 _ rfl
  have d26 : w1.cell? ⟨q, 26, none⟩ = some (.bool x.hst) := ld1.out 6 _ rfl
  clear k1
  go_wp2_with fail
  refine (HN.out _).mono ?_
  rintro e w2 ⟨rfl, k2⟩
  have G2 := hide (G1.out.keep k2 (fun hx => hx))
  have K2 := hide (K1.out.trans (k2.mono (T := (· = q)) (fun _ hx => hx.elim)))
  have ld2 := hide (fun j v => G2.out.rule ROK.out j v)
  clear k2 d20 d21 d22 d23 d24 d25 d26
  go_wp2_with (refine wpList_load_at rfl 48 _ rfl q 0 rfl (rulev r) ld2.out _ Tryd.underlying48 rfl (by rw [info_rule, rulev_size ROK.out]) ?_)
  refine (HR.out _).mono ?_
  rintro e w3 ⟨rfl, k3⟩
  have G3 := hide (G2.out.keep k3 (fun hx => hx))
  have K3 := hide (K2.out.trans (k3.mono (T := (· = q)) (fun _ hx => hx.elim)))
  clear k3
  go_wp2_with fail
  refine (HP.out _ G3.out).mono ?_
  rintro e w4 ⟨rfl, g4, k4⟩
  have G4 := hide g4
  have K4 := hide (K3.out.trans k4)
  clear g4 k4
  cases pb
  · go_wp2_with fail
    go_ret
    exact ⟨rfl, G4.out, K4.out⟩
  · go_wp2_with fail
    go_ret
    exact ⟨rfl, G4.out, K4.out⟩
end Go.Proofs.YtbdbkjngdhcjpaaDoor
