import Derived.Test.YtiimimclbkjcbaaM12
import Derived.Test.YtiimimclbkjcbaaTb
import Derived.Test.YtiimimclbkjcbaaM16
import Derived.Test.YtiimimclbkjcbaaQd
import Derived.Test.YtiimimclbkjcbaaM17
import Derived.Test.YtiimimclbkjcbaaM20
namespace Go.Proofs.Ytiimimclbkjcbaa
open Go.RowKit
open Go.Proofs

set_option maxRecDepth 100000 in
set_option maxHeartbeats 2000000 in
theorem wput_nohas (q : Nat) (r : Pu.Rule) (x : Pu.Shape) (age : Int) (g : Gs) (a b s : Int) (w : World) (h : GsAt w q (preOf r x age) x.w x.h g) (hr : RuleOk r) (h1 : hasB x a b = false) :
    Calls Try.prog 18 #[.pointer (some ⟨q, 0, none⟩), .int .i64 a, .int .i64 b, .int .i64 s] w fun e w' => e = .returned (.int .i64 5) ∧ GsAt w' q (preOf r x age) x.w x.h g ∧ Kp (· = q) w w' := by
  have HF := hide (fun wx => has_any x a b wx)
  rw [h1] at HF
  have H : Hid (GrAt w q (preOf r x age) x.w x.h g.l g.t g.S) := h
  have ld := hide (fun j v => H.out.shape hr j v)
  have ROK := hide hr
  have HQ := H.out.lt
  clear h hr h1
  go_enter Try.func18, Try.ntmps18
  go_wp2_with (refine wpList_load_at rfl 58 _ rfl q 20 rfl (shv x) ld.out _ Try.underlying58 rfl info_shape ?_)
  refine (HF.out _).mono ?_
  rintro e w1 ⟨rfl, k1⟩
  have G1 := hide (H.out.keep k1 (fun hx => hx))
  have K1 := hide (k1.mono (T := (· = q)) (fun _ hx => hx.elim))
  have ld1 := hide (fun j v => G1.out.shape ROK.out j v)
  have d20 : w1.cell? ⟨q, 20, none⟩ = some (.int .u8 x.kind) := ld1.out 0 _ rfl
  have d21 : w1.cell? ⟨q, 21, none⟩ = some (.int .i64 x.w) := ld1.out 1 _ rfl
  have d22 : w1.cell? ⟨q, 22, none⟩ = some (.int .i64 x.h) := ld1.out 2 _ rfl
  have d23 : w1.cell? ⟨q, 23, none⟩ = some (.int .i64 x.ws) := ld1.out 3 _ rfl
  have d24 : w1.cell? ⟨q, 24, none⟩ = some (.int .i64 x.hs) := ld1.out 4 _ rfl
  have d25 : w1.cell? ⟨q, 25, none⟩ = some (.bool x.wst) := ld1.out 5 _ rfl
  have d26 : w1.cell? ⟨q, 26, none⟩ = some (.bool x.hst) := ld1.out 6 _ rfl
  clear k1
  go_wp2_with fail
  go_ret
  exact ⟨rfl, G1.out, K1.out⟩

set_option maxRecDepth 100000 in
set_option maxHeartbeats 2000000 in
theorem wput_nonear (q : Nat) (r : Pu.Rule) (x : Pu.Shape) (age : Int) (g : Gs) (a b s : Int) (w : World) (h : GsAt w q (preOf r x age) x.w x.h g) (hr : RuleOk r) (h1 : hasB x a b = true) (h2 : nearB x a b = false) :
    Calls Try.prog 18 #[.pointer (some ⟨q, 0, none⟩), .int .i64 a, .int .i64 b, .int .i64 s] w fun e w' => e = .returned (.int .i64 5) ∧ GsAt w' q (preOf r x age) x.w x.h g ∧ Kp (· = q) w w' := by
  have HF := hide (fun wx => has_any x a b wx)
  rw [h1] at HF
  have HN := hide (fun wx => near_any x a b wx)
  rw [h2] at HN
  have H : Hid (GrAt w q (preOf r x age) x.w x.h g.l g.t g.S) := h
  have ld := hide (fun j v => H.out.shape hr j v)
  have ROK := hide hr
  have HQ := H.out.lt
  clear h hr h1 h2
  go_enter Try.func18, Try.ntmps18
  go_wp2_with (refine wpList_load_at rfl 58 _ rfl q 20 rfl (shv x) ld.out _ Try.underlying58 rfl info_shape ?_)
  refine (HF.out _).mono ?_
  rintro e w1 ⟨rfl, k1⟩
  have G1 := hide (H.out.keep k1 (fun hx => hx))
  have K1 := hide (k1.mono (T := (· = q)) (fun _ hx => hx.elim))
  have ld1 := hide (fun j v => G1.out.shape ROK.out j v)
  have d20 : w1.cell? ⟨q, 20, none⟩ = some (.int .u8 x.kind) := ld1.out 0 _ rfl
  have d21 : w1.cell? ⟨q, 21, none⟩ = some (.int .i64 x.w) := ld1.out 1 _ rfl
  have d22 : w1.cell? ⟨q, 22, none⟩ = some (.int .i64 x.h) := ld1.out 2 _ rfl
  have d23 : w1.cell? ⟨q, 23, none⟩ = some (.int .i64 x.ws) := ld1.out 3 _ rfl
  have d24 : w1.cell? ⟨q, 24, none⟩ = some (.int .i64 x.hs) := ld1.out 4 _ rfl
  have d25 : w1.cell? ⟨q, 25, none⟩ = some (.bool x.wst) := ld1.out 5 _ rfl
  have d26 : w1.cell? ⟨q, 26, none⟩ = some (.bool x.hst) := ld1.out 6 _ rfl
  clear k1
  go_wp2_with fail
  refine (HN.out _).mono ?_
  rintro e w2 ⟨rfl, k2⟩
  have G2 := hide (G1.out.keep k2 (fun hx => hx))
  have K2 := hide (K1.out.trans (k2.mono (T := (· = q)) (fun _ hx => hx.elim)))
  have ld2 := hide (fun j v => G2.out.rule ROK.out j v)
  clear k2 d20 d21 d22 d23 d24 d25 d26
  go_wp2_with fail
  go_ret
  exact ⟨rfl, G2.out, K2.out⟩

set_option maxRecDepth 100000 in
set_option maxHeartbeats 2000000 in
theorem wput_nostate (q : Nat) (r : Pu.Rule) (x : Pu.Shape) (age : Int) (g : Gs) (a b s : Int) (w : World) (h : GsAt w q (preOf r x age) x.w x.h g) (hr : RuleOk r) (h1 : hasB x a b = true) (h2 : nearB x a b = true) (h3 : ¬ (0 ≤ s ∧ s < r.states)) :
    Calls Try.prog 18 #[.pointer (some ⟨q, 0, none⟩), .int .i64 a, .int .i64 b, .int .i64 s] w fun e w' => e = .returned (.int .i64 6) ∧ GsAt w' q (preOf r x age) x.w x.h g ∧ Kp (· = q) w w' := by
  have HF := hide (fun wx => has_any x a b wx)
  rw [h1] at HF
  have HN := hide (fun wx => near_any x a b wx)
  rw [h2] at HN
  have HR := hide (fun wx => rhas_any r hr s wx)
  rw [decide_eq_false h3] at HR
  have H : Hid (GrAt w q (preOf r x age) x.w x.h g.l g.t g.S) := h
  have ld := hide (fun j v => H.out.shape hr j v)
  have ROK := hide hr
  have HQ := H.out.lt
  clear h hr h1 h2 h3
  go_enter Try.func18, Try.ntmps18
  go_wp2_with (refine wpList_load_at rfl 58 _ rfl q 20 rfl (shv x) ld.out _ Try.underlying58 rfl info_shape ?_)
  refine (HF.out _).mono ?_
  rintro e w1 ⟨rfl, k1⟩
  have G1 := hide (H.out.keep k1 (fun hx => hx))
  have K1 := hide (k1.mono (T := (· = q)) (fun _ hx => hx.elim))
  have ld1 := hide (fun j v => G1.out.shape ROK.out j v)
  have d20 : w1.cell? ⟨q, 20, none⟩ = some (.int .u8 x.kind) := ld1.out 0 _ rfl
  have d21 : w1.cell? ⟨q, 21, none⟩ = some (.int .i64 x.w) := ld1.out 1 _ rfl
  have d22 : w1.cell? ⟨q, 22, none⟩ = some (.int .i64 x.h) := ld1.out 2 _ rfl
  have d23 : w1.cell? ⟨q, 23, none⟩ = some (.int .i64 x.ws) := ld1.out 3 _ rfl
  have d24 : w1.cell? ⟨q, 24, none⟩ = some (.int .i64 x.hs) := ld1.out 4 _ rfl
  have d25 : w1.cell? ⟨q, 25, none⟩ = some (.bool x.wst) := ld1.out 5 _ rfl
  have d26 : w1.cell? ⟨q, 26, none⟩ = some (.bool x.hst) := ld1.out 6 _ rfl
  clear k1
  go_wp2_with fail
  refine (HN.out _).mono ?_
  rintro e w2 ⟨rfl, k2⟩
  have G2 := hide (G1.out.keep k2 (fun hx => hx))
  have K2 := hide (K1.out.trans (k2.mono (T := (· = q)) (fun _ hx => hx.elim)))
  have ld2 := hide (fun j v => G2.out.rule ROK.out j v)
  clear k2 d20 d21 d22 d23 d24 d25 d26
  go_wp2_with (refine wpList_load_at rfl 56 _ rfl q 0 rfl (rulev r) ld2.out _ Try.underlying56 rfl (by rw [info_rule, rulev_size ROK.out]) ?_)
  refine (HR.out _).mono ?_
  rintro e w3 ⟨rfl, k3⟩
  have G3 := hide (G2.out.keep k3 (fun hx => hx))
  have K3 := hide (K2.out.trans (k3.mono (T := (· = q)) (fun _ hx => hx.elim)))
  clear k3
  go_wp2_with fail
  go_ret
  exact ⟨rfl, G3.out, K3.out⟩

set_option maxRecDepth 100000 in
set_option maxHeartbeats 2000000 in
theorem wput_in (q : Nat) (r : Pu.Rule) (x : Pu.Shape) (age : Int) (g : Gs) (a b s : Int) (w : World) (h : GsAt w q (preOf r x age) x.w x.h g) (hr : RuleOk r) (hx : Pu.ShapeOk x) (hgl : -9999 ≤ g.l ∧ g.l ≤ 9999) (hgt : -9999 ≤ g.t ∧ g.t ≤ 9999) (h1 : hasB x a b = true) (h2 : nearB x a b = true) (h3 : 0 ≤ s ∧ s < r.states) :
    Calls Try.prog 18 #[.pointer (some ⟨q, 0, none⟩), .int .i64 a, .int .i64 b, .int .i64 s] w fun e w' => e = .returned (.int .i64 (if (putG x.w x.h g a b s).1 = true then 0 else 4)) ∧ GsAt w' q (preOf r x age) x.w x.h (putG x.w x.h g a b s).2 ∧ Kp (· = q) w w' := by
  have HF := hide (fun wx => has_any x a b wx)
  rw [h1] at HF
  have HN := hide (fun wx => near_any x a b wx)
  rw [h2] at HN
  have HR := hide (fun wx => rhas_any r hr s wx)
  rw [decide_eq_true h3] at HR
  have sp := spot_of hx h1 h2
  have HP := hide (fun (wx : World) (hx' : GsAt wx q (preOf r x age) x.w x.h g) => put_exact q (preOf r x age) x.w x.h g a b s wx hx' hx.w0 hx.w12 hx.h0 hx.h12 (by omega) (by omega) (by omega) (by omega) (by have := sp.xb; omega) (by have := sp.yb; omega))
  obtain ⟨pb, hpb⟩ : ∃ pb, (putG x.w x.h g a b s).1 = pb := ⟨_, rfl⟩
  rw [hpb] at HP ⊢
  clear hpb sp
  have H : Hid (GrAt w q (preOf r x age) x.w x.h g.l g.t g.S) := h
  have ld := hide (fun j v => H.out.shape hr j v)
  have ROK := hide hr
  have HQ := H.out.lt
  clear h hr h1 hx h2 h3 hgl hgt
  go_enter Try.func18, Try.ntmps18
  go_wp2_with (refine wpList_load_at rfl 58 _ rfl q 20 rfl (shv x) ld.out _ Try.underlying58 rfl info_shape ?_)
  refine (HF.out _).mono ?_
  rintro e w1 ⟨rfl, k1⟩
  have G1 := hide (H.out.keep k1 (fun hx => hx))
  have K1 := hide (k1.mono (T := (· = q)) (fun _ hx => hx.elim))
  have ld1 := hide (fun j v => G1.out.shape ROK.out j v)
  have d20 : w1.cell? ⟨q, 20, none⟩ = some (.int .u8 x.kind) := ld1.out 0 _ rfl
  have d21 : w1.cell? ⟨q, 21, none⟩ = some (.int .i64 x.w) := ld1.out 1 _ rfl
  have d22 : w1.cell? ⟨q, 22, none⟩ = some (.int .i64 x.h) := ld1.out 2 _ rfl
  have d23 : w1.cell? ⟨q, 23, none⟩ = some (.int .i64 x.ws) := ld1.out 3 _ rfl
  have d24 : w1.cell? ⟨q, 24, none⟩ = some (.int .i64 x.hs) := ld1.out 4 _ rfl
  have d25 : w1.cell? ⟨q, 25, none⟩ = some (.bool x.wst) := ld1.out 5 _ rfl
  have d26 : w1.cell? ⟨q, 26, none⟩ = some (.bool x.hst) := ld1.out 6 _ rfl
  clear k1
  go_wp2_with fail
  refine (HN.out _).mono ?_
  rintro e w2 ⟨rfl, k2⟩
  have G2 := hide (G1.out.keep k2 (fun hx => hx))
  have K2 := hide (K1.out.trans (k2.mono (T := (· = q)) (fun _ hx => hx.elim)))
  have ld2 := hide (fun j v => G2.out.rule ROK.out j v)
  clear k2 d20 d21 d22 d23 d24 d25 d26
  go_wp2_with (refine wpList_load_at rfl 56 _ rfl q 0 rfl (rulev r) ld2.out _ Try.underlying56 rfl (by rw [info_rule, rulev_size ROK.out]) ?_)
  refine (HR.out _).mono ?_
  rintro e w3 ⟨rfl, k3⟩
  have G3 := hide (G2.out.keep k3 (fun hx => hx))
  have K3 := hide (K2.out.trans (k3.mono (T := (· = q)) (fun _ hx => hx.elim)))
  clear k3
  go_wp2_with fail
  refine (HP.out _ G3.out).mono ?_
  rintro e w4 ⟨rfl, g4, k4⟩
  have G4 := hide g4
  have K4 := hide (K3.out.trans k4)
  clear g4 k4
  cases pb
  · go_wp2_with fail
    go_ret
    exact ⟨rfl, G4.out, K4.out⟩
  · go_wp2_with fail
    go_ret
    exact ⟨rfl, G4.out, K4.out⟩
end Go.Proofs.Ytiimimclbkjcbaa
namespace Go.Proofs.Ytiimimclbkjcbaa
open Go.RowKit
open Go.Proofs

/-- A world's Count. -/
theorem wcount_any (q : Nat) (pre : Array Value) (gw gh l t : Int) (S : List Int) (w : World) (h : GrAt w q pre gw gh l t S) :
    Calls Try.prog 21 #[.pointer (some ⟨q, 0, none⟩)] w fun e w' => e = .returned (.int .i64 (countP S)) ∧ w' = w := by
  go_enter Try.func21, Try.ntmps21
  go_wp2_with fail
  refine (gcount_any q pre gw gh l t S _ h).mono ?_
  rintro e w1 ⟨rfl, hw⟩
  subst w1
  go_wp2_with fail
  go_ret
  exact ⟨rfl, rfl⟩

end Go.Proofs.Ytiimimclbkjcbaa
namespace Go.Proofs.Ytiimimclbkjcbaa
open Go.RowKit
open Go.Proofs

theorem kindsPT : ∀ k (h : k < ({ data := #[80, 84] } : ByteArray).size), ((({ data := #[80, 84] } : ByteArray)[k]).toNat : Int) ∈ [(80 : Int), 84, 75, 67, 83] := by
  intro k h
  have h5 : k < 2 := h
  have : k = 0 ∨ k = 1 := by omega
  rcases this with rfl | rfl <;> (clear h5; revert h; decide)
theorem kindsPT_at {x : Int} (h : ∃ k, ∃ h : k < ({ data := #[80, 84] } : ByteArray).size, x = ((({ data := #[80, 84] } : ByteArray)[k]).toNat : Int)) : x = 80 ∨ x = 84 := by
  obtain ⟨k, hk, rfl⟩ := h
  have h5 : k < 2 := hk
  have : k = 0 ∨ k = 1 := by omega
  rcases this with rfl | rfl
  · left; rfl
  · right; rfl
theorem fillN_empty (N : Nat) (c : Int) (n : Nat) : ((List.range N).map fun m => if m < n then stP zw c m else 0) = List.replicate N 0 := by
  apply List.ext_getElem
  · simp
  · intro i h1 h2
    have e : stP zw c i = 0 := by unfold stP; exact if_pos (Nat.zero_le _)
    simp only [List.getElem_map, List.getElem_range, List.getElem_replicate, e]
    split <;> rfl
theorem fillS_empty (c : Int) (n : Nat) : fillS zw c n = noS := fillN_empty 768 c n
theorem even_sub (b : Nat) : (b : Int) - (b : Int).tmod 2 = ((b - b % 2 : Nat) : Int) := by
  have : (b : Int).tmod 2 = ((b % 2 : Nat) : Int) := by simp [Int.tmod]
  omega
/-- The law's two plans. -/
def planU (ly : Bool) (p : Pu.Plan) : Pu.Plan := { p with births := p.births - p.births % 2, sw := 0, sh := 0, w := if ly = true then 12 else p.w, h := if ly = true then p.h else 12 }
def planW (ly : Bool) (p : Pu.Plan) : Pu.Plan := { planU ly p with w := if ly = true then 0 else p.w, h := if ly = true then p.h else 0 }
theorem planU_ok (ly : Bool) {p : Pu.Plan} (h : Pu.PlanOk p) (hk : p.kind = 80 ∨ p.kind = 84) : Pu.PlanOk (planU ly p) := by
  have hw := h.w
  have hh := h.h
  have hb := h.births
  have hs := h.plain (by omega)
  have e1 : 1 ≤ (planU ly p).w ∧ (planU ly p).w ≤ 12 := by show 1 ≤ (if ly = true then (12 : Int) else p.w) ∧ (if ly = true then (12 : Int) else p.w) ≤ 12; split <;> omega
  have e2 : 1 ≤ (planU ly p).h ∧ (planU ly p).h ≤ 12 := by show 1 ≤ (if ly = true then p.h else (12 : Int)) ∧ (if ly = true then p.h else (12 : Int)) ≤ 12; split <;> omega
  exact ⟨h.near, Nat.lt_of_le_of_lt (Nat.sub_le _ _) hb, h.lives, h.c, h.kind, e1, e2, fun e => by have : p.kind = 83 := e; omega, Or.inl ⟨Int.le_refl _, by show (0 : Int) < (planU ly p).w; omega, rfl⟩, fun _ => ⟨rfl, rfl⟩, fun e => by have : p.kind = 75 := e; omega, fun _ => hs⟩
theorem planW_ok (ly : Bool) {p : Pu.Plan} (h : Pu.PlanOk p) (hk : p.kind = 80 ∨ p.kind = 84) : Pu.OpenOk (planW ly p) := by
  have hw := h.w
  have hh := h.h
  have hb := h.births
  have hs := h.plain (by omega)
  refine ⟨h.near, Nat.lt_of_le_of_lt (Nat.sub_le _ _) hb, h.lives, h.c, hk, ?_, ⟨rfl, rfl⟩, hs⟩
  cases ly
  · right; exact ⟨rfl, hw⟩
  · left; exact ⟨rfl, hh⟩
theorem plan_strip (ly : Bool) {p : Pu.Plan} (h : Pu.PlanOk p) (hk : p.kind = 80 ∨ p.kind = 84) : Strip ly (Pu.shapeOf (planU ly p)) (Pu.shapeOf (planW ly p)) := by
  have hs := h.plain (by omega)
  cases ly
  · exact (show Std _ _ from ⟨rfl, rfl, rfl, h.w, rfl, hk, ⟨rfl, rfl, hs⟩, ⟨rfl, rfl, hs⟩⟩)
  · exact (show Lie _ _ from ⟨rfl, rfl, rfl, h.h, rfl, hk, ⟨rfl, rfl, hs⟩, ⟨rfl, rfl, hs⟩⟩)
theorem planU_even (ly : Bool) (p : Pu.Plan) : (planU ly p).births % 2 = 0 := by
  show (p.births - p.births % 2) % 2 = 0
  omega
theorem flat_fold {x : Pu.Shape} (hx : Pu.ShapeOk x) (hs : x.ws = 0 ∧ x.hs = 0 ∧ x.wst = false ∧ x.hst = false) (hk : x.kind = 80 ∨ x.kind = 84) : FoldOk x := by
  obtain ⟨s1, s2, s3, s4⟩ := hs
  refine ⟨⟨hx.w0, hx.w12⟩, ⟨hx.h0, hx.h12⟩, Or.inl s1, Or.inl s2, fun e => ?_, fun e => ?_⟩
  · unfold turnW at e
    rw [s3] at e
    rcases hk with h | h <;> rw [h] at e <;> simp at e
  · unfold turnH at e
    rw [s4] at e
    rcases hk with h | h <;> rw [h] at e <;> simp at e
/-- Get within a strip. -/
theorem wget_strip (q : Nat) (r : Pu.Rule) (x : Pu.Shape) (age : Int) (g : Gs) (a b : Int) (w : World) (h : GsAt w q (preOf r x age) x.w x.h g) (hr : RuleOk r) (hx : Pu.ShapeOk x) (hs : x.ws = 0 ∧ x.hs = 0 ∧ x.wst = false ∧ x.hst = false) (hk : x.kind = 80 ∨ x.kind = 84) (ho : GsOk r.states x.w x.h g)
    (ha : x.w = 0 ∨ (0 ≤ a ∧ a < x.w)) (hb : x.h = 0 ∨ (0 ≤ b ∧ b < x.h)) (ha' : 0 ≤ a ∧ a < 12) (hb' : 0 ≤ b ∧ b < 12) :
    Calls Try.prog 20 #[.pointer (some ⟨q, 0, none⟩), .int .i64 a, .int .i64 b] w fun e w' => e = .returned (.int .i64 (getG x.w x.h g a b)) ∧ Kp (fun _ => False) w w' := by
  have lb := ho.lb
  have tb := ho.tb
  rcases hk with k | k
  · refine (wget_no q r x age g.l g.t g.S a b w h hr hx (Or.inl k) (by omega) (by omega) (by omega) (by omega)).mono ?_
    rintro e w' ⟨rfl, k1⟩
    refine ⟨?_, k1⟩
    have : hasB x a b = true := by
      unfold hasB onSideB
      simp only [Bool.and_eq_true, decide_eq_true_iff]
      omega
    rw [if_pos this]
    rfl
  · refine (wget_fold q r x age g.l g.t g.S a b w h hr (flat_fold hx hs (Or.inr k)) (Or.inl k) (by omega) (by omega) (by omega) (by omega) (by omega) (by omega)).mono ?_
    rintro e w' ⟨rfl, k1⟩
    refine ⟨?_, k1⟩
    obtain ⟨f1, f2⟩ := fold_flat k hs a b
    rw [f1, f2]
    have e1 : splitR a x.w = a := by
      unfold splitR
      split
      · rfl
      · exact Int.emod_eq_of_lt (by omega) (by omega)
    have e2 : splitR b x.h = b := by
      unfold splitR
      split
      · rfl
      · exact Int.emod_eq_of_lt (by omega) (by omega)
    rw [e1, e2]
    rfl
end Go.Proofs.Ytiimimclbkjcbaa
namespace Go.Proofs.Ytiimimclbkjcbaa
open Go.RowKit
open Go.Proofs

section
variable {ly : Bool} {xU xW : Pu.Shape} {r : Pu.Rule} {k : Int} {gU gW : Gs}
theorem put_U (hs : Strip ly xU xW) (h : Twin ly r xU xW 0 gU gW) (hr : RuleOk r) (q : Nat) (a b s : Int) (w : World) (hg : GsAt w q (preOf r xU 0) xU.w xU.h gU) (hm : Mid ly xU a b) (h3 : 0 ≤ s ∧ s < r.states) :
    Calls Try.prog 18 #[.pointer (some ⟨q, 0, none⟩), .int .i64 a, .int .i64 b, .int .i64 s] w fun e w' => e = .returned (.int .i64 0) ∧ GsAt w' q (preOf r xU 0) xU.w xU.h (putG xU.w xU.h gU a b s).2 ∧ Kp (· = q) w w' := by
  have t := (twin_put hs h hm h3).1
  have m := (mid_has hs hm).1
  have := wput_in q r xU 0 gU a b s w hg hr hs.oks.1 h.oks.1.lb h.oks.1.tb m.1 m.2 h3
  rw [if_pos t] at this
  exact this
theorem put_W (hs : Strip ly xU xW) (h : Twin ly r xU xW 0 gU gW) (hr : RuleOk r) (q : Nat) (a b s : Int) (w : World) (hg : GsAt w q (preOf r xW 0) xW.w xW.h gW) (hm : Mid ly xU a b) (h3 : 0 ≤ s ∧ s < r.states) :
    Calls Try.prog 18 #[.pointer (some ⟨q, 0, none⟩), .int .i64 a, .int .i64 b, .int .i64 s] w fun e w' => e = .returned (.int .i64 0) ∧ GsAt w' q (preOf r xW 0) xW.w xW.h (putG xW.w xW.h gW a b s).2 ∧ Kp (· = q) w w' := by
  have t := (twin_put hs h hm h3).2.1
  have m := (mid_has hs hm).2
  have := wput_in q r xW 0 gW a b s w hg hr hs.oks.2 h.oks.2.lb h.oks.2.tb m.1 m.2 h3
  rw [if_pos t] at this
  exact this
theorem step_U (hs : Strip ly xU xW) (h : Twin ly r xU xW 0 gU gW) (hr : RuleOk r) (ha : r.around = 77 ∨ r.around = 86 ∨ r.around = 72) (h2 : 2 ≤ r.states) (h9 : r.states ≤ 9) (hb : r.births.getD 0 false = false) (q n : Nat) (hn : n ≤ 4) (w : World) (hg : GsAt w q (preOf r xU 0) xU.w xU.h gU) :
    Calls Try.prog 23 #[.pointer (some ⟨q, 0, none⟩), .int .i64 n] w fun e w' => e = .returned (.int .i64 0) ∧ GsAt w' q (preOf r xU n) xU.w xU.h (stepG r xU gU n).2 ∧ Kp (· = q) w w' := by
  have t := (twin_step h2 hb hs h n hn).1
  have := wstep_exact q r xU 0 gU n w hg hr hs.oks.1 (fun _ => flat_fold hs.oks.1 hs.flat.1 hs.kind.2) ha h2 h9 h.oks.1 (by omega) (by omega) (by omega)
  rw [if_pos t, if_pos t, if_pos t, Int.zero_add] at this
  exact this
theorem step_W (hs : Strip ly xU xW) (h : Twin ly r xU xW 0 gU gW) (hr : RuleOk r) (ha : r.around = 77 ∨ r.around = 86 ∨ r.around = 72) (h2 : 2 ≤ r.states) (h9 : r.states ≤ 9) (hb : r.births.getD 0 false = false) (q n : Nat) (hn : n ≤ 4) (w : World) (hg : GsAt w q (preOf r xW 0) xW.w xW.h gW) :
    Calls Try.prog 23 #[.pointer (some ⟨q, 0, none⟩), .int .i64 n] w fun e w' => e = .returned (.int .i64 0) ∧ GsAt w' q (preOf r xW n) xW.w xW.h (stepG r xW gW n).2 ∧ Kp (· = q) w w' := by
  have t := (twin_step h2 hb hs h n hn).2.1
  have := wstep_exact q r xW 0 gW n w hg hr hs.oks.2 (fun _ => flat_fold hs.oks.2 hs.flat.2 (by rw [hs.kind.1]; exact hs.kind.2)) ha h2 h9 h.oks.2 (by omega) (by omega) (by omega)
  rw [if_pos t, if_pos t, if_pos t, Int.zero_add] at this
  exact this
theorem get_U (hs : Strip ly xU xW) (h : Twin ly r xU xW k gU gW) (hr : RuleOk r) (q : Nat) (age a b : Int) (w : World) (hg : GsAt w q (preOf r xU age) xU.w xU.h gU) (ha : 0 ≤ a ∧ a < xU.w) (hb : 0 ≤ b ∧ b < xU.h) :
    Calls Try.prog 20 #[.pointer (some ⟨q, 0, none⟩), .int .i64 a, .int .i64 b] w fun e w' => e = .returned (.int .i64 (getG xU.w xU.h gU a b)) ∧ Kp (fun _ => False) w w' := by
  have sd := hs.sides
  exact wget_strip q r xU age gU a b w hg hr hs.oks.1 hs.flat.1 hs.kind.2 h.oks.1 (Or.inr ha) (Or.inr hb) (by omega) (by omega)
theorem get_W (hs : Strip ly xU xW) (h : Twin ly r xU xW k gU gW) (hr : RuleOk r) (q : Nat) (age a b : Int) (w : World) (hg : GsAt w q (preOf r xW age) xW.w xW.h gW) (ha : 0 ≤ a ∧ a < xU.w) (hb : 0 ≤ b ∧ b < xU.h) :
    Calls Try.prog 20 #[.pointer (some ⟨q, 0, none⟩), .int .i64 a, .int .i64 b] w fun e w' => e = .returned (.int .i64 (getG xU.w xU.h gU a b)) ∧ Kp (fun _ => False) w w' := by
  have sd := hs.sides
  rw [← h.same]
  exact wget_strip q r xW age gW a b w hg hr hs.oks.2 hs.flat.2 (by rw [hs.kind.1]; exact hs.kind.2) h.oks.2 (by omega) (by omega) (by omega) (by omega)
end
end Go.Proofs.Ytiimimclbkjcbaa
