import Derived.Test.YtiimimclbkjcbaaM6
namespace Go.Proofs.Ytiimimclbkjcbaa
open Go.RowKit
open Go.Proofs

/-- A shape with two sides. -/
def Two (x : Pu.Shape) : Prop := 0 < x.w ∧ x.w ≤ 12 ∧ 0 < x.h ∧ x.h ≤ 12
theorem has_iff {x : Pu.Shape} (h : Two x) (a b : Int) : hasB x a b = true ↔ (0 ≤ a ∧ a < x.w) ∧ 0 ≤ b ∧ b < x.h := by
  unfold hasB onSideB
  simp
  have := h.1
  have := h.2.2.1
  omega
theorem near_two {x : Pu.Shape} (h : Two x) (a b : Int) : nearB x a b = true := by
  unfold nearB nearOnB
  simp
  have := h.1
  have := h.2.2.1
  omega
theorem slot_in {x : Pu.Shape} (h : Two x) {a b : Int} (ha : 0 ≤ a ∧ a < x.w) (hb : 0 ≤ b ∧ b < x.h) : slotP x.w x.h 0 0 a b = b * x.w + a ∧ 0 ≤ b * x.w + a := by
  obtain ⟨h1, h2, h3, h4⟩ := h
  have e1 : spanP x.w = x.w := by unfold spanP; rw [if_neg (by omega)]
  have e2 : spanP x.h = x.h := by unfold spanP; rw [if_neg (by omega)]
  have e3 : b % x.h = b := Int.emod_eq_of_lt hb.1 hb.2
  have e4 : a % x.w = a := Int.emod_eq_of_lt ha.1 ha.2
  have p1 : 0 ≤ b * x.w := Int.mul_nonneg hb.1 (by omega)
  have p2 : b * x.w ≤ 12 * x.w := Int.mul_le_mul_of_nonneg_right (by omega) (by omega)
  unfold slotP
  rw [e1, e2, e3, e4, if_neg (by omega), if_neg (by omega)]
  exact ⟨rfl, by omega⟩

/-- A cell of a world with two sides is put. -/
def putS (x : Pu.Shape) (S : List Int) (a b u : Int) : List Int := if hasB x a b = true then S.set (b * x.w + a).toNat u else S
/-- A run of cells is put. -/
def runS (x : Pu.Shape) (S : List Int) (a b u : Int) : Nat → List Int
  | 0 => S
  | k + 1 => putS x (runS x S a b u k) (a + k) b u

set_option maxRecDepth 100000 in
set_option maxHeartbeats 400000 in
/-- A live cell is put into the world's own grid, in a shape with two sides. -/
theorem settle_in (q : Nat) (r : Pu.Rule) (x : Pu.Shape) (age : Int) (S : List Int) (a b u : Int) (w : World) (h : GrAt w q (preOf r x age) x.w x.h 0 0 S) (hr : RuleOk r) (hx : Two x) (hs : 0 ≤ slotP x.w x.h 0 0 a b) :
    Calls Try.prog 54 #[.pointer (some ⟨q, 0, none⟩), .pointer (some ⟨q, 28, none⟩), .int .i64 a, .int .i64 b, .int .i64 u] w fun e w' => e = .returned (.bool true) ∧ GrAt w' q (preOf r x age) x.w x.h 0 0 (S.set (slotP x.w x.h 0 0 a b).toNat u) ∧ Kp (· = q) w w' := by
  have H := hide h
  have ld := hide (fun j v => h.shape hr j v)
  have HNr := hide (fun wx => by have := near_any x a b wx; rw [near_two hx] at this; exact this)
  obtain ⟨w0, w12, h0, h12⟩ := hx
  have HP := hide (fun (wx : World) (hg : GrAt wx q (preOf r x age) x.w x.h 0 0 S) => put_in q (preOf r x age) x.w x.h 0 0 S a b u wx hg (by omega) w12 (by omega) h12 (by omega) (by omega) (by omega) (by omega) hs)
  clear h hs
  go_enter Try.func54, Try.ntmps54
  go_wp2_with (refine wpList_load_at rfl 58 _ rfl q 20 rfl (shv x) ld.out _ Try.underlying58 rfl info_shape ?_)
  refine (HNr.out _).mono ?_
  rintro e w2 ⟨rfl, k2⟩
  have A2 := hide (H.out.keep k2 (fun hx => hx))
  have K2 := hide (k2.mono (T := (· = q)) (fun _ hx => hx.elim))
  clear k2
  go_wp2_with fail
  refine (HP.out _ A2.out).mono ?_
  rintro e w3 ⟨rfl, g8, k3⟩
  have A3 := hide g8
  have K3 := hide (K2.out.trans k3)
  clear g8 k3
  go_wp2_with fail
  go_ret
  exact ⟨rfl, A3.out, K3.out⟩

set_option maxRecDepth 100000 in
set_option maxHeartbeats 1000000 in
theorem layRun_in (q : Nat) (r : Pu.Rule) (x : Pu.Shape) (age : Int) (S : List Int) (a b : Int) (n st : Int) (dn : Bool) (w : World) (h : GrAt w q (preOf r x age) x.w x.h 0 0 S) (hr : RuleOk r) (hx : Two x) (hn : 1 ≤ n ∧ n ≤ 99) (hst : ¬ st = 0)
    (ha : -1000000 ≤ a ∧ a ≤ 1000000) (_hb : -1000000 ≤ b ∧ b ≤ 1000000) :
    Calls Try.prog 59 #[.pointer (some ⟨q, 0, none⟩), .int .i64 a, .int .i64 b, .agg (runv ⟨n, st, dn⟩)] w fun e w' => e = .returned (.bool true) ∧ GrAt w' q (preOf r x age) x.w x.h 0 0 (runS x S a b st n.toNat) ∧ Kp (· = q) w w' := by
  have hq := h.lt
  have H := hide h
  have HR := hide hr
  have HX := hide hx
  obtain ⟨w0, w12, h0, h12⟩ := hx
  simp only [runv] at *
  clear h hr
  have bs : (st == 0) = false := by simpa using hst
  clear hst
  go_enter Try.func59, Try.ntmps59
  go_wp2_with fail
  go_loopg [9] n.toNat (fun gk v wr => ∃ k : Nat, (k : Int) ≤ n ∧ n ≤ k + gk ∧ v = .int .i64 k ∧ GrAt wr q (preOf r x age) x.w x.h 0 0 (runS x S a b st k) ∧
    wr.heap[w.heap.size]? = some (.cells #[.int .i64 n, .int .i64 st, .bool dn] 94 (0, 0)) ∧ Kp (· = q) w wr)
  case atStart => exact ⟨0, by omega, by omega, rfl, H.out.alloc _, heap_alloc_new _ _, (Kp.refl _ _).alloc _⟩
  case round =>
    obtain ⟨k, g1, g2, rfl, g3, g6, g7⟩ := hrel
    have d0 : wr.cell? ⟨w.heap.size, 0, none⟩ = some (.int .i64 n) := cell_of_row _ _ 0 _ _ _ g6
    have d1 : wr.cell? ⟨w.heap.size, 1, none⟩ = some (.int .i64 st) := cell_of_row _ _ 1 _ _ _ g6
    have G3 := hide g3
    have G6 := hide g6
    have G7 := hide g7
    have ld := hide (fun j v => g3.shape HR.out j v)
    clear g3 g6 g7
    by_cases hlt : (k : Int) < n
    · cases hhas : hasB x (a + k) b with
      | false =>
        have HH := hide (fun wx => by have := has_any x (a + k) b wx; rw [hhas] at this; exact this)
        have HN : Hid (runS x S a b st (k + 1) = runS x S a b st k) := by
          show putS x (runS x S a b st k) (a + k) b st = _
          unfold putS
          rw [hhas, if_neg (by simp)]
        clear hhas
        go_wp2_with (refine wpList_load_at rfl 58 _ rfl q 20 rfl (shv x) ld.out _ Try.underlying58 rfl info_shape ?_)
        refine (HH.out _).mono ?_
        rintro e w1 ⟨rfl, k1⟩
        go_wp2_with fail
        go_roundg (gk - 1)
        case measure => omega
        case rel => exact ⟨k + 1, by omega, by omega, by go_num, by rw [HN.out]; exact G3.out.keep k1 (fun hx => hx), k1.row G6.out (fun hx => hx), G7.out.trans (k1.mono (fun _ hx => hx.elim))⟩
      | true =>
        have HH := hide (fun wx => by have := has_any x (a + k) b wx; rw [hhas] at this; exact this)
        have hin := (has_iff HX.out (a + k) b).1 hhas
        have HSL := hide (slot_in HX.out hin.1 hin.2)
        have HN : Hid (runS x S a b st (k + 1) = (runS x S a b st k).set (slotP x.w x.h 0 0 (a + k) b).toNat st) := by
          show putS x (runS x S a b st k) (a + k) b st = _
          unfold putS
          rw [hhas, if_pos rfl, HSL.out.1]
        clear hhas
        go_wp2_with (refine wpList_load_at rfl 58 _ rfl q 20 rfl (shv x) ld.out _ Try.underlying58 rfl info_shape ?_)
        refine (HH.out _).mono ?_
        rintro e w1 ⟨rfl, k1⟩
        have A1 := hide (G3.out.keep k1 (fun hx => hx))
        have B1 := hide (k1.row G6.out (fun hx => hx))
        have K1 := hide (G7.out.trans (k1.mono (T := (· = q)) (fun _ hx => hx.elim)))
        clear k1
        have d2 : w1.cell? ⟨w.heap.size, 1, none⟩ = some (.int .i64 st) := cell_of_row _ _ 1 _ _ _ B1.out
        have HP := hide (fun (wx : World) (hx : GrAt wx q (preOf r x age) x.w x.h 0 0 (runS x S a b st k)) => settle_in q r x age (runS x S a b st k) (a + k) b st wx hx HR.out HX.out (by rw [HSL.out.1]; exact HSL.out.2))
        have HW := hide (wrap_is (z := a + k) (by omega))
        go_wp2_with fail
        go_region_with (go_at_call 54; rw [HW.out]; refine (HP.out _ (by exact ⟨A1.out.row, A1.out.psz, A1.out.len⟩)).mono ?_; rintro e w3 ⟨rfl, g8, k3⟩)
        have A3 := hide g8
        have B3 := hide (k3.row (w := w1.drew) B1.out (by omega))
        have K3 := hide (K1.out.trans (Kp.drewNl (n := 1) k3))
        clear g8 k3
        go_wp2_with fail
        go_roundg (gk - 1)
        case measure => omega
        case rel => exact ⟨k + 1, by omega, by omega, by go_num, by rw [HN.out]; exact A3.out, B3.out, K3.out⟩
    · have hk : k = n.toNat := by omega
      go_wp2_with fail
      go_ret
      subst hk
      exact ⟨rfl, G3.out, G7.out⟩
end Go.Proofs.Ytiimimclbkjcbaa
