import Derived.Test.YtbdbkjngdhcjpaaDoorM7
import Derived.Laws.Closers25
namespace Go.Proofs.YtbdbkjngdhcjpaaDoor
open Go.RowKit
open Go.Proofs

set_option maxRecDepth 100000 in
set_option maxHeartbeats 1000000 in
theorem bodyText_any (q : Nat) (pre : Array Value) (gw gh l t : Int) (S : List Int) (b : Bx) (n m : Nat) (w : World) (h : GrAt w q pre gw gh l t S) (ht : Tab w) (w0 : 0 ≤ gw) (w1 : gw ≤ 12) (h0 : 0 ≤ gh) (h1 : gh ≤ 12)
    (l0 : -40000000 ≤ l) (l1 : l ≤ 40000000) (t0 : -40000000 ≤ t) (t1 : t ≤ 40000000) (hb : -50000000 ≤ b.L ∧ b.L ≤ 50000000) (hbT : -50000000 ≤ b.T ∧ b.T ≤ 50000000) (hn : b.R = b.L + n - 1) (hn64 : n ≤ 64) (hm : b.B = b.T + m - 1) (hm64 : m ≤ 64) :
    Calls Tryd.prog 42 #[.pointer (some ⟨q, 28, none⟩), .agg (bxV b)] w fun e w' => e = .returned (.string (ustr (Sv.body (getP gw gh l t S) b.L b.T n m))) ∧ Kp (fun _ => False) w w' := by
  have LRW := hide (fun (wx : World) (hx : GrAt wx q pre gw gh l t S) (hx2 : Tab wx) (y : Int) => rowText_any q pre gw gh l t S b y n wx hx hx2 w0 w1 h0 h1 l0 l1 t0 t1 hb hn hn64)
  have HLEN := hide (fun k => Sv.bodyN_len (getP gw gh l t S) b.L b.T n hn64 k)
  have HRL := hide (fun k : Nat => Sv.row_len (fun x => getP gw gh l t S x (b.T + k)) b.L n)
  obtain ⟨RW, hRW⟩ : ∃ RW : Int → List UInt8, RW = fun y => Sv.row (fun x => getP gw gh l t S x y) b.L n := ⟨_, rfl⟩
  have HRW : Hid (∀ y, Sv.row (fun x => getP gw gh l t S x y) b.L n = RW y) := fun y => by rw [hRW]
  simp only [HRW.out] at LRW HRL
  have HST : Hid (∀ k : Nat, Sv.bodyN (getP gw gh l t S) b.L b.T n (k + 1) = Sv.bodyStep (Sv.bodyN (getP gw gh l t S) b.L b.T n k) (RW (b.T + k))) := fun k => by rw [hRW]; rfl
  have HEND : Hid (Sv.body (getP gw gh l t S) b.L b.T n m = (Sv.bodyN (getP gw gh l t S) b.L b.T n m).text) := rfl
  have HZ : Hid (Sv.bodyN (getP gw gh l t S) b.L b.T n 0 = ⟨[], 0⟩) := rfl
  rw [HEND.out]
  generalize Sv.bodyN (getP gw gh l t S) b.L b.T n = BN at *
  have G0 := hide h
  have HT := hide ht
  clear h ht HEND hRW HRW
  obtain ⟨eb, bL, bT, bR, bB⟩ := b
  simp only [bxV, bxv] at *
  have HM := hide hm
  clear hm hn
  go_enter Tryd.func42, Tryd.ntmps42
  go_wp2_with fail
  go_loopg [5, 6, 7] m (fun gk tv cv yv wr => ∃ k : Nat, k ≤ m ∧ m ≤ k + gk ∧ tv = .string (ustr (BN k).text) ∧ cv = .int .i64 (BN k).breaks ∧ yv = .int .i64 (bT + k) ∧ BxA wr w.heap.size ⟨eb, bL, bT, bR, bB⟩ ∧ Kp (fun _ => False) w wr)
  case atStart => exact ⟨0, by omega, by omega, by rw [HZ.out]; rfl, by rw [HZ.out], val_int2 (by omega), heap_alloc_new _ _, (Kp.refl _ _).alloc _⟩
  case round =>
    obtain ⟨k, g1, g2, rfl, rfl, rfl, b3, k3⟩ := hrel
    have B3 := hide b3
    have K3 := hide k3
    have hL := HLEN.out k
    have hS := HST.out k
    have cB : wr.cell? ⟨w.heap.size, 4, none⟩ = some (.int .i64 bB) := by rw [cell_of_row _ _ 4 _ _ _ b3]; rfl
    have z1 := ustr_size (BN k).text
    have hrl := HRL.out k
    clear b3 k3
    obtain ⟨rk, hrk⟩ : ∃ rk, BN k = rk := ⟨_, rfl⟩
    obtain ⟨tx, ct⟩ := rk
    have HRK := hide hrk
    rw [hrk] at hL hS z1 ⊢
    clear hrk
    simp only at hL z1 ⊢
    by_cases hk : k < m
    · have hkk : bT + k ≤ bB := by have := HM.out; omega
      have LRk := hide (fun (wx : World) (hx : GrAt wx q pre gw gh l t S) (hx2 : Tab wx) => LRW.out wx hx hx2 (bT + k))
      generalize RW (bT + k) = rw' at *
      rw [← ustr_size] at hrl
      have B0 : Hid (wr.heap[w.heap.size]? = some (.cells #[.bool eb, .int .i64 bL, .int .i64 bT, .int .i64 bR, .int .i64 bB] 81 (0, 0))) := B3.out
      by_cases e : rw' = []
      · subst e
        have be : (ustr []).toList.isEmpty = true := by
          rw [← decide_eq_emptyBytes]
          exact decide_eq_true rfl
        have HS : Hid (BN (k + 1) = ⟨tx, ct + 1⟩) := by
          show _ = _
          rw [hS]
          unfold Sv.bodyStep
          rw [if_pos rfl]
        clear hS
        go_wp2_with (refine wpList_load_row rfl 81 _ rfl w.heap.size rfl 81 #[.bool eb, .int .i64 bL, .int .i64 bT, .int .i64 bR, .int .i64 bB] (0, 0) _ B0.out Tryd.underlying81 rfl info_box ?_)
        refine (LRk.out _ (G0.out.keep K3.out (fun hx => hx)) (HT.out.keep K3.out)).mono ?_
        rintro e w4 ⟨rfl, k4⟩
        have B4 := hide (BxA.keep B3.out k4 (fun hx => hx))
        have K4 := hide (K3.out.trans k4)
        clear k4
        go_wp2_with fail
        go_roundg (gk - 1)
        case measure => omega
        case rel => exact ⟨k + 1, by omega, by omega, by rw [HS.out], by rw [HS.out], val_int2 (by omega), B4.out, K4.out⟩
      · have HS : Hid (BN (k + 1) = ⟨tx ++ (Sv.run ct 36 ++ rw'), 1⟩) := by
          show _ = _
          rw [hS]
          unfold Sv.bodyStep
          rw [if_neg e]
        have HS2 : Hid (ustr (BN (k + 1)).text = ustr tx ++ (ustr (Sv.run ct 36) ++ ustr rw')) := by show _ = _; rw [HS.out, ustr_app, ustr_app]
        have be : (ustr rw').toList.isEmpty = false := by
          rw [← decide_eq_emptyBytes]
          exact decide_eq_false (fun h => e (ustr_inj (M := []) h))
        have LR := hide (fun (wx : World) (hx : Tab wx) => runText_any ct 36 wx hx (by omega) (by omega))
        have z2 := Sv.run_len ct 36
        rw [← ustr_size] at z2
        clear hS e
        go_wp2_with (refine wpList_load_row rfl 81 _ rfl w.heap.size rfl 81 #[.bool eb, .int .i64 bL, .int .i64 bT, .int .i64 bR, .int .i64 bB] (0, 0) _ B0.out Tryd.underlying81 rfl info_box ?_)
        refine (LRk.out _ (G0.out.keep K3.out (fun hx => hx)) (HT.out.keep K3.out)).mono ?_
        rintro e w4 ⟨rfl, k4⟩
        have B4 := hide (BxA.keep B3.out k4 (fun hx => hx))
        have K4 := hide (K3.out.trans k4)
        clear k4
        go_wp2_with fail
        refine (LR.out _ (HT.out.keep K4.out)).mono ?_
        rintro e w6 ⟨rfl, k6⟩
        have B6 := hide (BxA.keep B4.out k6 (fun hx => hx))
        have K6 := hide (K4.out.trans k6)
        clear k6
        generalize ustr (Sv.run ct 36) = A at *
        generalize ustr rw' = A2 at *
        go_wp2_with fail
        go_roundg (gk - 1)
        case measure => omega
        case rel => exact ⟨k + 1, by omega, by omega, by rw [HS2.out], by rw [HS.out], val_int2 (by omega), B6.out, K6.out⟩
    · have ek : k = m := by omega
      have hkk : ¬ bT + k ≤ bB := by have := HM.out; omega
      have HE : Hid (BN m = ⟨tx, ct⟩) := by rw [← ek]; exact HRK.out
      clear ek
      go_wp2_with fail
      go_ret
      exact ⟨(show Ending.returned (.string (ustr tx)) = _ by rw [HE.out]), K3.out⟩

set_option maxRecDepth 100000 in
set_option maxHeartbeats 1000000 in
theorem setText_any (f : List Bool) (hf : f.length = 9) (w : World) (ht : Tab w) :
    Calls Tryd.prog 65 #[.agg (bv f)] w fun e w' => e = .returned (.string (ustr (Sv.set f))) ∧ Kp (fun _ => False) w w' := by
  have HT := hide ht
  have HLEN := hide (fun n => Sv.setN_len f n)
  have HSu : Hid (∀ n, Sv.setN f (n + 1) = if f.getD n false = true then Sv.setN f n ++ Lib.itoa n else Sv.setN f n) := fun _ => rfl
  have HE : Hid (Sv.set f = Sv.setN f 9) := rfl
  have HZ : Hid (Sv.setN f 0 = []) := rfl
  rw [HE.out]
  have HBV : Hid (∀ n : Nat, n < 9 → (bv f)[n]? = some (.bool (f.getD n false))) := fun n hn => by
    rw [bv_get f n (by omega)]
    simp [List.getD, show n < f.length by omega]
  generalize Sv.setN f = SN at *
  clear ht hf
  go_enter Tryd.func65, Tryd.ntmps65
  go_wp2_with fail
  go_loopg [3, 4] 9 (fun gk tv iv wr => ∃ k : Nat, k ≤ 9 ∧ 9 ≤ k + gk ∧ tv = .string (ustr (SN k)) ∧ iv = .int .i64 k ∧ wr.heap[w.heap.size]? = some (.cells (bv f) 46 (0, 0)) ∧ Kp (fun _ => False) w wr)
  case atStart => exact ⟨0, by omega, by omega, by rw [HZ.out]; rfl, rfl, heap_alloc_new _ _, (Kp.refl _ _).alloc _⟩
  case round =>
    obtain ⟨k, g1, g2, rfl, rfl, b3, k3⟩ := hrel
    have B3 := hide b3
    have K3 := hide k3
    have z1 := HLEN.out k
    rw [← ustr_size] at z1
    by_cases hk : k < 9
    · have hS := HSu.out k
      have cK : wr.cell? ⟨w.heap.size, k, none⟩ = some (.bool (f.getD k false)) := by rw [cell_of_row _ _ k _ _ _ b3]; exact HBV.out k hk
      have zk : k * (k + 2) ≤ 99 := Nat.mul_le_mul (show k ≤ 9 by omega) (show k + 2 ≤ 11 by omega)
      have z2 : (ustr (SN k)).size ≤ 99 := Nat.le_trans z1 zk
      clear b3 k3 z1 zk
      by_cases e : f.getD k false = true
      · rw [e] at cK
        rw [if_pos e] at hS
        have HS : Hid (ustr (SN (k + 1)) = ustr (SN k) ++ ustr (Lib.itoa k)) := by show _ = _; rw [hS, ustr_app]
        have z3 := itoa_len k
        rw [← ustr_size] at z3
        have LI := hide (fun (wx : World) (hx : Tab wx) => itoa_any k wx hx (by omega) (by omega))
        clear hS e
        generalize ustr (Lib.itoa k) = A at *
        go_wp2_with fail
        refine (LI.out _ (HT.out.keep K3.out)).mono ?_
        rintro e w4 ⟨rfl, k4⟩
        have B4 := hide (k4.row B3.out (fun hx => hx))
        have K4 := hide (K3.out.trans k4)
        clear k4
        go_wp2_with fail
        go_roundg (gk - 1)
        case measure => omega
        case rel => exact ⟨k + 1, by omega, by omega, by rw [HS.out], by go_num, B4.out, K4.out⟩
      · rw [if_neg e] at hS
        have e' : f.getD k false = false := by simpa using e
        rw [e'] at cK
        have HS := hide hS
        clear hS e e'
        go_wp2_with fail
        go_roundg (gk - 1)
        case measure => omega
        case rel => exact ⟨k + 1, by omega, by omega, by rw [HS.out], by go_num, B3.out, K3.out⟩
    · have ek : k = 9 := by omega
      subst ek
      clear b3 k3
      go_wp2_with fail
      go_ret
      exact ⟨rfl, K3.out⟩

set_option maxRecDepth 100000 in
set_option maxHeartbeats 400000 in
theorem behind_any (s : Int) (st : Bool) (w : World) (ht : Tab w) (hs : 0 ≤ s ∧ s ≤ 64) :
    Calls Tryd.prog 66 #[.int .i64 s, .bool st] w fun e w' => e = .returned (.string (ustr (Sv.behind s st))) ∧ Kp (fun _ => False) w w' := by
  have HT := hide ht
  have z3 := itoa_len s
  rw [← ustr_size] at z3
  have LI := hide (fun (wx : World) (hx : Tab wx) => itoa_any s wx hx (by omega) (by omega))
  unfold Sv.behind
  cases st
  · rw [if_neg (by simp)]
    by_cases h0 : s = 0
    · rw [if_pos h0]
      subst h0
      go_enter Tryd.func66, Tryd.ntmps66
      go_wp2_with fail
      go_ret
      exact ⟨rfl, Kp.refl _ _⟩
    · rw [if_neg h0, ← ustr_app]
      have b0 : (s != 0) = true := by simpa using h0
      clear h0 ht
      generalize ustr (Lib.itoa s) = A at *
      go_enter Tryd.func66, Tryd.ntmps66
      go_wp2_with fail
      refine (LI.out _ HT.out).mono ?_
      rintro e w4 ⟨rfl, k4⟩
      have K4 := hide k4
      clear k4
      go_wp2_with fail
      go_ret
      exact ⟨rfl, K4.out⟩
  · rw [if_pos rfl]
    go_enter Tryd.func66, Tryd.ntmps66
    go_wp2_with fail
    go_ret
    exact ⟨rfl, Kp.refl _ _⟩

end Go.Proofs.YtbdbkjngdhcjpaaDoor
