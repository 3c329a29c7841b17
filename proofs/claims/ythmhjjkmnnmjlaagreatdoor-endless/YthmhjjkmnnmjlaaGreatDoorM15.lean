import Derived.Test.YthmhjjkmnnmjlaaGreatDoorM14
import Derived.Laws.Closers25
import Derived.Orders
import Derived.WalkKit
import Derived.Deep.Draws
import Derived.Test.YthmhjjkmnnmjlaaGreatDoorM13
namespace Go.Proofs.YthmhjjkmnnmjlaaGreatDoor
open Go.RowKit
open Go.Proofs

set_option maxRecDepth 100000 in
set_option maxHeartbeats 1000000 in
theorem bodyText_any (q : Nat) (pre : Array Value) (gw gh l t : Int) (S : List Int) (b : Bx) (n m : Nat) (w : World) (h : GrAt w q pre gw gh l t S) (ht : Tab w) (w0 : 0 ≤ gw) (w1 : gw ≤ 12) (h0 : 0 ≤ gh) (h1 : gh ≤ 12)
    (l0 : -40000000 ≤ l) (l1 : l ≤ 40000000) (t0 : -40000000 ≤ t) (t1 : t ≤ 40000000) (hb : -50000000 ≤ b.L ∧ b.L ≤ 50000000) (hbT : -50000000 ≤ b.T ∧ b.T ≤ 50000000) (hn : b.R = b.L + n - 1) (hn64 : n ≤ 64) (hm : b.B = b.T + m - 1) (hm64 : m ≤ 64) :
    Calls Tryz.prog 72 #[.pointer (some ⟨q, 28, none⟩), .agg (bxV b)] w fun e w' => e = .returned (.string (ustr (Sv.body (getP gw gh l t S) b.L b.T n m))) ∧ Kp (fun _ => False) w w' := by
  have LRW := hide (fun (wx : World) (hx : GrAt wx q pre gw gh l t S) (hx2 : Tab wx) (y : Int) => rowText_any q pre gw gh l t S b y n wx hx hx2 w0 w1 h0 h1 l0 l1 t0 t1 hb hn hn64)
  have HLEN := hide (fun k => Sv.bodyN_len (getP gw gh l t S) b.L b.T n hn64 k)
  have HRL := hide (fun k : Nat => Sv.row_len (fun x => getP gw gh l t S x (b.T + k)) b.L n)
  obtain ⟨RW, hRW⟩ : ∃ RW : Int → List UInt8, RW = fun y => Sv.row (fun x => getP gw gh l t S x y) b.L n := ⟨_, rfl⟩
  have HRW : Hid (∀ y, Sv.row (fun x => getP gw gh l t S x y) b.L n = RW y) := fun y => by rw [hRW]
  simp only [HRW.out] at LRW HRL
  have HST : Hid (∀ k : Nat, Sv.bodyN (getP gw gh l t S) b.L b.T n (k + 1) = Sv.bodyStep (Sv.bodyN (getP gw gh l t S) b.L b.T n k) (RW (b.T + k))) := fun k => by rw [hRW]; rfl
  have HEND : Hid (Sv.body (getP gw gh l t S) b.L b.T n m = (Sv.bodyN (getP gw gh l t S) b.L b.T n m).text) := rfl
  have HZ : Hid (Sv.bodyN (getP gw gh l t S) b.L b.T n 0 = ⟨[], 0⟩) := rfl
  rw [HEND.out]
  generalize Sv.bodyN (getP gw gh l t S) b.L b.T n = BN at *
  have G0 := hide h
  have HT := hide ht
  clear h ht HEND hRW HRW
  obtain ⟨eb, bL, bT, bR, bB⟩ := b
  simp only [bxV, bxv] at *
  have HM := hide hm
  clear hm hn
  go_enter Tryz.func72, Tryz.ntmps72
  go_wp2_with fail
  go_loopg [5, 6, 7] m (fun gk tv cv yv wr => ∃ k : Nat, k ≤ m ∧ m ≤ k + gk ∧ tv = .string (ustr (BN k).text) ∧ cv = .int .i64 (BN k).breaks ∧ yv = .int .i64 (bT + k) ∧ BxA wr w.heap.size ⟨eb, bL, bT, bR, bB⟩ ∧ Kp (fun _ => False) w wr)
  case atStart => exact ⟨0, by omega, by omega, by rw [HZ.out]; rfl, by rw [HZ.out], val_int2 (by omega), heap_alloc_new _ _, (Kp.refl _ _).alloc _⟩
  case round =>
    obtain ⟨k, g1, g2, rfl, rfl, rfl, b3, k3⟩ := hrel
    have B3 := hide b3
    have K3 := hide k3
    have hL := HLEN.out k
    have hS := HST.out k
    have cB : wr.cell? ⟨w.heap.size, 4, none⟩ = some (.int .i64 bB) := by rw [cell_of_row _ _ 4 _ _ _ b3]; rfl
    have z1 := ustr_size (BN k).text
    have hrl := HRL.out k
    clear b3 k3
    obtain ⟨rk, hrk⟩ : ∃ rk, BN k = rk := ⟨_, rfl⟩
    obtain ⟨tx, ct⟩ := rk
    have HRK := hide hrk
    rw [hrk] at hL hS z1 ⊢
    clear hrk
    simp only at hL z1 ⊢
    by_cases hk : k < m
    · have hkk : bT + k ≤ bB := by have := HM.out; omega
      have LRk := hide (fun (wx : World) (hx : GrAt wx q pre gw gh l t S) (hx2 : Tab wx) => LRW.out wx hx hx2 (bT + k))
      generalize RW (bT + k) = rw' at *
      rw [← ustr_size] at hrl
      have B0 : Hid (wr.heap[w.heap.size]? = some (.cells #[.bool eb, .int .i64 bL, .int .i64 bT, .int .i64 bR, .int .i64 bB] 108 (0, 0))) := B3.out
      by_cases e : rw' = []
      · subst e
        have be : (ustr []).toList.isEmpty = true := by
          rw [← decide_eq_emptyBytes]
          exact decide_eq_true rfl
        have HS : Hid (BN (k + 1) = ⟨tx, ct + 1⟩) := by
          show _ = _
          rw [hS]
          unfold Sv.bodyStep
          rw [if_pos rfl]
        clear hS
        go_wp2_with (refine wpList_load_row rfl 108 _ rfl w.heap.size rfl 108 #[.bool eb, .int .i64 bL, .int .i64 bT, .int .i64 bR, .int .i64 bB] (0, 0) _ B0.out Tryz.underlying108 rfl info_box ?_)
        refine (LRk.out _ (G0.out.keep K3.out (fun hx => hx)) (HT.out.keep K3.out)).mono ?_
        rintro e w4 ⟨rfl, k4⟩
        have B4 := hide (BxA.keep B3.out k4 (fun hx => hx))
        have K4 := hide (K3.out.trans k4)
        clear k4
        go_wp2_with fail
        go_roundg (gk - 1)
        case measure => omega
        case rel => exact ⟨k + 1, by omega, by omega, by rw [HS.out], by rw [HS.out], val_int2 (by omega), B4.out, K4.out⟩
      · have HS : Hid (BN (k + 1) = ⟨tx ++ (Sv.run ct 36 ++ rw'), 1⟩) := by
          show _ = _
          rw [hS]
          unfold Sv.bodyStep
          rw [if_neg e]
        have HS2 : Hid (ustr (BN (k + 1)).text = ustr tx ++ (ustr (Sv.run ct 36) ++ ustr rw')) := by show _ = _; rw [HS.out, ustr_app, ustr_app]
        have be : (ustr rw').toList.isEmpty = false := by
          rw [← decide_eq_emptyBytes]
          exact decide_eq_false (fun h => e (ustr_inj (M := []) h))
        have LR := hide (fun (wx : World) (hx : Tab wx) => runText_any ct 36 wx hx (by omega) (by omega))
        have z2 := Sv.run_len ct 36
        rw [← ustr_size] at z2
        clear hS e
        go_wp2_with (refine wpList_load_row rfl 108 _ rfl w.heap.size rfl 108 #[.bool eb, .int .i64 bL, .int .i64 bT, .int .i64 bR, .int .i64 bB] (0, 0) _ B0.out Tryz.underlying108 rfl info_box ?_)
        refine (LRk.out _ (G0.out.keep K3.out (fun hx => hx)) (HT.out.keep K3.out)).mono ?_
        rintro e w4 ⟨rfl, k4⟩
        have B4 := hide (BxA.keep B3.out k4 (fun hx => hx))
        have K4 := hide (K3.out.trans k4)
        clear k4
        go_wp2_with fail
        refine (LR.out _ (HT.out.keep K4.out)).mono ?_
        rintro e w6 ⟨rfl, k6⟩
        have B6 := hide (BxA.keep B4.out k6 (fun hx => hx))
        have K6 := hide (K4.out.trans k6)
        clear k6
        generalize ustr (Sv.run ct 36) = A at *
        generalize ustr rw' = A2 at *
        go_wp2_with fail
        go_roundg (gk - 1)
        case measure => omega
        case rel => exact ⟨k + 1, by omega, by omega, by rw [HS2.out], by rw [HS.out], val_int2 (by omega), B6.out, K6.out⟩
    · have ek : k = m := by omega
      have hkk : ¬ bT + k ≤ bB := by have := HM.out; omega
      have HE : Hid (BN m = ⟨tx, ct⟩) := by rw [← ek]; exact HRK.out
      clear ek
      go_wp2_with fail
      go_ret
      exact ⟨(show Ending.returned (.string (ustr tx)) = _ by rw [HE.out]), K3.out⟩

set_option maxRecDepth 100000 in
set_option maxHeartbeats 1000000 in
theorem setText_any (f : List Bool) (hf : f.length = 9) (w : World) (ht : Tab w) :
    Calls Tryz.prog 96 #[.agg (bv f)] w fun e w' => e = .returned (.string (ustr (Sv.set f))) ∧ Kp (fun _ => False) w w' := by
  have HT := hide ht
  have HLEN := hide (fun n => Sv.setN_len f n)
  have HSu : Hid (∀ n, Sv.setN f (n + 1) = if f.getD n false = true then Sv.setN f n ++ Lib.itoa n else Sv.setN f n) := fun _ => rfl
  have HE : Hid (Sv.set f = Sv.setN f 9) := rfl
  have HZ : Hid (Sv.setN f 0 = []) := rfl
  rw [HE.out]
  have HBV : Hid (∀ n : Nat, n < 9 → (bv f)[n]? = some (.bool (f.getD n false))) := fun n hn => by
    rw [bv_get f n (by omega)]
    simp [List.getD, show n < f.length by omega]
  generalize Sv.setN f = SN at *
  clear ht hf
  go_enter Tryz.func96, Tryz.ntmps96
  go_wp2_with fail
  go_loopg [3, 4] 9 (fun gk tv iv wr => ∃ k : Nat, k ≤ 9 ∧ 9 ≤ k + gk ∧ tv = .string (ustr (SN k)) ∧ iv = .int .i64 k ∧ wr.heap[w.heap.size]? = some (.cells (bv f) 61 (0, 0)) ∧ Kp (fun _ => False) w wr)
  case atStart => exact ⟨0, by omega, by omega, by rw [HZ.out]; rfl, rfl, heap_alloc_new _ _, (Kp.refl _ _).alloc _⟩
  case round =>
    obtain ⟨k, g1, g2, rfl, rfl, b3, k3⟩ := hrel
    have B3 := hide b3
    have K3 := hide k3
    have z1 := HLEN.out k
    rw [← ustr_size] at z1
    by_cases hk : k < 9
    · have hS := HSu.out k
      have cK : wr.cell? ⟨w.heap.size, k, none⟩ = some (.bool (f.getD k false)) := by rw [cell_of_row _ _ k _ _ _ b3]; exact HBV.out k hk
      have zk : k * (k + 2) ≤ 99 := Nat.mul_le_mul (show k ≤ 9 by omega) (show k + 2 ≤ 11 by omega)
      have z2 : (ustr (SN k)).size ≤ 99 := Nat.le_trans z1 zk
      clear b3 k3 z1 zk
      by_cases e : f.getD k false = true
      · rw [e] at cK
        rw [if_pos e] at hS
        have HS : Hid (ustr (SN (k + 1)) = ustr (SN k) ++ ustr (Lib.itoa k)) := by show _ = _; rw [hS, ustr_app]
        have z3 := itoa_len k
        rw [← ustr_size] at z3
        have LI := hide (fun (wx : World) (hx : Tab wx) => itoa_any k wx hx (by omega) (by omega))
        clear hS e
        generalize ustr (Lib.itoa k) = A at *
        go_wp2_with fail
        refine (LI.out _ (HT.out.keep K3.out)).mono ?_
        rintro e w4 ⟨rfl, k4⟩
        have B4 := hide (k4.row B3.out (fun hx => hx))
        have K4 := hide (K3.out.trans k4)
        clear k4
        go_wp2_with fail
        go_roundg (gk - 1)
        case measure => omega
        case rel => exact ⟨k + 1, by omega, by omega, by rw [HS.out], by go_num, B4.out, K4.out⟩
      · rw [if_neg e] at hS
        have e' : f.getD k false = false := by simpa using e
        rw [e'] at cK
        have HS := hide hS
        clear hS e e'
        go_wp2_with fail
        go_roundg (gk - 1)
        case measure => omega
        case rel => exact ⟨k + 1, by omega, by omega, by rw [HS.out], by go_num, B3.out, K3.out⟩
    · have ek : k = 9 := by omega
      subst ek
      clear b3 k3
      go_wp2_with fail
      go_ret
      exact ⟨rfl, K3.out⟩

set_option maxRecDepth 100000 in
set_option maxHeartbeats 400000 in
theorem behind_any (s : Int) (st : Bool) (w : World) (ht : Tab w) (hs : 0 ≤ s ∧ s ≤ 64) :
    Calls Tryz.prog 97 #[.int .i64 s, .bool st] w fun e w' => e = .returned (.string (ustr (Sv.behind s st))) ∧ Kp (fun _ => False) w w' := by
  have HT := hide ht
  have z3 := itoa_len s
  rw [← ustr_size] at z3
  have LI := hide (fun (wx : World) (hx : Tab wx) => itoa_any s wx hx (by omega) (by omega))
  unfold Sv.behind
  cases st
  · rw [if_neg (by simp)]
    by_cases h0 : s = 0
    · rw [if_pos h0]
      subst h0
      go_enter Tryz.func97, Tryz.ntmps97
      go_wp2_with fail
      go_ret
      exact ⟨rfl, Kp.refl _ _⟩
    · rw [if_neg h0, ← ustr_app]
      have b0 : (s != 0) = true := by simpa using h0
      clear h0 ht
      generalize ustr (Lib.itoa s) = A at *
      go_enter Tryz.func97, Tryz.ntmps97
      go_wp2_with fail
      refine (LI.out _ HT.out).mono ?_
      rintro e w4 ⟨rfl, k4⟩
      have K4 := hide k4
      clear k4
      go_wp2_with fail
      go_ret
      exact ⟨rfl, K4.out⟩
  · rw [if_pos rfl]
    go_enter Tryz.func97, Tryz.ntmps97
    go_wp2_with fail
    go_ret
    exact ⟨rfl, Kp.refl _ _⟩

end Go.Proofs.YthmhjjkmnnmjlaaGreatDoor
namespace Go.Proofs.YthmhjjkmnnmjlaaGreatDoor
open Go.RowKit
open Go.Proofs

theorem getD_setT (l : Array Bool) (i j : Nat) : (l.setIfInBounds i true).getD j true = false → j ≠ i ∧ l.getD j true = false := by
  intro h
  simp only [Array.getD_eq_getD_getElem?, Array.getElem?_setIfInBounds] at h ⊢
  by_cases e : i = j
  · subst e
    rw [if_pos rfl] at h
    split at h
    · simp at h
    · simp at h
  · rw [if_neg e] at h
    exact ⟨fun e2 => e e2.symm, h⟩
theorem getD_setF (l : Array Bool) (i j : Nat) : (l.setIfInBounds i true).getD j false = true → j = i ∨ l.getD j false = true := by
  intro h
  simp only [Array.getD_eq_getD_getElem?, Array.getElem?_setIfInBounds] at h ⊢
  by_cases e : i = j
  · left; exact e.symm
  · right
    rw [if_neg e] at h
    exact h
/-- Each operation waits for earlier ones alone. -/
def depB (ops : Array Oper) : Bool := (List.range ops.size).all fun i => match ops[i]? with | some o => o.after.all fun e => decide (e.on < i) | none => true
theorem depB_spec {ops : Array Oper} (h : depB ops = true) (i : Nat) (o : Oper) (ho : ops[i]? = some o) (e : Edge) (he : e ∈ o.after) : e.on < i := by
  unfold depB at h
  rw [List.all_eq_true] at h
  have h1 := h i (List.mem_range.2 (Array.getElem?_eq_some_iff.1 ho).1)
  rw [ho] at h1
  simp only at h1
  rw [Array.all_eq_true_iff_forall_mem] at h1
  exact of_decide_eq_true (h1 e he)
section
variable {P : Program} {md : Region.Mode} {ops : Array Oper} {Q : Exit → Act → World → Prop}
/-- Whatever order is picked: what is kept by each operation that may come up is there at the end. -/
theorem wpAny_inv (I : Array Bool → Act → World → Prop)
    (hdep : ∀ (i : Nat) (o : Oper), ops[i]? = some o → ∀ e ∈ o.after, e.on < i)
    (hstep : ∀ (listed : Array Bool) (a : Act) (w : World) (i : Nat) (o : Oper), I listed a w → ops[i]? = some o → (∀ e ∈ o.after, Region.binds md e = true → listed.getD e.on false = true) → o.guard = none ∧ o.wp P a w (fun a' w' => I (listed.setIfInBounds i true) a' w') Q)
    (hend : ∀ (listed : Array Bool) (a : Act) (w : World), I listed a w → (∀ i, i < ops.size → listed.getD i false = true) → Q .normal a w) :
    ∀ (fuel : Nat) (listed : Array Bool) (a : Act) (w : World) (L : List Nat), listed.size = ops.size → (∀ i, listed.getD i true = false → i ∈ L) → L.length ≤ fuel → I listed a w → wpAny P md ops Q fuel listed a w := by
  have hfin : ∀ (listed : Array Bool) a w, listed.size = ops.size → I listed a w → Region.ready md ops listed = [] → Q .normal a w := by
    intro listed a w hs hI h0
    refine hend listed a w hI ?_
    intro i
    induction i using Nat.strongRecOn with
    | _ i ih =>
      intro hi
      have ho : ops[i]? = some ops[i] := by simp [hi]
      rcases hb : listed.getD i true with _ | _
      · have : i ∈ Region.ready md ops listed := mem_ready.2 ⟨hb, _, ho, fun e he _ => ih e.on (hdep i _ ho e he) (Nat.lt_trans (hdep i _ ho e he) hi)⟩
        rw [h0] at this
        cases this
      · have hi' : i < listed.size := by omega
        simp only [Array.getD_eq_getD_getElem?] at hb ⊢
        simp only [hi', Array.getElem?_eq_getElem, Option.getD_some] at hb ⊢
        exact hb
  intro fuel
  induction fuel with
  | zero =>
    intro listed a w L hs hL hl hI
    have hn : Region.ready md ops listed = [] := by
      rw [List.eq_nil_iff_forall_not_mem]
      intro i hi
      have := hL i (mem_ready.1 hi).1
      have h0 : L = [] := List.length_eq_zero_iff.1 (by omega)
      rw [h0] at this
      cases this
    exact ⟨hn, hfin listed a w hs hI hn⟩
  | succ fuel ih =>
    intro listed a w L hs hL hl hI
    refine ⟨hfin listed a w hs hI, fun i hi => ?_⟩
    obtain ⟨hun, o, ho, hall⟩ := mem_ready.1 hi
    have h1 := hstep listed a w i o hI ho hall
    unfold wpOp
    rw [ho]
    simp only
    rw [if_pos (by simp [Region.wanted, h1.1])]
    refine Or.inl (Oper.wp_mono (fun a' w' h2 => ?_) h1.2)
    have hiL := hL i hun
    refine ih _ a' w' (L.erase i) (by rw [Array.size_setIfInBounds]; exact hs) (fun j hj => ?_) ?_ h2
    · obtain ⟨e1, e2⟩ := getD_setT _ _ _ hj
      exact (List.mem_erase_of_ne e1).2 (hL j e2)
    · rw [List.length_erase_of_mem hiL]
      omega
/-- The same for a whole region that draws. -/
theorem wp_region_inv {id : Nat} {a : Act} {w : World} (hm : P.follows .mixedOrders = true) (I : Array Bool → Act → World → Prop)
    (hdep : depB ops = true)
    (hstep : ∀ (listed : Array Bool) (a : Act) (w : World) (i : Nat) (o : Oper), I listed a w → ops[i]? = some o → (∀ e ∈ o.after, Region.binds .any e = true → listed.getD e.on false = true) → o.guard = none ∧ o.wp P a w (fun a' w' => I (listed.setIfInBounds i true) a' w') Q)
    (hend : ∀ (listed : Array Bool) (a : Act) (w : World), I listed a w → (∀ i, i < ops.size → listed.getD i false = true) → Q .normal a w)
    (h0 : I (Array.replicate ops.size false) a (w.drewN 1)) : (Code.region id ops true).wp P Q a w :=
  wp_region_any hm (wpAny_inv I (depB_spec hdep) hstep hend ops.size (Array.replicate ops.size false) a (w.drewN 1) (List.range ops.size) (by simp) (fun i hi => by
    rw [List.mem_range]
    by_cases h : i < ops.size
    · exact h
    · simp only [Array.getD_eq_getD_getElem?] at hi
      rw [Array.getElem?_eq_none (by simp; omega)] at hi
      cases hi) (by simp) h0)
end
end Go.Proofs.YthmhjjkmnnmjlaaGreatDoor
namespace Go.Proofs.YthmhjjkmnnmjlaaGreatDoor
open Go.RowKit
open Go.Proofs

theorem GrAt.setOther {w : World} {q : Nat} {pre : Array Value} {gw gh l t : Int} {S : List Int} (h : GrAt w q pre gw gh l t S) {p : Addr} (hp : q ≠ p.block) (u : Value) : GrAt (w.setCell p u) q pre gw gh l t S := h.other (Below.heap_setCell _ _ _ _ hp)

set_option maxRecDepth 100000 in
set_option maxHeartbeats 1000000 in
theorem reach_any (q : Nat) (pre : Array Value) (gw gh l t : Int) (S : List Int) (M x y : Int) (w : World) (h : GrAt w q pre gw gh l t S) (w0 : 0 ≤ gw) (w1 : gw ≤ 12) (h0 : 0 ≤ gh) (h1 : gh ≤ 12)
    (l0 : -M ≤ l) (l1 : l + 64 ≤ M) (t0 : -M ≤ t) (t1 : t + 64 ≤ M) (hM : M ≤ 50000000) (hM0 : 0 ≤ M) (hx : -M ≤ x ∧ x ≤ M) (hy : -M ≤ y ∧ y ≤ M) :
    Calls Tryz.prog 67 #[.pointer (some ⟨q, 28, none⟩), .int .i64 x, .int .i64 y] w fun e w' => (∃ v, e = .returned v) ∧ (∃ l' t', GrAt w' q pre gw gh l' t' S ∧ (-M ≤ l' ∧ l' ≤ M) ∧ (-M ≤ t' ∧ t' ≤ M)) ∧ Kp (· = q) w w' := by
  have hq := h.lt
  have H := hide h
  go_enter Tryz.func67, Tryz.ntmps67
  go_wp2_with fail
  refine (live_any q pre gw gh l t S M _ h w0 w1 h0 h1 l0 l1 t0 t1 hM hM0).mono ?_
  rintro e w1 ⟨⟨b, L, T, R, B, rfl, e1, e2, e3, e4⟩, k1⟩
  have G1 := hide (H.out.keep k1 (fun hx => hx))
  have hq1 := G1.out.lt
  have s1 := k1.size
  have K1 := hide (k1.mono (T := (· = q)) (fun _ hx => hx.elim))
  clear k1 h
  go_wp2_with (refine wpList_store_row_g rfl 108 _ _ rfl w1.heap.size (bxv b L T R B) rfl rfl 108 (bxv false 0 0 0 0) (heap_alloc_new _ _) info_box rfl (bxv_one _ _ _ _ _) ?_
               intro w2 hw2
               have G2 : Hid (GrAt w2 q pre gw gh l t S) := by rw [hw2]; exact (G1.out.alloc _).other (setRow_other _ _ _ _ (by omega))
               have B2 : Hid (BxW w2 w1.heap.size M) := by rw [hw2]; exact ⟨b, L, T, R, B, setRow_heap _ _ _ _ _ _ (heap_alloc_new _ _), e1, e2, e3, e4⟩
               have K2 : Hid (Kp (· = q) w w2) := by rw [hw2]; exact (K1.out.alloc _).setRowNew (by omega) _
               clear hw2)
  refine (add_any w1.heap.size M x y _ B2.out hx hy).mono ?_
  rintro e w3 ⟨⟨vv, rfl⟩, b3, k3⟩
  clear e1 e2 e3 e4
  obtain ⟨b', L', T', R', B', hr, e1, e2, e3, e4⟩ := b3
  have G3 := hide (G2.out.keep k3 (by omega))
  have K3 := hide (K2.out.tr k3 (by intro z hz1 hz2; omega))
  clear k3
  have c0 : w3.cell? ⟨q, 28, none⟩ = some (.int .i64 gw) := G3.out.fld 0 (by omega)
  have c1 : w3.cell? ⟨q, 29, none⟩ = some (.int .i64 gh) := G3.out.fld 1 (by omega)
  have c2 : w3.cell? ⟨q, 30, none⟩ = some (.int .i64 l) := G3.out.fld 2 (by omega)
  have c3 : w3.cell? ⟨q, 31, none⟩ = some (.int .i64 t) := G3.out.fld 3 (by omega)
  have f2 := G3.out.fro 30
  have f3 := G3.out.fro 31
  have d1 : w3.cell? ⟨w1.heap.size, 1, none⟩ = some (.int .i64 L') := cell_of_row _ _ 1 _ _ _ hr
  have d2 : w3.cell? ⟨w1.heap.size, 2, none⟩ = some (.int .i64 T') := cell_of_row _ _ 2 _ _ _ hr
  have d3 : w3.cell? ⟨w1.heap.size, 3, none⟩ = some (.int .i64 R') := cell_of_row _ _ 3 _ _ _ hr
  have d4 : w3.cell? ⟨w1.heap.size, 4, none⟩ = some (.int .i64 B') := cell_of_row _ _ 4 _ _ _ hr
  have hne : w1.heap.size ≠ q := by omega
  clear hr
  by_cases z1 : gw = 0 ∧ R' - L' < 64
  · obtain ⟨rfl, z1⟩ := z1
    by_cases z2 : gh = 0 ∧ B' - T' < 64
    · obtain ⟨rfl, z2⟩ := z2
      go_wp2_with fail
      go_end0
      exact ⟨⟨_, rfl⟩, ⟨L', T', (G3.out.left L').top T', e1, e2⟩, (K3.out.setCell (p := ⟨q, 30, none⟩) rfl _).setCell (p := ⟨q, 31, none⟩) rfl _⟩
    · by_cases z3 : gh = 0
      · subst z3
        have z4 : ¬ B' - T' < 64 := by omega
        clear z2
        go_wp2_with fail
        go_end0
        exact ⟨⟨_, rfl⟩, ⟨L', t, G3.out.left L', e1, by omega⟩, K3.out.setCell (p := ⟨q, 30, none⟩) rfl _⟩
      · have b3 : (gh == 0) = false := by simpa using z3
        clear z2 z3
        go_wp2_with fail
        go_end0
        exact ⟨⟨_, rfl⟩, ⟨L', t, G3.out.left L', e1, by omega⟩, K3.out.setCell (p := ⟨q, 30, none⟩) rfl _⟩
  · have z1' : (gw == 0) = false ∨ (gw = 0 ∧ ¬ R' - L' < 64) := by
      by_cases z : gw = 0
      · right; exact ⟨z, by omega⟩
      · left; simpa using z
    clear z1
    by_cases z2 : gh = 0 ∧ B' - T' < 64
    · obtain ⟨rfl, z2⟩ := z2
      rcases z1' with z1 | ⟨rfl, z1⟩
      all_goals
        go_wp2_with fail
        go_end0
        exact ⟨⟨_, rfl⟩, ⟨l, T', G3.out.top T', by omega, e2⟩, K3.out.setCell (p := ⟨q, 31, none⟩) rfl _⟩
    · by_cases z3 : gh = 0
      · subst z3
        have z4 : ¬ B' - T' < 64 := by omega
        clear z2
        rcases z1' with z1 | ⟨rfl, z1⟩
        all_goals
          go_wp2_with fail
          go_end0
          exact ⟨⟨_, rfl⟩, ⟨l, t, G3.out, by omega, by omega⟩, K3.out⟩
      · have b3 : (gh == 0) = false := by simpa using z3
        clear z2 z3
        rcases z1' with z1 | ⟨rfl, z1⟩
        all_goals
          go_wp2_with fail
          go_end0
          exact ⟨⟨_, rfl⟩, ⟨l, t, G3.out, by omega, by omega⟩, K3.out⟩

set_option maxRecDepth 100000 in
set_option maxHeartbeats 1000000 in
theorem put_in (q : Nat) (pre : Array Value) (gw gh l t : Int) (S : List Int) (x y u : Int) (w : World) (h : GrAt w q pre gw gh l t S) (w0 : 0 ≤ gw) (w1 : gw ≤ 12) (h0 : 0 ≤ gh) (h1 : gh ≤ 12)
    (l0 : -50000000 ≤ l) (l1 : l ≤ 50000000) (t0 : -50000000 ≤ t) (t1 : t ≤ 50000000) (hz : 0 ≤ slotP gw gh l t x y) :
    Calls Tryz.prog 39 #[.pointer (some ⟨q, 28, none⟩), .int .i64 x, .int .i64 y, .int .i64 u] w fun e w' => e = .returned (.bool true) ∧ GrAt w' q pre gw gh l t (S.set (slotP gw gh l t x y).toNat u) ∧ Kp (· = q) w w' := by
  have hb := slotP_bd gw gh l t x y w0 w1 h0 h1
  have HS := hide (fun wx hx => slot_any q pre gw gh l t S x y wx hx w0 w1 h0 h1 l0 l1 t0 t1)
  generalize slotP gw gh l t x y = z at *
  obtain ⟨k, rfl⟩ := Int.eq_ofNat_of_zero_le hz
  have hk : k < 768 := by omega
  have hc := h.cell k hk
  have hf := h.fro (32 + k)
  rw [Int.toNat_natCast]
  have H := hide h
  go_enter Tryz.func39, Tryz.ntmps39
  go_wp2_with fail
  refine (HS.out _ h).mono ?_
  rintro e w1 ⟨rfl, hw⟩
  subst w1
  go_wp2_with fail
  go_ret
  exact ⟨rfl, H.out.put k hk u, (Kp.refl (· = q) w).setCell (p := ⟨q, 32 + k, none⟩) rfl _⟩

set_option maxRecDepth 100000 in
set_option maxHeartbeats 1000000 in
theorem put_any (q : Nat) (pre : Array Value) (gw gh l t : Int) (S : List Int) (M x y u : Int) (w : World) (h : GrAt w q pre gw gh l t S) (w0 : 0 ≤ gw) (w1 : gw ≤ 12) (h0 : 0 ≤ gh) (h1 : gh ≤ 12)
    (l0 : -M ≤ l) (l1 : l + 64 ≤ M) (t0 : -M ≤ t) (t1 : t + 64 ≤ M) (hM : M ≤ 50000000) (hM0 : 0 ≤ M) (hx : -M ≤ x ∧ x ≤ M) (hy : -M ≤ y ∧ y ≤ M) :
    Calls Tryz.prog 39 #[.pointer (some ⟨q, 28, none⟩), .int .i64 x, .int .i64 y, .int .i64 u] w fun e w' => (∃ b : Bool, e = .returned (.bool b)) ∧ (∃ l' t' S', GrAt w' q pre gw gh l' t' S' ∧ (-M ≤ l' ∧ l' ≤ M) ∧ (-M ≤ t' ∧ t' ≤ M)) ∧ Kp (· = q) w w' := by
  by_cases hz : 0 ≤ slotP gw gh l t x y
  · refine (put_in q pre gw gh l t S x y u w h w0 w1 h0 h1 (by omega) (by omega) (by omega) (by omega) hz).mono ?_
    rintro e w1 ⟨rfl, g1, k1⟩
    exact ⟨⟨true, rfl⟩, ⟨l, t, _, g1, by omega, by omega⟩, k1⟩
  · have hb := slotP_bd gw gh l t x y w0 w1 h0 h1
    have HS := hide (fun wx hx => slot_any q pre gw gh l t S x y wx hx w0 w1 h0 h1 (by omega) (by omega) (by omega) (by omega))
    generalize slotP gw gh l t x y = z at *
    have H := hide h
    by_cases hu : u = 0
    · subst hu
      go_enter Tryz.func39, Tryz.ntmps39
      go_wp2_with fail
      refine (HS.out _ h).mono ?_
      rintro e w1 ⟨rfl, hw⟩
      subst w1
      go_wp2_with fail
      go_ret
      exact ⟨⟨true, rfl⟩, ⟨l, t, S, H.out, by omega, by omega⟩, Kp.refl _ _⟩
    · have bu : (u == 0) = false := by simpa using hu
      go_enter Tryz.func39, Tryz.ntmps39
      go_wp2_with fail
      refine (HS.out _ h).mono ?_
      rintro e w1 ⟨rfl, hw⟩
      subst w1
      clear hu
      go_wp2_with fail
      refine (reach_any q pre gw gh l t S M x y _ h w0 w1 h0 h1 l0 l1 t0 t1 hM hM0 hx hy).mono ?_
      rintro e w2 ⟨⟨vv, rfl⟩, ⟨l', t', g2, hl', ht'⟩, k2⟩
      have hb2 := slotP_bd gw gh l' t' x y w0 w1 h0 h1
      have HS2 := hide (fun wx hx => slot_any q pre gw gh l' t' S x y wx hx w0 w1 h0 h1 (by omega) (by omega) (by omega) (by omega))
      generalize slotP gw gh l' t' x y = z2 at *
      have G2 := hide g2
      have K2 := hide k2
      clear k2 HS H h
      go_wp2_with fail
      refine (HS2.out _ g2).mono ?_
      rintro e w3 ⟨rfl, hw⟩
      subst w3
      by_cases hz2 : z2 < 0
      · go_wp2_with fail
        go_ret
        exact ⟨⟨false, rfl⟩, ⟨l', t', S, G2.out, hl', ht'⟩, K2.out⟩
      · obtain ⟨k, rfl⟩ := Int.eq_ofNat_of_zero_le (show 0 ≤ z2 by omega)
        have hk : k < 768 := by omega
        have hc := g2.cell k hk
        have hf := g2.fro (32 + k)
        clear HS2
        go_wp2_with fail
        go_ret
        exact ⟨⟨true, rfl⟩, ⟨l', t', _, G2.out.put k hk u, hl', ht'⟩, K2.out.setCell (p := ⟨q, 32 + k, none⟩) rfl _⟩
end Go.Proofs.YthmhjjkmnnmjlaaGreatDoor
