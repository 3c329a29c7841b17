import Derived.Test.YtbdbkjngdhcjpaaDoorM9
import Derived.Test.YtbdbkjngdhcjpaaDoorShelf
import Derived.Laws.IdiomStrings
import Derived.Laws.Closers25
import Derived.Orders
import Derived.WalkKit
import Derived.Deep.Draws
namespace Go.Proofs.YtbdbkjngdhcjpaaDoor
open Go.RowKit
open Go.Proofs

/-- The table that strconv.Itoa looks into. -/
def Tab (w : World) : Prop := Lib.TabIs Tryd.prog w "internal/strconv.uint64pow10" .u64 Lib.pow10Tab
theorem Tab.keep {w w' : World} (h : Tab w) (k : Kp (fun _ => False) w w') : Tab w' := by
  unfold Tab Lib.TabIs World.var? at *
  cases hg : Tryd.prog.globalNamed "internal/strconv.uint64pow10" with
  | none => rw [hg] at h; cases h
  | some g =>
    rw [hg] at h
    simp only [Option.bind_some] at h ⊢
    have hlt : g < w.heap.size := by
      rcases Nat.lt_or_ge g w.heap.size with h' | h'
      · exact h'
      · rw [Array.getElem?_eq_none h'] at h; cases h
    rw [k.block g hlt (fun x => x)]
    exact h
theorem Kp.grown (w : World) (k : Nat) (os : Array Obj) : Kp (fun _ => False) w (Sort.grow (w.drewN k) os) := by
  refine ⟨rfl, rfl, rfl, ?_, fun i hi _ => ?_⟩
  · show w.heap.size ≤ (w.heap ++ os).size
    rw [Array.size_append]
    omega
  · show (w.heap ++ os)[i]? = w.heap[i]?
    rw [Array.getElem?_append, if_pos hi]
theorem itoa_any (n : Int) (w : World) (ht : Tab w) (h0 : -9223372036854775808 ≤ n) (h1 : n ≤ 9223372036854775807) :
    Calls Tryd.prog 40 #[.int .i64 n] w fun e w' => e = .returned (.string (ustr (Lib.itoa n))) ∧ Kp (fun _ => False) w w' :=
  (Tryd.strconv_Itoa n h0 h1 w ht).mono (by
    rintro e w' ⟨rfl, k, os, rfl⟩
    exact ⟨rfl, Kp.grown w k os⟩)
theorem wpList_convu {P : Program} {ops : Array Oper} {rest : List Oper} {o : Oper} {a : Act} {w : World} {Q : Exit → Act → World → Prop} (hgd : o.guard = none) (s d : TypeId) (x : Operand) (ho : o.op = .convert s d x) (v r : Value) (hv : a.eval x = v)
    (hr : (convert s d v).run P w = .ok r w) (h : ∀ w', w' = w → wpList P ops Q rest (a.put o.dst r) w') : wpList P ops Q (o :: rest) a w := by
  refine wpList_plain hgd fun _ hK => ?_
  unfold Oper.wp execOp
  simp [ho, hv, hr]
  exact hK _ _ (h w rfl)
/-- 'string' of a slice of one byte that was just laid. -/
theorem conv1u (w : World) (n : Int) (h0 : 0 ≤ n) (h1 : n < 256) : (convert 85 9 (.slice (some ⟨w.heap.size, 0, none⟩) 1 1)).run Tryd.prog (w.alloc (.cells #[.int .u8 n] 5)) = .ok (.string (ustr [b8 n])) (w.alloc (.cells #[.int .u8 n] 5)) := by
  have hc := run_convert_bytes_back (P := Tryd.prog) (w.alloc (.cells #[.int .u8 n] 5)) 85 9 5 ⟨w.heap.size, 0, none⟩ 1 [UInt8.ofNat n.toNat] Tryd.underlying85 Tryd.underlying5 Tryd.underlying9 (fun j hj => by
    have hj0 : j = 0 := by simp at hj; omega
    subst hj0
    show World.cell? _ ⟨w.heap.size, 0, none⟩ = _
    rw [cell_of_row _ w.heap.size 0 _ _ _ (heap_alloc_new w (.cells #[.int .u8 n] 5))]
    have e : ((UInt8.ofNat n.toNat).toNat : Int) = n := by
      rw [UInt8.toNat_ofNat']
      omega
    simp only [List.getElem_cons_zero]
    rw [e]
    rfl)
  exact hc
theorem val_int2 {k : IntKind} {a b : Int} (h : a = b) : Value.int k a = Value.int k b := by rw [h]
theorem ret_ustr {a b : ByteArray} (h : a = b) : Ending.returned (.string a) = .returned (.string b) := by rw [h]

set_option maxRecDepth 100000 in
set_option maxHeartbeats 400000 in
theorem runText_any (k m : Int) (w : World) (ht : Tab w) (hk : 0 ≤ k ∧ k ≤ 100000) (hm : 0 ≤ m ∧ m < 256) :
    Calls Tryd.prog 71 #[.int .i64 k, .int .u8 m] w fun e w' => e = .returned (.string (ustr (Sv.run k m))) ∧ Kp (fun _ => False) w w' := by
  have z1 := itoa_len k
  rw [← ustr_size] at z1
  have L1 := hide (fun (wx : World) (hx : Tab wx) => itoa_any k wx hx (by omega) (by omega))
  have HT := hide ht
  clear ht
  unfold Sv.run
  by_cases h0 : k = 0
  · rw [if_pos h0]
    subst h0
    go_enter Tryd.func71, Tryd.ntmps71
    go_wp2_with fail
    go_ret
    exact ⟨rfl, Kp.refl _ _⟩
  · rw [if_neg h0]
    have b0 : (k == 0) = false := by simpa using h0
    by_cases h1 : k = 1
    · rw [if_pos h1]
      subst h1
      go_enter Tryd.func71, Tryd.ntmps71
      go_wp2_with (refine wpList_convu rfl 85 9 _ rfl _ _ rfl (conv1u _ _ hm.1 hm.2) ?_
                   intro wz hwz
                   have KZ : Hid (Kp (fun _ => False) w wz) := by rw [hwz]; exact (Kp.refl _ _).alloc _
                   clear hwz)
      go_ret
      exact ⟨rfl, KZ.out⟩
    · rw [if_neg h1, ← ustr_app]
      have b1 : (k == 1) = false := by simpa using h1
      have z2 : (ustr [b8 m]).size = 1 := rfl
      clear h0 h1
      generalize ustr (Lib.itoa k) = A at *
      go_enter Tryd.func71, Tryd.ntmps71
      go_wp2_with (refine wpList_convu rfl 85 9 _ rfl _ _ rfl (conv1u _ _ hm.1 hm.2) ?_
                   intro wz hwz
                   have KZ : Hid (Kp (fun _ => False) w wz) := by rw [hwz]; exact (Kp.refl _ _).alloc _
                   clear hwz)
      refine (L1.out _ (HT.out.keep KZ.out)).mono ?_
      rintro e w2 ⟨rfl, k2⟩
      have K2 := hide (KZ.out.trans k2)
      clear k2
      go_wp2_with fail
      go_ret
      exact ⟨rfl, K2.out⟩

theorem stateLetter_all (a : Int) (w : World) : Calls Tryd.prog 91 #[.int .i64 a] w fun e w' => e = .returned (.int .u8 (Sv.letter a)) ∧ w' = w := by
  unfold Sv.letter Pu.stateLetter
  by_cases h1 : a ≤ 0
  · rw [if_pos (Or.inl h1)]
    go_enter Tryd.func91, Tryd.ntmps91
    go_wp2
    go_ret
    exact ⟨rfl, rfl⟩
  · by_cases h2 : 9 ≤ a
    · rw [if_pos (Or.inr h2)]
      go_enter Tryd.func91, Tryd.ntmps91
      go_wp2
      go_ret
      exact ⟨rfl, rfl⟩
    · have := stateLetter_any a w (by omega) (by omega)
      unfold Pu.stateLetter at this
      exact this
theorem letter_bd (s : Int) : 0 ≤ Sv.letter s ∧ Sv.letter s < 256 := by
  unfold Sv.letter Pu.stateLetter
  split <;> omega

set_option maxRecDepth 100000 in
set_option maxHeartbeats 1000000 in
theorem rowText_any (q : Nat) (pre : Array Value) (gw gh l t : Int) (S : List Int) (b : Bx) (y : Int) (n : Nat) (w : World) (h : GrAt w q pre gw gh l t S) (ht : Tab w) (w0 : 0 ≤ gw) (w1 : gw ≤ 12) (h0 : 0 ≤ gh) (h1 : gh ≤ 12)
    (l0 : -40000000 ≤ l) (l1 : l ≤ 40000000) (t0 : -40000000 ≤ t) (t1 : t ≤ 40000000) (hb : -50000000 ≤ b.L ∧ b.L ≤ 50000000) (hn : b.R = b.L + n - 1) (hn64 : n ≤ 64) :
    Calls Tryd.prog 70 #[.pointer (some ⟨q, 28, none⟩), .agg (bxV b), .int .i64 y] w fun e w' => e = .returned (.string (ustr (Sv.row (fun x => getP gw gh l t S x y) b.L n))) ∧ Kp (fun _ => False) w w' := by
  have LG := hide (fun (wx : World) (hx : GrAt wx q pre gw gh l t S) (x : Int) => gget_any q pre gw gh l t S x y wx hx w0 w1 h0 h1 (by omega) (by omega) (by omega) (by omega))
  have HLEN := hide (fun k => Sv.rowN_len (fun x => getP gw gh l t S x y) b.L k)
  obtain ⟨G, hG⟩ : ∃ G : Int → Int, G = fun x => getP gw gh l t S x y := ⟨_, rfl⟩
  have HG : Hid (∀ x, getP gw gh l t S x y = G x) := fun x => by rw [hG]
  rw [← hG] at HLEN ⊢
  clear hG
  simp only [HG.out] at LG
  have HST : Hid (∀ k : Nat, Sv.rowN G b.L (k + 1) = Sv.rowStep (Sv.rowN G b.L k) (G (b.L + k))) := fun _ => rfl
  have HEND : Hid (Sv.row G b.L n = Sv.rowEnd (Sv.rowN G b.L n)) := rfl
  have HZ : Hid (Sv.rowN G b.L 0 = ⟨[], 0, 0⟩) := rfl
  rw [HEND.out]
  generalize Sv.rowN G b.L = RN at *
  have G0 := hide h
  have HT := hide ht
  clear h ht HEND
  obtain ⟨eb, bL, bT, bR, bB⟩ := b
  simp only [bxV, bxv] at *
  have HN := hide hn
  clear hn
  go_enter Tryd.func70, Tryd.ntmps70
  go_wp2_with fail
  go_loopg [7, 8, 9, 10] n (fun gk tv sv cv xv wr => ∃ k : Nat, k ≤ n ∧ n ≤ k + gk ∧ tv = .string (ustr (RN k).text) ∧ sv = .int .i64 (RN k).state ∧ cv = .int .i64 (RN k).count ∧ xv = .int .i64 (bL + k) ∧ BxA wr w.heap.size ⟨eb, bL, bT, bR, bB⟩ ∧ Kp (fun _ => False) w wr)
  case atStart => exact ⟨0, by omega, by omega, by rw [HZ.out]; rfl, by rw [HZ.out], by rw [HZ.out], val_int2 (by omega), heap_alloc_new _ _, (Kp.refl _ _).alloc _⟩
  case round =>
    obtain ⟨k, g1, g2, rfl, rfl, rfl, rfl, b3, k3⟩ := hrel
    have B3 := hide b3
    have K3 := hide k3
    have hL := HLEN.out k
    have hS := HST.out k
    have cR : wr.cell? ⟨w.heap.size, 3, none⟩ = some (.int .i64 bR) := by rw [cell_of_row _ _ 3 _ _ _ b3]; rfl
    have z1 := ustr_size (RN k).text
    clear b3 k3
    obtain ⟨rk, hrk⟩ : ∃ rk, RN k = rk := ⟨_, rfl⟩
    obtain ⟨tx, st, ct⟩ := rk
    have HRK := hide hrk
    rw [hrk] at hL hS z1 ⊢
    clear hrk
    simp only at hL z1 ⊢
    by_cases hk : k < n
    · have hkk : bL + k ≤ bR := by have := HN.out; omega
      have LGk := hide (fun (wx : World) (hx : GrAt wx q pre gw gh l t S) => LG.out wx hx (bL + k))
      generalize G (bL + k) = gx at *
      by_cases e : gx = st
      · have HS : Hid (RN (k + 1) = ⟨tx, st, ct + 1⟩) := by
          show _ = _
          rw [hS]
          unfold Sv.rowStep
          rw [if_pos e]
        subst e
        clear hS
        go_wp2_with fail
        refine (LGk.out _ (G0.out.keep K3.out (fun hx => hx))).mono ?_
        rintro e w4 ⟨rfl, hw4⟩
        subst w4
        go_wp2_with fail
        go_roundg (gk - 1)
        case measure => omega
        case rel => exact ⟨k + 1, by omega, by omega, by rw [HS.out], by rw [HS.out], by rw [HS.out], val_int2 (by omega), B3.out, K3.out⟩
      · have HS : Hid (RN (k + 1) = ⟨tx ++ Sv.run ct (Sv.letter st), gx, 1⟩) := by
          show _ = _
          rw [hS]
          unfold Sv.rowStep
          rw [if_neg e]
        have HS2 : Hid (ustr (RN (k + 1)).text = ustr (tx ++ Sv.run ct (Sv.letter st))) := by show _ = _; rw [HS.out]
        have be : (gx != st) = true := by simpa using e
        have LL := hide (fun wx => stateLetter_all st wx)
        have LR := hide (fun (wx : World) (hx : Tab wx) => runText_any ct (Sv.letter st) wx hx (by omega) (letter_bd st))
        have z2 := Sv.run_len ct (Sv.letter st)
        rw [← ustr_size] at z2
        clear hS e
        go_wp2_with fail
        refine (LGk.out _ (G0.out.keep K3.out (fun hx => hx))).mono ?_
        rintro e w4 ⟨rfl, hw4⟩
        subst w4
        go_wp2_with fail
        refine (LL.out _).mono ?_
        rintro e w5 ⟨rfl, hw5⟩
        subst w5
        go_wp2_with fail
        refine (LR.out _ (HT.out.keep K3.out)).mono ?_
        rintro e w6 ⟨rfl, k6⟩
        have B6 := hide (BxA.keep B3.out k6 (fun hx => hx))
        have K6 := hide (K3.out.trans k6)
        clear k6
        rw [← ustr_app] at HS2
        generalize ustr (Sv.run ct (Sv.letter st)) = A at *
        go_wp2_with fail
        go_roundg (gk - 1)
        case measure => omega
        case rel => exact ⟨k + 1, by omega, by omega, by rw [HS2.out], by rw [HS.out], by rw [HS.out], val_int2 (by omega), B6.out, K6.out⟩
    · have ek : k = n := by omega
      have hkk : ¬ bL + k ≤ bR := by have := HN.out; omega
      have HE : Hid (RN n = ⟨tx, st, ct⟩) := by rw [← ek]; exact HRK.out
      by_cases e : st = 0
      · have HQ : Hid (Sv.rowEnd (RN n) = tx) := by
          show _ = _
          rw [HE.out]
          unfold Sv.rowEnd
          rw [if_pos e]
        subst e
        clear ek
        go_wp2_with fail
        go_ret
        exact ⟨(show Ending.returned (.string (ustr tx)) = _ by rw [HQ.out]), K3.out⟩
      · have HQ : Hid (ustr (Sv.rowEnd (RN n)) = ustr tx ++ ustr (Sv.run ct (Sv.letter st))) := by
          show _ = _
          rw [HE.out, ustr_app]
          unfold Sv.rowEnd
          rw [if_neg e]
        have be : (st != 0) = true := by simpa using e
        have LL := hide (fun wx => stateLetter_all st wx)
        have LR := hide (fun (wx : World) (hx : Tab wx) => runText_any ct (Sv.letter st) wx hx (by omega) (letter_bd st))
        have z2 := Sv.run_len ct (Sv.letter st)
        rw [← ustr_size] at z2
        clear e ek
        go_wp2_with fail
        refine (LL.out _).mono ?_
        rintro e w5 ⟨rfl, hw5⟩
        subst w5
        go_wp2_with fail
        refine (LR.out _ (HT.out.keep K3.out)).mono ?_
        rintro e w6 ⟨rfl, k6⟩
        have K6 := hide (K3.out.trans k6)
        clear k6
        generalize ustr (Sv.run ct (Sv.letter st)) = A at *
        go_wp2_with fail
        go_ret
        exact ⟨(show Ending.returned (.string (ustr tx ++ A)) = _ by rw [HQ.out]), K6.out⟩
end Go.Proofs.YtbdbkjngdhcjpaaDoor
namespace Go.Proofs.YtbdbkjngdhcjpaaDoor
open Go.RowKit
open Go.Proofs

set_option maxRecDepth 100000 in
set_option maxHeartbeats 1000000 in
theorem bodyText_any (q : Nat) (pre : Array Value) (gw gh l t : Int) (S : List Int) (b : Bx) (n m : Nat) (w : World) (h : GrAt w q pre gw gh l t S) (ht : Tab w) (w0 : 0 ≤ gw) (w1 : gw ≤ 12) (h0 : 0 ≤ gh) (h1 : gh ≤ 12)
    (l0 : -40000000 ≤ l) (l1 : l ≤ 40000000) (t0 : -40000000 ≤ t) (t1 : t ≤ 40000000) (hb : -50000000 ≤ b.L ∧ b.L ≤ 50000000) (hbT : -50000000 ≤ b.T ∧ b.T ≤ 50000000) (hn : b.R = b.L + n - 1) (hn64 : n ≤ 64) (hm : b.B = b.T + m - 1) (hm64 : m ≤ 64) :
    Calls Tryd.prog 42 #[.pointer (some ⟨q, 28, none⟩), .agg (bxV b)] w fun e w' => e = .returned (.string (ustr (Sv.body (getP gw gh l t S) b.L b.T n m))) ∧ Kp (fun _ => False) w w' := by
  have LRW := hide (fun (wx : World) (hx : GrAt wx q pre gw gh l t S) (hx2 : Tab wx) (y : Int) => rowText_any q pre gw gh l t S b y n wx hx hx2 w0 w1 h0 h1 l0 l1 t0 t1 hb hn hn64)
  have HLEN := hide (fun k => Sv.bodyN_len (getP gw gh l t S) b.L b.T n hn64 k)
  have HRL := hide (fun k : Nat => Sv.row_len (fun x => getP gw gh l t S x (b.T + k)) b.L n)
  obtain ⟨RW, hRW⟩ : ∃ RW : Int → List UInt8, RW = fun y => Sv.row (fun x => getP gw gh l t S x y) b.L n := ⟨_, rfl⟩
  have HRW : Hid (∀ y, Sv.row (fun x => getP gw gh l t S x y) b.L n = RW y) := fun y => by rw [hRW]
  simp only [HRW.out] at LRW HRL
  have HST : Hid (∀ k : Nat, Sv.bodyN (getP gw gh l t S) b.L b.T n (k + 1) = Sv.bodyStep (Sv.bodyN (getP gw gh l t S) b.L b.T n k) (RW (b.T + k))) := fun k => by rw [hRW]; rfl
  have HEND : Hid (Sv.body (getP gw gh l t S) b.L b.T n m = (Sv.bodyN (getP gw gh l t S) b.L b.T n m).text) := rfl
  have HZ : Hid (Sv.bodyN (getP gw gh l t S) b.L b.T n 0 = ⟨[], 0⟩) := rfl
  rw [HEND.out]
  generalize Sv.bodyN (getP gw gh l t S) b.L b.T n = BN at *
  have G0 := hide h
  have HT := hide ht
  clear h ht HEND hRW HRW
  obtain ⟨eb, bL, bT, bR, bB⟩ := b
  simp only [bxV, bxv] at *
  have HM := hide hm
  clear hm hn
  go_enter Tryd.func42, Tryd.ntmps42
  go_wp2_with fail
  go_loopg [5, 6, 7] m (fun gk tv cv yv wr => ∃ k : Nat, k ≤ m ∧ m ≤ k + gk ∧ tv = .string (ustr (BN k).text) ∧ cv = .int .i64 (BN k).breaks ∧ yv = .int .i64 (bT + k) ∧ BxA wr w.heap.size ⟨eb, bL, bT, bR, bB⟩ ∧ Kp (fun _ => False) w wr)
  case atStart => exact ⟨0, by omega, by omega, by rw [HZ.out]; rfl, by rw [HZ.out], val_int2 (by omega), heap_alloc_new _ _, (Kp.refl _ _).alloc _⟩
  case round =>
    obtain ⟨k, g1, g2, rfl, rfl, rfl, b3, k3⟩ := hrel
    have B3 := hide b3
    have K3 := hide k3
    have hL := HLEN.out k
    have hS := HST.out k
    have cB : wr.cell? ⟨w.heap.size, 4, none⟩ = some (.int .i64 bB) := by rw [cell_of_row _ _ 4 _ _ _ b3]; rfl
    have z1 := ustr_size (BN k).text
    have hrl := HRL.out k
    clear b3 k3
    obtain ⟨rk, hrk⟩ : ∃ rk, BN k = rk := ⟨_, rfl⟩
    obtain ⟨tx, ct⟩ := rk
    have HRK := hide hrk
    rw [hrk] at hL hS z1 ⊢
    clear hrk
    simp only at hL z1 ⊢
    by_cases hk : k < m
    · have hkk : bT + k ≤ bB := by have := HM.out; omega
      have LRk := hide (fun (wx : World) (hx : GrAt wx q pre gw gh l t S) (hx2 : Tab wx) => LRW.out wx hx hx2 (bT + k))
      generalize RW (bT + k) = rw' at *
      rw [← ustr_size] at hrl
      have B0 : Hid (wr.heap[w.heap.size]? = some (.cells #[.bool eb, .int .i64 bL, .int .i64 bT, .int .i64 bR, .int .i64 bB] 81 (0, 0))) := B3.out
      by_cases e : rw' = []
      · subst e
        have be : (ustr []).toList.isEmpty = true := by
          rw [← decide_eq_emptyBytes]
          exact decide_eq_true rfl
        have HS : Hid (BN (k + 1) = ⟨tx, ct + 1⟩) := by
          show _ = _
          rw [hS]
          unfold Sv.bodyStep
          rw [if_pos rfl]
        clear hS
        go_wp2_with (refine wpList_load_row rfl 81 _ rfl w.heap.size rfl 81 #[.bool eb, .int .i64 bL, .int .i64 bT, .int .i64 bR, .int .i64 bB] (0, 0) _ B0.out Tryd.underlying81 rfl info_box ?_)
        refine (LRk.out _ (G0.out.keep K3.out (fun hx => hx)) (HT.out.keep K3.out)).mono ?_
        rintro e w4 ⟨rfl, k4⟩
        have B4 := hide (BxA.keep B3.out k4 (fun hx => hx))
        have K4 := hide (K3.out.trans k4)
        clear k4
        go_wp2_with fail
        go_roundg (gk - 1)
        case measure => omega
        case rel => exact ⟨k + 1, by omega, by omega, by rw [HS.out], by rw [HS.out], val_int2 (by omega), B4.out, K4.out⟩
      · have HS : Hid (BN (k + 1) = ⟨tx ++ (Sv.run ct 36 ++ rw'), 1⟩) := by
          show _ = _
          rw [hS]
          unfold Sv.bodyStep
          rw [if_neg e]
        have HS2 : Hid (ustr (BN (k + 1)).text = ustr tx ++ (ustr (Sv.run ct 36) ++ ustr rw')) := by show _ = _; rw [HS.out, ustr_app, ustr_app]
        have be : (ustr rw').toList.isEmpty = false := by
          rw [← decide_eq_emptyBytes]
          exact decide_eq_false (fun h => e (ustr_inj (M := []) h))
        have LR := hide (fun (wx : World) (hx : Tab wx) => runText_any ct 36 wx hx (by omega) (by omega))
        have z2 := Sv.run_len ct 36
        rw [← ustr_size] at z2
        clear hS e
        go_wp2_with (refine wpList_load_row rfl 81 _ rfl w.heap.size rfl 81 #[.bool eb, .int .i64 bL, .int .i64 bT, .int .i64 bR, .int .i64 bB] (0, 0) _ B0.out Tryd.underlying81 rfl info_box ?_)
        refine (LRk.out _ (G0.out.keep K3.out (fun hx => hx)) (HT.out.keep K3.out)).mono ?_
        rintro e w4 ⟨rfl, k4⟩
        have B4 := hide (BxA.keep B3.out k4 (fun hx => hx))
        have K4 := hide (K3.out.trans k4)
        clear k4
        go_wp2_with fail
        refine (LR.out _ (HT.out.keep K4.out)).mono ?_
        rintro e w6 ⟨rfl, k6⟩
        have B6 := hide (BxA.keep B4.out k6 (fun hx => hx))
        have K6 := hide (K4.out.trans k6)
        clear k6
        generalize ustr (Sv.run ct 36) = A at *
        generalize ustr rw' = A2 at *
        go_wp2_with fail
        go_roundg (gk - 1)
        case measure => omega
        case rel => exact ⟨k + 1, by omega, by omega, by rw [HS2.out], by rw [HS.out], val_int2 (by omega), B6.out, K6.out⟩
    · have ek : k = m := by omega
      have hkk : ¬ bT + k ≤ bB := by have := HM.out; omega
      have HE : Hid (BN m = ⟨tx, ct⟩) := by rw [← ek]; exact HRK.out
      clear ek
      go_wp2_with fail
      go_ret
      exact ⟨(show Ending.returned (.string (ustr tx)) = _ by rw [HE.out]), K3.out⟩

set_option maxRecDepth 100000 in
set_option maxHeartbeats 1000000 in
theorem setText_any (f : List Bool) (hf : f.length = 9) (w : World) (ht : Tab w) :
    Calls Tryd.prog 65 #[.agg (bv f)] w fun e w' => e = .returned (.string (ustr (Sv.set f))) ∧ Kp (fun _ => False) w w' := by
  have HT := hide ht
  have HLEN := hide (fun n => Sv.setN_len f n)
  have HSu : Hid (∀ n, Sv.setN f (n + 1) = if f.getD n false = true then Sv.setN f n ++ Lib.itoa n else Sv.setN f n) := fun _ => rfl
  have HE : Hid (Sv.set f = Sv.setN f 9) := rfl
  have HZ : Hid (Sv.setN f 0 = []) := rfl
  rw [HE.out]
  have HBV : Hid (∀ n : Nat, n < 9 → (bv f)[n]? = some (.bool (f.getD n false))) := fun n hn => by
    rw [bv_get f n (by omega)]
    simp [List.getD, show n < f.length by omega]
  generalize Sv.setN f = SN at *
  clear ht hf
  go_enter Tryd.func65, Tryd.ntmps65
  go_wp2_with fail
  go_loopg [3, 4] 9 (fun gk tv iv wr => ∃ k : Nat, k ≤ 9 ∧ 9 ≤ k + gk ∧ tv = .string (ustr (SN k)) ∧ iv = .int .i64 k ∧ wr.heap[w.heap.size]? = some (.cells (bv f) 46 (0, 0)) ∧ Kp (fun _ => False) w wr)
  case atStart => exact ⟨0, by omega, by omega, by rw [HZ.out]; rfl, rfl, heap_alloc_new _ _, (Kp.refl _ _).alloc _⟩
  case round =>
    obtain ⟨k, g1, g2, rfl, rfl, b3, k3⟩ := hrel
    have B3 := hide b3
    have K3 := hide k3
    have z1 := HLEN.out k
    rw [← ustr_size] at z1
    by_cases hk : k < 9
    · have hS := HSu.out k
      have cK : wr.cell? ⟨w.heap.size, k, none⟩ = some (.bool (f.getD k false)) := by rw [cell_of_row _ _ k _ _ _ b3]; exact HBV.out k hk
      have zk : k * (k + 2) ≤ 99 := Nat.mul_le_mul (show k ≤ 9 by omega) (show k + 2 ≤ 11 by omega)
      have z2 : (ustr (SN k)).size ≤ 99 := Nat.le_trans z1 zk
      clear b3 k3 z1 zk
      by_cases e : f.getD k false = true
      · rw [e] at cK
        rw [if_pos e] at hS
        have HS : Hid (ustr (SN (k + 1)) = ustr (SN k) ++ ustr (Lib.itoa k)) := by show _ = _; rw [hS, ustr_app]
        have z3 := itoa_len k
        rw [← ustr_size] at z3
        have LI := hide (fun (wx : World) (hx : Tab wx) => itoa_any k wx hx (by omega) (by omega))
        clear hS e
        generalize ustr (Lib.itoa k) = A at *
        go_wp2_with fail
        refine (LI.out _ (HT.out.keep K3.out)).mono ?_
        rintro e w4 ⟨rfl, k4⟩
        have B4 := hide (k4.row B3.out (fun hx => hx))
        have K4 := hide (K3.out.trans k4)
        clear k4
        go_wp2_with fail
        go_roundg (gk - 1)
        case measure => omega
        case rel => exact ⟨k + 1, by omega, by omega, by rw [HS.out], by go_num, B4.out, K4.out⟩
      · rw [if_neg e] at hS
        have e' : f.getD k false = false := by simpa using e
        rw [e'] at cK
        have HS := hide hS
        clear hS e e'
        go_wp2_with fail
        go_roundg (gk - 1)
        case measure => omega
        case rel => exact ⟨k + 1, by omega, by omega, by rw [HS.out], by go_num, B3.out, K3.out⟩
    · have ek : k = 9 := by omega
      subst ek
      clear b3 k3
      go_wp2_with fail
      go_ret
      exact ⟨rfl, K3.out⟩

set_option maxRecDepth 100000 in
set_option maxHeartbeats 400000 in
theorem behind_any (s : Int) (st : Bool) (w : World) (ht : Tab w) (hs : 0 ≤ s ∧ s ≤ 64) :
    Calls Tryd.prog 66 #[.int .i64 s, .bool st] w fun e w' => e = .returned (.string (ustr (Sv.behind s st))) ∧ Kp (fun _ => False) w w' := by
  have HT := hide ht
  have z3 := itoa_len s
  rw [← ustr_size] at z3
  have LI := hide (fun (wx : World) (hx : Tab wx) => itoa_any s wx hx (by omega) (by omega))
  unfold Sv.behind
  cases st
  · rw [if_neg (by simp)]
    by_cases h0 : s = 0
    · rw [if_pos h0]
      subst h0
      go_enter Tryd.func66, Tryd.ntmps66
      go_wp2_with fail
      go_ret
      exact ⟨rfl, Kp.refl _ _⟩
    · rw [if_neg h0, ← ustr_app]
      have b0 : (s != 0) = true := by simpa using h0
      clear h0 ht
      generalize ustr (Lib.itoa s) = A at *
      go_enter Tryd.func66, Tryd.ntmps66
      go_wp2_with fail
      refine (LI.out _ HT.out).mono ?_
      rintro e w4 ⟨rfl, k4⟩
      have K4 := hide k4
      clear k4
      go_wp2_with fail
      go_ret
      exact ⟨rfl, K4.out⟩
  · rw [if_pos rfl]
    go_enter Tryd.func66, Tryd.ntmps66
    go_wp2_with fail
    go_ret
    exact ⟨rfl, Kp.refl _ _⟩

end Go.Proofs.YtbdbkjngdhcjpaaDoor
namespace Go.Proofs.YtbdbkjngdhcjpaaDoor
open Go.RowKit
open Go.Proofs

theorem getD_setT (l : Array Bool) (i j : Nat) : (l.setIfInBounds i true).getD j true = false → j ≠ i ∧ l.getD j true = false := by
  intro h
  simp only [Array.getD_eq_getD_getElem?, Array.getElem?_setIfInBounds] at h ⊢
  by_cases e : i = j
  · subst e
    rw [if_pos rfl] at h
    split at h
    · simp at h
    · simp at h
  · rw [if_neg e] at h
    exact ⟨fun e2 => e e2.symm, h⟩
theorem getD_setF (l : Array Bool) (i j : Nat) : (l.setIfInBounds i true).getD j false = true → j = i ∨ l.getD j false = true := by
  intro h
  simp only [Array.getD_eq_getD_getElem?, Array.getElem?_setIfInBounds] at h ⊢
  by_cases e : i = j
  · left; exact e.symm
  · right
    rw [if_neg e] at h
    exact h
/-- Each operation waits for earlier ones alone. -/
def depB (ops : Array Oper) : Bool := (List.range ops.size).all fun i => match ops[i]? with | some o => o.after.all fun e => decide (e.on < i) | none => true
theorem depB_spec {ops : Array Oper} (h : depB ops = true) (i : Nat) (o : Oper) (ho : ops[i]? = some o) (e : Edge) (he : e ∈ o.after) : e.on < i := by
  unfold depB at h
  rw [List.all_eq_true] at h
  have h1 := h i (List.mem_range.2 (Array.getElem?_eq_some_iff.1 ho).1)
  rw [ho] at h1
  simp only at h1
  rw [Array.all_eq_true_iff_forall_mem] at h1
  exact of_decide_eq_true (h1 e he)
section
variable {P : Program} {md : Region.Mode} {ops : Array Oper} {Q : Exit → Act → World → Prop}
/-- Whatever order is picked: what is kept by each operation that may come up is there at the end. -/
theorem wpAny_inv (I : Array Bool → Act → World → Prop)
    (hdep : ∀ (i : Nat) (o : Oper), ops[i]? = some o → ∀ e ∈ o.after, e.on < i)
    (hstep : ∀ (listed : Array Bool) (a : Act) (w : World) (i : Nat) (o : Oper), I listed a w → ops[i]? = some o → (∀ e ∈ o.after, Region.binds md e = true → listed.getD e.on false = true) → o.guard = none ∧ o.wp P a w (fun a' w' => I (listed.setIfInBounds i true) a' w') Q)
    (hend : ∀ (listed : Array Bool) (a : Act) (w : World), I listed a w → (∀ i, i < ops.size → listed.getD i false = true) → Q .normal a w) :
    ∀ (fuel : Nat) (listed : Array Bool) (a : Act) (w : World) (L : List Nat), listed.size = ops.size → (∀ i, listed.getD i true = false → i ∈ L) → L.length ≤ fuel → I listed a w → wpAny P md ops Q fuel listed a w := by
  have hfin : ∀ (listed : Array Bool) a w, listed.size = ops.size → I listed a w → Region.ready md ops listed = [] → Q .normal a w := by
    intro listed a w hs hI h0
    refine hend listed a w hI ?_
    intro i
    induction i using Nat.strongRecOn with
    | _ i ih =>
      intro hi
      have ho : ops[i]? = some ops[i] := by simp [hi]
      rcases hb : listed.getD i true with _ | _
      · have : i ∈ Region.ready md ops listed := mem_ready.2 ⟨hb, _, ho, fun e he _ => ih e.on (hdep i _ ho e he) (Nat.lt_trans (hdep i _ ho e he) hi)⟩
        rw [h0] at this
        cases this
      · have hi' : i < listed.size := by omega
        simp only [Array.getD_eq_getD_getElem?] at hb ⊢
        simp only [hi', Array.getElem?_eq_getElem, Option.getD_some] at hb ⊢
        exact hb
  intro fuel
  induction fuel with
  | zero =>
    intro listed a w L hs hL hl hI
    have hn : Region.ready md ops listed = [] := by
      rw [List.eq_nil_iff_forall_not_mem]
      intro i hi
      have := hL i (mem_ready.1 hi).1
      have h0 : L = [] := List.length_eq_zero_iff.1 (by omega)
      rw [h0] at this
      cases this
    exact ⟨hn, hfin listed a w hs hI hn⟩
  | succ fuel ih =>
    intro listed a w L hs hL hl hI
    refine ⟨hfin listed a w hs hI, fun i hi => ?_⟩
    obtain ⟨hun, o, ho, hall⟩ := mem_ready.1 hi
    have h1 := hstep listed a w i o hI ho hall
    unfold wpOp
    rw [ho]
    simp only
    rw [if_pos (by simp [Region.wanted, h1.1])]
    refine Or.inl (Oper.wp_mono (fun a' w' h2 => ?_) h1.2)
    have hiL := hL i hun
    refine ih _ a' w' (L.erase i) (by rw [Array.size_setIfInBounds]; exact hs) (fun j hj => ?_) ?_ h2
    · obtain ⟨e1, e2⟩ := getD_setT _ _ _ hj
      exact (List.mem_erase_of_ne e1).2 (hL j e2)
    · rw [List.length_erase_of_mem hiL]
      omega
/-- The same for a whole region that draws. -/
theorem wp_region_inv {id : Nat} {a : Act} {w : World} (hm : P.follows .mixedOrders = true) (I : Array Bool → Act → World → Prop)
    (hdep : depB ops = true)
    (hstep : ∀ (listed : Array Bool) (a : Act) (w : World) (i : Nat) (o : Oper), I listed a w → ops[i]? = some o → (∀ e ∈ o.after, Region.binds .any e = true → listed.getD e.on false = true) → o.guard = none ∧ o.wp P a w (fun a' w' => I (listed.setIfInBounds i true) a' w') Q)
    (hend : ∀ (listed : Array Bool) (a : Act) (w : World), I listed a w → (∀ i, i < ops.size → listed.getD i false = true) → Q .normal a w)
    (h0 : I (Array.replicate ops.size false) a (w.drewN 1)) : (Code.region id ops true).wp P Q a w :=
  wp_region_any hm (wpAny_inv I (depB_spec hdep) hstep hend ops.size (Array.replicate ops.size false) a (w.drewN 1) (List.range ops.size) (by simp) (fun i hi => by
    rw [List.mem_range]
    by_cases h : i < ops.size
    · exact h
    · simp only [Array.getD_eq_getD_getElem?] at hi
      rw [Array.getElem?_eq_none (by simp; omega)] at hi
      cases hi) (by simp) h0)
end
end Go.Proofs.YtbdbkjngdhcjpaaDoor
