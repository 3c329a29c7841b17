import Derived.Test.YtiimimclbkjcbaaWe
import Derived.Deep.LoopGhost
import Derived.Test.YtiimimclbkjcbaaPx
import Derived.Laws.IdiomStrings
import Derived.Test.YtiimimclbkjcbaaM6
import Derived.Test.YtiimimclbkjcbaaM8
namespace Go.Proofs.Ytiimimclbkjcbaa
open Go.RowKit
open Go.Proofs

/-- A text of these bytes. -/
def bstr (L : List Int) : ByteArray := ⟨(L.map fun n => UInt8.ofNat n.toNat).toArray⟩
theorem bstr_app (L M : List Int) : bstr L ++ bstr M = bstr (L ++ M) := by
  apply ByteArray.ext
  simp [bstr, ByteArray.data_append]
theorem bstr_size (L : List Int) : (bstr L).size = L.length := by simp [bstr, ByteArray.size]
theorem bstr1_size (n : Int) : (bstr [n]).size = 1 := rfl
theorem numL_size (n : Int) : (bstr (Pu.numL n)).size ≤ 2 := by
  rw [bstr_size]
  unfold Pu.numL
  rw [List.length_map]
  exact Pu.dec_len n
theorem wpList_conv {P : Program} {ops : Array Oper} {rest : List Oper} {o : Oper} {a : Act} {w : World} {Q : Exit → Act → World → Prop} (hgd : o.guard = none) (s d : TypeId) (x : Operand) (ho : o.op = .convert s d x) (v r : Value) (hv : a.eval x = v)
    (hr : (convert s d v).run P w = .ok r w) (h : wpList P ops Q rest (a.put o.dst r) w) : wpList P ops Q (o :: rest) a w := by
  refine wpList_plain hgd fun _ hK => ?_
  unfold Oper.wp execOp
  simp [ho, hv, hr]
  exact hK _ _ h
/-- 'string' of a slice of one byte that was just laid. -/
theorem conv1 (w : World) (n : Int) (h0 : 0 ≤ n) (h1 : n < 256) : (convert 72 9 (.slice (some ⟨w.heap.size, 0, none⟩) 1 1)).run Try.prog (w.alloc (.cells #[.int .u8 n] 5)) = .ok (.string (bstr [n])) (w.alloc (.cells #[.int .u8 n] 5)) := by
  have hc := run_convert_bytes_back (P := Try.prog) (w.alloc (.cells #[.int .u8 n] 5)) 72 9 5 ⟨w.heap.size, 0, none⟩ 1 [UInt8.ofNat n.toNat] Try.underlying72 Try.underlying5 Try.underlying9 (fun j hj => by
    have hj0 : j = 0 := by simp at hj; omega
    subst hj0
    show World.cell? _ ⟨w.heap.size, 0, none⟩ = _
    rw [cell_of_row _ w.heap.size 0 _ _ _ (heap_alloc_new w (.cells #[.int .u8 n] 5))]
    have e : ((UInt8.ofNat n.toNat).toNat : Int) = n := by
      rw [UInt8.toNat_ofNat']
      omega
    simp only [List.getElem_cons_zero]
    rw [e]
    rfl)
  exact hc

set_option maxRecDepth 100000 in
set_option maxHeartbeats 400000 in
theorem lnumber_small (n : Int) (w : World) (h0 : 0 ≤ n) (h1 : n < 10) :
    Calls Try.prog 55 #[.int .i64 n] w fun e w' => e = .returned (.string (bstr [n + 48])) ∧ Kp (fun _ => False) w w' := by
  have E : Hid (48 + n % 10 = n + 48) := by show _ = _; omega
  go_enter Try.func55, Try.ntmps55
  go_wp2_with (refine wpList_conv rfl 72 9 _ rfl _ _ rfl (conv1 _ _ (by omega) (by omega)) ?_
               rw [E.out])
  go_ret
  exact ⟨rfl, (Kp.refl _ _).alloc _⟩

set_option maxRecDepth 100000 in
set_option maxHeartbeats 400000 in
theorem lnumber_any (n : Int) (w : World) (h0 : 0 ≤ n) (h1 : n < 100) :
    Calls Try.prog 55 #[.int .i64 n] w fun e w' => e = .returned (.string (bstr (Pu.numL n))) ∧ Kp (fun _ => False) w w' := by
  by_cases hs : n < 10
  · have e : Pu.numL n = [n + 48] := by unfold Pu.numL Pu.dec; rw [if_pos hs]; rfl
    rw [e]
    exact lnumber_small n w h0 hs
  · have e : Pu.numL n = [n / 10 + 48] ++ [48 + n % 10] := by unfold Pu.numL Pu.dec; rw [if_neg hs]; simp; omega
    rw [e, ← bstr_app]
    go_enter Try.func55, Try.ntmps55
    go_wp2_with (refine wpList_conv rfl 72 9 _ rfl _ _ rfl (conv1 _ _ (by omega) (by omega)) ?_)
    refine (lnumber_small (n / 10) _ (by omega) (by omega)).mono ?_
    rintro e w1 ⟨rfl, k1⟩
    have K1 := hide (((Kp.refl (fun _ => False) w).alloc _).trans k1)
    clear k1
    go_wp2_with fail
    go_ret
    exact ⟨rfl, K1.out⟩

def bitK (k b : Nat) : List Int := ((List.range k).filter fun i => b / 2 ^ i % 2 == 1).map fun i : Nat => (i : Int)
theorem bitK_succ (k b : Nat) : bitK (k + 1) b = bitK k b ++ if b / 2 ^ k % 2 == 1 then [(k : Int)] else [] := by
  unfold bitK
  rw [List.range_succ, List.filter_append, List.map_append]
  congr 1
  by_cases h : (b / 2 ^ k % 2 == 1) = true <;> simp [h]

set_option maxRecDepth 100000 in
set_option maxHeartbeats 400000 in
theorem lset_any (b : Nat) (w : World) (h1 : b < 512) :
    Calls Try.prog 39 #[.int .i64 b] w fun e w' => e = .returned (.string (bstr ((Pu.bitL b).map (· + 48)))) ∧ Kp (fun _ => False) w w' := by
  go_enter Try.func39, Try.ntmps39
  go_wp2
  go_loopg [3, 4] 9 (fun gk a i wr => ∃ k : Nat, k ≤ 9 ∧ 9 ≤ k + gk ∧ a = .string (bstr ((bitK k b).map (· + 48))) ∧ i = .int .i64 k ∧ Kp (fun _ => False) w wr)
  case atStart => exact ⟨0, by omega, by omega, rfl, rfl, Kp.refl _ _⟩
  case round =>
    obtain ⟨k, g1, g2, rfl, rfl, g3⟩ := hrel
    have G3 := hide g3
    clear g3
    by_cases hlt : k < 9
    · have eb : ((b : Int) / 2 ^ k).tmod 2 = ((b / 2 ^ k % 2 : Nat) : Int) := by
        have hnn : (0 : Int) ≤ (b : Int) / 2 ^ k := Int.ediv_nonneg (by omega) (Int.le_of_lt (Int.pow_pos (by omega)))
        rw [Int.tmod_eq_emod_of_nonneg hnn]
        simp
      rcases Nat.mod_two_eq_zero_or_one (b / 2 ^ k) with hz | hz
      · rw [hz] at eb
        have EQ : Hid (bitK (k + 1) b = bitK k b) := by show _ = _; rw [bitK_succ, hz]; simp
        have ef : (((b : Int) / 2 ^ k).tmod 2 == 1) = false := by rw [eb]; rfl
        clear hz eb
        go_wp2_with fail
        go_roundg (gk - 1)
        case measure => omega
        case rel => exact ⟨k + 1, by omega, by omega, by rw [EQ.out], by go_num, G3.out⟩
      · rw [hz] at eb
        have EQ : Hid (bstr ((bitK (k + 1) b).map (· + 48)) = bstr ((bitK k b).map (· + 48)) ++ bstr [48 + (k : Int)]) := by
          show _ = _
          rw [bitK_succ, hz, bstr_app, List.map_append]
          congr 2
          simp
          omega
        have ef : (((b : Int) / 2 ^ k).tmod 2 == 1) = true := by rw [eb]; rfl
        have z1 : (bstr ((bitK k b).map (· + 48))).size ≤ 9 := by
          rw [bstr_size, List.length_map]
          unfold bitK
          rw [List.length_map]
          refine Nat.le_trans (List.length_filter_le _ _) ?_
          simp
          omega
        have z2 := bstr1_size (48 + (k : Int))
        clear hz eb
        go_wp2_with (refine wpList_conv rfl 72 9 _ rfl _ _ rfl (conv1 _ _ (by omega) (by omega)) ?_)
        go_roundg (gk - 1)
        case measure => omega
        case rel => exact ⟨k + 1, by omega, by omega, by rw [EQ.out], by go_num, G3.out.alloc _⟩
    · have e : k = 9 := by omega
      subst e
      go_wp2_with fail
      go_ret
      exact ⟨rfl, G3.out⟩

set_option maxRecDepth 100000 in
set_option maxHeartbeats 400000 in
theorem lside_any (n s : Int) (st : Bool) (w : World) (h0 : 0 ≤ n) (h1 : n < 100) (s0 : 0 ≤ s) (s1 : s < 100) :
    Calls Try.prog 40 #[.int .i64 n, .int .i64 s, .bool st] w fun e w' => e = .returned (.string (bstr (Pu.sideL n s st))) ∧ Kp (fun _ => False) w w' := by
  have z1 := numL_size n
  have z2 := numL_size s
  have z3 := bstr1_size 43
  unfold Pu.sideL
  by_cases hs : 0 < s
  · rw [if_pos hs, ← bstr_app, ← bstr_app, show (43 :: Pu.numL s) = [43] ++ Pu.numL s from rfl, ← bstr_app]
    have A : Hid (bstr (Pu.numL n) ++ (bstr [43] ++ bstr (Pu.numL s)) = bstr (Pu.numL n) ++ bstr [43] ++ bstr (Pu.numL s)) := by show _ = _; simp only [bstr_app, List.append_assoc]
    rw [A.out]
    cases st
    · rw [if_neg (by simp)]
      have E : Hid (bstr (Pu.numL n) ++ bstr [43] ++ bstr (Pu.numL s) ++ bstr [] = bstr (Pu.numL n) ++ bstr [43] ++ bstr (Pu.numL s)) := by show _ = _; simp only [bstr_app, List.append_nil]
      rw [E.out]
      clear A E
      go_enter Try.func40, Try.ntmps40
      go_wp2_with fail
      refine (lnumber_any n _ h0 h1).mono ?_
      rintro e w1 ⟨rfl, k1⟩
      have K1 := hide k1
      clear k1
      go_wp2_with fail
      refine (lnumber_any s _ s0 s1).mono ?_
      rintro e w2 ⟨rfl, k2⟩
      have K2 := hide (K1.out.trans k2)
      clear k2
      go_wp2_with fail
      go_ret
      exact ⟨rfl, K2.out⟩
    · rw [if_pos rfl]
      clear A
      go_enter Try.func40, Try.ntmps40
      go_wp2_with fail
      refine (lnumber_any n _ h0 h1).mono ?_
      rintro e w1 ⟨rfl, k1⟩
      have K1 := hide k1
      clear k1
      go_wp2_with fail
      refine (lnumber_any s _ s0 s1).mono ?_
      rintro e w2 ⟨rfl, k2⟩
      have K2 := hide (K1.out.trans k2)
      clear k2
      go_wp2_with fail
      go_ret
      exact ⟨rfl, K2.out⟩
  · rw [if_neg hs, List.append_nil, ← bstr_app]
    cases st
    · rw [if_neg (by simp)]
      have E : Hid (bstr (Pu.numL n) ++ bstr [] = bstr (Pu.numL n)) := by show _ = _; simp only [bstr_app, List.append_nil]
      rw [E.out]
      clear E
      go_enter Try.func40, Try.ntmps40
      go_wp2_with fail
      refine (lnumber_any n _ h0 h1).mono ?_
      rintro e w1 ⟨rfl, k1⟩
      have K1 := hide k1
      clear k1
      go_wp2_with fail
      go_ret
      exact ⟨rfl, K1.out⟩
    · rw [if_pos rfl]
      go_enter Try.func40, Try.ntmps40
      go_wp2_with fail
      refine (lnumber_any n _ h0 h1).mono ?_
      rintro e w1 ⟨rfl, k1⟩
      have K1 := hide k1
      clear k1
      go_wp2_with fail
      go_ret
      exact ⟨rfl, K1.out⟩
end Go.Proofs.Ytiimimclbkjcbaa
namespace Go.Proofs.Ytiimimclbkjcbaa
open Go.RowKit
open Go.Proofs

theorem wpList_conv2 {P : Program} {ops : Array Oper} {rest : List Oper} {o : Oper} {a : Act} {w : World} {Q : Exit → Act → World → Prop} (hgd : o.guard = none) (s d : TypeId) (x : Operand) (ho : o.op = .convert s d x) (v r : Value) (hv : a.eval x = v)
    (hr : (convert s d v).run P w = .ok r w) (h : ∀ w', w' = w → wpList P ops Q rest (a.put o.dst r) w') : wpList P ops Q (o :: rest) a w := wpList_conv hgd s d x ho v r hv hr (h w rfl)
def planv (p : Pu.Plan) : Array Value := #[.int .u8 p.near, .int .i64 p.births, .int .i64 p.lives, .int .i64 p.c, .int .u8 p.kind, .int .i64 p.w, .int .i64 p.h, .int .i64 p.sw, .int .i64 p.sh, .bool p.star, .bool p.starH]
theorem ret_str {a b : ByteArray} (h : a = b) : Ending.returned (.string a) = .returned (.string b) := by rw [h]
structure PlAt (w : World) (g : Nat) (p : Pu.Plan) : Prop where
  row : w.heap[g]? = some (.cells (planv p) 34 (0, 0))
theorem PlAt.keep {T : Nat → Prop} {w w' : World} {g : Nat} {p : Pu.Plan} (h : PlAt w g p) (k : Kp T w w') (hn : ¬ T g) : PlAt w' g p := ⟨k.row h.row hn⟩
theorem PlAt.cell {w : World} {g : Nat} {p : Pu.Plan} (h : PlAt w g p) (m : Nat) : w.cell? ⟨g, m, none⟩ = (planv p)[m]? := cell_of_row _ _ _ _ _ _ h.row

theorem bits_size (b : Nat) : (bstr ((Pu.bitL b).map (· + 48))).size ≤ 9 := by
  rw [bstr_size, List.length_map]
  exact (Pu.bitL_bd b).2
theorem side_size (n s : Int) (st : Bool) : (bstr (Pu.sideL n s st)).size ≤ 6 := by
  rw [bstr_size]
  exact Pu.sideL_len n s st
theorem pnear_bd {p : Pu.Plan} (h : Pu.PlanOk p) : 0 ≤ p.near ∧ p.near < 256 := by have := h.near; omega
theorem kind_bd {p : Pu.Plan} (h : Pu.PlanOk p) : 0 ≤ p.kind ∧ p.kind < 256 := by
  have := h.kind
  simp at this
  omega
theorem bits_bd {p : Pu.Plan} (h : Pu.PlanOk p) : p.births < 512 ∧ p.lives < 512 := by
  have h1 := h.births
  have h2 := h.lives
  rcases h.near with e | e | e <;> rw [e] at h1 h2 <;> simp [Pu.mostOf] at h1 h2 <;> omega

set_option maxRecDepth 100000 in
set_option maxHeartbeats 1000000 in
theorem ptext_any (p : Pu.Plan) (hp : Pu.PlanOk p) (w : World) :
    Calls Try.prog 26 #[.agg (planv p)] w fun e w' => e = .returned (.string (bstr (Pu.textL p))) ∧ Kp (fun _ => False) w w' := by
  have nb := pnear_bd hp
  have kb := kind_bd hp
  have bb := bits_bd hp
  have hw := hp.w
  have hh := hp.h
  have hc := hp.c
  have hto := hp.torus
  have z1 := bits_size p.births
  have z2 := bits_size p.lives
  have z3 := side_size p.w p.sw p.star
  have z4 := side_size p.h p.sh p.starH
  have z5 := bstr1_size p.near
  have z6 := bstr1_size p.kind
  have z7 := bstr1_size (48 + p.c)
  have L1 := hide (fun wx => lset_any p.births wx bb.1)
  have L2 := hide (fun wx => lset_any p.lives wx bb.2)
  have L3 := hide (fun wx => lside_any p.w p.sw p.star wx (by omega) (by omega) (by omega) (by omega))
  have L4 := hide (fun wx => lside_any p.h p.sh p.starH wx (by omega) (by omega) (by omega) (by omega))
  have EQ : Hid (bstr (Pu.textL p) = bstr [p.near] ++ bstr [66] ++ bstr ((Pu.bitL p.births).map (· + 48)) ++ bstr [47, 83] ++ bstr ((Pu.bitL p.lives).map (· + 48)) ++ bstr (if 2 < p.c then [47, 48 + p.c] else []) ++ bstr [32] ++ bstr [p.kind] ++ bstr (Pu.sideL p.w p.sw p.star) ++ bstr [44] ++ bstr (Pu.sideL p.h p.sh p.starH) ++ bstr [32, 48, 32, 48, 44, 48, 32, 33]) := by
    show _ = _
    simp only [bstr_app]
    congr 1
    simp [Pu.textL, Pu.ruleL, Pu.shapeL]
  rw [EQ.out]
  clear EQ
  generalize bstr ((Pu.bitL p.births).map (· + 48)) = B1 at *
  generalize bstr ((Pu.bitL p.lives).map (· + 48)) = B2 at *
  generalize bstr (Pu.sideL p.w p.sw p.star) = B3 at *
  generalize bstr (Pu.sideL p.h p.sh p.starH) = B4 at *
  by_cases h2 : 2 < p.c
  · have EQ : Hid (bstr [p.near] ++ bstr [66] ++ B1 ++ bstr [47, 83] ++ B2 ++ bstr (if 2 < p.c then [47, 48 + p.c] else []) = bstr [p.near] ++ bstr [66] ++ B1 ++ bstr [47, 83] ++ B2 ++ bstr [47] ++ bstr [48 + p.c]) := by
      show _ = _
      rw [if_pos h2, ByteArray.append_assoc (b := bstr [47]), bstr_app]
      rfl
    rw [EQ.out]
    clear EQ hto
    go_enter Try.func26, Try.ntmps26
    go_wp2_with (refine wpList_box_row rfl 34 _ rfl (planv p) rfl ?_
                 intro w1 hw1
                 have P1 : Hid (PlAt w1 w.heap.size p) := ⟨by rw [hw1]; exact heap_alloc_new _ _⟩
                 have K1 : Hid (Kp (fun _ => False) w w1) := by rw [hw1]; exact (Kp.refl _ _).alloc _
                 have c1 : w1.cell? ⟨w.heap.size, 1, none⟩ = some (.int .i64 p.births) := P1.out.cell 1
                 clear hw1)
    refine (L1.out _).mono ?_
    rintro e w2 ⟨rfl, k2⟩
    have P2 := hide (P1.out.keep k2 (fun hx => hx))
    have K2 := hide (K1.out.trans k2)
    have c2 : w2.cell? ⟨w.heap.size, 2, none⟩ = some (.int .i64 p.lives) := P2.out.cell 2
    clear k2 c1
    go_wp2_with fail
    refine (L2.out _).mono ?_
    rintro e w3 ⟨rfl, k3⟩
    have PX := hide (P2.out.keep k3 (fun hx => hx))
    have KX := hide (K2.out.trans k3)
    have d0 : w3.cell? ⟨w.heap.size, 0, none⟩ = some (.int .u8 p.near) := PX.out.cell 0
    clear k3 c2
    go_wp2_with (refine wpList_conv2 rfl 72 9 _ rfl _ _ rfl (conv1 _ _ (by omega) (by omega)) ?_
                 intro wz hwz
                 have PZ : Hid (PlAt wz w.heap.size p) := by rw [hwz]; exact PX.out.keep ((Kp.refl (fun _ => False) _).alloc _) (fun hx => hx)
                 have KZ : Hid (Kp (fun _ => False) w wz) := by rw [hwz]; exact KX.out.alloc _
                 clear hwz PX KX
                 have PX := PZ
                 have KX := KZ
                 clear PZ KZ
                 have d3 : wz.cell? ⟨w.heap.size, 3, none⟩ = some (.int .i64 p.c) := PX.out.cell 3
                 have d5 : wz.cell? ⟨w.heap.size, 5, none⟩ = some (.int .i64 p.w) := PX.out.cell 5
                 have d7 : wz.cell? ⟨w.heap.size, 7, none⟩ = some (.int .i64 p.sw) := PX.out.cell 7
                 have d9 : wz.cell? ⟨w.heap.size, 9, none⟩ = some (.bool p.star) := PX.out.cell 9)
    refine (L3.out _).mono ?_
    rintro e w4 ⟨rfl, k4⟩
    have P4 := hide (PX.out.keep k4 (fun hx => hx))
    have K4 := hide (KX.out.trans k4)
    have d6 : w4.cell? ⟨w.heap.size, 6, none⟩ = some (.int .i64 p.h) := P4.out.cell 6
    have d8 : w4.cell? ⟨w.heap.size, 8, none⟩ = some (.int .i64 p.sh) := P4.out.cell 8
    have d10 : w4.cell? ⟨w.heap.size, 10, none⟩ = some (.bool p.starH) := P4.out.cell 10
    clear k4
    go_wp2_with fail
    refine (L4.out _).mono ?_
    rintro e w5 ⟨rfl, k5⟩
    have P5 := hide (P4.out.keep k5 (fun hx => hx))
    have KX := hide (K4.out.trans k5)
    have d4 : w5.cell? ⟨w.heap.size, 4, none⟩ = some (.int .u8 p.kind) := P5.out.cell 4
    clear k5
    go_wp2_with (refine wpList_conv2 rfl 72 9 _ rfl _ _ rfl (conv1 _ _ (by omega) (by omega)) ?_
                 intro wz hwz
                 have KZ : Hid (Kp (fun _ => False) w wz) := by rw [hwz]; exact KX.out.alloc _
                 clear hwz)
    go_ret
    exact ⟨rfl, KZ.out⟩
  · have EQ : Hid (bstr [p.near] ++ bstr [66] ++ B1 ++ bstr [47, 83] ++ B2 ++ bstr (if 2 < p.c then [47, 48 + p.c] else []) = bstr [p.near] ++ bstr [66] ++ B1 ++ bstr [47, 83] ++ B2) := by
      show _ = _
      rw [if_neg h2]
      exact ByteArray.append_empty
    rw [EQ.out]
    clear EQ hto
    go_enter Try.func26, Try.ntmps26
    go_wp2_with (refine wpList_box_row rfl 34 _ rfl (planv p) rfl ?_
                 intro w1 hw1
                 have P1 : Hid (PlAt w1 w.heap.size p) := ⟨by rw [hw1]; exact heap_alloc_new _ _⟩
                 have K1 : Hid (Kp (fun _ => False) w w1) := by rw [hw1]; exact (Kp.refl _ _).alloc _
                 have c1 : w1.cell? ⟨w.heap.size, 1, none⟩ = some (.int .i64 p.births) := P1.out.cell 1
                 clear hw1)
    refine (L1.out _).mono ?_
    rintro e w2 ⟨rfl, k2⟩
    have P2 := hide (P1.out.keep k2 (fun hx => hx))
    have K2 := hide (K1.out.trans k2)
    have c2 : w2.cell? ⟨w.heap.size, 2, none⟩ = some (.int .i64 p.lives) := P2.out.cell 2
    clear k2 c1
    go_wp2_with fail
    refine (L2.out _).mono ?_
    rintro e w3 ⟨rfl, k3⟩
    have PX := hide (P2.out.keep k3 (fun hx => hx))
    have KX := hide (K2.out.trans k3)
    have d0 : w3.cell? ⟨w.heap.size, 0, none⟩ = some (.int .u8 p.near) := PX.out.cell 0
    clear k3 c2
    go_wp2_with (refine wpList_conv2 rfl 72 9 _ rfl _ _ rfl (conv1 _ _ (by omega) (by omega)) ?_
                 intro wz hwz
                 have PZ : Hid (PlAt wz w.heap.size p) := by rw [hwz]; exact PX.out.keep ((Kp.refl (fun _ => False) _).alloc _) (fun hx => hx)
                 have KZ : Hid (Kp (fun _ => False) w wz) := by rw [hwz]; exact KX.out.alloc _
                 clear hwz PX KX
                 have PX := PZ
                 have KX := KZ
                 clear PZ KZ
                 have d3 : wz.cell? ⟨w.heap.size, 3, none⟩ = some (.int .i64 p.c) := PX.out.cell 3
                 have d5 : wz.cell? ⟨w.heap.size, 5, none⟩ = some (.int .i64 p.w) := PX.out.cell 5
                 have d7 : wz.cell? ⟨w.heap.size, 7, none⟩ = some (.int .i64 p.sw) := PX.out.cell 7
                 have d9 : wz.cell? ⟨w.heap.size, 9, none⟩ = some (.bool p.star) := PX.out.cell 9)
    refine (L3.out _).mono ?_
    rintro e w4 ⟨rfl, k4⟩
    have P4 := hide (PX.out.keep k4 (fun hx => hx))
    have K4 := hide (KX.out.trans k4)
    have d6 : w4.cell? ⟨w.heap.size, 6, none⟩ = some (.int .i64 p.h) := P4.out.cell 6
    have d8 : w4.cell? ⟨w.heap.size, 8, none⟩ = some (.int .i64 p.sh) := P4.out.cell 8
    have d10 : w4.cell? ⟨w.heap.size, 10, none⟩ = some (.bool p.starH) := P4.out.cell 10
    clear k4
    go_wp2_with fail
    refine (L4.out _).mono ?_
    rintro e w5 ⟨rfl, k5⟩
    have P5 := hide (P4.out.keep k5 (fun hx => hx))
    have KX := hide (K4.out.trans k5)
    have d4 : w5.cell? ⟨w.heap.size, 4, none⟩ = some (.int .u8 p.kind) := P5.out.cell 4
    clear k5
    go_wp2_with (refine wpList_conv2 rfl 72 9 _ rfl _ _ rfl (conv1 _ _ (by omega) (by omega)) ?_
                 intro wz hwz
                 have KZ : Hid (Kp (fun _ => False) w wz) := by rw [hwz]; exact KX.out.alloc _
                 clear hwz)
    go_ret
    exact ⟨rfl, KZ.out⟩
end Go.Proofs.Ytiimimclbkjcbaa
namespace Go.Proofs.Ytiimimclbkjcbaa
open Go.RowKit
open Go.Proofs

theorem fits_of {f : Pu.Src} : ∀ {L : List Int} {i : Nat}, (∀ k (h : k < L.length), f (i + k) = L[k]) → Pu.Fits f i L := by
  intro L
  induction L with
  | nil => intro i _; trivial
  | cons a L ih =>
    intro i h
    refine ⟨h 0 (by simp), ih fun k hk => ?_⟩
    have := h (k + 1) (by simpa using hk)
    rw [show i + 1 + k = i + (k + 1) by omega]
    simpa using this
theorem fits_bstr {L : List Int} (h : ∀ x, x ∈ L → 0 ≤ x ∧ x < 256) : Pu.Fits (src (bstr L)) 0 (L ++ [-1]) := by
  apply fits_of
  intro k hk
  rw [Nat.zero_add]
  have hz := bstr_size L
  by_cases hl : k < L.length
  · rw [src_lt (by omega), List.getElem_append_left hl]
    have hx := h L[k] (List.getElem_mem hl)
    have e : ((bstr L)[k]'(by omega)) = UInt8.ofNat (L[k]).toNat := by
      show ((bstr L).data[k]'_) = _
      simp [bstr]
    rw [e, UInt8.toNat_ofNat']
    omega
  · rw [src_ge (by omega)]
    have e : k = L.length := by simp at hk; omega
    subst e
    simp
theorem num_bytes {n : Int} (h : 0 ≤ n ∧ n < 100) : ∀ x, x ∈ Pu.numL n → 0 ≤ x ∧ x < 256 := by
  intro x hx
  unfold Pu.numL Pu.dec at hx
  split at hx
  · simp at hx; omega
  · simp at hx; omega
theorem side_bytes {n s : Int} {b : Bool} (h : 0 ≤ n ∧ n < 100) (hs : 0 ≤ s ∧ s < 100) : ∀ x, x ∈ Pu.sideL n s b → 0 ≤ x ∧ x < 256 := by
  intro x hx
  unfold Pu.sideL at hx
  rw [List.mem_append, List.mem_append] at hx
  rcases hx with (hx | hx) | hx
  · exact num_bytes h x hx
  · split at hx
    · rcases List.mem_cons.1 hx with rfl | hx
      · omega
      · exact num_bytes hs x hx
    · simp at hx
  · split at hx
    · simp at hx; omega
    · simp at hx
theorem bits_bytes (b : Nat) : ∀ x, x ∈ (Pu.bitL b).map (· + 48) → 0 ≤ x ∧ x < 256 := by
  intro x hx
  rw [List.mem_map] at hx
  obtain ⟨d, hd, rfl⟩ := hx
  have := (Pu.bitL_bd b).1 d hd
  omega
theorem text_bytes {p : Pu.Plan} (h : Pu.PlanOk p) : ∀ x, x ∈ Pu.textL p → 0 ≤ x ∧ x < 256 := by
  intro x hx
  have hn := pnear_bd h
  have hk := kind_bd h
  have hc := h.c
  have hw := h.w
  have hh := h.h
  have ht := h.torus
  unfold Pu.textL Pu.ruleL Pu.shapeL at hx
  simp only [List.mem_append, List.mem_singleton, or_assoc] at hx
  rcases hx with rfl | rfl | hx | rfl | rfl | hx | hx | rfl | rfl | hx | rfl | hx | hx
  · exact hn
  · omega
  · exact bits_bytes _ x hx
  · omega
  · omega
  · exact bits_bytes _ x hx
  · split at hx
    · simp at hx; omega
    · simp at hx
  · omega
  · exact hk
  · exact side_bytes (by omega) (by omega) x hx
  · omega
  · exact side_bytes (by omega) (by omega) x hx
  · simp at hx; omega
theorem two_plan {p : Pu.Plan} (h : Pu.PlanOk p) : Two (Pu.shapeOf p) := by
  have hw := h.w
  have hh := h.h
  exact ⟨by show 0 < p.w; omega, hw.2, by show 0 < p.h; omega, hh.2⟩
/-- The world of a plan's text. -/
theorem Load_text (p : Pu.Plan) (hp : Pu.PlanOk p) (w : World) :
    Calls Try.prog 14 #[.string (bstr (Pu.textL p))] w fun e w' => (∃ q, e = .returned (.tuple #[.pointer (some ⟨q, 0, none⟩), .int .i64 0, .int .i64 0]) ∧ w.heap.size ≤ q ∧ RuleOk (Pu.ruleOf p) ∧ GrAt w' q (preOf (Pu.ruleOf p) (Pu.shapeOf p) 0) p.w p.h 0 0 noS) ∧ Kp (fun _ => False) w w' :=
  Load_plain (bstr (Pu.textL p)) w (by rw [bstr_size]; have := Pu.textL_len p; omega) _ (Pu.partsOf p) (Pu.read_plan hp _ (fits_bstr (text_bytes hp))) (two_plan hp) rfl
end Go.Proofs.Ytiimimclbkjcbaa
