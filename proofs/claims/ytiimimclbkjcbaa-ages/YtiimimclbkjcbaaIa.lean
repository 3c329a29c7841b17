import Derived.Test.YtiimimclbkjcbaaWe
import Derived.Deep.LoopGhost
import Derived.Test.YtiimimclbkjcbaaPx
import Derived.Laws.IdiomStrings
namespace Go.Proofs.Ytiimimclbkjcbaa
open Go.RowKit
open Go.Proofs

/-- A text of these bytes. -/
def bstr (L : List Int) : ByteArray := ⟨(L.map fun n => UInt8.ofNat n.toNat).toArray⟩
theorem bstr_app (L M : List Int) : bstr L ++ bstr M = bstr (L ++ M) := by
  apply ByteArray.ext
  simp [bstr, ByteArray.data_append]
theorem bstr_size (L : List Int) : (bstr L).size = L.length := by simp [bstr, ByteArray.size]
theorem bstr1_size (n : Int) : (bstr [n]).size = 1 := rfl
theorem numL_size (n : Int) : (bstr (Pu.numL n)).size ≤ 2 := by
  rw [bstr_size]
  unfold Pu.numL
  rw [List.length_map]
  exact Pu.dec_len n
theorem wpList_conv {P : Program} {ops : Array Oper} {rest : List Oper} {o : Oper} {a : Act} {w : World} {Q : Exit → Act → World → Prop} (hgd : o.guard = none) (s d : TypeId) (x : Operand) (ho : o.op = .convert s d x) (v r : Value) (hv : a.eval x = v)
    (hr : (convert s d v).run P w = .ok r w) (h : wpList P ops Q rest (a.put o.dst r) w) : wpList P ops Q (o :: rest) a w := by
  refine wpList_plain hgd fun _ hK => ?_
  unfold Oper.wp execOp
  simp [ho, hv, hr]
  exact hK _ _ h
/-- 'string' of a slice of one byte that was just laid. -/
theorem conv1 (w : World) (n : Int) (h0 : 0 ≤ n) (h1 : n < 256) : (convert 72 9 (.slice (some ⟨w.heap.size, 0, none⟩) 1 1)).run Try.prog (w.alloc (.cells #[.int .u8 n] 5)) = .ok (.string (bstr [n])) (w.alloc (.cells #[.int .u8 n] 5)) := by
  have hc := run_convert_bytes_back (P := Try.prog) (w.alloc (.cells #[.int .u8 n] 5)) 72 9 5 ⟨w.heap.size, 0, none⟩ 1 [UInt8.ofNat n.toNat] Try.underlying72 Try.underlying5 Try.underlying9 (fun j hj => by
    have hj0 : j = 0 := by simp at hj; omega
    subst hj0
    show World.cell? _ ⟨w.heap.size, 0, none⟩ = _
    rw [cell_of_row _ w.heap.size 0 _ _ _ (heap_alloc_new w (.cells #[.int .u8 n] 5))]
    have e : ((UInt8.ofNat n.toNat).toNat : Int) = n := by
      rw [UInt8.toNat_ofNat']
      omega
    simp only [List.getElem_cons_zero]
    rw [e]
    rfl)
  exact hc

set_option maxRecDepth 100000 in
set_option maxHeartbeats 400000 in
theorem lnumber_small (n : Int) (w : World) (h0 : 0 ≤ n) (h1 : n < 10) :
    Calls Try.prog 55 #[.int .i64 n] w fun e w' => e = .returned (.string (bstr [n + 48])) ∧ Kp (fun _ => False) w w' := by
  have E : Hid (48 + n % 10 = n + 48) := by show _ = _; omega
  go_enter Try.func55, Try.ntmps55
  go_wp2_with (refine wpList_conv rfl 72 9 _ rfl _ _ rfl (conv1 _ _ (by omega) (by omega)) ?_
               rw [E.out])
  go_ret
  exact ⟨rfl, (Kp.refl _ _).alloc _⟩

set_option maxRecDepth 100000 in
set_option maxHeartbeats 400000 in
theorem lnumber_any (n : Int) (w : World) (h0 : 0 ≤ n) (h1 : n < 100) :
    Calls Try.prog 55 #[.int .i64 n] w fun e w' => e = .returned (.string (bstr (Pu.numL n))) ∧ Kp (fun _ => False) w w' := by
  by_cases hs : n < 10
  · have e : Pu.numL n = [n + 48] := by unfold Pu.numL Pu.dec; rw [if_pos hs]; rfl
    rw [e]
    exact lnumber_small n w h0 hs
  · have e : Pu.numL n = [n / 10 + 48] ++ [48 + n % 10] := by unfold Pu.numL Pu.dec; rw [if_neg hs]; simp; omega
    rw [e, ← bstr_app]
    go_enter Try.func55, Try.ntmps55
    go_wp2_with (refine wpList_conv rfl 72 9 _ rfl _ _ rfl (conv1 _ _ (by omega) (by omega)) ?_)
    refine (lnumber_small (n / 10) _ (by omega) (by omega)).mono ?_
    rintro e w1 ⟨rfl, k1⟩
    have K1 := hide (((Kp.refl (fun _ => False) w).alloc _).trans k1)
    clear k1
    go_wp2_with fail
    go_ret
    exact ⟨rfl, K1.out⟩

def bitK (k b : Nat) : List Int := ((List.range k).filter fun i => b / 2 ^ i % 2 == 1).map fun i : Nat => (i : Int)
theorem bitK_succ (k b : Nat) : bitK (k + 1) b = bitK k b ++ if b / 2 ^ k % 2 == 1 then [(k : Int)] else [] := by
  unfold bitK
  rw [List.range_succ, List.filter_append, List.map_append]
  congr 1
  by_cases h : (b / 2 ^ k % 2 == 1) = true <;> simp [h]

set_option maxRecDepth 100000 in
set_option maxHeartbeats 400000 in
theorem lset_any (b : Nat) (w : World) (h1 : b < 512) :
    Calls Try.prog 39 #[.int .i64 b] w fun e w' => e = .returned (.string (bstr ((Pu.bitL b).map (· + 48)))) ∧ Kp (fun _ => False) w w' := by
  go_enter Try.func39, Try.ntmps39
  go_wp2
  go_loopg [3, 4] 9 (fun gk a i wr => ∃ k : Nat, k ≤ 9 ∧ 9 ≤ k + gk ∧ a = .string (bstr ((bitK k b).map (· + 48))) ∧ i = .int .i64 k ∧ Kp (fun _ => False) w wr)
  case atStart => exact ⟨0, by omega, by omega, rfl, rfl, Kp.refl _ _⟩
  case round =>
    obtain ⟨k, g1, g2, rfl, rfl, g3⟩ := hrel
    have G3 := hide g3
    clear g3
    by_cases hlt : k < 9
    · have eb : ((b : Int) / 2 ^ k).tmod 2 = ((b / 2 ^ k % 2 : Nat) : Int) := by
        have hnn : (0 : Int) ≤ (b : Int) / 2 ^ k := Int.ediv_nonneg (by omega) (Int.le_of_lt (Int.pow_pos (by omega)))
        rw [Int.tmod_eq_emod_of_nonneg hnn]
        simp
      rcases Nat.mod_two_eq_zero_or_one (b / 2 ^ k) with hz | hz
      · rw [hz] at eb
        have EQ : Hid (bitK (k + 1) b = bitK k b) := by show _ = _; rw [bitK_succ, hz]; simp
        have ef : (((b : Int) / 2 ^ k).tmod 2 == 1) = false := by rw [eb]; rfl
        clear hz eb
        go_wp2_with fail
        go_roundg (gk - 1)
        case measure => omega
        case rel => exact ⟨k + 1, by omega, by omega, by rw [EQ.out], by go_num, G3.out⟩
      · rw [hz] at eb
        have EQ : Hid (bstr ((bitK (k + 1) b).map (· + 48)) = bstr ((bitK k b).map (· + 48)) ++ bstr [48 + (k : Int)]) := by
          show _ = _
          rw [bitK_succ, hz, bstr_app, List.map_append]
          congr 2
          simp
          omega
        have ef : (((b : Int) / 2 ^ k).tmod 2 == 1) = true := by rw [eb]; rfl
        have z1 : (bstr ((bitK k b).map (· + 48))).size ≤ 9 := by
          rw [bstr_size, List.length_map]
          unfold bitK
          rw [List.length_map]
          refine Nat.le_trans (List.length_filter_le _ _) ?_
          simp
          omega
        have z2 := bstr1_size (48 + (k : Int))
        clear hz eb
        go_wp2_with (refine wpList_conv rfl 72 9 _ rfl _ _ rfl (conv1 _ _ (by omega) (by omega)) ?_)
        go_roundg (gk - 1)
        case measure => omega
        case rel => exact ⟨k + 1, by omega, by omega, by rw [EQ.out], by go_num, G3.out.alloc _⟩
    · have e : k = 9 := by omega
      subst e
      go_wp2_with fail
      go_ret
      exact ⟨rfl, G3.out⟩

set_option maxRecDepth 100000 in
set_option maxHeartbeats 400000 in
theorem lside_any (n s : Int) (st : Bool) (w : World) (h0 : 0 ≤ n) (h1 : n < 100) (s0 : 0 ≤ s) (s1 : s < 100) :
    Calls Try.prog 40 #[.int .i64 n, .int .i64 s, .bool st] w fun e w' => e = .returned (.string (bstr (Pu.sideL n s st))) ∧ Kp (fun _ => False) w w' := by
  have z1 := numL_size n
  have z2 := numL_size s
  have z3 := bstr1_size 43
  unfold Pu.sideL
  by_cases hs : 0 < s
  · rw [if_pos hs, ← bstr_app, ← bstr_app, show (43 :: Pu.numL s) = [43] ++ Pu.numL s from rfl, ← bstr_app]
    have A : Hid (bstr (Pu.numL n) ++ (bstr [43] ++ bstr (Pu.numL s)) = bstr (Pu.numL n) ++ bstr [43] ++ bstr (Pu.numL s)) := by show _ = _; simp only [bstr_app, List.append_assoc]
    rw [A.out]
    cases st
    · rw [if_neg (by simp)]
      have E : Hid (bstr (Pu.numL n) ++ bstr [43] ++ bstr (Pu.numL s) ++ bstr [] = bstr (Pu.numL n) ++ bstr [43] ++ bstr (Pu.numL s)) := by show _ = _; simp only [bstr_app, List.append_nil]
      rw [E.out]
      clear A E
      go_enter Try.func40, Try.ntmps40
      go_wp2_with fail
      refine (lnumber_any n _ h0 h1).mono ?_
      rintro e w1 ⟨rfl, k1⟩
      have K1 := hide k1
      clear k1
      go_wp2_with fail
      refine (lnumber_any s _ s0 s1).mono ?_
      rintro e w2 ⟨rfl, k2⟩
      have K2 := hide (K1.out.trans k2)
      clear k2
      go_wp2_with fail
      go_ret
      exact ⟨rfl, K2.out⟩
    · rw [if_pos rfl]
      clear A
      go_enter Try.func40, Try.ntmps40
      go_wp2_with fail
      refine (lnumber_any n _ h0 h1).mono ?_
      rintro e w1 ⟨rfl, k1⟩
      have K1 := hide k1
      clear k1
      go_wp2_with fail
      refine (lnumber_any s _ s0 s1).mono ?_
      rintro e w2 ⟨rfl, k2⟩
      have K2 := hide (K1.out.trans k2)
      clear k2
      go_wp2_with fail
      go_ret
      exact ⟨rfl, K2.out⟩
  · rw [if_neg hs, List.append_nil, ← bstr_app]
    cases st
    · rw [if_neg (by simp)]
      have E : Hid (bstr (Pu.numL n) ++ bstr [] = bstr (Pu.numL n)) := by show _ = _; simp only [bstr_app, List.append_nil]
      rw [E.out]
      clear E
      go_enter Try.func40, Try.ntmps40
      go_wp2_with fail
      refine (lnumber_any n _ h0 h1).mono ?_
      rintro e w1 ⟨rfl, k1⟩
      have K1 := hide k1
      clear k1
      go_wp2_with fail
      go_ret
      exact ⟨rfl, K1.out⟩
    · rw [if_pos rfl]
      go_enter Try.func40, Try.ntmps40
      go_wp2_with fail
      refine (lnumber_any n _ h0 h1).mono ?_
      rintro e w1 ⟨rfl, k1⟩
      have K1 := hide k1
      clear k1
      go_wp2_with fail
      go_ret
      exact ⟨rfl, K1.out⟩
end Go.Proofs.Ytiimimclbkjcbaa
