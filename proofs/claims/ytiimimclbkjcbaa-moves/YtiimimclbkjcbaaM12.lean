import Derived.Test.YtiimimclbkjcbaaM11
import Derived.Test.YtiimimclbkjcbaaGj
import Derived.Test.YtiimimclbkjcbaaWe
import Derived.Deep.LoopGhost
import Derived.Test.YtiimimclbkjcbaaPx
import Derived.Laws.IdiomStrings
namespace Go.Proofs.Ytiimimclbkjcbaa
open Go.RowKit
open Go.Proofs

/-- 'lay' of no run at all. -/
theorem lay_zero (q cap : Nat) (ad : Option Addr) (r : Pu.Rule) (x : Pu.Shape) (age col row : Int) (S : List Int) (w : World) (h : GrAt w q (preOf r x age) x.w x.h 0 0 S) (hr : RuleOk r) :
    Calls Try.prog 44 #[.pointer (some ⟨q, 0, none⟩), .agg (ptv r x age col row (.slice ad 0 cap))] w fun e w' => e = .returned (.bool true) ∧ GrAt w' q (preOf r x age) x.w x.h 0 0 S ∧ Kp (· = q) w w' := by
  have H := hide h
  have HR := hide hr
  clear h hr
  go_enter Try.func44, Try.ntmps44
  go_wp2_with (refine wpList_box_row rfl 76 _ rfl (ptv r x age col row (.slice ad 0 cap)) rfl ?_
               intro w1 hw1
               have P1 : Hid (PtAt w1 w.heap.size r x age col row (.slice ad 0 cap)) := ⟨by rw [hw1]; exact heap_alloc_new _ _, HR.out⟩
               have G1 : Hid (GrAt w1 q (preOf r x age) x.w x.h 0 0 S) := by rw [hw1]; exact H.out.alloc _
               have K1 : Hid (Kp (· = q) w w1) := by rw [hw1]; exact (Kp.refl _ _).alloc _
               have c1 : w1.cell? ⟨w.heap.size, 28, none⟩ = some (.int .i64 col) := P1.out.cell 1
               have c2 : w1.cell? ⟨w.heap.size, 29, none⟩ = some (.int .i64 row) := P1.out.cell 2
               have c3 : w1.cell? ⟨w.heap.size, 30, none⟩ = some (.slice ad 0 cap) := P1.out.cell 3
               clear hw1)
  go_loopg [5, 6, 7] 0 (fun gk a b i wr => a = .int .i64 col ∧ b = .int .i64 row ∧ i = .int .i64 0 ∧ wr = w1)
  case atStart => exact ⟨rfl, rfl, rfl, rfl⟩
  case round =>
    obtain ⟨rfl, rfl, rfl, rfl⟩ := hrel
    go_wp2_with fail
    go_ret
    exact ⟨rfl, G1.out, K1.out⟩

set_option maxRecDepth 100000 in
set_option maxHeartbeats 1000000 in
theorem load_two (S : List Int) (hS : S.length = 768) (hbu : ∀ (r : Pu.Rule), RuleOk r → ∀ (x : Pu.Shape) (age : Int), Try.prog.built 63 [(0, .agg (rulev r)), (1, .agg (shv x)), (2, .int .i64 age)] = some (grv (preOf r x age) 0 0 0 0 S))
    (hnew : ∀ gw gh w, Calls Try.prog 43 #[.int .i64 gw, .int .i64 gh] w fun e w' => e = .returned (.agg (gnew gw gh S)) ∧ Kp (fun _ => False) w w')
    (s : ByteArray) (w : World) (hs : s.size ≤ 400) (j : Nat) (p : Pu.Parts) (hq : Hid (Pu.read (src s) = (j, some p))) (htw : Two p.shape) (S' : List Int)
    (hlay : ∀ (base : Nat) (w6 : World) (q : Nat) (v : Value), GrAt w6 q (preOf p.rule p.shape p.age) p.shape.w p.shape.h 0 0 S → RuleOk p.rule → w6.ownsRow base 94 3 v p.runs.length (runsv p.runs) →
      Calls Try.prog 44 #[.pointer (some ⟨q, 0, none⟩), .agg (ptv p.rule p.shape p.age p.col p.row v)] w6 fun e w' => e = .returned (.bool true) ∧ GrAt w' q (preOf p.rule p.shape p.age) p.shape.w p.shape.h 0 0 S' ∧ Kp (· = q) w6 w') :
    Calls Try.prog 27 #[.string s] w fun e w' => (∃ q, e = .returned (.tuple #[.pointer (some ⟨q, 0, none⟩), .int .i64 0, .int .i64 0]) ∧ w.heap.size ≤ q ∧ RuleOk p.rule ∧ GrAt w' q (preOf p.rule p.shape p.age) p.shape.w p.shape.h 0 0 S') ∧ Kp (fun _ => False) w w' := by
  have HS := hide hS
  have HB := hide hbu
  have HN := hide hnew
  have HLAY := hide hlay
  clear hS hbu hnew hlay
  go_enter Try.func27, Try.ntmps27
  go_wp2_with fail
  refine (read_any s _ hs j (some p) hq).mono ?_
  rintro e w1 ⟨⟨r, x, age, col, row, v, acc, rfl, rok, own, hp⟩, k1⟩
  have HP := hide (hp p rfl)
  have K1 := hide k1
  have ROK := hide rok
  have OWN := hide own
  have VO := hide (own_one own)
  obtain ⟨bb, hbb⟩ := rulev_births rok
  have BB := hide hbb
  clear k1 rok own hp hbb
  go_wp2_with (first
    | (refine wpList_store_row_g rfl 76 _ _ rfl w1.heap.size (ptv r x age col row v) rfl rfl 76 (ptv zrule zsh 0 0 0 (.slice none 0 0)) (heap_alloc_new _ _) (by rw [info_parts, ptv_size ROK.out]) ((ptv_size zrule_ok _ _ _ _ _).trans (ptv_size ROK.out _ _ _ _ _).symm) (ptv_one ROK.out _ _ _ _ VO.out) ?_
       intro w2 hw2
       have K2 : Hid (Kp (fun _ => False) w w2) := by rw [hw2]; exact (K1.out.alloc _).setRowNew K1.out.size _
       have P2 : Hid (PtAt w2 w1.heap.size r x age col row v) := ⟨by rw [hw2]; exact setRow_heap _ _ _ _ _ _ (heap_alloc_new _ _), ROK.out⟩
       have KK : Kp (fun _ => False) w1 w2 := by rw [hw2]; exact ((Kp.refl _ _).alloc _).setRowNew (Nat.le_refl _) _
       have O2 := hide (own_keep OWN.out KK (by intro g hg hx; exact hx))
       have LS2 := hide (fun j u hu => (cell_of_row w2 w1.heap.size (20 + j) _ _ _ P2.out.row).trans (ptv_shape ROK.out x age col row v j u hu))
       clear hw2 KK)
    | (refine wpList_load_at rfl 58 _ rfl w1.heap.size 20 rfl (shv x) LS2.out _ Try.underlying58 rfl info_shape ?_))
  have HEN := hide (fun wx => endless_any x wx)
  have hpp := HP.out
  subst hpp
  simp only at htw
  have he : ¬ (x.w = 0 ∨ x.h = 0) := by have := htw.1; have := htw.2.2.1; omega
  clear htw
  rw [decide_eq_false he] at HEN
  refine (HEN.out _).mono ?_
  rintro e w3 ⟨rfl, k3⟩
  have P3 := hide (P2.out.keep k3 (fun hx => hx))
  have O3 := hide (own_keep O2.out k3 (by intro g hg hx; exact hx))
  have K3 := hide (K2.out.trans k3)
  have LS := hide (fun j u hu => (cell_of_row w3 w1.heap.size (20 + j) _ _ _ P3.out.row).trans (ptv_shape ROK.out x age col row v j u hu))
  have LR := hide (fun j u hu => (cell_of_row w3 w1.heap.size (0 + j) _ _ _ P3.out.row).trans (ptv_rule ROK.out x age col row v j u hu))
  have c27 : w3.cell? ⟨w1.heap.size, 27, none⟩ = some (.int .i64 age) := P3.out.cell 0
  clear k3 HEN
  go_wp2_with (first
    | (refine wpList_load_at rfl 56 _ rfl w1.heap.size 0 rfl (rulev r) LR.out _ Try.underlying56 rfl (by rw [info_rule, rulev_size ROK.out]) ?_)
    | (refine wpList_load_at rfl 58 _ rfl w1.heap.size 20 rfl (shv x) LS.out _ Try.underlying58 rfl info_shape ?_)
    | (refine wpList_build3 rfl 63 _ _ _ _ _ _ rfl (.agg (rulev r)) (.agg (shv x)) (.int .i64 age) rfl rfl rfl (grv (preOf r x age) 0 0 0 0 S) (HB.out r ROK.out x age) ?_)
    | (refine wpList_box_row rfl 63 _ rfl (grv (preOf r x age) 0 0 0 0 S) rfl ?_
       intro w4 hw4
       have KK : Kp (fun _ => False) w3 w4 := by rw [hw4]; exact (Kp.refl _ _).alloc _
       have Q4 : Hid (w4.heap[w3.heap.size]? = some (.cells (grv (preOf r x age) 0 0 0 0 S) 63 (0, 0))) := by rw [hw4]; exact heap_alloc_new _ _
       have P4 := hide (P3.out.keep KK (fun hx => hx))
       have O4 := hide (own_keep O3.out KK (by intro g hg hx; exact hx))
       have K4 := hide (K3.out.trans KK)
       have d1 : w4.cell? ⟨w1.heap.size, 21, none⟩ = some (.int .i64 x.w) := by rw [cell_of_row _ _ _ _ _ _ P4.out.row]; exact ptv_shape ROK.out x age col row v 1 _ rfl
       have d2 : w4.cell? ⟨w1.heap.size, 22, none⟩ = some (.int .i64 x.h) := by rw [cell_of_row _ _ _ _ _ _ P4.out.row]; exact ptv_shape ROK.out x age col row v 2 _ rfl
       clear hw4 KK))
  refine (HN.out x.w x.h _).mono ?_
  rintro e w5 ⟨rfl, k5⟩
  have Q5 := hide (k5.row Q4.out (fun hx => hx))
  have P5 := hide (P4.out.keep k5 (fun hx => hx))
  have O5 := hide (own_keep O4.out k5 (by intro g hg hx; exact hx))
  have K5 := hide (K4.out.trans k5)
  have lq : w1.heap.size < w3.heap.size := P3.out.lt
  have lw : w.heap.size ≤ w1.heap.size := K1.out.size
  have psz := preOf_size ROK.out x age
  have PS := hide psz
  clear k5 d1 d2 c27 psz
  go_wp2_with (first
    | (refine wpList_store_at_g rfl 61 _ _ rfl w3.heap.size 28 (gnew x.w x.h S) rfl rfl 63 _ Q5.out (by rw [info_grid, gnew_size _ _ HS.out]) (by rw [gnew_size _ _ HS.out, grv_size PS.out _ _ _ _ _ HS.out]; omega) (gnew_one _ _ _) ?_
       intro w6 hw6
       have G6 : Hid (GrAt w6 w3.heap.size (preOf r x age) x.w x.h 0 0 S) := ⟨by rw [hw6, putCells_row _ _ _ _ _ _ Q5.out, put_grid PS.out x.w x.h HS.out], PS.out, HS.out⟩
       have P6 : Hid (PtAt w6 w1.heap.size r x age col row v) := ⟨by rw [hw6]; exact (putCells_other _ _ _ _ _ (by omega)).trans P5.out.row, ROK.out⟩
       have O6 : Hid (w6.ownsRow w.heap.size 94 3 v acc.length (runsv acc)) := by rw [hw6]; exact own_put O5.out Q5.out _ _
       have K6 : Hid (Kp (fun _ => False) w w6) := by rw [hw6]; exact putCells_new _ _ _ K5.out (by omega)
       clear hw6)
    | (refine wpList_load_row rfl 76 _ rfl w1.heap.size rfl 76 (ptv r x age col row v) (0, 0) _ P6.out.row Try.underlying76 rfl (by rw [info_parts, ptv_size ROK.out]) ?_))
  have LAY := hide (HLAY.out w.heap.size w6 w3.heap.size v G6.out ROK.out O6.out)
  refine LAY.out.mono ?_
  clear LAY
  rintro e w7 ⟨rfl, g7, k7⟩
  have G7 := hide g7
  have K7 := hide (K6.out.tr k7 (by intro z hz1 hz2; omega))
  clear k7 g7
  go_wp2_with fail
  go_ret3
  exact ⟨⟨_, rfl, by omega, ROK.out, G7.out⟩, K7.out⟩

theorem load_plain (s : ByteArray) (w : World) (hs : s.size ≤ 400) (j : Nat) (p : Pu.Parts) (hq : Hid (Pu.read (src s) = (j, some p))) (htw : Two p.shape) (hr0 : p.runs = []) :
    Calls Try.prog 27 #[.string s] w fun e w' => (∃ q, e = .returned (.tuple #[.pointer (some ⟨q, 0, none⟩), .int .i64 0, .int .i64 0]) ∧ w.heap.size ≤ q ∧ RuleOk p.rule ∧ GrAt w' q (preOf p.rule p.shape p.age) p.shape.w p.shape.h 0 0 noS) ∧ Kp (fun _ => False) w w' := by
  refine load_two noS noS_len built_world new_any s w hs j p hq htw noS ?_
  intro base w6 q v g rk own
  rw [hr0] at own
  rcases own.2 with ⟨rfl, _⟩ | ⟨g', cap, cur, rfl, _, _, _, _, _, _⟩
  · exact lay_zero q 0 none p.rule p.shape p.age p.col p.row noS w6 g rk
  · exact lay_zero q cap _ p.rule p.shape p.age p.col p.row noS w6 g rk

theorem Load_plain (s : ByteArray) (w : World) (hs : s.size ≤ 400) (j : Nat) (p : Pu.Parts) (hq : Hid (Pu.read (src s) = (j, some p))) (htw : Two p.shape) (hr0 : p.runs = []) :
    Calls Try.prog 14 #[.string s] w fun e w' => (∃ q, e = .returned (.tuple #[.pointer (some ⟨q, 0, none⟩), .int .i64 0, .int .i64 0]) ∧ w.heap.size ≤ q ∧ RuleOk p.rule ∧ GrAt w' q (preOf p.rule p.shape p.age) p.shape.w p.shape.h 0 0 noS) ∧ Kp (fun _ => False) w w' := by
  have HL := hide (fun wx => load_plain s wx hs j p hq htw hr0)
  clear hq htw hr0
  go_enter Try.func14, Try.ntmps14
  go_wp2_with fail
  refine (HL.out _).mono ?_
  rintro e w1 ⟨⟨q, rfl, hq0, rk, g1⟩, k1⟩
  have G1 := hide g1
  have K1 := hide k1
  have RK := hide rk
  clear g1 k1 rk
  go_wp2_with fail
  go_ret3
  exact ⟨⟨q, rfl, hq0, RK.out, G1.out⟩, K1.out⟩
end Go.Proofs.Ytiimimclbkjcbaa
namespace Go.Proofs.Ytiimimclbkjcbaa
open Go.RowKit
open Go.Proofs

/-- A text of these bytes. -/
def bstr (L : List Int) : ByteArray := ⟨(L.map fun n => UInt8.ofNat n.toNat).toArray⟩
theorem bstr_app (L M : List Int) : bstr L ++ bstr M = bstr (L ++ M) := by
  apply ByteArray.ext
  simp [bstr, ByteArray.data_append]
theorem bstr_size (L : List Int) : (bstr L).size = L.length := by simp [bstr, ByteArray.size]
theorem bstr1_size (n : Int) : (bstr [n]).size = 1 := rfl
theorem numL_size (n : Int) : (bstr (Pu.numL n)).size ≤ 2 := by
  rw [bstr_size]
  unfold Pu.numL
  rw [List.length_map]
  exact Pu.dec_len n
theorem wpList_conv {P : Program} {ops : Array Oper} {rest : List Oper} {o : Oper} {a : Act} {w : World} {Q : Exit → Act → World → Prop} (hgd : o.guard = none) (s d : TypeId) (x : Operand) (ho : o.op = .convert s d x) (v r : Value) (hv : a.eval x = v)
    (hr : (convert s d v).run P w = .ok r w) (h : wpList P ops Q rest (a.put o.dst r) w) : wpList P ops Q (o :: rest) a w := by
  refine wpList_plain hgd fun _ hK => ?_
  unfold Oper.wp execOp
  simp [ho, hv, hr]
  exact hK _ _ h
/-- 'string' of a slice of one byte that was just laid. -/
theorem conv1 (w : World) (n : Int) (h0 : 0 ≤ n) (h1 : n < 256) : (convert 72 9 (.slice (some ⟨w.heap.size, 0, none⟩) 1 1)).run Try.prog (w.alloc (.cells #[.int .u8 n] 5)) = .ok (.string (bstr [n])) (w.alloc (.cells #[.int .u8 n] 5)) := by
  have hc := run_convert_bytes_back (P := Try.prog) (w.alloc (.cells #[.int .u8 n] 5)) 72 9 5 ⟨w.heap.size, 0, none⟩ 1 [UInt8.ofNat n.toNat] Try.underlying72 Try.underlying5 Try.underlying9 (fun j hj => by
    have hj0 : j = 0 := by simp at hj; omega
    subst hj0
    show World.cell? _ ⟨w.heap.size, 0, none⟩ = _
    rw [cell_of_row _ w.heap.size 0 _ _ _ (heap_alloc_new w (.cells #[.int .u8 n] 5))]
    have e : ((UInt8.ofNat n.toNat).toNat : Int) = n := by
      rw [UInt8.toNat_ofNat']
      omega
    simp only [List.getElem_cons_zero]
    rw [e]
    rfl)
  exact hc

set_option maxRecDepth 100000 in
set_option maxHeartbeats 400000 in
theorem lnumber_small (n : Int) (w : World) (h0 : 0 ≤ n) (h1 : n < 10) :
    Calls Try.prog 55 #[.int .i64 n] w fun e w' => e = .returned (.string (bstr [n + 48])) ∧ Kp (fun _ => False) w w' := by
  have E : Hid (48 + n % 10 = n + 48) := by show _ = _; omega
  go_enter Try.func55, Try.ntmps55
  go_wp2_with (refine wpList_conv rfl 72 9 _ rfl _ _ rfl (conv1 _ _ (by omega) (by omega)) ?_
               rw [E.out])
  go_ret
  exact ⟨rfl, (Kp.refl _ _).alloc _⟩

set_option maxRecDepth 100000 in
set_option maxHeartbeats 400000 in
theorem lnumber_any (n : Int) (w : World) (h0 : 0 ≤ n) (h1 : n < 100) :
    Calls Try.prog 55 #[.int .i64 n] w fun e w' => e = .returned (.string (bstr (Pu.numL n))) ∧ Kp (fun _ => False) w w' := by
  by_cases hs : n < 10
  · have e : Pu.numL n = [n + 48] := by unfold Pu.numL Pu.dec; rw [if_pos hs]; rfl
    rw [e]
    exact lnumber_small n w h0 hs
  · have e : Pu.numL n = [n / 10 + 48] ++ [48 + n % 10] := by unfold Pu.numL Pu.dec; rw [if_neg hs]; simp; omega
    rw [e, ← bstr_app]
    go_enter Try.func55, Try.ntmps55
    go_wp2_with (refine wpList_conv rfl 72 9 _ rfl _ _ rfl (conv1 _ _ (by omega) (by omega)) ?_)
    refine (lnumber_small (n / 10) _ (by omega) (by omega)).mono ?_
    rintro e w1 ⟨rfl, k1⟩
    have K1 := hide (((Kp.refl (fun _ => False) w).alloc _).trans k1)
    clear k1
    go_wp2_with fail
    go_ret
    exact ⟨rfl, K1.out⟩

def bitK (k b : Nat) : List Int := ((List.range k).filter fun i => b / 2 ^ i % 2 == 1).map fun i : Nat => (i : Int)
theorem bitK_succ (k b : Nat) : bitK (k + 1) b = bitK k b ++ if b / 2 ^ k % 2 == 1 then [(k : Int)] else [] := by
  unfold bitK
  rw [List.range_succ, List.filter_append, List.map_append]
  congr 1
  by_cases h : (b / 2 ^ k % 2 == 1) = true <;> simp [h]

set_option maxRecDepth 100000 in
set_option maxHeartbeats 400000 in
theorem lset_any (b : Nat) (w : World) (h1 : b < 512) :
    Calls Try.prog 39 #[.int .i64 b] w fun e w' => e = .returned (.string (bstr ((Pu.bitL b).map (· + 48)))) ∧ Kp (fun _ => False) w w' := by
  go_enter Try.func39, Try.ntmps39
  go_wp2
  go_loopg [3, 4] 9 (fun gk a i wr => ∃ k : Nat, k ≤ 9 ∧ 9 ≤ k + gk ∧ a = .string (bstr ((bitK k b).map (· + 48))) ∧ i = .int .i64 k ∧ Kp (fun _ => False) w wr)
  case atStart => exact ⟨0, by omega, by omega, rfl, rfl, Kp.refl _ _⟩
  case round =>
    obtain ⟨k, g1, g2, rfl, rfl, g3⟩ := hrel
    have G3 := hide g3
    clear g3
    by_cases hlt : k < 9
    · have eb : ((b : Int) / 2 ^ k).tmod 2 = ((b / 2 ^ k % 2 : Nat) : Int) := by
        have hnn : (0 : Int) ≤ (b : Int) / 2 ^ k := Int.ediv_nonneg (by omega) (Int.le_of_lt (Int.pow_pos (by omega)))
        rw [Int.tmod_eq_emod_of_nonneg hnn]
        simp
      rcases Nat.mod_two_eq_zero_or_one (b / 2 ^ k) with hz | hz
      · rw [hz] at eb
        have EQ : Hid (bitK (k + 1) b = bitK k b) := by show _ = _; rw [bitK_succ, hz]; simp
        have ef : (((b : Int) / 2 ^ k).tmod 2 == 1) = false := by rw [eb]; rfl
        clear hz eb
        go_wp2_with fail
        go_roundg (gk - 1)
        case measure => omega
        case rel => exact ⟨k + 1, by omega, by omega, by rw [EQ.out], by go_num, G3.out⟩
      · rw [hz] at eb
        have EQ : Hid (bstr ((bitK (k + 1) b).map (· + 48)) = bstr ((bitK k b).map (· + 48)) ++ bstr [48 + (k : Int)]) := by
          show _ = _
          rw [bitK_succ, hz, bstr_app, List.map_append]
          congr 2
          simp
          omega
        have ef : (((b : Int) / 2 ^ k).tmod 2 == 1) = true := by rw [eb]; rfl
        have z1 : (bstr ((bitK k b).map (· + 48))).size ≤ 9 := by
          rw [bstr_size, List.length_map]
          unfold bitK
          rw [List.length_map]
          refine Nat.le_trans (List.length_filter_le _ _) ?_
          simp
          omega
        have z2 := bstr1_size (48 + (k : Int))
        clear hz eb
        go_wp2_with (refine wpList_conv rfl 72 9 _ rfl _ _ rfl (conv1 _ _ (by omega) (by omega)) ?_)
        go_roundg (gk - 1)
        case measure => omega
        case rel => exact ⟨k + 1, by omega, by omega, by rw [EQ.out], by go_num, G3.out.alloc _⟩
    · have e : k = 9 := by omega
      subst e
      go_wp2_with fail
      go_ret
      exact ⟨rfl, G3.out⟩

set_option maxRecDepth 100000 in
set_option maxHeartbeats 400000 in
theorem lside_any (n s : Int) (st : Bool) (w : World) (h0 : 0 ≤ n) (h1 : n < 100) (s0 : 0 ≤ s) (s1 : s < 100) :
    Calls Try.prog 40 #[.int .i64 n, .int .i64 s, .bool st] w fun e w' => e = .returned (.string (bstr (Pu.sideL n s st))) ∧ Kp (fun _ => False) w w' := by
  have z1 := numL_size n
  have z2 := numL_size s
  have z3 := bstr1_size 43
  unfold Pu.sideL
  by_cases hs : 0 < s
  · rw [if_pos hs, ← bstr_app, ← bstr_app, show (43 :: Pu.numL s) = [43] ++ Pu.numL s from rfl, ← bstr_app]
    have A : Hid (bstr (Pu.numL n) ++ (bstr [43] ++ bstr (Pu.numL s)) = bstr (Pu.numL n) ++ bstr [43] ++ bstr (Pu.numL s)) := by show _ = _; simp only [bstr_app, List.append_assoc]
    rw [A.out]
    cases st
    · rw [if_neg (by simp)]
      have E : Hid (bstr (Pu.numL n) ++ bstr [43] ++ bstr (Pu.numL s) ++ bstr [] = bstr (Pu.numL n) ++ bstr [43] ++ bstr (Pu.numL s)) := by show _ = _; simp only [bstr_app, List.append_nil]
      rw [E.out]
      clear A E
      go_enter Try.func40, Try.ntmps40
      go_wp2_with fail
      refine (lnumber_any n _ h0 h1).mono ?_
      rintro e w1 ⟨rfl, k1⟩
      have K1 := hide k1
      clear k1
      go_wp2_with fail
      refine (lnumber_any s _ s0 s1).mono ?_
      rintro e w2 ⟨rfl, k2⟩
      have K2 := hide (K1.out.trans k2)
      clear k2
      go_wp2_with fail
      go_ret
      exact ⟨rfl, K2.out⟩
    · rw [if_pos rfl]
      clear A
      go_enter Try.func40, Try.ntmps40
      go_wp2_with fail
      refine (lnumber_any n _ h0 h1).mono ?_
      rintro e w1 ⟨rfl, k1⟩
      have K1 := hide k1
      clear k1
      go_wp2_with fail
      refine (lnumber_any s _ s0 s1).mono ?_
      rintro e w2 ⟨rfl, k2⟩
      have K2 := hide (K1.out.trans k2)
      clear k2
      go_wp2_with fail
      go_ret
      exact ⟨rfl, K2.out⟩
  · rw [if_neg hs, List.append_nil, ← bstr_app]
    cases st
    · rw [if_neg (by simp)]
      have E : Hid (bstr (Pu.numL n) ++ bstr [] = bstr (Pu.numL n)) := by show _ = _; simp only [bstr_app, List.append_nil]
      rw [E.out]
      clear E
      go_enter Try.func40, Try.ntmps40
      go_wp2_with fail
      refine (lnumber_any n _ h0 h1).mono ?_
      rintro e w1 ⟨rfl, k1⟩
      have K1 := hide k1
      clear k1
      go_wp2_with fail
      go_ret
      exact ⟨rfl, K1.out⟩
    · rw [if_pos rfl]
      go_enter Try.func40, Try.ntmps40
      go_wp2_with fail
      refine (lnumber_any n _ h0 h1).mono ?_
      rintro e w1 ⟨rfl, k1⟩
      have K1 := hide k1
      clear k1
      go_wp2_with fail
      go_ret
      exact ⟨rfl, K1.out⟩
end Go.Proofs.Ytiimimclbkjcbaa
