import Derived.Test.YtbdbkjngdhcjpaaDoorM25
import Derived.Test.YtbdbkjngdhcjpaaDoorM13
import Derived.Test.YtbdbkjngdhcjpaaDoorM14
import Derived.Test.YtbdbkjngdhcjpaaDoorM26
import Derived.Test.YtbdbkjngdhcjpaaDoorM21
import Derived.Test.YtbdbkjngdhcjpaaDoorM1
import Derived.Test.YtbdbkjngdhcjpaaDoorMv
import Derived.Below
namespace Go.Proofs.YtbdbkjngdhcjpaaDoor
open Go.RowKit
open Go.Proofs

set_option maxRecDepth 100000 in
set_option maxHeartbeats 400000 in
theorem lay_one (q g cap : Nat) (r : Pu.Rule) (x : Pu.Shape) (age col row n st : Int) (S : List Int) (w : World) (h : GrAt w q (preOf r x age) x.w x.h 0 0 S) (hr : RuleOk r) (hx : Two x)
    (ha : RunsAt w g cap [⟨n, st, false⟩]) (_hgq : g ≠ q) (rk : 1 ≤ n ∧ n ≤ 99) (hst : ¬ st = 0) (hc : -9999 ≤ col ∧ col ≤ 9999) (hw : -9999 ≤ row ∧ row ≤ 9999) :
    Calls Tryd.prog 48 #[.pointer (some ⟨q, 0, none⟩), .agg (ptv r x age col row (.slice (some ⟨g, 0, none⟩) 1 cap))] w fun e w' => e = .returned (.bool true) ∧ GrAt w' q (preOf r x age) x.w x.h 0 0 (runS x S col row st n.toNat) ∧ Kp (· = q) w w' := by
  have hq := h.lt
  have H := hide h
  have HR := hide hr
  have HX := hide hx
  have HA := hide ha
  have HST := hide hst
  clear h hr hx ha hst
  go_enter Tryd.func48, Tryd.ntmps48
  go_wp2_with (refine wpList_box_row rfl 91 _ rfl (ptv r x age col row (.slice (some ⟨g, 0, none⟩) 1 cap)) rfl ?_
               intro w1 hw1
               have P1 : Hid (PtAt w1 w.heap.size r x age col row (.slice (some ⟨g, 0, none⟩) 1 cap)) := ⟨by rw [hw1]; exact heap_alloc_new _ _, HR.out⟩
               have G1 : Hid (GrAt w1 q (preOf r x age) x.w x.h 0 0 S) := by rw [hw1]; exact H.out.alloc _
               have K1 : Hid (Kp (· = q) w w1) := by rw [hw1]; exact (Kp.refl _ _).alloc _
               have A1 : Hid (RunsAt w1 g cap [⟨n, st, false⟩]) := by rw [hw1]; exact HA.out.keep ((Kp.refl (fun _ => False) w).alloc _) (fun hx => hx)
               have c1 : w1.cell? ⟨w.heap.size, 28, none⟩ = some (.int .i64 col) := P1.out.cell 1
               have c2 : w1.cell? ⟨w.heap.size, 29, none⟩ = some (.int .i64 row) := P1.out.cell 2
               clear hw1)
  go_loopg [5, 6, 7] 1 (fun gk a b i wr => PtAt wr w.heap.size r x age col row (.slice (some ⟨g, 0, none⟩) 1 cap) ∧ Kp (· = q) w wr ∧
    ((gk = 1 ∧ a = .int .i64 col ∧ b = .int .i64 row ∧ i = .int .i64 0 ∧ GrAt wr q (preOf r x age) x.w x.h 0 0 S ∧ RunsAt wr g cap [⟨n, st, false⟩]) ∨
     (gk = 0 ∧ (∃ a' b' : Int, a = .int .i64 a' ∧ b = .int .i64 b') ∧ i = .int .i64 1 ∧ GrAt wr q (preOf r x age) x.w x.h 0 0 (runS x S col row st n.toNat))))
  case atStart => exact ⟨P1.out, K1.out, Or.inl ⟨rfl, rfl, rfl, rfl, G1.out, A1.out⟩⟩
  case round =>
    obtain ⟨g6, g8, hcase⟩ := hrel
    clear c1 c2
    have c1 : wr.cell? ⟨w.heap.size, 28, none⟩ = some (.int .i64 col) := g6.cell 1
    have c3 : wr.cell? ⟨w.heap.size, 30, none⟩ = some (.slice (some ⟨g, 0, none⟩) 1 cap) := g6.cell 3
    have G6 := hide g6
    have G8 := hide g8
    clear g6 g8
    rcases hcase with ⟨hgk, rfl, rfl, rfl, g5, g7⟩ | ⟨hgk, ⟨a', b', rfl, rfl⟩, rfl, g5⟩
    · have HGK := hide hgk
      have ldr := hide (fun j v => g7.cell 0 (by simp) j v)
      have G5 := hide g5
      clear g5 g7 hgk
      go_wp2_with (first
        | (refine wpList_load_at rfl 115 _ rfl g (0 * 3) rfl (runv ⟨n, st, false⟩) ldr.out _ Tryd.underlying115 rfl info_run ?_)
        | (refine wpList_store_row_g rfl 115 _ _ rfl wr.heap.size (runv ⟨n, st, false⟩) rfl rfl 115 (runv ⟨0, 0, false⟩) (heap_alloc_new _ _) info_run rfl (runv_one _) ?_
           intro w2 hw2
           have KK : Kp (fun _ => False) wr w2 := by rw [hw2]; exact ((Kp.refl _ _).alloc _).setRowNew (Nat.le_refl _) _
           have E2 : Hid (w2.heap[wr.heap.size]? = some (.cells (runv ⟨n, st, false⟩) 115 (0, 0))) := by rw [hw2]; exact setRow_heap _ _ _ _ _ _ (heap_alloc_new _ _)
           have P2 := hide (G6.out.keep KK (fun hx => hx))
           have K2 := hide (G8.out.trans (KK.mono (T := (· = q)) (fun _ hx => hx.elim)))
           have W2 := hide (G5.out.keep KK (fun hx => hx))
           have e0 : w2.cell? ⟨wr.heap.size, 0, none⟩ = some (.int .i64 n) := cell_of_row _ _ 0 _ _ _ E2.out
           have e1 : w2.cell? ⟨wr.heap.size, 1, none⟩ = some (.int .i64 st) := cell_of_row _ _ 1 _ _ _ E2.out
           have e2 : w2.cell? ⟨wr.heap.size, 2, none⟩ = some (.bool false) := cell_of_row _ _ 2 _ _ _ E2.out
           clear hw2 KK))
      refine (layRun_in q r x age S col row n st false _ W2.out HR.out HX.out rk HST.out (by omega) (by omega)).mono ?_
      rintro e w3 ⟨rfl, w3w, k3⟩
      have P3 := hide (P2.out.keep k3 (by omega))
      have K3 := hide (K2.out.trans k3)
      have W3 := hide w3w
      have e0' : w3.cell? ⟨wr.heap.size, 0, none⟩ = some (.int .i64 n) := cell_of_row _ _ 0 _ _ _ (k3.row E2.out (by have := hq; have := G8.out.size; omega))
      clear k3 w3w e0 e1 e2
      go_wp2_with fail
      go_roundg 0
      case measure => have := HGK.out; omega
      case rel => exact ⟨P3.out, K3.out, Or.inr ⟨rfl, ⟨_, _, rfl, rfl⟩, rfl, W3.out⟩⟩
    · have G5 := hide g5
      clear g5 hgk
      go_wp2_with fail
      go_ret
      exact ⟨rfl, G5.out, G8.out⟩
end Go.Proofs.YtbdbkjngdhcjpaaDoor
namespace Go.Proofs.YtbdbkjngdhcjpaaDoor
open Go.RowKit
open Go.Proofs

set_option maxRecDepth 100000 in
set_option maxHeartbeats 1000000 in
theorem load_one (S : List Int) (hS : S.length = 768) (hbu : ∀ (r : Pu.Rule), RuleOk r → ∀ (x : Pu.Shape) (age : Int), Tryd.prog.built 55 [(0, .agg (rulev r)), (1, .agg (shv x)), (2, .int .i64 age)] = some (grv (preOf r x age) 0 0 0 0 S))
    (hnew : ∀ gw gh w, Calls Tryd.prog 47 #[.int .i64 gw, .int .i64 gh] w fun e w' => e = .returned (.agg (gnew gw gh S)) ∧ Kp (fun _ => False) w w')
    (s : ByteArray) (w : World) (hs : s.size ≤ 400) (j : Nat) (p : Pu.Parts) (hq : Hid (Pu.read (src s) = (j, some p))) (n st : Int) (hru : p.runs = [⟨n, st, false⟩]) (hst : ¬ st = 0) (htw : Two p.shape) :
    Calls Tryd.prog 27 #[.string s] w fun e w' => (∃ q, e = .returned (.tuple #[.pointer (some ⟨q, 0, none⟩), .int .i64 0, .int .i64 0]) ∧ RuleOk p.rule ∧ GrAt w' q (preOf p.rule p.shape p.age) p.shape.w p.shape.h 0 0 (runS p.shape S p.col p.row st n.toNat)) ∧ Kp (fun _ => False) w w' := by
  have HS := hide hS
  have HB := hide hbu
  have HN := hide hnew
  have POK := hide (Pu.read_inv hq.out)
  clear hS hbu hnew
  go_enter Tryd.func27, Tryd.ntmps27
  go_wp2_with fail
  refine (read_any s _ hs j (some p) hq).mono ?_
  rintro e w1 ⟨⟨r, x, age, col, row, v, acc, rfl, rok, own, hp⟩, k1⟩
  have HP := hide (hp p rfl)
  have K1 := hide k1
  have ROK := hide rok
  have OWN := hide own
  have VO := hide (own_one own)
  obtain ⟨bb, hbb⟩ := rulev_births rok
  have BB := hide hbb
  clear k1 rok own hp hbb
  go_wp2_with (first
    | (refine wpList_store_row_g rfl 91 _ _ rfl w1.heap.size (ptv r x age col row v) rfl rfl 91 (ptv zrule zsh 0 0 0 (.slice none 0 0)) (heap_alloc_new _ _) (by rw [info_parts, ptv_size ROK.out]) ((ptv_size zrule_ok _ _ _ _ _).trans (ptv_size ROK.out _ _ _ _ _).symm) (ptv_one ROK.out _ _ _ _ VO.out) ?_
       intro w2 hw2
       have K2 : Hid (Kp (fun _ => False) w w2) := by rw [hw2]; exact (K1.out.alloc _).setRowNew K1.out.size _
       have P2 : Hid (PtAt w2 w1.heap.size r x age col row v) := ⟨by rw [hw2]; exact setRow_heap _ _ _ _ _ _ (heap_alloc_new _ _), ROK.out⟩
       have KK : Kp (fun _ => False) w1 w2 := by rw [hw2]; exact ((Kp.refl _ _).alloc _).setRowNew (Nat.le_refl _) _
       have O2 := hide (own_keep OWN.out KK (by intro g hg hx; exact hx))
       have LS2 := hide (fun j u hu => (cell_of_row w2 w1.heap.size (20 + j) _ _ _ P2.out.row).trans (ptv_shape ROK.out x age col row v j u hu))
       clear hw2 KK)
    | (refine wpList_load_at rfl 50 _ rfl w1.heap.size 20 rfl (shv x) LS2.out _ Tryd.underlying50 rfl info_shape ?_))
  have HEN := hide (fun wx => endless_any x wx)
  have hpp := HP.out
  subst hpp
  simp only at hru htw
  have he : ¬ (x.w = 0 ∨ x.h = 0) := by have := htw.1; have := htw.2.2.1; omega
  have HRU := hide hru
  have HTW := hide htw
  have HST := hide hst
  clear hru htw hst
  rw [decide_eq_false he] at HEN
  refine (HEN.out _).mono ?_
  rintro e w3 ⟨rfl, k3⟩
  have P3 := hide (P2.out.keep k3 (fun hx => hx))
  have O3 := hide (own_keep O2.out k3 (by intro g hg hx; exact hx))
  have K3 := hide (K2.out.trans k3)
  have LS := hide (fun j u hu => (cell_of_row w3 w1.heap.size (20 + j) _ _ _ P3.out.row).trans (ptv_shape ROK.out x age col row v j u hu))
  have LR := hide (fun j u hu => (cell_of_row w3 w1.heap.size (0 + j) _ _ _ P3.out.row).trans (ptv_rule ROK.out x age col row v j u hu))
  have c27 : w3.cell? ⟨w1.heap.size, 27, none⟩ = some (.int .i64 age) := P3.out.cell 0
  clear k3 HEN
  go_wp2_with (first
    | (refine wpList_load_at rfl 48 _ rfl w1.heap.size 0 rfl (rulev r) LR.out _ Tryd.underlying48 rfl (by rw [info_rule, rulev_size ROK.out]) ?_)
    | (refine wpList_load_at rfl 50 _ rfl w1.heap.size 20 rfl (shv x) LS.out _ Tryd.underlying50 rfl info_shape ?_)
    | (refine wpList_build3 rfl 55 _ _ _ _ _ _ rfl (.agg (rulev r)) (.agg (shv x)) (.int .i64 age) rfl rfl rfl (grv (preOf r x age) 0 0 0 0 S) (HB.out r ROK.out x age) ?_)
    | (refine wpList_box_row rfl 55 _ rfl (grv (preOf r x age) 0 0 0 0 S) rfl ?_
       intro w4 hw4
       have KK : Kp (fun _ => False) w3 w4 := by rw [hw4]; exact (Kp.refl _ _).alloc _
       have Q4 : Hid (w4.heap[w3.heap.size]? = some (.cells (grv (preOf r x age) 0 0 0 0 S) 55 (0, 0))) := by rw [hw4]; exact heap_alloc_new _ _
       have P4 := hide (P3.out.keep KK (fun hx => hx))
       have O4 := hide (own_keep O3.out KK (by intro g hg hx; exact hx))
       have K4 := hide (K3.out.trans KK)
       have d1 : w4.cell? ⟨w1.heap.size, 21, none⟩ = some (.int .i64 x.w) := by rw [cell_of_row _ _ _ _ _ _ P4.out.row]; exact ptv_shape ROK.out x age col row v 1 _ rfl
       have d2 : w4.cell? ⟨w1.heap.size, 22, none⟩ = some (.int .i64 x.h) := by rw [cell_of_row _ _ _ _ _ _ P4.out.row]; exact ptv_shape ROK.out x age col row v 2 _ rfl
       clear hw4 KK))
  refine (HN.out x.w x.h _).mono ?_
  rintro e w5 ⟨rfl, k5⟩
  have Q5 := hide (k5.row Q4.out (fun hx => hx))
  have P5 := hide (P4.out.keep k5 (fun hx => hx))
  have O5 := hide (own_keep O4.out k5 (by intro g hg hx; exact hx))
  have K5 := hide (K4.out.trans k5)
  have lq : w1.heap.size < w3.heap.size := P3.out.lt
  have lw : w.heap.size ≤ w1.heap.size := K1.out.size
  have psz := preOf_size ROK.out x age
  have PS := hide psz
  clear k5 d1 d2 c27 psz
  go_wp2_with (first
    | (refine wpList_store_at_g rfl 53 _ _ rfl w3.heap.size 28 (gnew x.w x.h S) rfl rfl 55 _ Q5.out (by rw [info_grid, gnew_size _ _ HS.out]) (by rw [gnew_size _ _ HS.out, grv_size PS.out _ _ _ _ _ HS.out]; omega) (gnew_one _ _ _) ?_
       intro w6 hw6
       have G6 : Hid (GrAt w6 w3.heap.size (preOf r x age) x.w x.h 0 0 S) := ⟨by rw [hw6, putCells_row _ _ _ _ _ _ Q5.out, put_grid PS.out x.w x.h HS.out], PS.out, HS.out⟩
       have P6 : Hid (PtAt w6 w1.heap.size r x age col row v) := ⟨by rw [hw6]; exact (putCells_other _ _ _ _ _ (by omega)).trans P5.out.row, ROK.out⟩
       have O6 : Hid (w6.ownsRow w.heap.size 115 3 v acc.length (runsv acc)) := by rw [hw6]; exact own_put O5.out Q5.out _ _
       have K6 : Hid (Kp (fun _ => False) w w6) := by rw [hw6]; exact putCells_new _ _ _ K5.out (by omega)
       clear hw6)
    | (refine wpList_load_row rfl 91 _ rfl w1.heap.size rfl 91 (ptv r x age col row v) (0, 0) _ P6.out.row Tryd.underlying91 rfl (by rw [info_parts, ptv_size ROK.out]) ?_))
  have pk := POK.out
  have LAY : Hid (Calls Tryd.prog 48 #[.pointer (some ⟨w3.heap.size, 0, none⟩), .agg (ptv r x age col row v)] w6 fun e w' => e = .returned (.bool true) ∧ GrAt w' w3.heap.size (preOf r x age) x.w x.h 0 0 (runS x S col row st n.toNat) ∧ Kp (· = w3.heap.size) w6 w') := by
    have hru := HRU.out
    subst hru
    have rk := pk.runs ⟨n, st, false⟩ (by simp)
    rcases O6.out.2 with ⟨rfl, hn0⟩ | ⟨g, cap, cur, rfl, _, hg, _, _, _, htk⟩
    · simp at hn0
    · refine lay_one w3.heap.size g cap r x age col row n st S w6 G6.out ROK.out HTW.out ⟨cur, hg, htk⟩ ?_ ⟨rk.1, rk.2.1⟩ HST.out pk.col pk.row
      intro e
      have := G6.out.row
      rw [← e, hg] at this
      simp at this
  clear pk
  refine LAY.out.mono ?_
  clear LAY
  rintro e w7 ⟨rfl, g7, k7⟩
  have G7 := hide g7
  have K7 := hide (K6.out.tr k7 (by intro z hz1 hz2; omega))
  clear k7 g7
  go_wp2_with fail
  go_ret3
  exact ⟨⟨_, rfl, ROK.out, G7.out⟩, K7.out⟩
end Go.Proofs.YtbdbkjngdhcjpaaDoor
namespace Go.Proofs.YtbdbkjngdhcjpaaDoor
open Go.RowKit
open Go.Proofs

/-- A world's Count. -/
theorem wcount_any (q : Nat) (pre : Array Value) (gw gh l t : Int) (S : List Int) (w : World) (h : GrAt w q pre gw gh l t S) :
    Calls Tryd.prog 13 #[.pointer (some ⟨q, 0, none⟩)] w fun e w' => e = .returned (.int .i64 (countP S)) ∧ w' = w := by
  go_enter Tryd.func13, Tryd.ntmps13
  go_wp2_with fail
  refine (gcount_any q pre gw gh l t S _ h).mono ?_
  rintro e w1 ⟨rfl, hw⟩
  subst w1
  go_wp2_with fail
  go_ret
  exact ⟨rfl, rfl⟩

end Go.Proofs.YtbdbkjngdhcjpaaDoor
namespace Go.Proofs.YtbdbkjngdhcjpaaDoor
open Go.RowKit
open Go.Proofs

/-- The text of the closed fact. -/
def T0 : ByteArray := ⟨#[77, 66, 51, 47, 83, 50, 51, 32, 80, 53, 44, 53, 32, 48, 32, 49, 44, 50, 32, 51, 65, 33]⟩
def p0 : Pu.Parts := ⟨⟨77, [false, false, false, true, false, false, false, false, false], [false, false, true, true, false, false, false, false, false], 2⟩, ⟨80, 5, 5, 0, 0, false, false⟩, 0, 1, 2, [⟨3, 1, false⟩]⟩
theorem read_T0 : Pu.read (src T0) = (22, some p0) := by kernel_rfl
theorem T0_size : T0.size ≤ 400 := by decide
end Go.Proofs.YtbdbkjngdhcjpaaDoor
namespace Go.Proofs.YtbdbkjngdhcjpaaDoor
open Go.RowKit
open Go.Proofs

def S1 : List Int := runS p0.shape noS 1 2 1 3
theorem S1_count : countP S1 = 3 := by kernel_rfl
theorem S1_at : getP 5 5 0 0 S1 2 2 = 1 := by kernel_rfl
theorem S1_no : getP 5 5 0 0 S1 2 1 = 0 := by kernel_rfl
theorem p0_two : Two p0.shape := by unfold Two p0; simp

theorem Load_T0 (w : World) : Calls Tryd.prog 12 #[.string T0] w fun e w' => (∃ q, e = .returned (.tuple #[.pointer (some ⟨q, 0, none⟩), .int .i64 0, .int .i64 0]) ∧ RuleOk p0.rule ∧ GrAt w' q (preOf p0.rule p0.shape p0.age) 5 5 0 0 S1) ∧ Kp (fun _ => False) w w' := by
  have hL := fun wx => load_one noS noS_len built_world new_any T0 wx T0_size 22 p0 read_T0 3 1 rfl (by omega) p0_two
  have HL := hide hL
  have hz : ((T0.size : Nat) : Int) ≤ 400 := by decide
  clear hL
  have T0s : T0.size = 22 := by decide
  generalize T0 = s at *
  go_enter Tryd.func12, Tryd.ntmps12
  go_wp2_with fail
  refine (HL.out _).mono ?_
  rintro e w1 ⟨⟨q, rfl, rk, g1⟩, k1⟩
  have G1 := hide g1
  have K1 := hide k1
  have RK := hide rk
  clear g1 k1 rk
  go_wp2_with fail
  go_ret3
  exact ⟨⟨q, rfl, RK.out, G1.out⟩, K1.out⟩

set_option maxHeartbeats 400000 in
theorem reads_any (w : World) : Calls Tryd.prog 10 #[] w fun e w' => e = .returned (.bool true) ∧ Kp (fun _ => False) w w' := by
  have sok : Pu.ShapeOk p0.shape := (Pu.read_inv read_T0).shape
  have HC := hide S1_count
  have HA := hide S1_at
  have HN := hide S1_no
  go_enter Tryd.func10, Tryd.ntmps10
  go_wp2_with fail
  refine (Load_T0 _).mono ?_
  rintro e w1 ⟨⟨q, rfl, rk, g1⟩, k1⟩
  have G1 := hide g1
  have K1 := hide k1
  have RK := hide rk
  clear g1 k1 rk
  have W1 := hide (fun wx hx => wget_no q p0.rule p0.shape p0.age 0 0 S1 2 2 wx hx RK.out sok (Or.inl rfl) (by omega) (by omega) (by omega) (by omega))
  have W2 := hide (fun wx hx => wget_no q p0.rule p0.shape p0.age 0 0 S1 2 1 wx hx RK.out sok (Or.inl rfl) (by omega) (by omega) (by omega) (by omega))
  have E1 : Hid ((if hasB p0.shape 2 2 = true then getP p0.shape.w p0.shape.h 0 0 S1 2 2 else 0) = 1) := HA.out
  have E2 : Hid ((if hasB p0.shape 2 1 = true then getP p0.shape.w p0.shape.h 0 0 S1 2 1 else 0) = 0) := HN.out
  rw [E1.out] at W1
  rw [E2.out] at W2
  go_wp2_with fail
  refine (wcount_any q _ 5 5 0 0 S1 _ G1.out).mono ?_
  rw [HC.out]
  rintro e w2 ⟨rfl, hw⟩
  subst w2
  go_wp2_with fail
  refine (W1.out _ G1.out).mono ?_
  rintro e w3 ⟨rfl, k3⟩
  have G3 := hide (G1.out.keep k3 (fun hx => hx))
  have K3 := hide (K1.out.trans k3)
  clear k3
  go_wp2_with fail
  refine (W2.out _ G3.out).mono ?_
  rintro e w4 ⟨rfl, k4⟩
  have K4 := hide (K3.out.trans k4)
  clear k4
  go_wp2_with fail
  go_ret
  exact ⟨rfl, K4.out⟩
end Go.Proofs.YtbdbkjngdhcjpaaDoor
namespace Go.Proofs.YtbdbkjngdhcjpaaDoor
open Go.RowKit
open Go.Proofs
theorem few_any (s : ByteArray) (w : World) (hm : s.size ≤ maxLen) : Calls Tryd.prog 11 #[.string s] w fun e w' => e = .returned (.bool (decide (s.size ≤ 1048576))) ∧ w' = w := by
  unfold maxLen at hm
  go_enter Tryd.func11, Tryd.ntmps11
  go_wp2_with fail
  go_ret
  exact ⟨ret_bool (by rw [Bool.eq_iff_iff]; simp; omega), rfl⟩
end Go.Proofs.YtbdbkjngdhcjpaaDoor
namespace Go.Proofs.YtbdbkjngdhcjpaaDoor
open Go.RowKit
open Go.Proofs

/-- The world of a text's parts. -/
def mdOf (p : Pu.Parts) : Md := ⟨p.rule, p.shape, p.age, (laidG p noS).2⟩
/-- Load of a right text with room. -/
theorem Load_good (s : ByteArray) (h4 : s.size ≤ 400) (j : Nat) (p : Pu.Parts) (hR : Pu.read (src s) = (j, some p)) (h0 : loadE p noS = 0) (w : World) :
    Calls Tryd.prog 12 #[.string s] w fun e w' => (∃ q, e = .returned (.tuple #[.pointer (some ⟨q, 0, none⟩), .int .i64 0, .int .i64 0]) ∧ w.heap.size ≤ q ∧ MdAt w' q (mdOf p) ∧ MdOk (mdOf p)) ∧ Kp (fun _ => False) w w' := by
  have hp := Pu.read_inv hR
  obtain ⟨one, ar⟩ := read_one hR
  have kd := read_kind hR
  refine (Load_gen s w h4 j p hR).mono ?_
  rintro e' w' ⟨⟨u, rfl, ⟨lb, lg⟩⟩, k⟩
  obtain ⟨q, hu, hq, rk, gs⟩ := lg h0
  exact ⟨⟨q, by rw [hu, h0], hq, gs, ⟨⟨rk, hp.states, ar, hp.shape, kd, one⟩, laidG_ok hp, hp.age⟩⟩, k⟩
/-- Load of any text, its place told. -/
structure AgBad (u : Value) (z c : Int) : Prop where
  c0 : c ≠ 0
  u0 : u = .pointer none
  z0 : c = 2 ∨ z = 0
theorem Load_ag (s : ByteArray) (hm : s.size ≤ maxLen) :
    (∀ w, Calls Tryd.prog 12 #[.string s] w fun e w' => (∃ u z c, e = .returned (.tuple #[u, .int .i64 z, .int .i64 c]) ∧ AgBad u z c) ∧ Kp (fun _ => False) w w') ∨ (s.size ≤ 400 ∧ ∃ j p, Pu.read (src s) = (j, some p) ∧ loadE p noS = 0) := by
  by_cases h4 : 400 < s.size
  · left
    intro w
    refine (Load_long s w h4 hm).mono ?_
    rintro e' w' ⟨rfl, rfl⟩
    exact ⟨⟨_, _, _, rfl, ⟨by omega, rfl, Or.inr rfl⟩⟩, Kp.refl _ _⟩
  · rcases hR : Pu.read (src s) with ⟨j, _ | p⟩
    · left
      intro w
      refine (Load_none s w (by omega) j hR).mono ?_
      rintro e' w' ⟨rfl, k⟩
      exact ⟨⟨_, _, _, rfl, ⟨by omega, rfl, Or.inl rfl⟩⟩, k⟩
    · by_cases h0 : loadE p noS = 0
      · exact Or.inr ⟨by omega, j, p, rfl, h0⟩
      · left
        intro w
        refine (Load_gen s w (by omega) j p hR).mono ?_
        rintro e' w' ⟨⟨u, rfl, ⟨lb, lg⟩⟩, k⟩
        exact ⟨⟨_, _, _, rfl, ⟨h0, lb h0, Or.inr rfl⟩⟩, k⟩
/-- What Get tells. -/
def getM (m : Md) (X Y : Int) : Int := if m.x.kind = 84 ∨ m.x.kind = 75 ∨ m.x.kind = 67 then getG m.x.w m.x.h m.g (foldX m.x X Y) (foldY m.x X Y) else if hasB m.x X Y = true then getG m.x.w m.x.h m.g X Y else 0
theorem get_md (q : Nat) (m : Md) (hm : MdOk m) (X Y : Int) (hX : -9223372036854775808 ≤ X ∧ X ≤ 9223372036854775807) (hY : -9223372036854775808 ≤ Y ∧ Y ≤ 9223372036854775807) (w : World) (h : MdAt w q m) :
    Calls Tryd.prog 14 #[.pointer (some ⟨q, 0, none⟩), .int .i64 X, .int .i64 Y] w fun e w' => e = .returned (.int .i64 (getM m X Y)) ∧ Kp (fun _ => False) w w' := by
  have hx := hm.kin.shape
  have lb := hm.ok.lb
  have tb := hm.ok.tb
  unfold getM
  by_cases e : m.x.kind = 84 ∨ m.x.kind = 75 ∨ m.x.kind = 67
  · rw [if_pos e]
    exact wget_fold q m.r m.x m.age m.g.l m.g.t m.g.S X Y w h hm.kin.rule hm.kin.fo e hX hY (by omega) (by omega) (by omega) (by omega)
  · rw [if_neg e]
    have hk : m.x.kind = 80 ∨ m.x.kind = 83 := by
      have := hx.kind
      simp at this
      omega
    exact wget_no q m.r m.x m.age m.g.l m.g.t m.g.S X Y w h hm.kin.rule hx hk (by omega) (by omega) (by omega) (by omega)
/-- What is true of a world and of what is read of its text. -/
structure AgainM (m m' : Md) : Prop where
  save : saveM m' = saveM m
  count : countP m'.g.S = countP m.g.S
  get : ∀ X Y, getM m' X Y = getM m X Y
theorem again_md {s : ByteArray} (h4 : s.size ≤ 400) {j : Nat} {p : Pu.Parts} (hR : Pu.read (src s) = (j, some p)) (h0 : loadE p noS = 0) :
    (saveM (mdOf p)).size ≤ 400 ∧ ∃ j' p', Pu.read (src (saveM (mdOf p))) = (j', some p') ∧ loadE p' noS = 0 ∧ AgainM (mdOf p) (mdOf p') := by
  obtain ⟨a1, j', p', a2, e1, e2, e3, a3, al, al'⟩ := again_pure h4 hR h0
  refine ⟨a1, j', p', a2, a3, ?_⟩
  have hx := (Pu.read_inv hR).shape
  have eg : ∀ X Y, getG p.shape.w p.shape.h (laidG p' noS).2 X Y = getG p.shape.w p.shape.h (laidG p noS).2 X Y := fun X Y => by rw [al.same X Y, al'.same X Y]
  refine ⟨?_, ?_, fun X Y => ?_⟩
  · unfold saveM mdOf
    simp only
    rw [e1, e2, e3]
    exact save_same p.age al al'
  · unfold mdOf
    simp only
    rw [al.count hx, al'.count hx]
  · unfold getM mdOf
    simp only
    rw [e2, eg, eg]

set_option maxRecDepth 100000 in
set_option maxHeartbeats 1000000 in
theorem again_walk (s : ByteArray) (hs : s.size ≤ maxLen) (X Y : Int) (hX : -9223372036854775808 ≤ X ∧ X ≤ 9223372036854775807) (hY : -9223372036854775808 ≤ Y ∧ Y ≤ 9223372036854775807) (w : World) (ht : Tab w) :
    Calls Tryd.prog 4 #[.string s, .int .i64 X, .int .i64 Y] w fun e w' => e = .returned (.bool true) ∧ Kp (fun _ => False) w w' := by
  have LR := hide (fun wx => reads_any wx)
  have LF := hide (fun wx => few_any s wx hs)
  have LL := Load_ag s hs
  have HT := hide ht
  have HX := hide hX
  have HY := hide hY
  clear ht hs hX hY
  by_cases h0 : s.size ≤ 1048576
  · rw [decide_eq_true h0] at LF
    clear h0
    rcases LL with LL | ⟨h4, j, p, hR, hE⟩
    · have LB := hide LL
      clear LL
      go_enter Tryd.func4, Tryd.ntmps4
      go_wp2_with fail
      refine (LR.out _).mono ?_
      rintro e w1 ⟨rfl, k1⟩
      have K1 := hide k1
      clear k1
      go_wp2_with fail
      refine (LF.out _).mono ?_
      rintro e w2 ⟨rfl, hw⟩
      subst w2
      go_wp2_with fail
      refine (LB.out _).mono ?_
      rintro e w2 ⟨⟨u, z, c, rfl, ⟨c0, u0, z0⟩⟩, k2⟩
      subst u0
      have K2 := hide (K1.out.trans k2)
      have bc : (c != 0) = true := by simpa using c0
      clear k2 LB LF LR
      by_cases c2 : c = 2
      · subst c2
        clear z0 c0 bc
        go_wp2_with fail
        go_ret
        exact ⟨rfl, K2.out⟩
      · have ez : z = 0 := z0.resolve_left c2
        subst ez
        have bc2 : (c == 2) = false := by simpa using c2
        clear z0 c0 c2
        go_wp2_with fail
        go_ret
        exact ⟨rfl, K2.out⟩
    · obtain ⟨s4, j', p', hR', hE', am⟩ := again_md h4 hR hE
      have LG := hide (fun wx => Load_good s h4 j p hR hE wx)
      have LG2 := hide (fun wx => Load_good _ s4 j' p' hR' hE' wx)
      have AM := hide am
      generalize mdOf p = m at *
      generalize mdOf p' = m' at *
      clear hR hE hR' hE' am h4 s4
      go_enter Tryd.func4, Tryd.ntmps4
      go_wp2_with fail
      refine (LR.out _).mono ?_
      rintro e w1 ⟨rfl, k1⟩
      have K1 := hide k1
      clear k1
      go_wp2_with fail
      refine (LF.out _).mono ?_
      rintro e w2 ⟨rfl, hw⟩
      subst w2
      go_wp2_with fail
      refine (LG.out _).mono ?_
      rintro e w2 ⟨⟨q, rfl, hq, a2, ok2⟩, k2⟩
      have hs1 := K1.out.size
      have K2 := hide (K1.out.trans k2)
      have A2 := hide a2
      have OK2 := hide ok2
      clear k2 a2 ok2 LG LF LR
      go_wp2_with fail
      refine (save_md q m OK2.out _ A2.out (HT.out.keep K2.out)).mono ?_
      rintro e w3 ⟨rfl, k3⟩
      have A3 := hide (A2.out.keep k3 (fun h => h))
      have K3 := hide (K2.out.trans k3)
      clear k3 A2
      go_wp2_with fail
      refine (LG2.out _).mono ?_
      rintro e w4 ⟨⟨q', rfl, hq', a4, ok4⟩, k4⟩
      have hs3 := K3.out.size
      have B4 := hide a4
      have OB := hide ok4
      have A4 := hide (A3.out.keep k4 (fun h => h))
      have K4 := hide (K3.out.trans k4)
      clear k4 a4 ok4 LG2 A3
      go_wp2_with fail
      refine (save_md q' m' OB.out _ B4.out (HT.out.keep K4.out)).mono ?_
      rintro e w5 ⟨rfl, k5⟩
      have A5 := hide (A4.out.keep k5 (fun h => h))
      have B5 := hide (B4.out.keep k5 (fun h => h))
      have K5 := hide (K4.out.trans k5)
      clear k5 A4 B4
      rw [AM.out.save]
      have C1 := hide (wcount_any q _ _ _ _ _ _ w5 A5.out)
      have C2 := hide (wcount_any q' _ _ _ _ _ _ w5 B5.out)
      rw [AM.out.count] at C2
      generalize ((countP m.g.S : Nat) : Int) = cn at *
      have G1 := hide (fun wx hx => get_md q m OK2.out X Y HX.out HY.out wx hx)
      have G2 := hide (fun wx hx => get_md q' m' OB.out X Y HX.out HY.out wx hx)
      rw [AM.out.get] at G2
      generalize getM m X Y = sv0 at *
      generalize saveM m = tx at *
      go_wp2_with fail
      refine C1.out.mono ?_
      rintro e w6 ⟨rfl, hw⟩
      subst w6
      go_wp2_with fail
      refine C2.out.mono ?_
      rintro e w6 ⟨rfl, hw⟩
      subst w6
      go_wp2_with fail
      refine (G1.out _ A5.out).mono ?_
      rintro e w6 ⟨rfl, k6⟩
      have B6 := hide (B5.out.keep k6 (fun h => h))
      have K6 := hide (K5.out.trans k6)
      clear k6
      go_wp2_with fail
      refine (G2.out _ B6.out).mono ?_
      rintro e w7 ⟨rfl, k7⟩
      have K7 := hide (K6.out.trans k7)
      clear k7
      go_wp2_with fail
      go_ret
      exact ⟨by simp, K7.out⟩
  · rw [decide_eq_false h0] at LF
    clear h0 LL
    go_enter Tryd.func4, Tryd.ntmps4
    go_wp2_with fail
    refine (LR.out _).mono ?_
    rintro e w1 ⟨rfl, k1⟩
    have K1 := hide k1
    clear k1
    go_wp2_with fail
    refine (LF.out _).mono ?_
    rintro e w2 ⟨rfl, hw⟩
    subst w2
    go_wp2_with fail
    go_ret
    exact ⟨rfl, K1.out⟩
end Go.Proofs.YtbdbkjngdhcjpaaDoor
namespace Go.Proofs.YtbdbkjngdhcjpaaDoor
open Go.RowKit
open Go.Proofs
theorem Kp.below {w w' : World} (h : Kp (fun _ => False) w w') : Below w.heap.size w w' := ⟨h.os, h.tape, h.output, h.size, fun k hk => h.block k hk (fun x => x)⟩
end Go.Proofs.YtbdbkjngdhcjpaaDoor
