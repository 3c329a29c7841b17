import Derived.Test.YtiimimclbkjcbaaM7
import Derived.Test.YtiimimclbkjcbaaGj
import Derived.Test.YtiimimclbkjcbaaM6
namespace Go.Proofs.Ytiimimclbkjcbaa
open Go.RowKit
open Go.Proofs

set_option maxRecDepth 100000 in
set_option maxHeartbeats 1000000 in
theorem load_one (S : List Int) (hS : S.length = 768) (hbu : ∀ (r : Pu.Rule), RuleOk r → ∀ (x : Pu.Shape) (age : Int), Try.prog.built 63 [(0, .agg (rulev r)), (1, .agg (shv x)), (2, .int .i64 age)] = some (grv (preOf r x age) 0 0 0 0 S))
    (hnew : ∀ gw gh w, Calls Try.prog 43 #[.int .i64 gw, .int .i64 gh] w fun e w' => e = .returned (.agg (gnew gw gh S)) ∧ Kp (fun _ => False) w w')
    (s : ByteArray) (w : World) (hs : s.size ≤ 400) (j : Nat) (p : Pu.Parts) (hq : Hid (Pu.read (src s) = (j, some p))) (n st : Int) (hru : p.runs = [⟨n, st, false⟩]) (hst : ¬ st = 0) (htw : Two p.shape) :
    Calls Try.prog 27 #[.string s] w fun e w' => (∃ q, e = .returned (.tuple #[.pointer (some ⟨q, 0, none⟩), .int .i64 0, .int .i64 0]) ∧ RuleOk p.rule ∧ GrAt w' q (preOf p.rule p.shape p.age) p.shape.w p.shape.h 0 0 (runS p.shape S p.col p.row st n.toNat)) ∧ Kp (fun _ => False) w w' := by
  have HS := hide hS
  have HB := hide hbu
  have HN := hide hnew
  have POK := hide (Pu.read_inv hq.out)
  clear hS hbu hnew
  go_enter Try.func27, Try.ntmps27
  go_wp2_with fail
  refine (read_any s _ hs j (some p) hq).mono ?_
  rintro e w1 ⟨⟨r, x, age, col, row, v, acc, rfl, rok, own, hp⟩, k1⟩
  have HP := hide (hp p rfl)
  have K1 := hide k1
  have ROK := hide rok
  have OWN := hide own
  have VO := hide (own_one own)
  obtain ⟨bb, hbb⟩ := rulev_births rok
  have BB := hide hbb
  clear k1 rok own hp hbb
  go_wp2_with (first
    | (refine wpList_store_row_g rfl 76 _ _ rfl w1.heap.size (ptv r x age col row v) rfl rfl 76 (ptv zrule zsh 0 0 0 (.slice none 0 0)) (heap_alloc_new _ _) (by rw [info_parts, ptv_size ROK.out]) ((ptv_size zrule_ok _ _ _ _ _).trans (ptv_size ROK.out _ _ _ _ _).symm) (ptv_one ROK.out _ _ _ _ VO.out) ?_
       intro w2 hw2
       have K2 : Hid (Kp (fun _ => False) w w2) := by rw [hw2]; exact (K1.out.alloc _).setRowNew K1.out.size _
       have P2 : Hid (PtAt w2 w1.heap.size r x age col row v) := ⟨by rw [hw2]; exact setRow_heap _ _ _ _ _ _ (heap_alloc_new _ _), ROK.out⟩
       have KK : Kp (fun _ => False) w1 w2 := by rw [hw2]; exact ((Kp.refl _ _).alloc _).setRowNew (Nat.le_refl _) _
       have O2 := hide (own_keep OWN.out KK (by intro g hg hx; exact hx))
       have LS2 := hide (fun j u hu => (cell_of_row w2 w1.heap.size (20 + j) _ _ _ P2.out.row).trans (ptv_shape ROK.out x age col row v j u hu))
       clear hw2 KK)
    | (refine wpList_load_at rfl 58 _ rfl w1.heap.size 20 rfl (shv x) LS2.out _ Try.underlying58 rfl info_shape ?_))
  have HEN := hide (fun wx => endless_any x wx)
  have hpp := HP.out
  subst hpp
  simp only at hru htw
  have he : ¬ (x.w = 0 ∨ x.h = 0) := by have := htw.1; have := htw.2.2.1; omega
  have HRU := hide hru
  have HTW := hide htw
  have HST := hide hst
  clear hru htw hst
  rw [decide_eq_false he] at HEN
  refine (HEN.out _).mono ?_
  rintro e w3 ⟨rfl, k3⟩
  have P3 := hide (P2.out.keep k3 (fun hx => hx))
  have O3 := hide (own_keep O2.out k3 (by intro g hg hx; exact hx))
  have K3 := hide (K2.out.trans k3)
  have LS := hide (fun j u hu => (cell_of_row w3 w1.heap.size (20 + j) _ _ _ P3.out.row).trans (ptv_shape ROK.out x age col row v j u hu))
  have LR := hide (fun j u hu => (cell_of_row w3 w1.heap.size (0 + j) _ _ _ P3.out.row).trans (ptv_rule ROK.out x age col row v j u hu))
  have c27 : w3.cell? ⟨w1.heap.size, 27, none⟩ = some (.int .i64 age) := P3.out.cell 0
  clear k3 HEN
  go_wp2_with (first
    | (refine wpList_load_at rfl 56 _ rfl w1.heap.size 0 rfl (rulev r) LR.out _ Try.underlying56 rfl (by rw [info_rule, rulev_size ROK.out]) ?_)
    | (refine wpList_load_at rfl 58 _ rfl w1.heap.size 20 rfl (shv x) LS.out _ Try.underlying58 rfl info_shape ?_)
    | (refine wpList_build3 rfl 63 _ _ _ _ _ _ rfl (.agg (rulev r)) (.agg (shv x)) (.int .i64 age) rfl rfl rfl (grv (preOf r x age) 0 0 0 0 S) (HB.out r ROK.out x age) ?_)
    | (refine wpList_box_row rfl 63 _ rfl (grv (preOf r x age) 0 0 0 0 S) rfl ?_
       intro w4 hw4
       have KK : Kp (fun _ => False) w3 w4 := by rw [hw4]; exact (Kp.refl _ _).alloc _
       have Q4 : Hid (w4.heap[w3.heap.size]? = some (.cells (grv (preOf r x age) 0 0 0 0 S) 63 (0, 0))) := by rw [hw4]; exact heap_alloc_new _ _
       have P4 := hide (P3.out.keep KK (fun hx => hx))
       have O4 := hide (own_keep O3.out KK (by intro g hg hx; exact hx))
       have K4 := hide (K3.out.trans KK)
       have d1 : w4.cell? ⟨w1.heap.size, 21, none⟩ = some (.int .i64 x.w) := by rw [cell_of_row _ _ _ _ _ _ P4.out.row]; exact ptv_shape ROK.out x age col row v 1 _ rfl
       have d2 : w4.cell? ⟨w1.heap.size, 22, none⟩ = some (.int .i64 x.h) := by rw [cell_of_row _ _ _ _ _ _ P4.out.row]; exact ptv_shape ROK.out x age col row v 2 _ rfl
       clear hw4 KK))
  refine (HN.out x.w x.h _).mono ?_
  rintro e w5 ⟨rfl, k5⟩
  have Q5 := hide (k5.row Q4.out (fun hx => hx))
  have P5 := hide (P4.out.keep k5 (fun hx => hx))
  have O5 := hide (own_keep O4.out k5 (by intro g hg hx; exact hx))
  have K5 := hide (K4.out.trans k5)
  have lq : w1.heap.size < w3.heap.size := P3.out.lt
  have lw : w.heap.size ≤ w1.heap.size := K1.out.size
  have psz := preOf_size ROK.out x age
  have PS := hide psz
  clear k5 d1 d2 c27 psz
  go_wp2_with (first
    | (refine wpList_store_at_g rfl 61 _ _ rfl w3.heap.size 28 (gnew x.w x.h S) rfl rfl 63 _ Q5.out (by rw [info_grid, gnew_size _ _ HS.out]) (by rw [gnew_size _ _ HS.out, grv_size PS.out _ _ _ _ _ HS.out]; omega) (gnew_one _ _ _) ?_
       intro w6 hw6
       have G6 : Hid (GrAt w6 w3.heap.size (preOf r x age) x.w x.h 0 0 S) := ⟨by rw [hw6, putCells_row _ _ _ _ _ _ Q5.out, put_grid PS.out x.w x.h HS.out], PS.out, HS.out⟩
       have P6 : Hid (PtAt w6 w1.heap.size r x age col row v) := ⟨by rw [hw6]; exact (putCells_other _ _ _ _ _ (by omega)).trans P5.out.row, ROK.out⟩
       have O6 : Hid (w6.ownsRow w.heap.size 94 3 v acc.length (runsv acc)) := by rw [hw6]; exact own_put O5.out Q5.out _ _
       have K6 : Hid (Kp (fun _ => False) w w6) := by rw [hw6]; exact putCells_new _ _ _ K5.out (by omega)
       clear hw6)
    | (refine wpList_load_row rfl 76 _ rfl w1.heap.size rfl 76 (ptv r x age col row v) (0, 0) _ P6.out.row Try.underlying76 rfl (by rw [info_parts, ptv_size ROK.out]) ?_))
  have pk := POK.out
  have LAY : Hid (Calls Try.prog 44 #[.pointer (some ⟨w3.heap.size, 0, none⟩), .agg (ptv r x age col row v)] w6 fun e w' => e = .returned (.bool true) ∧ GrAt w' w3.heap.size (preOf r x age) x.w x.h 0 0 (runS x S col row st n.toNat) ∧ Kp (· = w3.heap.size) w6 w') := by
    have hru := HRU.out
    subst hru
    have rk := pk.runs ⟨n, st, false⟩ (by simp)
    rcases O6.out.2 with ⟨rfl, hn0⟩ | ⟨g, cap, cur, rfl, _, hg, _, _, _, htk⟩
    · simp at hn0
    · refine lay_one w3.heap.size g cap r x age col row n st S w6 G6.out ROK.out HTW.out ⟨cur, hg, htk⟩ ?_ ⟨rk.1, rk.2.1⟩ HST.out pk.col pk.row
      intro e
      have := G6.out.row
      rw [← e, hg] at this
      simp at this
  clear pk
  refine LAY.out.mono ?_
  clear LAY
  rintro e w7 ⟨rfl, g7, k7⟩
  have G7 := hide g7
  have K7 := hide (K6.out.tr k7 (by intro z hz1 hz2; omega))
  clear k7 g7
  go_wp2_with fail
  go_ret3
  exact ⟨⟨_, rfl, ROK.out, G7.out⟩, K7.out⟩
end Go.Proofs.Ytiimimclbkjcbaa
namespace Go.Proofs.Ytiimimclbkjcbaa
open Go.RowKit
open Go.Proofs

theorem zero_grid : (Try.prog.info? 61).map (·.zero) = some (some (.agg (gnew 0 0 noS))) := by kernel_rfl
theorem built_grid (gw gh : Int) : Try.prog.built 61 [(0, .int .i64 gw), (1, .int .i64 gh)] = some (gnew gw gh noS) := by kernel_rfl

theorem new_any (gw gh : Int) (w : World) : Calls Try.prog 43 #[.int .i64 gw, .int .i64 gh] w fun e w' => e = .returned (.agg (gnew gw gh noS)) ∧ Kp (fun _ => False) w w' :=
  new_core noS noS_len zero_grid gw gh (built_grid gw gh) w
end Go.Proofs.Ytiimimclbkjcbaa
namespace Go.Proofs.Ytiimimclbkjcbaa
open Go.RowKit
open Go.Proofs

theorem built_world9 (a c age : Int) (x : Pu.Shape) (b0 b1 b2 b3 b4 b5 b6 b7 b8 s0 s1 s2 s3 s4 s5 s6 s7 s8 : Bool) :
    Try.prog.built 63 [(0, .agg (rulev ⟨a, [b0, b1, b2, b3, b4, b5, b6, b7, b8], [s0, s1, s2, s3, s4, s5, s6, s7, s8], c⟩)), (1, .agg (shv x)), (2, .int .i64 age)] =
      some (grv (preOf ⟨a, [b0, b1, b2, b3, b4, b5, b6, b7, b8], [s0, s1, s2, s3, s4, s5, s6, s7, s8], c⟩ x age) 0 0 0 0 noS) := by kernel_rfl
theorem built_world (r : Pu.Rule) (hr : RuleOk r) (x : Pu.Shape) (age : Int) : Try.prog.built 63 [(0, .agg (rulev r)), (1, .agg (shv x)), (2, .int .i64 age)] = some (grv (preOf r x age) 0 0 0 0 noS) := by
  obtain ⟨a, l, m, c⟩ := r
  obtain ⟨b0, b1, b2, b3, b4, b5, b6, b7, b8, e1⟩ := nine l hr.1
  obtain ⟨s0, s1, s2, s3, s4, s5, s6, s7, s8, e2⟩ := nine m hr.2
  subst e1
  subst e2
  exact built_world9 a c age x b0 b1 b2 b3 b4 b5 b6 b7 b8 s0 s1 s2 s3 s4 s5 s6 s7 s8
end Go.Proofs.Ytiimimclbkjcbaa
namespace Go.Proofs.Ytiimimclbkjcbaa
open Go.RowKit
open Go.Proofs

theorem load_ok (s : ByteArray) (w : World) (hs : s.size ≤ 400) (j : Nat) (p : Pu.Parts) (hq : Hid (Pu.read (src s) = (j, some p))) :
    Calls Try.prog 27 #[.string s] w fun e w' => (∃ u c, e = .returned (.tuple #[u, .int .i64 0, .int .i64 c]) ∧ (c = 0 ∨ c = 3 ∨ c = 4)) ∧ Kp (fun _ => False) w w' :=
  load_some noS noS_len built_world new_any s w hs j p hq

/-- Load of a text that is too long. -/
theorem Load_long (s : ByteArray) (w : World) (hs : 400 < s.size) (hm : s.size ≤ maxLen) :
    Calls Try.prog 14 #[.string s] w fun e w' => e = .returned (.tuple #[.pointer none, .int .i64 0, .int .i64 1]) ∧ w' = w := by
  unfold maxLen at hm
  go_enter Try.func14, Try.ntmps14
  go_wp2_with fail
  go_ret3
  exact ⟨rfl, rfl⟩

/-- Load of what is no text: the place is where the reader stands. -/
theorem Load_none (s : ByteArray) (w : World) (hs : s.size ≤ 400) (j : Nat) (hq : Hid (Pu.read (src s) = (j, none))) :
    Calls Try.prog 14 #[.string s] w fun e w' => e = .returned (.tuple #[.pointer none, .int .i64 j, .int .i64 2]) ∧ Kp (fun _ => False) w w' := by
  go_enter Try.func14, Try.ntmps14
  go_wp2_with fail
  refine (load_none s _ hs j hq).mono ?_
  rintro e w1 ⟨rfl, k1⟩
  go_wp2_with fail
  go_ret3
  exact ⟨rfl, k1⟩

/-- Load of a text: it is not ErrText and not ErrLong. -/
theorem Load_some (s : ByteArray) (w : World) (hs : s.size ≤ 400) (j : Nat) (p : Pu.Parts) (hq : Hid (Pu.read (src s) = (j, some p))) :
    Calls Try.prog 14 #[.string s] w fun e w' => (∃ u c, e = .returned (.tuple #[u, .int .i64 0, .int .i64 c]) ∧ (c = 0 ∨ c = 3 ∨ c = 4)) ∧ Kp (fun _ => False) w w' := by
  go_enter Try.func14, Try.ntmps14
  go_wp2_with fail
  refine (load_ok s _ hs j p hq).mono ?_
  rintro e w1 ⟨⟨u, c, rfl, hc⟩, k1⟩
  have HC := hide hc
  clear hc
  go_wp2_with fail
  go_ret3
  exact ⟨⟨u, c, rfl, HC.out⟩, k1⟩
end Go.Proofs.Ytiimimclbkjcbaa
namespace Go.Proofs.Ytiimimclbkjcbaa
open Go.RowKit
open Go.Proofs

/-- 'lay' of no run at all. -/
theorem lay_zero (q cap : Nat) (ad : Option Addr) (r : Pu.Rule) (x : Pu.Shape) (age col row : Int) (S : List Int) (w : World) (h : GrAt w q (preOf r x age) x.w x.h 0 0 S) (hr : RuleOk r) :
    Calls Try.prog 44 #[.pointer (some ⟨q, 0, none⟩), .agg (ptv r x age col row (.slice ad 0 cap))] w fun e w' => e = .returned (.bool true) ∧ GrAt w' q (preOf r x age) x.w x.h 0 0 S ∧ Kp (· = q) w w' := by
  have H := hide h
  have HR := hide hr
  clear h hr
  go_enter Try.func44, Try.ntmps44
  go_wp2_with (refine wpList_box_row rfl 76 _ rfl (ptv r x age col row (.slice ad 0 cap)) rfl ?_
               intro w1 hw1
               have P1 : Hid (PtAt w1 w.heap.size r x age col row (.slice ad 0 cap)) := ⟨by rw [hw1]; exact heap_alloc_new _ _, HR.out⟩
               have G1 : Hid (GrAt w1 q (preOf r x age) x.w x.h 0 0 S) := by rw [hw1]; exact H.out.alloc _
               have K1 : Hid (Kp (· = q) w w1) := by rw [hw1]; exact (Kp.refl _ _).alloc _
               have c1 : w1.cell? ⟨w.heap.size, 28, none⟩ = some (.int .i64 col) := P1.out.cell 1
               have c2 : w1.cell? ⟨w.heap.size, 29, none⟩ = some (.int .i64 row) := P1.out.cell 2
               have c3 : w1.cell? ⟨w.heap.size, 30, none⟩ = some (.slice ad 0 cap) := P1.out.cell 3
               clear hw1)
  go_loopg [5, 6, 7] 0 (fun gk a b i wr => a = .int .i64 col ∧ b = .int .i64 row ∧ i = .int .i64 0 ∧ wr = w1)
  case atStart => exact ⟨rfl, rfl, rfl, rfl⟩
  case round =>
    obtain ⟨rfl, rfl, rfl, rfl⟩ := hrel
    go_wp2_with fail
    go_ret
    exact ⟨rfl, G1.out, K1.out⟩

set_option maxRecDepth 100000 in
set_option maxHeartbeats 1000000 in
theorem load_two (S : List Int) (hS : S.length = 768) (hbu : ∀ (r : Pu.Rule), RuleOk r → ∀ (x : Pu.Shape) (age : Int), Try.prog.built 63 [(0, .agg (rulev r)), (1, .agg (shv x)), (2, .int .i64 age)] = some (grv (preOf r x age) 0 0 0 0 S))
    (hnew : ∀ gw gh w, Calls Try.prog 43 #[.int .i64 gw, .int .i64 gh] w fun e w' => e = .returned (.agg (gnew gw gh S)) ∧ Kp (fun _ => False) w w')
    (s : ByteArray) (w : World) (hs : s.size ≤ 400) (j : Nat) (p : Pu.Parts) (hq : Hid (Pu.read (src s) = (j, some p))) (htw : Two p.shape) (S' : List Int)
    (hlay : ∀ (base : Nat) (w6 : World) (q : Nat) (v : Value), GrAt w6 q (preOf p.rule p.shape p.age) p.shape.w p.shape.h 0 0 S → RuleOk p.rule → w6.ownsRow base 94 3 v p.runs.length (runsv p.runs) →
      Calls Try.prog 44 #[.pointer (some ⟨q, 0, none⟩), .agg (ptv p.rule p.shape p.age p.col p.row v)] w6 fun e w' => e = .returned (.bool true) ∧ GrAt w' q (preOf p.rule p.shape p.age) p.shape.w p.shape.h 0 0 S' ∧ Kp (· = q) w6 w') :
    Calls Try.prog 27 #[.string s] w fun e w' => (∃ q, e = .returned (.tuple #[.pointer (some ⟨q, 0, none⟩), .int .i64 0, .int .i64 0]) ∧ w.heap.size ≤ q ∧ RuleOk p.rule ∧ GrAt w' q (preOf p.rule p.shape p.age) p.shape.w p.shape.h 0 0 S') ∧ Kp (fun _ => False) w w' := by
  have HS := hide hS
  have HB := hide hbu
  have HN := hide hnew
  have HLAY := hide hlay
  clear hS hbu hnew hlay
  go_enter Try.func27, Try.ntmps27
  go_wp2_with fail
  refine (read_any s _ hs j (some p) hq).mono ?_
  rintro e w1 ⟨⟨r, x, age, col, row, v, acc, rfl, rok, own, hp⟩, k1⟩
  have HP := hide (hp p rfl)
  have K1 := hide k1
  have ROK := hide rok
  have OWN := hide own
  have VO := hide (own_one own)
  obtain ⟨bb, hbb⟩ := rulev_births rok
  have BB := hide hbb
  clear k1 rok own hp hbb
  go_wp2_with (first
    | (refine wpList_store_row_g rfl 76 _ _ rfl w1.heap.size (ptv r x age col row v) rfl rfl 76 (ptv zrule zsh 0 0 0 (.slice none 0 0)) (heap_alloc_new _ _) (by rw [info_parts, ptv_size ROK.out]) ((ptv_size zrule_ok _ _ _ _ _).trans (ptv_size ROK.out _ _ _ _ _).symm) (ptv_one ROK.out _ _ _ _ VO.out) ?_
       intro w2 hw2
       have K2 : Hid (Kp (fun _ => False) w w2) := by rw [hw2]; exact (K1.out.alloc _).setRowNew K1.out.size _
       have P2 : Hid (PtAt w2 w1.heap.size r x age col row v) := ⟨by rw [hw2]; exact setRow_heap _ _ _ _ _ _ (heap_alloc_new _ _), ROK.out⟩
       have KK : Kp (fun _ => False) w1 w2 := by rw [hw2]; exact ((Kp.refl _ _).alloc _).setRowNew (Nat.le_refl _) _
       have O2 := hide (own_keep OWN.out KK (by intro g hg hx; exact hx))
       have LS2 := hide (fun j u hu => (cell_of_row w2 w1.heap.size (20 + j) _ _ _ P2.out.row).trans (ptv_shape ROK.out x age col row v j u hu))
       clear hw2 KK)
    | (refine wpList_load_at rfl 58 _ rfl w1.heap.size 20 rfl (shv x) LS2.out _ Try.underlying58 rfl info_shape ?_))
  have HEN := hide (fun wx => endless_any x wx)
  have hpp := HP.out
  subst hpp
  simp only at htw
  have he : ¬ (x.w = 0 ∨ x.h = 0) := by have := htw.1; have := htw.2.2.1; omega
  clear htw
  rw [decide_eq_false he] at HEN
  refine (HEN.out _).mono ?_
  rintro e w3 ⟨rfl, k3⟩
  have P3 := hide (P2.out.keep k3 (fun hx => hx))
  have O3 := hide (own_keep O2.out k3 (by intro g hg hx; exact hx))
  have K3 := hide (K2.out.trans k3)
  have LS := hide (fun j u hu => (cell_of_row w3 w1.heap.size (20 + j) _ _ _ P3.out.row).trans (ptv_shape ROK.out x age col row v j u hu))
  have LR := hide (fun j u hu => (cell_of_row w3 w1.heap.size (0 + j) _ _ _ P3.out.row).trans (ptv_rule ROK.out x age col row v j u hu))
  have c27 : w3.cell? ⟨w1.heap.size, 27, none⟩ = some (.int .i64 age) := P3.out.cell 0
  clear k3 HEN
  go_wp2_with (first
    | (refine wpList_load_at rfl 56 _ rfl w1.heap.size 0 rfl (rulev r) LR.out _ Try.underlying56 rfl (by rw [info_rule, rulev_size ROK.out]) ?_)
    | (refine wpList_load_at rfl 58 _ rfl w1.heap.size 20 rfl (shv x) LS.out _ Try.underlying58 rfl info_shape ?_)
    | (refine wpList_build3 rfl 63 _ _ _ _ _ _ rfl (.agg (rulev r)) (.agg (shv x)) (.int .i64 age) rfl rfl rfl (grv (preOf r x age) 0 0 0 0 S) (HB.out r ROK.out x age) ?_)
    | (refine wpList_box_row rfl 63 _ rfl (grv (preOf r x age) 0 0 0 0 S) rfl ?_
       intro w4 hw4
       have KK : Kp (fun _ => False) w3 w4 := by rw [hw4]; exact (Kp.refl _ _).alloc _
       have Q4 : Hid (w4.heap[w3.heap.size]? = some (.cells (grv (preOf r x age) 0 0 0 0 S) 63 (0, 0))) := by rw [hw4]; exact heap_alloc_new _ _
       have P4 := hide (P3.out.keep KK (fun hx => hx))
       have O4 := hide (own_keep O3.out KK (by intro g hg hx; exact hx))
       have K4 := hide (K3.out.trans KK)
       have d1 : w4.cell? ⟨w1.heap.size, 21, none⟩ = some (.int .i64 x.w) := by rw [cell_of_row _ _ _ _ _ _ P4.out.row]; exact ptv_shape ROK.out x age col row v 1 _ rfl
       have d2 : w4.cell? ⟨w1.heap.size, 22, none⟩ = some (.int .i64 x.h) := by rw [cell_of_row _ _ _ _ _ _ P4.out.row]; exact ptv_shape ROK.out x age col row v 2 _ rfl
       clear hw4 KK))
  refine (HN.out x.w x.h _).mono ?_
  rintro e w5 ⟨rfl, k5⟩
  have Q5 := hide (k5.row Q4.out (fun hx => hx))
  have P5 := hide (P4.out.keep k5 (fun hx => hx))
  have O5 := hide (own_keep O4.out k5 (by intro g hg hx; exact hx))
  have K5 := hide (K4.out.trans k5)
  have lq : w1.heap.size < w3.heap.size := P3.out.lt
  have lw : w.heap.size ≤ w1.heap.size := K1.out.size
  have psz := preOf_size ROK.out x age
  have PS := hide psz
  clear k5 d1 d2 c27 psz
  go_wp2_with (first
    | (refine wpList_store_at_g rfl 61 _ _ rfl w3.heap.size 28 (gnew x.w x.h S) rfl rfl 63 _ Q5.out (by rw [info_grid, gnew_size _ _ HS.out]) (by rw [gnew_size _ _ HS.out, grv_size PS.out _ _ _ _ _ HS.out]; omega) (gnew_one _ _ _) ?_
       intro w6 hw6
       have G6 : Hid (GrAt w6 w3.heap.size (preOf r x age) x.w x.h 0 0 S) := ⟨by rw [hw6, putCells_row _ _ _ _ _ _ Q5.out, put_grid PS.out x.w x.h HS.out], PS.out, HS.out⟩
       have P6 : Hid (PtAt w6 w1.heap.size r x age col row v) := ⟨by rw [hw6]; exact (putCells_other _ _ _ _ _ (by omega)).trans P5.out.row, ROK.out⟩
       have O6 : Hid (w6.ownsRow w.heap.size 94 3 v acc.length (runsv acc)) := by rw [hw6]; exact own_put O5.out Q5.out _ _
       have K6 : Hid (Kp (fun _ => False) w w6) := by rw [hw6]; exact putCells_new _ _ _ K5.out (by omega)
       clear hw6)
    | (refine wpList_load_row rfl 76 _ rfl w1.heap.size rfl 76 (ptv r x age col row v) (0, 0) _ P6.out.row Try.underlying76 rfl (by rw [info_parts, ptv_size ROK.out]) ?_))
  have LAY := hide (HLAY.out w.heap.size w6 w3.heap.size v G6.out ROK.out O6.out)
  refine LAY.out.mono ?_
  clear LAY
  rintro e w7 ⟨rfl, g7, k7⟩
  have G7 := hide g7
  have K7 := hide (K6.out.tr k7 (by intro z hz1 hz2; omega))
  clear k7 g7
  go_wp2_with fail
  go_ret3
  exact ⟨⟨_, rfl, by omega, ROK.out, G7.out⟩, K7.out⟩

theorem load_plain (s : ByteArray) (w : World) (hs : s.size ≤ 400) (j : Nat) (p : Pu.Parts) (hq : Hid (Pu.read (src s) = (j, some p))) (htw : Two p.shape) (hr0 : p.runs = []) :
    Calls Try.prog 27 #[.string s] w fun e w' => (∃ q, e = .returned (.tuple #[.pointer (some ⟨q, 0, none⟩), .int .i64 0, .int .i64 0]) ∧ w.heap.size ≤ q ∧ RuleOk p.rule ∧ GrAt w' q (preOf p.rule p.shape p.age) p.shape.w p.shape.h 0 0 noS) ∧ Kp (fun _ => False) w w' := by
  refine load_two noS noS_len built_world new_any s w hs j p hq htw noS ?_
  intro base w6 q v g rk own
  rw [hr0] at own
  rcases own.2 with ⟨rfl, _⟩ | ⟨g', cap, cur, rfl, _, _, _, _, _, _⟩
  · exact lay_zero q 0 none p.rule p.shape p.age p.col p.row noS w6 g rk
  · exact lay_zero q cap _ p.rule p.shape p.age p.col p.row noS w6 g rk

theorem Load_plain (s : ByteArray) (w : World) (hs : s.size ≤ 400) (j : Nat) (p : Pu.Parts) (hq : Hid (Pu.read (src s) = (j, some p))) (htw : Two p.shape) (hr0 : p.runs = []) :
    Calls Try.prog 14 #[.string s] w fun e w' => (∃ q, e = .returned (.tuple #[.pointer (some ⟨q, 0, none⟩), .int .i64 0, .int .i64 0]) ∧ w.heap.size ≤ q ∧ RuleOk p.rule ∧ GrAt w' q (preOf p.rule p.shape p.age) p.shape.w p.shape.h 0 0 noS) ∧ Kp (fun _ => False) w w' := by
  have HL := hide (fun wx => load_plain s wx hs j p hq htw hr0)
  clear hq htw hr0
  go_enter Try.func14, Try.ntmps14
  go_wp2_with fail
  refine (HL.out _).mono ?_
  rintro e w1 ⟨⟨q, rfl, hq0, rk, g1⟩, k1⟩
  have G1 := hide g1
  have K1 := hide k1
  have RK := hide rk
  clear g1 k1 rk
  go_wp2_with fail
  go_ret3
  exact ⟨⟨q, rfl, hq0, RK.out, G1.out⟩, K1.out⟩
end Go.Proofs.Ytiimimclbkjcbaa
