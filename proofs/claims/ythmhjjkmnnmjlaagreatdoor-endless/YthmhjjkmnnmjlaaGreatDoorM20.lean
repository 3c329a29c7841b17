import Derived.Test.YthmhjjkmnnmjlaaGreatDoorTb
import Derived.Test.YthmhjjkmnnmjlaaGreatDoorM19
import Derived.Test.YthmhjjkmnnmjlaaGreatDoorM16
import Derived.Test.YthmhjjkmnnmjlaaGreatDoorM12
namespace Go.Proofs.YthmhjjkmnnmjlaaGreatDoor
open Go.RowKit
open Go.Proofs

/-- The grid that a text's parts make. -/
def laidG (p : Pu.Parts) (S : List Int) : Bool × Gs := layG p.shape p.col p.runs p.col p.row ⟨0, 0, S⟩
/-- What Load answers of a right text. -/
def loadE (p : Pu.Parts) (S : List Int) : Int := if (p.shape.w = 0 ∨ p.shape.h = 0) ∧ p.rule.births.getD 0 false = true then 3 else if (laidG p S).1 = true then 0 else 4
theorem loadE_birth {p : Pu.Parts} {S : List Int} (h1 : p.shape.w = 0 ∨ p.shape.h = 0) (h2 : p.rule.births.getD 0 false = true) : loadE p S = 3 := if_pos ⟨h1, h2⟩
theorem loadE_lay {p : Pu.Parts} {S : List Int} (h : ¬ ((p.shape.w = 0 ∨ p.shape.h = 0) ∧ p.rule.births.getD 0 false = true)) : loadE p S = if (laidG p S).1 = true then 0 else 4 := if_neg h
structure Loaded (w w' : World) (p : Pu.Parts) (S : List Int) (u : Value) : Prop where
  bad : loadE p S ≠ 0 → u = .pointer none
  good : loadE p S = 0 → ∃ q, u = .pointer (some ⟨q, 0, none⟩) ∧ w.heap.size ≤ q ∧ RuleOk p.rule ∧ GsAt w' q (preOf p.rule p.shape p.age) p.shape.w p.shape.h (laidG p S).2
theorem births0 {r : Pu.Rule} (h : RuleOk r) {b : Bool} (hb : (rulev r)[1]? = some (.bool b)) : r.births.getD 0 false = b := by
  have e := (rule_at h 0 (by omega)).1
  rw [Nat.add_zero, hb] at e
  simp at e
  exact e.symm

/-- 'lay' of no run at all. -/
theorem lay_none0 (q cap : Nat) (ad : Option Addr) (r : Pu.Rule) (x : Pu.Shape) (age col row : Int) (S : List Int) (w : World) (h : GrAt w q (preOf r x age) x.w x.h 0 0 S) (hr : RuleOk r) :
    Calls Tryz.prog 53 #[.pointer (some ⟨q, 0, none⟩), .agg (ptv r x age col row (.slice ad 0 cap))] w fun e w' => e = .returned (.bool true) ∧ GrAt w' q (preOf r x age) x.w x.h 0 0 S ∧ Kp (· = q) w w' := by
  have H := hide h
  have HR := hide hr
  clear h hr
  go_enter Tryz.func53, Tryz.ntmps53
  go_wp2_with (refine wpList_box_row rfl 93 _ rfl (ptv r x age col row (.slice ad 0 cap)) rfl ?_
               intro w1 hw1
               have P1 : Hid (PtAt w1 w.heap.size r x age col row (.slice ad 0 cap)) := ⟨by rw [hw1]; exact heap_alloc_new _ _, HR.out⟩
               have G1 : Hid (GrAt w1 q (preOf r x age) x.w x.h 0 0 S) := by rw [hw1]; exact H.out.alloc _
               have K1 : Hid (Kp (· = q) w w1) := by rw [hw1]; exact (Kp.refl _ _).alloc _
               have c1 : w1.cell? ⟨w.heap.size, 28, none⟩ = some (.int .i64 col) := P1.out.cell 1
               have c2 : w1.cell? ⟨w.heap.size, 29, none⟩ = some (.int .i64 row) := P1.out.cell 2
               have c3 : w1.cell? ⟨w.heap.size, 30, none⟩ = some (.slice ad 0 cap) := P1.out.cell 3
               clear hw1)
  go_loopg [5, 6, 7] 0 (fun gk a b i wr => a = .int .i64 col ∧ b = .int .i64 row ∧ i = .int .i64 0 ∧ wr = w1)
  case atStart => exact ⟨rfl, rfl, rfl, rfl⟩
  case round =>
    obtain ⟨rfl, rfl, rfl, rfl⟩ := hrel
    go_wp2_with fail
    go_ret
    exact ⟨rfl, G1.out, K1.out⟩

theorem lay_empty (q cap : Nat) (ad : Option Addr) (r : Pu.Rule) (x : Pu.Shape) (age col row : Int) (S : List Int) (w : World) (h : GrAt w q (preOf r x age) x.w x.h 0 0 S) (hr : RuleOk r) :
    Calls Tryz.prog 53 #[.pointer (some ⟨q, 0, none⟩), .agg (ptv r x age col row (.slice ad 0 cap))] w fun e w' => e = .returned (.bool (layG x col [] col row ⟨0, 0, S⟩).1) ∧ GsAt w' q (preOf r x age) x.w x.h (layG x col [] col row ⟨0, 0, S⟩).2 ∧ Kp (· = q) w w' :=
  lay_none0 q cap ad r x age col row S w h hr

set_option maxRecDepth 100000 in
set_option maxHeartbeats 1000000 in
theorem load_gen (S : List Int) (hS : S.length = 768) (hS0 : ∀ k, S.getD k 0 = 0) (hbu : ∀ (r : Pu.Rule), RuleOk r → ∀ (x : Pu.Shape) (age : Int), Tryz.prog.built 70 [(0, .agg (rulev r)), (1, .agg (shv x)), (2, .int .i64 age)] = some (grv (preOf r x age) 0 0 0 0 S))
    (hnew : ∀ gw gh w, Calls Tryz.prog 52 #[.int .i64 gw, .int .i64 gh] w fun e w' => e = .returned (.agg (gnew gw gh S)) ∧ Kp (fun _ => False) w w')
    (s : ByteArray) (w : World) (hs : s.size ≤ 400) (j : Nat) (p : Pu.Parts) (hq : Hid (Pu.read (src s) = (j, some p))) :
    Calls Tryz.prog 28 #[.string s] w fun e w' => (∃ u, e = .returned (.tuple #[u, .int .i64 0, .int .i64 (loadE p S)]) ∧ Loaded w w' p S u) ∧ Kp (fun _ => False) w w' := by
  have HS := hide hS
  have HB := hide hbu
  have HN := hide hnew
  have POK := hide (Pu.read_inv hq.out)
  have HS0 := hide hS0
  clear hS hbu hnew hS0
  go_enter Tryz.func28, Tryz.ntmps28
  go_wp2_with fail
  refine (read_any s _ hs j (some p) hq).mono ?_
  rintro e w1 ⟨⟨r, x, age, col, row, v, acc, rfl, rok, own, hp⟩, k1⟩
  have HP := hide (hp p rfl)
  have K1 := hide k1
  have ROK := hide rok
  have OWN := hide own
  have VO := hide (own_one own)
  obtain ⟨bb, hbb⟩ := rulev_births rok
  have BB := hide hbb
  have BB0 := hide (births0 rok hbb)
  clear k1 rok own hp hbb
  go_wp2_with (first
    | (refine wpList_store_row_g rfl 93 _ _ rfl w1.heap.size (ptv r x age col row v) rfl rfl 93 (ptv zrule zsh 0 0 0 (.slice none 0 0)) (heap_alloc_new _ _) (by rw [info_parts, ptv_size ROK.out]) ((ptv_size zrule_ok _ _ _ _ _).trans (ptv_size ROK.out _ _ _ _ _).symm) (ptv_one ROK.out _ _ _ _ VO.out) ?_
       intro w2 hw2
       have K2 : Hid (Kp (fun _ => False) w w2) := by rw [hw2]; exact (K1.out.alloc _).setRowNew K1.out.size _
       have P2 : Hid (PtAt w2 w1.heap.size r x age col row v) := ⟨by rw [hw2]; exact setRow_heap _ _ _ _ _ _ (heap_alloc_new _ _), ROK.out⟩
       have KK : Kp (fun _ => False) w1 w2 := by rw [hw2]; exact ((Kp.refl _ _).alloc _).setRowNew (Nat.le_refl _) _
       have O2 := hide (own_keep OWN.out KK (by intro g hg hx; exact hx))
       have LS2 := hide (fun j u hu => (cell_of_row w2 w1.heap.size (20 + j) _ _ _ P2.out.row).trans (ptv_shape ROK.out x age col row v j u hu))
       clear hw2 KK)
    | (refine wpList_load_at rfl 65 _ rfl w1.heap.size 20 rfl (shv x) LS2.out _ Tryz.underlying65 rfl info_shape ?_))
  have HEN := hide (fun wx => endless_any x wx)
  by_cases he : x.w = 0 ∨ x.h = 0
  · rw [decide_eq_true he] at HEN
    refine (HEN.out _).mono ?_
    rintro e w3 ⟨rfl, k3⟩
    have P3 := hide (P2.out.keep k3 (fun hx => hx))
    have O3 := hide (own_keep O2.out k3 (by intro g hg hx; exact hx))
    have K3 := hide (K2.out.trans k3)
    have LS := hide (fun j u hu => (cell_of_row w3 w1.heap.size (20 + j) _ _ _ P3.out.row).trans (ptv_shape ROK.out x age col row v j u hu))
    have LR := hide (fun j u hu => (cell_of_row w3 w1.heap.size (0 + j) _ _ _ P3.out.row).trans (ptv_rule ROK.out x age col row v j u hu))
    have c27 : w3.cell? ⟨w1.heap.size, 27, none⟩ = some (.int .i64 age) := P3.out.cell 0
    have cb : w3.cell? ⟨w1.heap.size, 1, none⟩ = some (.bool bb) := LR.out 1 _ BB.out
    clear k3 HEN BB
    cases bb
    · have NB : Hid (¬ ((p.shape.w = 0 ∨ p.shape.h = 0) ∧ p.rule.births.getD 0 false = true)) := by
        rw [HP.out]
        rintro ⟨_, e⟩
        rw [BB0.out] at e
        cases e
      go_wp2_with (first
        | (refine wpList_load_at rfl 63 _ rfl w1.heap.size 0 rfl (rulev r) LR.out _ Tryz.underlying63 rfl (by rw [info_rule, rulev_size ROK.out]) ?_)
        | (refine wpList_load_at rfl 65 _ rfl w1.heap.size 20 rfl (shv x) LS.out _ Tryz.underlying65 rfl info_shape ?_)
        | (refine wpList_build3 rfl 70 _ _ _ _ _ _ rfl (.agg (rulev r)) (.agg (shv x)) (.int .i64 age) rfl rfl rfl (grv (preOf r x age) 0 0 0 0 S) (HB.out r ROK.out x age) ?_)
        | (refine wpList_box_row rfl 70 _ rfl (grv (preOf r x age) 0 0 0 0 S) rfl ?_
           intro w4 hw4
           have KK : Kp (fun _ => False) w3 w4 := by rw [hw4]; exact (Kp.refl _ _).alloc _
           have Q4 : Hid (w4.heap[w3.heap.size]? = some (.cells (grv (preOf r x age) 0 0 0 0 S) 70 (0, 0))) := by rw [hw4]; exact heap_alloc_new _ _
           have P4 := hide (P3.out.keep KK (fun hx => hx))
           have O4 := hide (own_keep O3.out KK (by intro g hg hx; exact hx))
           have K4 := hide (K3.out.trans KK)
           have d1 : w4.cell? ⟨w1.heap.size, 21, none⟩ = some (.int .i64 x.w) := by rw [cell_of_row _ _ _ _ _ _ P4.out.row]; exact ptv_shape ROK.out x age col row v 1 _ rfl
           have d2 : w4.cell? ⟨w1.heap.size, 22, none⟩ = some (.int .i64 x.h) := by rw [cell_of_row _ _ _ _ _ _ P4.out.row]; exact ptv_shape ROK.out x age col row v 2 _ rfl
           clear hw4 KK))
      refine (HN.out x.w x.h _).mono ?_
      rintro e w5 ⟨rfl, k5⟩
      have Q5 := hide (k5.row Q4.out (fun hx => hx))
      have P5 := hide (P4.out.keep k5 (fun hx => hx))
      have O5 := hide (own_keep O4.out k5 (by intro g hg hx; exact hx))
      have K5 := hide (K4.out.trans k5)
      have lq : w1.heap.size < w3.heap.size := P3.out.lt
      have lw : w.heap.size ≤ w1.heap.size := K1.out.size
      have psz := preOf_size ROK.out x age
      have PS := hide psz
      clear k5 d1 d2 c27 psz
      go_wp2_with (first
        | (refine wpList_store_at_g rfl 68 _ _ rfl w3.heap.size 28 (gnew x.w x.h S) rfl rfl 70 _ Q5.out (by rw [info_grid, gnew_size _ _ HS.out]) (by rw [gnew_size _ _ HS.out, grv_size PS.out _ _ _ _ _ HS.out]; omega) (gnew_one _ _ _) ?_
           intro w6 hw6
           have G6 : Hid (GrAt w6 w3.heap.size (preOf r x age) x.w x.h 0 0 S) := ⟨by rw [hw6, putCells_row _ _ _ _ _ _ Q5.out, put_grid PS.out x.w x.h HS.out], PS.out, HS.out⟩
           have P6 : Hid (PtAt w6 w1.heap.size r x age col row v) := ⟨by rw [hw6]; exact (putCells_other _ _ _ _ _ (by omega)).trans P5.out.row, ROK.out⟩
           have O6 : Hid (w6.ownsRow w.heap.size 119 3 v acc.length (runsv acc)) := by rw [hw6]; exact own_put O5.out Q5.out _ _
           have K6 : Hid (Kp (fun _ => False) w w6) := by rw [hw6]; exact putCells_new _ _ _ K5.out (by omega)
           clear hw6)
        | (refine wpList_load_row rfl 93 _ rfl w1.heap.size rfl 93 (ptv r x age col row v) (0, 0) _ P6.out.row Tryz.underlying93 rfl (by rw [info_parts, ptv_size ROK.out]) ?_))
      have LAY : Hid (Calls Tryz.prog 53 #[.pointer (some ⟨w3.heap.size, 0, none⟩), .agg (ptv r x age col row v)] w6 fun e w' => e = .returned (.bool (laidG p S).1) ∧ GsAt w' w3.heap.size (preOf r x age) x.w x.h (laidG p S).2 ∧ Kp (· = w3.heap.size) w6 w') := by
        have pk := POK.out
        have eg : laidG p S = layG x col acc col row ⟨0, 0, S⟩ := by rw [HP.out]; rfl
        rw [eg]
        rw [HP.out] at pk
        have gk := (gs_empty (c := r.states) (by have := pk.states; simp only at this; omega) (side_of pk.shape) S HS.out HS0.out).1
        rcases O6.out.2 with ⟨rfl, hn0⟩ | ⟨g, cap, cur, rfl, _, hg, _, _, _, htk⟩
        · have ea : acc = [] := List.length_eq_zero_iff.1 hn0
          subst ea
          exact lay_empty w3.heap.size 0 none r x age col row S w6 G6.out ROK.out
        · refine lay_exact w3.heap.size g cap r x age col row r.states ⟨0, 0, S⟩ acc w6 G6.out ROK.out pk.shape gk ⟨cur, hg, htk⟩ ?_ pk.few ?_ pk.col pk.row
          · intro e
            have := G6.out.row
            rw [← e, hg] at this
            simp at this
          · intro rn hrn
            have := pk.runs rn hrn
            exact ⟨⟨this.1, this.2.1⟩, this.2.2⟩
      refine LAY.out.mono ?_
      clear LAY
      rintro e w7 ⟨rfl, g7, k7⟩
      have G7 := hide g7
      have K7 := hide (K6.out.tr k7 (by intro z hz1 hz2; omega))
      have LE := hide (loadE_lay (p := p) (S := S) NB.out)
      have HQP : Hid (GsAt w7 w3.heap.size (preOf p.rule p.shape p.age) p.shape.w p.shape.h (laidG p S).2 ∧ RuleOk p.rule) := by
        rw [HP.out]
        rw [HP.out] at g7
        exact ⟨g7, ROK.out⟩
      clear k7 g7
      obtain ⟨L, hL⟩ : ∃ L, laidG p S = L := ⟨_, rfl⟩
      have HL := hide hL
      rw [hL] at HQP LE ⊢
      clear hL
      cases hy : L.1
      · rw [if_neg (by rw [hy]; simp)] at LE
        go_wp2_with fail
        go_ret3
        exact ⟨⟨_, by rw [LE.out]; rfl, ⟨fun _ => rfl, fun e => by rw [LE.out] at e; cases e⟩⟩, K7.out⟩
      · rw [if_pos hy] at LE
        go_wp2_with fail
        go_ret3
        exact ⟨⟨_, by rw [LE.out]; rfl, ⟨fun e => absurd LE.out e, fun _ => ⟨_, rfl, by omega, HQP.out.2, by rw [HL.out]; exact HQP.out.1⟩⟩⟩, K7.out⟩
    · clear c27
      have LE : Hid (loadE p S = 3) := loadE_birth (by rw [HP.out]; exact he) (by rw [HP.out]; exact BB0.out)
      go_wp2_with fail
      go_ret3
      exact ⟨⟨_, by rw [LE.out]; rfl, ⟨fun _ => rfl, fun e => by rw [LE.out] at e; cases e⟩⟩, K3.out⟩
  · have NB : Hid (¬ ((p.shape.w = 0 ∨ p.shape.h = 0) ∧ p.rule.births.getD 0 false = true)) := by
      rw [HP.out]
      rintro ⟨e, _⟩
      exact he e
    rw [decide_eq_false he] at HEN
    refine (HEN.out _).mono ?_
    rintro e w3 ⟨rfl, k3⟩
    have P3 := hide (P2.out.keep k3 (fun hx => hx))
    have O3 := hide (own_keep O2.out k3 (by intro g hg hx; exact hx))
    have K3 := hide (K2.out.trans k3)
    have LS := hide (fun j u hu => (cell_of_row w3 w1.heap.size (20 + j) _ _ _ P3.out.row).trans (ptv_shape ROK.out x age col row v j u hu))
    have LR := hide (fun j u hu => (cell_of_row w3 w1.heap.size (0 + j) _ _ _ P3.out.row).trans (ptv_rule ROK.out x age col row v j u hu))
    have c27 : w3.cell? ⟨w1.heap.size, 27, none⟩ = some (.int .i64 age) := P3.out.cell 0
    clear k3 HEN
    go_wp2_with (first
      | (refine wpList_load_at rfl 63 _ rfl w1.heap.size 0 rfl (rulev r) LR.out _ Tryz.underlying63 rfl (by rw [info_rule, rulev_size ROK.out]) ?_)
      | (refine wpList_load_at rfl 65 _ rfl w1.heap.size 20 rfl (shv x) LS.out _ Tryz.underlying65 rfl info_shape ?_)
      | (refine wpList_build3 rfl 70 _ _ _ _ _ _ rfl (.agg (rulev r)) (.agg (shv x)) (.int .i64 age) rfl rfl rfl (grv (preOf r x age) 0 0 0 0 S) (HB.out r ROK.out x age) ?_)
      | (refine wpList_box_row rfl 70 _ rfl (grv (preOf r x age) 0 0 0 0 S) rfl ?_
         intro w4 hw4
         have KK : Kp (fun _ => False) w3 w4 := by rw [hw4]; exact (Kp.refl _ _).alloc _
         have Q4 : Hid (w4.heap[w3.heap.size]? = some (.cells (grv (preOf r x age) 0 0 0 0 S) 70 (0, 0))) := by rw [hw4]; exact heap_alloc_new _ _
         have P4 := hide (P3.out.keep KK (fun hx => hx))
         have O4 := hide (own_keep O3.out KK (by intro g hg hx; exact hx))
         have K4 := hide (K3.out.trans KK)
         have d1 : w4.cell? ⟨w1.heap.size, 21, none⟩ = some (.int .i64 x.w) := by rw [cell_of_row _ _ _ _ _ _ P4.out.row]; exact ptv_shape ROK.out x age col row v 1 _ rfl
         have d2 : w4.cell? ⟨w1.heap.size, 22, none⟩ = some (.int .i64 x.h) := by rw [cell_of_row _ _ _ _ _ _ P4.out.row]; exact ptv_shape ROK.out x age col row v 2 _ rfl
         clear hw4 KK))
    refine (HN.out x.w x.h _).mono ?_
    rintro e w5 ⟨rfl, k5⟩
    have Q5 := hide (k5.row Q4.out (fun hx => hx))
    have P5 := hide (P4.out.keep k5 (fun hx => hx))
    have O5 := hide (own_keep O4.out k5 (by intro g hg hx; exact hx))
    have K5 := hide (K4.out.trans k5)
    have lq : w1.heap.size < w3.heap.size := P3.out.lt
    have lw : w.heap.size ≤ w1.heap.size := K1.out.size
    have psz := preOf_size ROK.out x age
    have PS := hide psz
    clear k5 d1 d2 c27 psz
    go_wp2_with (first
      | (refine wpList_store_at_g rfl 68 _ _ rfl w3.heap.size 28 (gnew x.w x.h S) rfl rfl 70 _ Q5.out (by rw [info_grid, gnew_size _ _ HS.out]) (by rw [gnew_size _ _ HS.out, grv_size PS.out _ _ _ _ _ HS.out]; omega) (gnew_one _ _ _) ?_
         intro w6 hw6
         have G6 : Hid (GrAt w6 w3.heap.size (preOf r x age) x.w x.h 0 0 S) := ⟨by rw [hw6, putCells_row _ _ _ _ _ _ Q5.out, put_grid PS.out x.w x.h HS.out], PS.out, HS.out⟩
         have P6 : Hid (PtAt w6 w1.heap.size r x age col row v) := ⟨by rw [hw6]; exact (putCells_other _ _ _ _ _ (by omega)).trans P5.out.row, ROK.out⟩
         have O6 : Hid (w6.ownsRow w.heap.size 119 3 v acc.length (runsv acc)) := by rw [hw6]; exact own_put O5.out Q5.out _ _
         have K6 : Hid (Kp (fun _ => False) w w6) := by rw [hw6]; exact putCells_new _ _ _ K5.out (by omega)
         clear hw6)
      | (refine wpList_load_row rfl 93 _ rfl w1.heap.size rfl 93 (ptv r x age col row v) (0, 0) _ P6.out.row Tryz.underlying93 rfl (by rw [info_parts, ptv_size ROK.out]) ?_))
    have LAY : Hid (Calls Tryz.prog 53 #[.pointer (some ⟨w3.heap.size, 0, none⟩), .agg (ptv r x age col row v)] w6 fun e w' => e = .returned (.bool (laidG p S).1) ∧ GsAt w' w3.heap.size (preOf r x age) x.w x.h (laidG p S).2 ∧ Kp (· = w3.heap.size) w6 w') := by
      have pk := POK.out
      have eg : laidG p S = layG x col acc col row ⟨0, 0, S⟩ := by rw [HP.out]; rfl
      rw [eg]
      rw [HP.out] at pk
      have gk := (gs_empty (c := r.states) (by have := pk.states; simp only at this; omega) (side_of pk.shape) S HS.out HS0.out).1
      rcases O6.out.2 with ⟨rfl, hn0⟩ | ⟨g, cap, cur, rfl, _, hg, _, _, _, htk⟩
      · have ea : acc = [] := List.length_eq_zero_iff.1 hn0
        subst ea
        exact lay_empty w3.heap.size 0 none r x age col row S w6 G6.out ROK.out
      · refine lay_exact w3.heap.size g cap r x age col row r.states ⟨0, 0, S⟩ acc w6 G6.out ROK.out pk.shape gk ⟨cur, hg, htk⟩ ?_ pk.few ?_ pk.col pk.row
        · intro e
          have := G6.out.row
          rw [← e, hg] at this
          simp at this
        · intro rn hrn
          have := pk.runs rn hrn
          exact ⟨⟨this.1, this.2.1⟩, this.2.2⟩
    refine LAY.out.mono ?_
    clear LAY
    rintro e w7 ⟨rfl, g7, k7⟩
    have G7 := hide g7
    have K7 := hide (K6.out.tr k7 (by intro z hz1 hz2; omega))
    have LE := hide (loadE_lay (p := p) (S := S) NB.out)
    have HQP : Hid (GsAt w7 w3.heap.size (preOf p.rule p.shape p.age) p.shape.w p.shape.h (laidG p S).2 ∧ RuleOk p.rule) := by
      rw [HP.out]
      rw [HP.out] at g7
      exact ⟨g7, ROK.out⟩
    clear k7 g7
    obtain ⟨L, hL⟩ : ∃ L, laidG p S = L := ⟨_, rfl⟩
    have HL := hide hL
    rw [hL] at HQP LE ⊢
    clear hL
    cases hy : L.1
    · rw [if_neg (by rw [hy]; simp)] at LE
      go_wp2_with fail
      go_ret3
      exact ⟨⟨_, by rw [LE.out]; rfl, ⟨fun _ => rfl, fun e => by rw [LE.out] at e; cases e⟩⟩, K7.out⟩
    · rw [if_pos hy] at LE
      go_wp2_with fail
      go_ret3
      exact ⟨⟨_, by rw [LE.out]; rfl, ⟨fun e => absurd LE.out e, fun _ => ⟨_, rfl, by omega, HQP.out.2, by rw [HL.out]; exact HQP.out.1⟩⟩⟩, K7.out⟩

/-- Load of a right text. -/
theorem Load_gen (s : ByteArray) (w : World) (hs : s.size ≤ 400) (j : Nat) (p : Pu.Parts) (hq : Hid (Pu.read (src s) = (j, some p))) :
    Calls Tryz.prog 14 #[.string s] w fun e w' => (∃ u, e = .returned (.tuple #[u, .int .i64 0, .int .i64 (loadE p noS)]) ∧ Loaded w w' p noS u) ∧ Kp (fun _ => False) w w' := by
  have HL := hide (fun wx => load_gen noS noS_len noS_zero built_world new_any s wx hs j p hq)
  clear hq
  go_enter Tryz.func14, Tryz.ntmps14
  go_wp2_with fail
  refine (HL.out _).mono ?_
  rintro e w1 ⟨⟨u, rfl, l1⟩, k1⟩
  have L1 := hide l1
  have K1 := hide k1
  clear l1 k1
  go_wp2_with fail
  go_ret3
  exact ⟨⟨u, rfl, L1.out⟩, K1.out⟩
end Go.Proofs.YthmhjjkmnnmjlaaGreatDoor
namespace Go.Proofs.YthmhjjkmnnmjlaaGreatDoor
open Go.RowKit
open Go.Proofs

/-- These cells have room. -/
structure Rm (W H : Int) (l : List Cl) : Prop where
  x : W = 0 → ∀ c, c ∈ l → ∀ d, d ∈ l → (-9999 ≤ c.1 ∧ c.1 ≤ 9999) ∧ c.1 - d.1 < 64
  y : H = 0 → ∀ c, c ∈ l → ∀ d, d ∈ l → (-9999 ≤ c.2.1 ∧ c.2.1 ≤ 9999) ∧ c.2.1 - d.2.1 < 64
theorem Rm.nil (W H : Int) : Rm W H [] := ⟨by simp, by simp⟩
theorem Rm.mono {W H : Int} {l m : List Cl} (h : Rm W H m) (hs : ∀ c, c ∈ l → c ∈ m) : Rm W H l :=
  ⟨fun e c hc d hd => h.x e c (hs c hc) d (hs d hd), fun e c hc d hd => h.y e c (hs c hc) d (hs d hd)⟩
theorem room_iff {W H : Int} (s : Side W H) (l : List Cl) : roomB W H l = true ↔ Rm W H l := by
  have w0 := s.w0
  have h0 := s.h0
  have one := s.one
  unfold roomB
  rw [decide_eq_true_iff]
  by_cases hl : l = []
  · subst hl
    exact ⟨fun _ => Rm.nil _ _, fun _ => Or.inl rfl⟩
  · have hb := boxL_is hl
    unfold boxA boxB
    generalize boxL l = p at *
    obtain ⟨hin, ⟨ca, ca1, ca2⟩, ⟨cb, cb1, cb2⟩, ⟨cc, cc1, cc2⟩, ⟨cd, cd1, cd2⟩⟩ := hb
    constructor
    · rintro (h | h | h)
      · exact absurd h hl
      · exact ⟨fun e => by omega, fun e => by omega⟩
      · refine ⟨fun e c hc d hd => ?_, fun e c hc d hd => ?_⟩
        · rw [if_neg (by omega), if_neg (by omega)] at h
          have i1 := hin c hc
          have i2 := hin d hd
          omega
        · rw [if_pos e, if_pos e] at h
          have i1 := hin c hc
          have i2 := hin d hd
          omega
    · intro h
      by_cases e : W = 0
      · have i1 := h.x e cb cb1 ca ca1
        have i2 := h.x e ca ca1 ca ca1
        right; right
        rw [if_neg (by omega), if_neg (by omega)]
        omega
      · by_cases e2 : H = 0
        · have i1 := h.y e2 cd cd1 cc cc1
          have i2 := h.y e2 cc cc1 cc cc1
          right; right
          rw [if_pos e2, if_pos e2]
          omega
        · right; left; omega
/-- What is found in a list. -/
theorem atL_ne {l : List Cl} {X Y : Int} (h : atL l X Y ≠ 0) : ∃ c, c ∈ l ∧ c.1 = X ∧ c.2.1 = Y := by
  induction l with
  | nil => exact absurd rfl h
  | cons c l ih =>
    unfold atL at h
    by_cases e : c.1 = X ∧ c.2.1 = Y
    · exact ⟨c, List.mem_cons_self, e.1, e.2⟩
    · rw [if_neg e] at h
      obtain ⟨d, hd, e2⟩ := ih h
      exact ⟨d, List.mem_cons_of_mem _ hd, e2⟩
theorem atL_mem {l : List Cl} (hz : ∀ c, c ∈ l → c.2.2 ≠ 0) {c : Cl} (h : c ∈ l) : atL l c.1 c.2.1 ≠ 0 := by
  induction l with
  | nil => simp at h
  | cons d l ih =>
    unfold atL
    split
    · exact hz d List.mem_cons_self
    · rename_i e
      rcases List.mem_cons.1 h with rfl | h
      · exact absurd ⟨rfl, rfl⟩ e
      · exact ih (fun c hc => hz c (List.mem_cons_of_mem _ hc)) h
theorem atL_app (l m : List Cl) (X Y : Int) (hn : ∀ c, c ∈ l → ¬ (c.1 = X ∧ c.2.1 = Y)) : atL (l ++ m) X Y = atL m X Y := by
  induction l with
  | nil => rfl
  | cons c l ih =>
    rw [List.cons_append, atL, if_neg (hn c List.mem_cons_self), ih (fun d hd => hn d (List.mem_cons_of_mem _ hd))]
theorem atL_app2 (l m : List Cl) (X Y : Int) (hn : ∀ c, c ∈ m → ¬ (c.1 = X ∧ c.2.1 = Y)) : atL (l ++ m) X Y = atL l X Y := by
  induction l with
  | nil =>
    rw [List.nil_append]
    by_cases e : atL m X Y = 0
    · rw [e]; rfl
    · obtain ⟨c, h1, h2⟩ := atL_ne e
      exact absurd h2 (hn c h1)
  | cons c l ih =>
    rw [List.cons_append, atL, atL, ih]
/-- One cell more. -/
theorem atL_snoc (l : List Cl) (x y s X Y : Int) (hn : ∀ c, c ∈ l → ¬ (c.1 = x ∧ c.2.1 = y)) : atL (l ++ [(x, y, s)]) X Y = if X = x ∧ Y = y then s else atL l X Y := by
  by_cases e : X = x ∧ Y = y
  · rw [if_pos e, atL_app l _ X Y (fun c hc => by rw [e.1, e.2]; exact hn c hc)]
    simp [atL, e.1, e.2]
  · rw [if_neg e, atL_app2]
    intro c hc h2
    simp at hc
    subst hc
    exact e ⟨h2.1.symm, h2.2.symm⟩
/-- A grid and a list tell the same cells. -/
def Same (W H : Int) (g : Gs) (l : List Cl) : Prop := ∀ X Y, getG W H g X Y = atL l X Y
theorem fits_iff {x : Pu.Shape} {g : Gs} {l : List Cl} (hs : Same x.w x.h g l) (hz : ∀ c, c ∈ l → c.2.2 ≠ 0) (hr : Rm x.w x.h l) (X Y s : Int) : (nearB x X Y = true ∧ Fits x.w x.h g X Y) ↔ Rm x.w x.h (l ++ [(X, Y, s)]) := by
  have hin : ∀ c, c ∈ l ++ [(X, Y, s)] → Hold (addB (liveP x.w x.h g.l g.t g.S) X Y) c.1 c.2.1 := by
    intro c hc
    rcases List.mem_append.1 hc with hc | hc
    · refine hold_add _ _ (hold_live g.S ?_)
      have := hs c.1 c.2.1
      unfold getG at this
      rw [this]
      exact atL_mem hz hc
    · simp at hc
      subst hc
      exact hold_new _ _ _
  have hed := edges_add (x := X) (y := Y) (edges_live (gw := x.w) (gh := x.h) (l := g.l) (t := g.t) g.S (PX := fun a => ∃ c, c ∈ l ++ [(X, Y, s)] ∧ c.1 = a) (PY := fun a => ∃ c, c ∈ l ++ [(X, Y, s)] ∧ c.2.1 = a) (fun A B hg => by
    have := hs A B
    unfold getG at this
    rw [this] at hg
    obtain ⟨c, hc, h1, h2⟩ := atL_ne hg
    exact ⟨⟨c, List.mem_append_left _ hc, h1⟩, ⟨c, List.mem_append_left _ hc, h2⟩⟩)) ⟨(X, Y, s), by simp, rfl⟩ ⟨(X, Y, s), by simp, rfl⟩
  replace hed := hed.resolve_left (by rw [(addB_mem _ _ _).1]; simp)
  unfold Fits FitB
  generalize addB (liveP x.w x.h g.l g.t g.S) X Y = b at *
  obtain ⟨⟨cl, l1, l2⟩, ⟨cr, r1, r2⟩, ⟨ct, t1, t2⟩, ⟨cb, b1, b2⟩⟩ := hed
  unfold nearB nearOnB
  rw [Bool.and_eq_true, decide_eq_true_iff, decide_eq_true_iff]
  constructor
  · rintro ⟨⟨n1, n2⟩, f1, f2⟩
    refine ⟨fun e c hc d hd => ?_, fun e c hc d hd => ?_⟩
    · have i1 := hin c hc
      have i2 := hin d hd
      unfold Hold at i1 i2
      have := f1 e
      refine ⟨?_, by omega⟩
      rcases List.mem_append.1 hc with hc | hc
      · exact (hr.x e c hc c hc).1
      · simp at hc
        subst hc
        simp only
        omega
    · have i1 := hin c hc
      have i2 := hin d hd
      unfold Hold at i1 i2
      have := f2 e
      refine ⟨?_, by omega⟩
      rcases List.mem_append.1 hc with hc | hc
      · exact (hr.y e c hc c hc).1
      · simp at hc
        subst hc
        simp only
        omega
  · intro h
    refine ⟨⟨?_, ?_⟩, fun e => ?_, fun e => ?_⟩
    · by_cases e : x.w = 0
      · right; exact (h.x e (X, Y, s) (by simp) (X, Y, s) (by simp)).1
      · left; exact e
    · by_cases e : x.h = 0
      · right; exact (h.y e (X, Y, s) (by simp) (X, Y, s) (by simp)).1
      · left; exact e
    · have := (h.x e cr r1 cl l1).2
      omega
    · have := (h.y e cb b1 ct t1).2
      omega
/-- The list as it is built: cells ahead of (a, b). -/
structure Lk (st : Int) (a b : Int) (l : List Cl) : Prop where
  ahead : ∀ c, c ∈ l → c.2.1 < b ∨ (c.2.1 = b ∧ c.1 < a)
  nz : ∀ c, c ∈ l → c.2.2 ≠ 0
theorem run_same {c : Int} {x : Pu.Shape} (hx : Pu.ShapeOk x) {g : Gs} {l : List Cl} (ho : GsOk c x.w x.h g) (hs : Same x.w x.h g l) {a b u : Int} (hk : Lk c a b l) (hr : Rm x.w x.h l) (hu : 1 ≤ u ∧ u < c) : ∀ k : Nat,
    Lk c (a + k) b (l ++ rowC x.w x.h b u k a) ∧ ((runG x g a b u k).1 = true → Same x.w x.h (runG x g a b u k).2 (l ++ rowC x.w x.h b u k a) ∧ Rm x.w x.h (l ++ rowC x.w x.h b u k a)) ∧ ((runG x g a b u k).1 = false → ¬ Rm x.w x.h (l ++ rowC x.w x.h b u k a)) := by
  intro k
  induction k with
  | zero =>
    refine ⟨?_, fun _ => ?_, fun h => ?_⟩
    · simpa [rowC] using hk
    · simpa [rowC, runG] using ⟨hs, hr⟩
    · simp [runG] at h
  | succ k ih =>
    obtain ⟨i1, i2, i3⟩ := ih
    rw [rowC_succ, ← List.append_assoc]
    have hok := runG_ok hx ho a b u (by omega) k
    have hl : Lk c (a + ((k + 1 : Nat) : Int)) b (l ++ rowC x.w x.h b u k a ++ oneC x.w x.h (a + k) b u) := by
      refine ⟨fun d hd => ?_, fun d hd => ?_⟩
      · rcases List.mem_append.1 hd with hd | hd
        · have := i1.ahead d hd
          omega
        · obtain ⟨rfl, _⟩ := oneC_mem hd
          exact Or.inr ⟨rfl, show a + (k : Int) < a + ((k + 1 : Nat) : Int) by omega⟩
      · rcases List.mem_append.1 hd with hd | hd
        · exact i1.nz d hd
        · obtain ⟨rfl, h2, _⟩ := oneC_mem hd
          exact h2
    refine ⟨hl, ?_⟩
    unfold runG
    generalize l ++ rowC x.w x.h b u k a = m at *
    generalize runG x g a b u k = R at *
    by_cases e1 : R.1 = false
    · rw [if_pos e1]
      refine ⟨fun h => ?_, fun _ hh => i3 e1 (hh.mono fun c hc => List.mem_append_left _ hc)⟩
      rw [e1] at h
      cases h
    · rw [if_neg e1]
      obtain ⟨s1, s2⟩ := i2 (by simpa using e1)
      by_cases e2 : hasB x (a + k) b = false
      · rw [if_pos e2]
        have e3 : oneC x.w x.h (a + k) b u = [] := by
          unfold oneC
          rw [if_neg]
          unfold hasB at e2
          simp
          intro _ h
          simpa [h] using e2
        rw [e3, List.append_nil]
        exact ⟨fun _ => ⟨s1, s2⟩, fun h => absurd h e1⟩
      · rw [if_neg e2]
        have e2' : hasB x (a + k) b = true := by simpa using e2
        have e3 : oneC x.w x.h (a + k) b u = [(a + k, b, u)] := by
          unfold oneC
          rw [if_pos]
          unfold hasB at e2'
          rw [e2']
          simp
          omega
        rw [e3]
        have F := fits_iff s1 i1.nz s2 (a + k) b u
        by_cases e4 : nearB x (a + k) b = false
        · rw [if_pos e4]
          refine ⟨fun h => by simp at h, fun _ hh => ?_⟩
          have := (F.2 hh).1
          rw [e4] at this
          cases this
        · rw [if_neg e4]
          have e4' : nearB x (a + k) b = true := by simpa using e4
          have sp := spot_of hx e2' e4'
          by_cases e5 : Fits x.w x.h R.2 (a + k) b
          · obtain ⟨p1, p2, p3⟩ := put_spec (side_of hx) hok sp (by omega) (Or.inr e5) (u := u)
            refine ⟨fun _ => ⟨fun X Y => ?_, F.1 ⟨e4', e5⟩⟩, fun h => ?_⟩
            · rw [p3, atL_snoc, s1]
              intro d hd hh
              have := i1.ahead d hd
              omega
            · rw [p1] at h
              cases h
          · rw [put_fail (side_of hx) (fun h => h.elim (fun h => by omega) e5)]
            refine ⟨fun h => by simp at h, fun _ hh => e5 (F.2 hh).2⟩
theorem lay_same {c : Int} {x : Pu.Shape} (hx : Pu.ShapeOk x) (col : Int) : ∀ (rs : List Pu.Run) (a b : Int) (g : Gs) (l : List Cl), (∀ r, r ∈ rs → Pu.RunOk c r) → GsOk c x.w x.h g → Same x.w x.h g l → Lk c a b l → Rm x.w x.h l →
    ((layG x col rs a b g).1 = true → Same x.w x.h (layG x col rs a b g).2 (rs.foldl (bst x.w x.h col) ⟨a, b, l⟩).live ∧ Rm x.w x.h (rs.foldl (bst x.w x.h col) ⟨a, b, l⟩).live ∧ GsOk c x.w x.h (layG x col rs a b g).2) ∧
    ((layG x col rs a b g).1 = false → ¬ Rm x.w x.h (rs.foldl (bst x.w x.h col) ⟨a, b, l⟩).live) := by
  have grow : ∀ (rs : List Pu.Run) (p : Bd) (d : Cl), d ∈ p.live → d ∈ (rs.foldl (bst x.w x.h col) p).live := by
    intro rs
    induction rs with
    | nil => intro p d h; exact h
    | cons r rs ih =>
      intro p d h
      refine ih _ d ?_
      unfold bst
      split
      · exact h
      · exact List.mem_append_left _ h
  intro rs
  induction rs with
  | nil =>
    intro a b g l _ ho hs hk hr
    refine ⟨fun _ => ⟨hs, hr, ho⟩, fun h => ?_⟩
    simp [layG] at h
  | cons rn rs ih =>
    intro a b g l hall ho hs hk hr
    have hrn := hall rn List.mem_cons_self
    obtain ⟨r1, r2, r3, r4⟩ := hrn
    have hall' : ∀ r, r ∈ rs → Pu.RunOk c r := fun r h => hall r (List.mem_cons_of_mem _ h)
    rw [List.foldl_cons]
    unfold layG
    by_cases e : rn.down = true
    · rw [if_pos e]
      have e2 : bst x.w x.h col ⟨a, b, l⟩ rn = ⟨col, b + rn.count, l⟩ := by unfold bst; rw [if_pos e]
      rw [e2]
      exact ih col (b + rn.count) g l hall' ho hs ⟨fun c hc => by have := hk.ahead c hc; omega, hk.nz⟩ hr
    · rw [if_neg e]
      have e2 : bst x.w x.h col ⟨a, b, l⟩ rn = ⟨a + rn.count, b, l ++ rowC x.w x.h b rn.state rn.count.toNat a⟩ := by unfold bst; rw [if_neg e]
      rw [e2]
      have hcnt : ((rn.count.toNat : Nat) : Int) = rn.count := by omega
      unfold layRunG
      by_cases z : rn.state = 0
      · rw [if_pos z, if_neg (by simp)]
        have e3 : rowC x.w x.h b rn.state rn.count.toNat a = [] := by
          unfold rowC
          rw [List.flatMap_eq_nil_iff]
          intro k _
          unfold oneC
          rw [z]
          simp
        rw [e3, List.append_nil]
        exact ih (a + rn.count) b g l hall' ho hs ⟨fun c hc => by have := hk.ahead c hc; omega, hk.nz⟩ hr
      · rw [if_neg z]
        obtain ⟨i1, i2, i3⟩ := run_same hx ho hs hk hr (u := rn.state) (by omega) rn.count.toNat
        rw [hcnt] at i1
        have hok := runG_ok hx ho a b rn.state (by omega) rn.count.toNat
        generalize l ++ rowC x.w x.h b rn.state rn.count.toNat a = m at *
        generalize runG x g a b rn.state rn.count.toNat = R at *
        by_cases e3 : R.1 = false
        · rw [if_pos e3]
          refine ⟨fun h => by simp at h, fun _ hh => i3 e3 (hh.mono fun c hc => grow rs _ c hc)⟩
        · rw [if_neg e3]
          obtain ⟨s1, s2⟩ := i2 (by simpa using e3)
          exact ih (a + rn.count) b R.2 m hall' hok s1 i1 s2
/-- What Load lays is what the document's list tells. -/
theorem laid_same {p : Pu.Parts} (hp : Pu.PartsOk p) (S : List Int) (hS : S.length = 768) (hz : ∀ k, S.getD k 0 = 0) :
    ((laidG p S).1 = true ↔ roomB p.shape.w p.shape.h (liveOf p) = true) ∧ ((laidG p S).1 = true → Same p.shape.w p.shape.h (laidG p S).2 (liveOf p) ∧ GsOk p.rule.states p.shape.w p.shape.h (laidG p S).2) := by
  have hx := hp.shape
  have hg0 : ∀ X Y, getG p.shape.w p.shape.h ⟨0, 0, S⟩ X Y = 0 := by
    intro X Y
    unfold getG getP
    split
    · rfl
    · exact hz _
  have ho : GsOk p.rule.states p.shape.w p.shape.h ⟨0, 0, S⟩ := ⟨hS, by simp, by simp, fun _ => rfl, fun _ => rfl, fun X Y h => absurd (hg0 X Y) h, fun k => by have := hp.states; simp only [hz]; omega⟩
  have L := lay_same hx p.col p.runs p.col p.row ⟨0, 0, S⟩ [] hp.runs ho (fun X Y => hg0 X Y) ⟨by simp, by simp⟩ (Rm.nil _ _)
  have e : (p.runs.foldl (bst p.shape.w p.shape.h p.col) ⟨p.col, p.row, []⟩).live = liveOf p := rfl
  rw [e] at L
  have e2 : layG p.shape p.col p.runs p.col p.row ⟨0, 0, S⟩ = laidG p S := rfl
  rw [e2] at L
  rw [room_iff (side_of hx)]
  refine ⟨⟨fun h => (L.1 h).2.1, fun h => ?_⟩, fun h => ⟨(L.1 h).1, (L.1 h).2.2⟩⟩
  by_cases e3 : (laidG p S).1 = true
  · exact e3
  · exact absurd h (L.2 (by simpa using e3))
theorem loadE_same {p : Pu.Parts} (hp : Pu.PartsOk p) (S : List Int) (hS : S.length = 768) (hz : ∀ k, S.getD k 0 = 0) : loadE p S = xloadE p := by
  have h := (laid_same hp S hS hz).1
  unfold loadE xloadE
  split
  · rfl
  · by_cases e : (laidG p S).1 = true
    · rw [if_pos e, if_pos (h.1 e)]
    · rw [if_neg e, if_neg (fun hh => e (h.2 hh))]
end Go.Proofs.YthmhjjkmnnmjlaaGreatDoor
