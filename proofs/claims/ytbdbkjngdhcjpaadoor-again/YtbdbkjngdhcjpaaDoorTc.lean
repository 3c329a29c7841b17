import Derived.Test.YtbdbkjngdhcjpaaDoorTb
import Derived.Test.YtbdbkjngdhcjpaaDoorM14
namespace Go.Proofs.YtbdbkjngdhcjpaaDoor
open Go.RowKit
open Go.Proofs

/-- The grid that a text's parts make. -/
def laidG (p : Pu.Parts) (S : List Int) : Bool × Gs := layG p.shape p.col p.runs p.col p.row ⟨0, 0, S⟩
/-- What Load answers of a right text. -/
def loadE (p : Pu.Parts) (S : List Int) : Int := if (p.shape.w = 0 ∨ p.shape.h = 0) ∧ p.rule.births.getD 0 false = true then 3 else if (laidG p S).1 = true then 0 else 4
theorem loadE_birth {p : Pu.Parts} {S : List Int} (h1 : p.shape.w = 0 ∨ p.shape.h = 0) (h2 : p.rule.births.getD 0 false = true) : loadE p S = 3 := if_pos ⟨h1, h2⟩
theorem loadE_lay {p : Pu.Parts} {S : List Int} (h : ¬ ((p.shape.w = 0 ∨ p.shape.h = 0) ∧ p.rule.births.getD 0 false = true)) : loadE p S = if (laidG p S).1 = true then 0 else 4 := if_neg h
structure Loaded (w w' : World) (p : Pu.Parts) (S : List Int) (u : Value) : Prop where
  bad : loadE p S ≠ 0 → u = .pointer none
  good : loadE p S = 0 → ∃ q, u = .pointer (some ⟨q, 0, none⟩) ∧ w.heap.size ≤ q ∧ RuleOk p.rule ∧ GsAt w' q (preOf p.rule p.shape p.age) p.shape.w p.shape.h (laidG p S).2
theorem births0 {r : Pu.Rule} (h : RuleOk r) {b : Bool} (hb : (rulev r)[1]? = some (.bool b)) : r.births.getD 0 false = b := by
  have e := (rule_at h 0 (by omega)).1
  rw [Nat.add_zero, hb] at e
  simp at e
  exact e.symm

/-- 'lay' of no run at all. -/
theorem lay_none0 (q cap : Nat) (ad : Option Addr) (r : Pu.Rule) (x : Pu.Shape) (age col row : Int) (S : List Int) (w : World) (h : GrAt w q (preOf r x age) x.w x.h 0 0 S) (hr : RuleOk r) :
    Calls Tryd.prog 48 #[.pointer (some ⟨q, 0, none⟩), .agg (ptv r x age col row (.slice ad 0 cap))] w fun e w' => e = .returned (.bool true) ∧ GrAt w' q (preOf r x age) x.w x.h 0 0 S ∧ Kp (· = q) w w' := by
  have H := hide h
  have HR := hide hr
  clear h hr
  go_enter Tryd.func48, Tryd.ntmps48
  go_wp2_with (refine wpList_box_row rfl 91 _ rfl (ptv r x age col row (.slice ad 0 cap)) rfl ?_
               intro w1 hw1
               have P1 : Hid (PtAt w1 w.heap.size r x age col row (.slice ad 0 cap)) := ⟨by rw [hw1]; exact heap_alloc_new _ _, HR.out⟩
               have G1 : Hid (GrAt w1 q (preOf r x age) x.w x.h 0 0 S) := by rw [hw1]; exact H.out.alloc _
               have K1 : Hid (Kp (· = q) w w1) := by rw [hw1]; exact (Kp.refl _ _).alloc _
               have c1 : w1.cell? ⟨w.heap.size, 28, none⟩ = some (.int .i64 col) := P1.out.cell 1
               have c2 : w1.cell? ⟨w.heap.size, 29, none⟩ = some (.int .i64 row) := P1.out.cell 2
               have c3 : w1.cell? ⟨w.heap.size, 30, none⟩ = some (.slice ad 0 cap) := P1.out.cell 3
               clear hw1)
  go_loopg [5, 6, 7] 0 (fun gk a b i wr => a = .int .i64 col ∧ b = .int .i64 row ∧ i = .int .i64 0 ∧ wr = w1)
  case atStart => exact ⟨rfl, rfl, rfl, rfl⟩
  case round =>
    obtain ⟨rfl, rfl, rfl, rfl⟩ := hrel
    go_wp2_with fail
    go_ret
    exact ⟨rfl, G1.out, K1.out⟩

theorem lay_empty (q cap : Nat) (ad : Option Addr) (r : Pu.Rule) (x : Pu.Shape) (age col row : Int) (S : List Int) (w : World) (h : GrAt w q (preOf r x age) x.w x.h 0 0 S) (hr : RuleOk r) :
    Calls Tryd.prog 48 #[.pointer (some ⟨q, 0, none⟩), .agg (ptv r x age col row (.slice ad 0 cap))] w fun e w' => e = .returned (.bool (layG x col [] col row ⟨0, 0, S⟩).1) ∧ GsAt w' q (preOf r x age) x.w x.h (layG x col [] col row ⟨0, 0, S⟩).2 ∧ Kp (· = q) w w' :=
  lay_none0 q cap ad r x age col row S w h hr

set_option maxRecDepth 100000 in
set_option maxHeartbeats 1000000 in
theorem load_gen (S : List Int) (hS : S.length = 768) (hS0 : ∀ k, S.getD k 0 = 0) (hbu : ∀ (r : Pu.Rule), RuleOk r → ∀ (x : Pu.Shape) (age : Int), Tryd.prog.built 55 [(0, .agg (rulev r)), (1, .agg (shv x)), (2, .int .i64 age)] = some (grv (preOf r x age) 0 0 0 0 S))
    (hnew : ∀ gw gh w, Calls Tryd.prog 47 #[.int .i64 gw, .int .i64 gh] w fun e w' => e = .returned (.agg (gnew gw gh S)) ∧ Kp (fun _ => False) w w')
    (s : ByteArray) (w : World) (hs : s.size ≤ 400) (j : Nat) (p : Pu.Parts) (hq : Hid (Pu.read (src s) = (j, some p))) :
    Calls Tryd.prog 27 #[.string s] w fun e w' => (∃ u, e = .returned (.tuple #[u, .int .i64 0, .int .i64 (loadE p S)]) ∧ Loaded w w' p S u) ∧ Kp (fun _ => False) w w' := by
  have HS := hide hS
  have HB := hide hbu
  have HN := hide hnew
  have POK := hide (Pu.read_inv hq.out)
  have HS0 := hide hS0
  clear hS hbu hnew hS0
  go_enter Tryd.func27, Tryd.ntmps27
  go_wp2_with fail
  refine (read_any s _ hs j (some p) hq).mono ?_
  rintro e w1 ⟨⟨r, x, age, col, row, v, acc, rfl, rok, own, hp⟩, k1⟩
  have HP := hide (hp p rfl)
  have K1 := hide k1
  have ROK := hide rok
  have OWN := hide own
  have VO := hide (own_one own)
  obtain ⟨bb, hbb⟩ := rulev_births rok
  have BB := hide hbb
  have BB0 := hide (births0 rok hbb)
  clear k1 rok own hp hbb
  go_wp2_with (first
    | (refine wpList_store_row_g rfl 91 _ _ rfl w1.heap.size (ptv r x age col row v) rfl rfl 91 (ptv zrule zsh 0 0 0 (.slice none 0 0)) (heap_alloc_new _ _) (by rw [info_parts, ptv_size ROK.out]) ((ptv_size zrule_ok _ _ _ _ _).trans (ptv_size ROK.out _ _ _ _ _).symm) (ptv_one ROK.out _ _ _ _ VO.out) ?_
       intro w2 hw2
       have K2 : Hid (Kp (fun _ => False) w w2) := by rw [hw2]; exact (K1.out.alloc _).setRowNew K1.out.size _
       have P2 : Hid (PtAt w2 w1.heap.size r x age col row v) := ⟨by rw [hw2]; exact setRow_heap _ _ _ _ _ _ (heap_alloc_new _ _), ROK.out⟩
       have KK : Kp (fun _ => False) w1 w2 := by rw [hw2]; exact ((Kp.refl _ _).alloc _).setRowNew (Nat.le_refl _) _
       have O2 := hide (own_keep OWN.out KK (by intro g hg hx; exact hx))
       have LS2 := hide (fun j u hu => (cell_of_row w2 w1.heap.size (20 + j) _ _ _ P2.out.row).trans (ptv_shape ROK.out x age col row v j u hu))
       clear hw2 KK)
    | (refine wpList_load_at rfl 50 _ rfl w1.heap.size 20 rfl (shv x) LS2.out _ Tryd.underlying50 rfl info_shape ?_))
  have HEN := hide (fun wx => endless_any x wx)
  by_cases he : x.w = 0 ∨ x.h = 0
  · rw [decide_eq_true he] at HEN
    refine (HEN.out _).mono ?_
    rintro e w3 ⟨rfl, k3⟩
    have P3 := hide (P2.out.keep k3 (fun hx => hx))
    have O3 := hide (own_keep O2.out k3 (by intro g hg hx; exact hx))
    have K3 := hide (K2.out.trans k3)
    have LS := hide (fun j u hu => (cell_of_row w3 w1.heap.size (20 + j) _ _ _ P3.out.row).trans (ptv_shape ROK.out x age col row v j u hu))
    have LR := hide (fun j u hu => (cell_of_row w3 w1.heap.size (0 + j) _ _ _ P3.out.row).trans (ptv_rule ROK.out x age col row v j u hu))
    have c27 : w3.cell? ⟨w1.heap.size, 27, none⟩ = some (.int .i64 age) := P3.out.cell 0
    have cb : w3.cell? ⟨w1.heap.size, 1, none⟩ = some (.bool bb) := LR.out 1 _ BB.out
    clear k3 HEN BB
    cases bb
    · have NB : Hid (¬ ((p.shape.w = 0 ∨ p.shape.h = 0) ∧ p.rule.births.getD 0 false = true)) := by
        rw [HP.out]
        rintro ⟨_, e⟩
        rw [BB0.out] at e
        cases e
      go_wp2_with (first
        | (refine wpList_load_at rfl 48 _ rfl w1.heap.size 0 rfl (rulev r) LR.out _ Tryd.underlying48 rfl (by rw [info_rule, rulev_size ROK.out]) ?_)
        | (refine wpList_load_at rfl 50 _ rfl w1.heap.size 20 rfl (shv x) LS.out _ Tryd.underlying50 rfl info_shape ?_)
        | (refine wpList_build3 rfl 55 _ _ _ _ _ _ rfl (.agg (rulev r)) (.agg (shv x)) (.int .i64 age) rfl rfl rfl (grv (preOf r x age) 0 0 0 0 S) (HB.out r ROK.out x age) ?_)
        | (refine wpList_box_row rfl 55 _ rfl (grv (preOf r x age) 0 0 0 0 S) rfl ?_
           intro w4 hw4
           have KK : Kp (fun _ => False) w3 w4 := by rw [hw4]; exact (Kp.refl _ _).alloc _
           have Q4 : Hid (w4.heap[w3.heap.size]? = some (.cells (grv (preOf r x age) 0 0 0 0 S) 55 (0, 0))) := by rw [hw4]; exact heap_alloc_new _ _
           have P4 := hide (P3.out.keep KK (fun hx => hx))
           have O4 := hide (own_keep O3.out KK (by intro g hg hx; exact hx))
           have K4 := hide (K3.out.trans KK)
           have d1 : w4.cell? ⟨w1.heap.size, 21, none⟩ = some (.int .i64 x.w) := by rw [cell_of_row _ _ _ _ _ _ P4.out.row]; exact ptv_shape ROK.out x age col row v 1 _ rfl
           have d2 : w4.cell? ⟨w1.heap.size, 22, none⟩ = some (.int .i64 x.h) := by rw [cell_of_row _ _ _ _ _ _ P4.out.row]; exact ptv_shape ROK.out x age col row v 2 _ rfl
           clear hw4 KK))
      refine (HN.out x.w x.h _).mono ?_
      rintro e w5 ⟨rfl, k5⟩
      have Q5 := hide (k5.row Q4.out (fun hx => hx))
      have P5 := hide (P4.out.keep k5 (fun hx => hx))
      have O5 := hide (own_keep O4.out k5 (by intro g hg hx; exact hx))
      have K5 := hide (K4.out.trans k5)
      have lq : w1.heap.size < w3.heap.size := P3.out.lt
      have lw : w.heap.size ≤ w1.heap.size := K1.out.size
      have psz := preOf_size ROK.out x age
      have PS := hide psz
      clear k5 d1 d2 c27 psz
      go_wp2_with (first
        | (refine wpList_store_at_g rfl 53 _ _ rfl w3.heap.size 28 (gnew x.w x.h S) rfl rfl 55 _ Q5.out (by rw [info_grid, gnew_size _ _ HS.out]) (by rw [gnew_size _ _ HS.out, grv_size PS.out _ _ _ _ _ HS.out]; omega) (gnew_one _ _ _) ?_
           intro w6 hw6
           have G6 : Hid (GrAt w6 w3.heap.size (preOf r x age) x.w x.h 0 0 S) := ⟨by rw [hw6, putCells_row _ _ _ _ _ _ Q5.out, put_grid PS.out x.w x.h HS.out], PS.out, HS.out⟩
           have P6 : Hid (PtAt w6 w1.heap.size r x age col row v) := ⟨by rw [hw6]; exact (putCells_other _ _ _ _ _ (by omega)).trans P5.out.row, ROK.out⟩
           have O6 : Hid (w6.ownsRow w.heap.size 115 3 v acc.length (runsv acc)) := by rw [hw6]; exact own_put O5.out Q5.out _ _
           have K6 : Hid (Kp (fun _ => False) w w6) := by rw [hw6]; exact putCells_new _ _ _ K5.out (by omega)
           clear hw6)
        | (refine wpList_load_row rfl 91 _ rfl w1.heap.size rfl 91 (ptv r x age col row v) (0, 0) _ P6.out.row Tryd.underlying91 rfl (by rw [info_parts, ptv_size ROK.out]) ?_))
      have LAY : Hid (Calls Tryd.prog 48 #[.pointer (some ⟨w3.heap.size, 0, none⟩), .agg (ptv r x age col row v)] w6 fun e w' => e = .returned (.bool (laidG p S).1) ∧ GsAt w' w3.heap.size (preOf r x age) x.w x.h (laidG p S).2 ∧ Kp (· = w3.heap.size) w6 w') := by
        have pk := POK.out
        have eg : laidG p S = layG x col acc col row ⟨0, 0, S⟩ := by rw [HP.out]; rfl
        rw [eg]
        rw [HP.out] at pk
        have gk := (gs_empty (c := r.states) (by have := pk.states; simp only at this; omega) (side_of pk.shape) S HS.out HS0.out).1
        rcases O6.out.2 with ⟨rfl, hn0⟩ | ⟨g, cap, cur, rfl, _, hg, _, _, _, htk⟩
        · have ea : acc = [] := List.length_eq_zero_iff.1 hn0
          subst ea
          exact lay_empty w3.heap.size 0 none r x age col row S w6 G6.out ROK.out
        · refine lay_exact w3.heap.size g cap r x age col row r.states ⟨0, 0, S⟩ acc w6 G6.out ROK.out pk.shape gk ⟨cur, hg, htk⟩ ?_ pk.few ?_ pk.col pk.row
          · intro e
            have := G6.out.row
            rw [← e, hg] at this
            simp at this
          · intro rn hrn
            have := pk.runs rn hrn
            exact ⟨⟨this.1, this.2.1⟩, this.2.2⟩
      refine LAY.out.mono ?_
      clear LAY
      rintro e w7 ⟨rfl, g7, k7⟩
      have G7 := hide g7
      have K7 := hide (K6.out.tr k7 (by intro z hz1 hz2; omega))
      have LE := hide (loadE_lay (p := p) (S := S) NB.out)
      have HQP : Hid (GsAt w7 w3.heap.size (preOf p.rule p.shape p.age) p.shape.w p.shape.h (laidG p S).2 ∧ RuleOk p.rule) := by
        rw [HP.out]
        rw [HP.out] at g7
        exact ⟨g7, ROK.out⟩
      clear k7 g7
      obtain ⟨L, hL⟩ : ∃ L, laidG p S = L := ⟨_, rfl⟩
      have HL := hide hL
      rw [hL] at HQP LE ⊢
      clear hL
      cases hy : L.1
      · rw [if_neg (by rw [hy]; simp)] at LE
        go_wp2_with fail
        go_ret3
        exact ⟨⟨_, by rw [LE.out]; rfl, ⟨fun _ => rfl, fun e => by rw [LE.out] at e; cases e⟩⟩, K7.out⟩
      · rw [if_pos hy] at LE
        go_wp2_with fail
        go_ret3
        exact ⟨⟨_, by rw [LE.out]; rfl, ⟨fun e => absurd LE.out e, fun _ => ⟨_, rfl, by omega, HQP.out.2, by rw [HL.out]; exact HQP.out.1⟩⟩⟩, K7.out⟩
    · clear c27
      have LE : Hid (loadE p S = 3) := loadE_birth (by rw [HP.out]; exact he) (by rw [HP.out]; exact BB0.out)
      go_wp2_with fail
      go_ret3
      exact ⟨⟨_, by rw [LE.out]; rfl, ⟨fun _ => rfl, fun e => by rw [LE.out] at e; cases e⟩⟩, K3.out⟩
  · have NB : Hid (¬ ((p.shape.w = 0 ∨ p.shape.h = 0) ∧ p.rule.births.getD 0 false = true)) := by
      rw [HP.out]
      rintro ⟨e, _⟩
      exact he e
    rw [decide_eq_false he] at HEN
    refine (HEN.out _).mono ?_
    rintro e w3 ⟨rfl, k3⟩
    have P3 := hide (P2.out.keep k3 (fun hx => hx))
    have O3 := hide (own_keep O2.out k3 (by intro g hg hx; exact hx))
    have K3 := hide (K2.out.trans k3)
    have LS := hide (fun j u hu => (cell_of_row w3 w1.heap.size (20 + j) _ _ _ P3.out.row).trans (ptv_shape ROK.out x age col row v j u hu))
    have LR := hide (fun j u hu => (cell_of_row w3 w1.heap.size (0 + j) _ _ _ P3.out.row).trans (ptv_rule ROK.out x age col row v j u hu))
    have c27 : w3.cell? ⟨w1.heap.size, 27, none⟩ = some (.int .i64 age) := P3.out.cell 0
    clear k3 HEN
    go_wp2_with (first
      | (refine wpList_load_at rfl 48 _ rfl w1.heap.size 0 rfl (rulev r) LR.out _ Tryd.underlying48 rfl (by rw [info_rule, rulev_size ROK.out]) ?_)
      | (refine wpList_load_at rfl 50 _ rfl w1.heap.size 20 rfl (shv x) LS.out _ Tryd.underlying50 rfl info_shape ?_)
      | (refine wpList_build3 rfl 55 _ _ _ _ _ _ rfl (.agg (rulev r)) (.agg (shv x)) (.int .i64 age) rfl rfl rfl (grv (preOf r x age) 0 0 0 0 S) (HB.out r ROK.out x age) ?_)
      | (refine wpList_box_row rfl 55 _ rfl (grv (preOf r x age) 0 0 0 0 S) rfl ?_
         intro w4 hw4
         have KK : Kp (fun _ => False) w3 w4 := by rw [hw4]; exact (Kp.refl _ _).alloc _
         have Q4 : Hid (w4.heap[w3.heap.size]? = some (.cells (grv (preOf r x age) 0 0 0 0 S) 55 (0, 0))) := by rw [hw4]; exact heap_alloc_new _ _
         have P4 := hide (P3.out.keep KK (fun hx => hx))
         have O4 := hide (own_keep O3.out KK (by intro g hg hx; exact hx))
         have K4 := hide (K3.out.trans KK)
         have d1 : w4.cell? ⟨w1.heap.size, 21, none⟩ = some (.int .i64 x.w) := by rw [cell_of_row _ _ _ _ _ _ P4.out.row]; exact ptv_shape ROK.out x age col row v 1 _ rfl
         have d2 : w4.cell? ⟨w1.heap.size, 22, none⟩ = some (.int .i64 x.h) := by rw [cell_of_row _ _ _ _ _ _ P4.out.row]; exact ptv_shape ROK.out x age col row v 2 _ rfl
         clear hw4 KK))
    refine (HN.out x.w x.h _).mono ?_
    rintro e w5 ⟨rfl, k5⟩
    have Q5 := hide (k5.row Q4.out (fun hx => hx))
    have P5 := hide (P4.out.keep k5 (fun hx => hx))
    have O5 := hide (own_keep O4.out k5 (by intro g hg hx; exact hx))
    have K5 := hide (K4.out.trans k5)
    have lq : w1.heap.size < w3.heap.size := P3.out.lt
    have lw : w.heap.size ≤ w1.heap.size := K1.out.size
    have psz := preOf_size ROK.out x age
    have PS := hide psz
    clear k5 d1 d2 c27 psz
    go_wp2_with (first
      | (refine wpList_store_at_g rfl 53 _ _ rfl w3.heap.size 28 (gnew x.w x.h S) rfl rfl 55 _ Q5.out (by rw [info_grid, gnew_size _ _ HS.out]) (by rw [gnew_size _ _ HS.out, grv_size PS.out _ _ _ _ _ HS.out]; omega) (gnew_one _ _ _) ?_
         intro w6 hw6
         have G6 : Hid (GrAt w6 w3.heap.size (preOf r x age) x.w x.h 0 0 S) := ⟨by rw [hw6, putCells_row _ _ _ _ _ _ Q5.out, put_grid PS.out x.w x.h HS.out], PS.out, HS.out⟩
         have P6 : Hid (PtAt w6 w1.heap.size r x age col row v) := ⟨by rw [hw6]; exact (putCells_other _ _ _ _ _ (by omega)).trans P5.out.row, ROK.out⟩
         have O6 : Hid (w6.ownsRow w.heap.size 115 3 v acc.length (runsv acc)) := by rw [hw6]; exact own_put O5.out Q5.out _ _
         have K6 : Hid (Kp (fun _ => False) w w6) := by rw [hw6]; exact putCells_new _ _ _ K5.out (by omega)
         clear hw6)
      | (refine wpList_load_row rfl 91 _ rfl w1.heap.size rfl 91 (ptv r x age col row v) (0, 0) _ P6.out.row Tryd.underlying91 rfl (by rw [info_parts, ptv_size ROK.out]) ?_))
    have LAY : Hid (Calls Tryd.prog 48 #[.pointer (some ⟨w3.heap.size, 0, none⟩), .agg (ptv r x age col row v)] w6 fun e w' => e = .returned (.bool (laidG p S).1) ∧ GsAt w' w3.heap.size (preOf r x age) x.w x.h (laidG p S).2 ∧ Kp (· = w3.heap.size) w6 w') := by
      have pk := POK.out
      have eg : laidG p S = layG x col acc col row ⟨0, 0, S⟩ := by rw [HP.out]; rfl
      rw [eg]
      rw [HP.out] at pk
      have gk := (gs_empty (c := r.states) (by have := pk.states; simp only at this; omega) (side_of pk.shape) S HS.out HS0.out).1
      rcases O6.out.2 with ⟨rfl, hn0⟩ | ⟨g, cap, cur, rfl, _, hg, _, _, _, htk⟩
      · have ea : acc = [] := List.length_eq_zero_iff.1 hn0
        subst ea
        exact lay_empty w3.heap.size 0 none r x age col row S w6 G6.out ROK.out
      · refine lay_exact w3.heap.size g cap r x age col row r.states ⟨0, 0, S⟩ acc w6 G6.out ROK.out pk.shape gk ⟨cur, hg, htk⟩ ?_ pk.few ?_ pk.col pk.row
        · intro e
          have := G6.out.row
          rw [← e, hg] at this
          simp at this
        · intro rn hrn
          have := pk.runs rn hrn
          exact ⟨⟨this.1, this.2.1⟩, this.2.2⟩
    refine LAY.out.mono ?_
    clear LAY
    rintro e w7 ⟨rfl, g7, k7⟩
    have G7 := hide g7
    have K7 := hide (K6.out.tr k7 (by intro z hz1 hz2; omega))
    have LE := hide (loadE_lay (p := p) (S := S) NB.out)
    have HQP : Hid (GsAt w7 w3.heap.size (preOf p.rule p.shape p.age) p.shape.w p.shape.h (laidG p S).2 ∧ RuleOk p.rule) := by
      rw [HP.out]
      rw [HP.out] at g7
      exact ⟨g7, ROK.out⟩
    clear k7 g7
    obtain ⟨L, hL⟩ : ∃ L, laidG p S = L := ⟨_, rfl⟩
    have HL := hide hL
    rw [hL] at HQP LE ⊢
    clear hL
    cases hy : L.1
    · rw [if_neg (by rw [hy]; simp)] at LE
      go_wp2_with fail
      go_ret3
      exact ⟨⟨_, by rw [LE.out]; rfl, ⟨fun _ => rfl, fun e => by rw [LE.out] at e; cases e⟩⟩, K7.out⟩
    · rw [if_pos hy] at LE
      go_wp2_with fail
      go_ret3
      exact ⟨⟨_, by rw [LE.out]; rfl, ⟨fun e => absurd LE.out e, fun _ => ⟨_, rfl, by omega, HQP.out.2, by rw [HL.out]; exact HQP.out.1⟩⟩⟩, K7.out⟩

/-- Load of a right text. -/
theorem Load_gen (s : ByteArray) (w : World) (hs : s.size ≤ 400) (j : Nat) (p : Pu.Parts) (hq : Hid (Pu.read (src s) = (j, some p))) :
    Calls Tryd.prog 12 #[.string s] w fun e w' => (∃ u, e = .returned (.tuple #[u, .int .i64 0, .int .i64 (loadE p noS)]) ∧ Loaded w w' p noS u) ∧ Kp (fun _ => False) w w' := by
  have HL := hide (fun wx => load_gen noS noS_len noS_zero built_world new_any s wx hs j p hq)
  clear hq
  go_enter Tryd.func12, Tryd.ntmps12
  go_wp2_with fail
  refine (HL.out _).mono ?_
  rintro e w1 ⟨⟨u, rfl, l1⟩, k1⟩
  have L1 := hide l1
  have K1 := hide k1
  clear l1 k1
  go_wp2_with fail
  go_ret3
  exact ⟨⟨u, rfl, L1.out⟩, K1.out⟩
end Go.Proofs.YtbdbkjngdhcjpaaDoor
