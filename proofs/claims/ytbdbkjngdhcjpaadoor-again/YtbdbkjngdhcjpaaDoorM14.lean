import Derived.Test.YtbdbkjngdhcjpaaDoorM13
namespace Go.Proofs.YtbdbkjngdhcjpaaDoor
open Go.RowKit
open Go.Proofs

theorem gnew_get (gw gh : Int) {S : List Int} (m : Nat) : (gnew gw gh S)[m]? = if m < 4 then #[Value.int .i64 gw, .int .i64 gh, .int .i64 0, .int .i64 0][m]? else (intsv S)[m - 4]? := by
  unfold gnew
  rw [Array.getElem?_append]
  rfl
theorem put_grid {pre : Array Value} (hp : pre.size = 28) (gw gh : Int) {S : List Int} (hS : S.length = 768) : splice (grv pre 0 0 0 0 S) 28 (gnew gw gh S).toList = grv pre gw gh 0 0 S := by
  apply Array.ext_getElem?
  intro m
  have hg := gnew_size gw gh hS
  rw [splice_get _ _ _ _ (by rw [grv_size hp _ _ _ _ _ hS, Array.length_toList, hg]; omega), grv_get hp, grv_get hp, Array.length_toList, hg]
  by_cases h1 : m < 28
  · rw [if_pos h1, if_pos h1, if_pos h1]
  · rw [if_neg h1, if_neg h1, if_neg h1]
    by_cases h2 : m < 800
    · rw [if_pos h2, Array.getElem?_toList, gnew_get]
      by_cases h3 : m < 32
      · rw [if_pos (by omega), if_pos h3]
      · rw [if_neg (by omega), if_neg h3]
        congr 1
    · rw [if_neg h2, if_neg (by omega), if_neg (by omega)]
theorem ptv_shape {r : Pu.Rule} (h : RuleOk r) (x : Pu.Shape) (age col row : Int) (v : Value) (j : Nat) (u : Value) (hu : (shv x)[j]? = some u) : (ptv r x age col row v)[20 + j]? = some u := by
  have hj : j < 7 := by
    rcases Nat.lt_or_ge j 7 with h7 | h7
    · exact h7
    · rw [Array.getElem?_eq_none (by rw [shv_size]; omega)] at hu; simp at hu
  rw [ptv_get h, if_neg (by omega), if_pos (by omega), show 20 + j - 20 = j by omega, hu]
theorem ptv_rule {r : Pu.Rule} (h : RuleOk r) (x : Pu.Shape) (age col row : Int) (v : Value) (j : Nat) (u : Value) (hu : (rulev r)[j]? = some u) : (ptv r x age col row v)[0 + j]? = some u := by
  have hj : j < 20 := by
    rcases Nat.lt_or_ge j 20 with h7 | h7
    · exact h7
    · rw [Array.getElem?_eq_none (by rw [rulev_size h]; omega)] at hu; simp at hu
  rw [Nat.zero_add, ptv_get h, if_pos hj, hu]
theorem rulev_births {r : Pu.Rule} (h : RuleOk r) : ∃ b, (rulev r)[1]? = some (.bool b) := by
  obtain ⟨a, l, m, c⟩ := r
  obtain ⟨b0, b1, b2, b3, b4, b5, b6, b7, b8, e1⟩ := nine l h.1
  subst e1
  exact ⟨b0, by simp [rulev, bv]⟩

set_option maxRecDepth 100000 in
set_option maxHeartbeats 1000000 in
theorem load_none (s : ByteArray) (w : World) (hs : s.size ≤ 400) (j : Nat) (hq : Hid (Pu.read (src s) = (j, none))) :
    Calls Tryd.prog 27 #[.string s] w fun e w' => e = .returned (.tuple #[.pointer none, .int .i64 j, .int .i64 2]) ∧ Kp (fun _ => False) w w' := by
  go_enter Tryd.func27, Tryd.ntmps27
  go_wp2_with fail
  refine (read_any s _ hs j none hq).mono ?_
  rintro e w1 ⟨⟨r, x, age, col, row, v, acc, rfl, rok, own, _⟩, k1⟩
  have K1 := hide k1
  have ROK := hide rok
  have VO := hide (own_one own)
  clear k1 rok own
  go_wp2_with (refine wpList_store_row_g rfl 91 _ _ rfl w1.heap.size (ptv r x age col row v) rfl rfl 91 (ptv zrule zsh 0 0 0 (.slice none 0 0)) (heap_alloc_new _ _) (by rw [info_parts, ptv_size ROK.out]) ((ptv_size zrule_ok _ _ _ _ _).trans (ptv_size ROK.out _ _ _ _ _).symm) (ptv_one ROK.out _ _ _ _ VO.out) ?_
               intro w2 hw2
               have K2 : Hid (Kp (fun _ => False) w w2) := by rw [hw2]; exact (K1.out.alloc _).setRowNew K1.out.size _
               clear hw2)
  go_ret3
  exact ⟨rfl, K2.out⟩

theorem own_put {w : World} {base : Nat} {v : Value} {n : Nat} {xs : List Value} (h : w.ownsRow base 115 3 v n xs) {q : Nat} {z : Array Value} (hq : w.heap[q]? = some (.cells z 55 (0, 0))) (k : Nat) (vs : List Value) : (putCells w q k vs).ownsRow base 115 3 v n xs := by
  refine ⟨h.1, ?_⟩
  rcases h.2 with h2 | ⟨g, cap, cur, hv, hb, hg, rr⟩
  · exact Or.inl h2
  · refine Or.inr ⟨g, cap, cur, hv, hb, ?_, rr⟩
    have hne : g ≠ q := by
      intro e
      rw [e, hq] at hg
      simp at hg
    exact (putCells_other _ _ _ _ _ hne).trans hg

set_option maxRecDepth 100000 in
set_option maxHeartbeats 1000000 in
theorem load_some (S : List Int) (hS : S.length = 768) (hbu : ∀ (r : Pu.Rule), RuleOk r → ∀ (x : Pu.Shape) (age : Int), Tryd.prog.built 55 [(0, .agg (rulev r)), (1, .agg (shv x)), (2, .int .i64 age)] = some (grv (preOf r x age) 0 0 0 0 S))
    (hnew : ∀ gw gh w, Calls Tryd.prog 47 #[.int .i64 gw, .int .i64 gh] w fun e w' => e = .returned (.agg (gnew gw gh S)) ∧ Kp (fun _ => False) w w')
    (s : ByteArray) (w : World) (hs : s.size ≤ 400) (j : Nat) (p : Pu.Parts) (hq : Hid (Pu.read (src s) = (j, some p))) :
    Calls Tryd.prog 27 #[.string s] w fun e w' => (∃ u c, e = .returned (.tuple #[u, .int .i64 0, .int .i64 c]) ∧ (c = 0 ∨ c = 3 ∨ c = 4)) ∧ Kp (fun _ => False) w w' := by
  have HS := hide hS
  have HB := hide hbu
  have HN := hide hnew
  have POK := hide (Pu.read_inv hq.out)
  clear hS hbu hnew
  go_enter Tryd.func27, Tryd.ntmps27
  go_wp2_with fail
  refine (read_any s _ hs j (some p) hq).mono ?_
  rintro e w1 ⟨⟨r, x, age, col, row, v, acc, rfl, rok, own, hp⟩, k1⟩
  have HP := hide (hp p rfl)
  have K1 := hide k1
  have ROK := hide rok
  have OWN := hide own
  have VO := hide (own_one own)
  obtain ⟨bb, hbb⟩ := rulev_births rok
  have BB := hide hbb
  clear k1 rok own hp hbb
  go_wp2_with (first
    | (refine wpList_store_row_g rfl 91 _ _ rfl w1.heap.size (ptv r x age col row v) rfl rfl 91 (ptv zrule zsh 0 0 0 (.slice none 0 0)) (heap_alloc_new _ _) (by rw [info_parts, ptv_size ROK.out]) ((ptv_size zrule_ok _ _ _ _ _).trans (ptv_size ROK.out _ _ _ _ _).symm) (ptv_one ROK.out _ _ _ _ VO.out) ?_
       intro w2 hw2
       have K2 : Hid (Kp (fun _ => False) w w2) := by rw [hw2]; exact (K1.out.alloc _).setRowNew K1.out.size _
       have P2 : Hid (PtAt w2 w1.heap.size r x age col row v) := ⟨by rw [hw2]; exact setRow_heap _ _ _ _ _ _ (heap_alloc_new _ _), ROK.out⟩
       have KK : Kp (fun _ => False) w1 w2 := by rw [hw2]; exact ((Kp.refl _ _).alloc _).setRowNew (Nat.le_refl _) _
       have O2 := hide (own_keep OWN.out KK (by intro g hg hx; exact hx))
       have LS2 := hide (fun j u hu => (cell_of_row w2 w1.heap.size (20 + j) _ _ _ P2.out.row).trans (ptv_shape ROK.out x age col row v j u hu))
       clear hw2 KK)
    | (refine wpList_load_at rfl 50 _ rfl w1.heap.size 20 rfl (shv x) LS2.out _ Tryd.underlying50 rfl info_shape ?_))
  have HEN := hide (fun wx => endless_any x wx)
  by_cases he : x.w = 0 ∨ x.h = 0
  · rw [decide_eq_true he] at HEN
    refine (HEN.out _).mono ?_
    rintro e w3 ⟨rfl, k3⟩
    have P3 := hide (P2.out.keep k3 (fun hx => hx))
    have O3 := hide (own_keep O2.out k3 (by intro g hg hx; exact hx))
    have K3 := hide (K2.out.trans k3)
    have LS := hide (fun j u hu => (cell_of_row w3 w1.heap.size (20 + j) _ _ _ P3.out.row).trans (ptv_shape ROK.out x age col row v j u hu))
    have LR := hide (fun j u hu => (cell_of_row w3 w1.heap.size (0 + j) _ _ _ P3.out.row).trans (ptv_rule ROK.out x age col row v j u hu))
    have c27 : w3.cell? ⟨w1.heap.size, 27, none⟩ = some (.int .i64 age) := P3.out.cell 0
    have cb : w3.cell? ⟨w1.heap.size, 1, none⟩ = some (.bool bb) := LR.out 1 _ BB.out
    clear k3 HEN BB
    cases bb
    · go_wp2_with (first
        | (refine wpList_load_at rfl 48 _ rfl w1.heap.size 0 rfl (rulev r) LR.out _ Tryd.underlying48 rfl (by rw [info_rule, rulev_size ROK.out]) ?_)
        | (refine wpList_load_at rfl 50 _ rfl w1.heap.size 20 rfl (shv x) LS.out _ Tryd.underlying50 rfl info_shape ?_)
        | (refine wpList_build3 rfl 55 _ _ _ _ _ _ rfl (.agg (rulev r)) (.agg (shv x)) (.int .i64 age) rfl rfl rfl (grv (preOf r x age) 0 0 0 0 S) (HB.out r ROK.out x age) ?_)
        | (refine wpList_box_row rfl 55 _ rfl (grv (preOf r x age) 0 0 0 0 S) rfl ?_
           intro w4 hw4
           have KK : Kp (fun _ => False) w3 w4 := by rw [hw4]; exact (Kp.refl _ _).alloc _
           have Q4 : Hid (w4.heap[w3.heap.size]? = some (.cells (grv (preOf r x age) 0 0 0 0 S) 55 (0, 0))) := by rw [hw4]; exact heap_alloc_new _ _
           have P4 := hide (P3.out.keep KK (fun hx => hx))
           have O4 := hide (own_keep O3.out KK (by intro g hg hx; exact hx))
           have K4 := hide (K3.out.trans KK)
           have d1 : w4.cell? ⟨w1.heap.size, 21, none⟩ = some (.int .i64 x.w) := by rw [cell_of_row _ _ _ _ _ _ P4.out.row]; exact ptv_shape ROK.out x age col row v 1 _ rfl
           have d2 : w4.cell? ⟨w1.heap.size, 22, none⟩ = some (.int .i64 x.h) := by rw [cell_of_row _ _ _ _ _ _ P4.out.row]; exact ptv_shape ROK.out x age col row v 2 _ rfl
           clear hw4 KK))
      refine (HN.out x.w x.h _).mono ?_
      rintro e w5 ⟨rfl, k5⟩
      have Q5 := hide (k5.row Q4.out (fun hx => hx))
      have P5 := hide (P4.out.keep k5 (fun hx => hx))
      have O5 := hide (own_keep O4.out k5 (by intro g hg hx; exact hx))
      have K5 := hide (K4.out.trans k5)
      have lq : w1.heap.size < w3.heap.size := P3.out.lt
      have lw : w.heap.size ≤ w1.heap.size := K1.out.size
      have psz := preOf_size ROK.out x age
      have PS := hide psz
      clear k5 d1 d2 c27 psz
      go_wp2_with (first
        | (refine wpList_store_at_g rfl 53 _ _ rfl w3.heap.size 28 (gnew x.w x.h S) rfl rfl 55 _ Q5.out (by rw [info_grid, gnew_size _ _ HS.out]) (by rw [gnew_size _ _ HS.out, grv_size PS.out _ _ _ _ _ HS.out]; omega) (gnew_one _ _ _) ?_
           intro w6 hw6
           have G6 : Hid (GrAt w6 w3.heap.size (preOf r x age) x.w x.h 0 0 S) := ⟨by rw [hw6, putCells_row _ _ _ _ _ _ Q5.out, put_grid PS.out x.w x.h HS.out], PS.out, HS.out⟩
           have P6 : Hid (PtAt w6 w1.heap.size r x age col row v) := ⟨by rw [hw6]; exact (putCells_other _ _ _ _ _ (by omega)).trans P5.out.row, ROK.out⟩
           have O6 : Hid (w6.ownsRow w.heap.size 115 3 v acc.length (runsv acc)) := by rw [hw6]; exact own_put O5.out Q5.out _ _
           have K6 : Hid (Kp (fun _ => False) w w6) := by rw [hw6]; exact putCells_new _ _ _ K5.out (by omega)
           clear hw6)
        | (refine wpList_load_row rfl 91 _ rfl w1.heap.size rfl 91 (ptv r x age col row v) (0, 0) _ P6.out.row Tryd.underlying91 rfl (by rw [info_parts, ptv_size ROK.out]) ?_))
      have LAY : Hid (Calls Tryd.prog 48 #[.pointer (some ⟨w3.heap.size, 0, none⟩), .agg (ptv r x age col row v)] w6 fun e w' => BoolRet e ∧ WdW w' w3.heap.size r x age 3000000 ∧ Kp (· = w3.heap.size) w6 w') := by
        have pk := POK.out
        rw [HP.out] at pk
        rcases O6.out.2 with ⟨rfl, hn0⟩ | ⟨g, cap, cur, rfl, _, hg, _, _, _, htk⟩
        · exact lay_nil w3.heap.size r x age col row 0 0 S w6 G6.out ROK.out (by omega) (by omega)
        · refine lay_some w3.heap.size g cap r x age col row 0 0 S acc w6 G6.out ROK.out pk.shape (by omega) (by omega) ⟨cur, hg, htk⟩ ?_ pk.few ?_ pk.col pk.row
          · intro e
            have := G6.out.row
            rw [← e, hg] at this
            simp at this
          · intro rn hrn
            have := pk.runs rn hrn
            exact ⟨this.1, this.2.1⟩
      refine LAY.out.mono ?_
      clear LAY
      rintro e w7 ⟨⟨y, rfl⟩, _, k7⟩
      have K7 := hide (K6.out.tr k7 (by intro z hz1 hz2; omega))
      clear k7
      cases y
      · go_wp2_with fail
        go_ret3
        exact ⟨⟨_, _, rfl, Or.inr (Or.inr rfl)⟩, K7.out⟩
      · go_wp2_with fail
        go_ret3
        exact ⟨⟨_, _, rfl, Or.inl rfl⟩, K7.out⟩
    · clear c27
      go_wp2_with fail
      go_ret3
      exact ⟨⟨_, _, rfl, Or.inr (Or.inl rfl)⟩, K3.out⟩
  · rw [decide_eq_false he] at HEN
    refine (HEN.out _).mono ?_
    rintro e w3 ⟨rfl, k3⟩
    have P3 := hide (P2.out.keep k3 (fun hx => hx))
    have O3 := hide (own_keep O2.out k3 (by intro g hg hx; exact hx))
    have K3 := hide (K2.out.trans k3)
    have LS := hide (fun j u hu => (cell_of_row w3 w1.heap.size (20 + j) _ _ _ P3.out.row).trans (ptv_shape ROK.out x age col row v j u hu))
    have LR := hide (fun j u hu => (cell_of_row w3 w1.heap.size (0 + j) _ _ _ P3.out.row).trans (ptv_rule ROK.out x age col row v j u hu))
    have c27 : w3.cell? ⟨w1.heap.size, 27, none⟩ = some (.int .i64 age) := P3.out.cell 0
    clear k3 HEN
    go_wp2_with (first
      | (refine wpList_load_at rfl 48 _ rfl w1.heap.size 0 rfl (rulev r) LR.out _ Tryd.underlying48 rfl (by rw [info_rule, rulev_size ROK.out]) ?_)
      | (refine wpList_load_at rfl 50 _ rfl w1.heap.size 20 rfl (shv x) LS.out _ Tryd.underlying50 rfl info_shape ?_)
      | (refine wpList_build3 rfl 55 _ _ _ _ _ _ rfl (.agg (rulev r)) (.agg (shv x)) (.int .i64 age) rfl rfl rfl (grv (preOf r x age) 0 0 0 0 S) (HB.out r ROK.out x age) ?_)
      | (refine wpList_box_row rfl 55 _ rfl (grv (preOf r x age) 0 0 0 0 S) rfl ?_
         intro w4 hw4
         have KK : Kp (fun _ => False) w3 w4 := by rw [hw4]; exact (Kp.refl _ _).alloc _
         have Q4 : Hid (w4.heap[w3.heap.size]? = some (.cells (grv (preOf r x age) 0 0 0 0 S) 55 (0, 0))) := by rw [hw4]; exact heap_alloc_new _ _
         have P4 := hide (P3.out.keep KK (fun hx => hx))
         have O4 := hide (own_keep O3.out KK (by intro g hg hx; exact hx))
         have K4 := hide (K3.out.trans KK)
         have d1 : w4.cell? ⟨w1.heap.size, 21, none⟩ = some (.int .i64 x.w) := by rw [cell_of_row _ _ _ _ _ _ P4.out.row]; exact ptv_shape ROK.out x age col row v 1 _ rfl
         have d2 : w4.cell? ⟨w1.heap.size, 22, none⟩ = some (.int .i64 x.h) := by rw [cell_of_row _ _ _ _ _ _ P4.out.row]; exact ptv_shape ROK.out x age col row v 2 _ rfl
         clear hw4 KK))
    refine (HN.out x.w x.h _).mono ?_
    rintro e w5 ⟨rfl, k5⟩
    have Q5 := hide (k5.row Q4.out (fun hx => hx))
    have P5 := hide (P4.out.keep k5 (fun hx => hx))
    have O5 := hide (own_keep O4.out k5 (by intro g hg hx; exact hx))
    have K5 := hide (K4.out.trans k5)
    have lq : w1.heap.size < w3.heap.size := P3.out.lt
    have lw : w.heap.size ≤ w1.heap.size := K1.out.size
    have psz := preOf_size ROK.out x age
    have PS := hide psz
    clear k5 d1 d2 c27 psz
    go_wp2_with (first
      | (refine wpList_store_at_g rfl 53 _ _ rfl w3.heap.size 28 (gnew x.w x.h S) rfl rfl 55 _ Q5.out (by rw [info_grid, gnew_size _ _ HS.out]) (by rw [gnew_size _ _ HS.out, grv_size PS.out _ _ _ _ _ HS.out]; omega) (gnew_one _ _ _) ?_
         intro w6 hw6
         have G6 : Hid (GrAt w6 w3.heap.size (preOf r x age) x.w x.h 0 0 S) := ⟨by rw [hw6, putCells_row _ _ _ _ _ _ Q5.out, put_grid PS.out x.w x.h HS.out], PS.out, HS.out⟩
         have P6 : Hid (PtAt w6 w1.heap.size r x age col row v) := ⟨by rw [hw6]; exact (putCells_other _ _ _ _ _ (by omega)).trans P5.out.row, ROK.out⟩
         have O6 : Hid (w6.ownsRow w.heap.size 115 3 v acc.length (runsv acc)) := by rw [hw6]; exact own_put O5.out Q5.out _ _
         have K6 : Hid (Kp (fun _ => False) w w6) := by rw [hw6]; exact putCells_new _ _ _ K5.out (by omega)
         clear hw6)
      | (refine wpList_load_row rfl 91 _ rfl w1.heap.size rfl 91 (ptv r x age col row v) (0, 0) _ P6.out.row Tryd.underlying91 rfl (by rw [info_parts, ptv_size ROK.out]) ?_))
    have LAY : Hid (Calls Tryd.prog 48 #[.pointer (some ⟨w3.heap.size, 0, none⟩), .agg (ptv r x age col row v)] w6 fun e w' => BoolRet e ∧ WdW w' w3.heap.size r x age 3000000 ∧ Kp (· = w3.heap.size) w6 w') := by
      have pk := POK.out
      rw [HP.out] at pk
      rcases O6.out.2 with ⟨rfl, hn0⟩ | ⟨g, cap, cur, rfl, _, hg, _, _, _, htk⟩
      · exact lay_nil w3.heap.size r x age col row 0 0 S w6 G6.out ROK.out (by omega) (by omega)
      · refine lay_some w3.heap.size g cap r x age col row 0 0 S acc w6 G6.out ROK.out pk.shape (by omega) (by omega) ⟨cur, hg, htk⟩ ?_ pk.few ?_ pk.col pk.row
        · intro e
          have := G6.out.row
          rw [← e, hg] at this
          simp at this
        · intro rn hrn
          have := pk.runs rn hrn
          exact ⟨this.1, this.2.1⟩
    refine LAY.out.mono ?_
    clear LAY
    rintro e w7 ⟨⟨y, rfl⟩, _, k7⟩
    have K7 := hide (K6.out.tr k7 (by intro z hz1 hz2; omega))
    clear k7
    cases y
    · go_wp2_with fail
      go_ret3
      exact ⟨⟨_, _, rfl, Or.inr (Or.inr rfl)⟩, K7.out⟩
    · go_wp2_with fail
      go_ret3
      exact ⟨⟨_, _, rfl, Or.inl rfl⟩, K7.out⟩
end Go.Proofs.YtbdbkjngdhcjpaaDoor
namespace Go.Proofs.YtbdbkjngdhcjpaaDoor
open Go.RowKit
open Go.Proofs

theorem zero_grid : (Tryd.prog.info? 53).map (·.zero) = some (some (.agg (gnew 0 0 noS))) := by kernel_rfl
theorem built_grid (gw gh : Int) : Tryd.prog.built 53 [(0, .int .i64 gw), (1, .int .i64 gh)] = some (gnew gw gh noS) := by kernel_rfl

theorem new_any (gw gh : Int) (w : World) : Calls Tryd.prog 47 #[.int .i64 gw, .int .i64 gh] w fun e w' => e = .returned (.agg (gnew gw gh noS)) ∧ Kp (fun _ => False) w w' :=
  new_core noS noS_len zero_grid gw gh (built_grid gw gh) w
end Go.Proofs.YtbdbkjngdhcjpaaDoor
namespace Go.Proofs.YtbdbkjngdhcjpaaDoor
open Go.RowKit
open Go.Proofs

theorem built_world9 (a c age : Int) (x : Pu.Shape) (b0 b1 b2 b3 b4 b5 b6 b7 b8 s0 s1 s2 s3 s4 s5 s6 s7 s8 : Bool) :
    Tryd.prog.built 55 [(0, .agg (rulev ⟨a, [b0, b1, b2, b3, b4, b5, b6, b7, b8], [s0, s1, s2, s3, s4, s5, s6, s7, s8], c⟩)), (1, .agg (shv x)), (2, .int .i64 age)] =
      some (grv (preOf ⟨a, [b0, b1, b2, b3, b4, b5, b6, b7, b8], [s0, s1, s2, s3, s4, s5, s6, s7, s8], c⟩ x age) 0 0 0 0 noS) := by kernel_rfl
theorem built_world (r : Pu.Rule) (hr : RuleOk r) (x : Pu.Shape) (age : Int) : Tryd.prog.built 55 [(0, .agg (rulev r)), (1, .agg (shv x)), (2, .int .i64 age)] = some (grv (preOf r x age) 0 0 0 0 noS) := by
  obtain ⟨a, l, m, c⟩ := r
  obtain ⟨b0, b1, b2, b3, b4, b5, b6, b7, b8, e1⟩ := nine l hr.1
  obtain ⟨s0, s1, s2, s3, s4, s5, s6, s7, s8, e2⟩ := nine m hr.2
  subst e1
  subst e2
  exact built_world9 a c age x b0 b1 b2 b3 b4 b5 b6 b7 b8 s0 s1 s2 s3 s4 s5 s6 s7 s8
end Go.Proofs.YtbdbkjngdhcjpaaDoor
namespace Go.Proofs.YtbdbkjngdhcjpaaDoor
open Go.RowKit
open Go.Proofs

theorem load_ok (s : ByteArray) (w : World) (hs : s.size ≤ 400) (j : Nat) (p : Pu.Parts) (hq : Hid (Pu.read (src s) = (j, some p))) :
    Calls Tryd.prog 27 #[.string s] w fun e w' => (∃ u c, e = .returned (.tuple #[u, .int .i64 0, .int .i64 c]) ∧ (c = 0 ∨ c = 3 ∨ c = 4)) ∧ Kp (fun _ => False) w w' :=
  load_some noS noS_len built_world new_any s w hs j p hq

/-- Load of a text that is too long. -/
theorem Load_long (s : ByteArray) (w : World) (hs : 400 < s.size) (hm : s.size ≤ maxLen) :
    Calls Tryd.prog 12 #[.string s] w fun e w' => e = .returned (.tuple #[.pointer none, .int .i64 0, .int .i64 1]) ∧ w' = w := by
  unfold maxLen at hm
  go_enter Tryd.func12, Tryd.ntmps12
  go_wp2_with fail
  go_ret3
  exact ⟨rfl, rfl⟩

/-- Load of what is no text: the place is where the reader stands. -/
theorem Load_none (s : ByteArray) (w : World) (hs : s.size ≤ 400) (j : Nat) (hq : Hid (Pu.read (src s) = (j, none))) :
    Calls Tryd.prog 12 #[.string s] w fun e w' => e = .returned (.tuple #[.pointer none, .int .i64 j, .int .i64 2]) ∧ Kp (fun _ => False) w w' := by
  go_enter Tryd.func12, Tryd.ntmps12
  go_wp2_with fail
  refine (load_none s _ hs j hq).mono ?_
  rintro e w1 ⟨rfl, k1⟩
  go_wp2_with fail
  go_ret3
  exact ⟨rfl, k1⟩

/-- Load of a text: it is not ErrText and not ErrLong. -/
theorem Load_some (s : ByteArray) (w : World) (hs : s.size ≤ 400) (j : Nat) (p : Pu.Parts) (hq : Hid (Pu.read (src s) = (j, some p))) :
    Calls Tryd.prog 12 #[.string s] w fun e w' => (∃ u c, e = .returned (.tuple #[u, .int .i64 0, .int .i64 c]) ∧ (c = 0 ∨ c = 3 ∨ c = 4)) ∧ Kp (fun _ => False) w w' := by
  go_enter Tryd.func12, Tryd.ntmps12
  go_wp2_with fail
  refine (load_ok s _ hs j p hq).mono ?_
  rintro e w1 ⟨⟨u, c, rfl, hc⟩, k1⟩
  have HC := hide hc
  clear hc
  go_wp2_with fail
  go_ret3
  exact ⟨⟨u, c, rfl, HC.out⟩, k1⟩
end Go.Proofs.YtbdbkjngdhcjpaaDoor
namespace Go.Proofs.YtbdbkjngdhcjpaaDoor
open Go.RowKit
open Go.Proofs

theorem GrAt.rule {w : World} {q : Nat} {r : Pu.Rule} {x : Pu.Shape} {age : Int} {gw gh l t : Int} {S : List Int} (h : GrAt w q (preOf r x age) gw gh l t S) (hr : RuleOk r) (j : Nat) (v : Value) (hv : (rulev r)[j]? = some v) : w.cell? ⟨q, 0 + j, none⟩ = some v := by
  have hj : j < 20 := by
    rcases Nat.lt_or_ge j 20 with h7 | h7
    · exact h7
    · rw [Array.getElem?_eq_none (by rw [rulev_size hr]; omega)] at hv; simp at hv
  rw [cell_of_row w q _ _ _ _ h.row, grv_get h.psz, if_pos (by omega), Nat.zero_add]
  unfold preOf
  rw [Array.getElem?_append, if_pos (by rw [Array.size_append, rulev_size hr]; omega), Array.getElem?_append, if_pos (by rw [rulev_size hr]; omega)]
  exact hv
theorem rulev_around {r : Pu.Rule} : (rulev r)[0]? = some (.int .u8 r.around) := by
  unfold rulev
  simp [Array.getElem?_append]
theorem bv_getD (l : List Bool) (hl : l.length = 9) (m : Nat) (hm : m < 9) : (bv l)[m]? = some (.bool (l.getD m false)) := by
  rw [bv_get l m (by omega)]
  simp [List.getD, show m < l.length by omega]
theorem rule_at {r : Pu.Rule} (hr : RuleOk r) (m : Nat) (hm : m < 9) : (rulev r)[1 + m]? = some (.bool (r.births.getD m false)) ∧ (rulev r)[10 + m]? = some (.bool (r.survivals.getD m false)) := by
  have z1 : (#[Value.int .u8 r.around] : Array Value).size = 1 := rfl
  have z2 : (#[Value.int .u8 r.around] ++ bv r.births).size = 10 := by rw [Array.size_append, z1, bv_size, hr.1]
  have z3 : (#[Value.int .u8 r.around] ++ bv r.births ++ bv r.survivals).size = 19 := by rw [Array.size_append, z2, bv_size, hr.2]
  unfold rulev
  constructor
  · rw [Array.getElem?_append, if_pos (by omega), Array.getElem?_append, if_pos (by omega), Array.getElem?_append, if_neg (by omega), z1, show 1 + m - 1 = m by omega]
    exact bv_getD _ hr.1 m hm
  · rw [Array.getElem?_append, if_pos (by omega), Array.getElem?_append, if_neg (by omega), z2, show 10 + m - 10 = m by omega]
    exact bv_getD _ hr.2 m hm
theorem app_set (A : Array Value) (h : A.size = 27) (u v : Value) : (A ++ #[u]).setIfInBounds 27 v = A ++ #[v] := by
  apply Array.ext_getElem?
  intro m
  rw [Array.getElem?_setIfInBounds, Array.size_append, h, Array.getElem?_append, Array.getElem?_append, h]
  by_cases e : 27 = m
  · subst e
    simp
  · rw [if_neg e]
    by_cases l : m < 27
    · rw [if_pos l, if_pos l]
    · rw [if_neg l, if_neg l, Array.getElem?_eq_none (by simp; omega), Array.getElem?_eq_none (by simp; omega)]
theorem preOf_age {r : Pu.Rule} (h : RuleOk r) (x : Pu.Shape) (a b : Int) : (preOf r x a).setIfInBounds 27 (.int .i64 b) = preOf r x b :=
  app_set (rulev r ++ shv x) (by rw [Array.size_append, rulev_size h]; rfl) _ _
theorem GrAt.age {w : World} {q : Nat} {r : Pu.Rule} {x : Pu.Shape} {a gw gh l t : Int} {S : List Int} (h : GrAt w q (preOf r x a) gw gh l t S) (hr : RuleOk r) : w.cell? ⟨q, 27, none⟩ = some (.int .i64 a) := by
  rw [cell_of_row w q _ _ _ _ h.row, grv_get h.psz, if_pos (by omega)]
  unfold preOf
  have z1 : (rulev r ++ shv x).size = 27 := by rw [Array.size_append, rulev_size hr]; rfl
  rw [Array.getElem?_append, if_neg (by omega), z1]
  rfl
theorem GrAt.setAge {w : World} {q : Nat} {r : Pu.Rule} {x : Pu.Shape} {a gw gh l t : Int} {S : List Int} (h : GrAt w q (preOf r x a) gw gh l t S) (hr : RuleOk r) (b : Int) : GrAt (w.setCell ⟨q, 27, none⟩ (.int .i64 b)) q (preOf r x b) gw gh l t S := by
  refine ⟨?_, preOf_size hr x b, h.len⟩
  rw [heap_setCell_same w q _ _ _ _ h.row, ← preOf_age hr x a b]
  congr 2
  apply Array.ext_getElem?
  intro m
  have p1 : (preOf r x a).size = 28 := h.psz
  have p2 : ((preOf r x a).setIfInBounds 27 (.int .i64 b)).size = 28 := by rw [Array.size_setIfInBounds]; exact p1
  rw [Array.getElem?_setIfInBounds, grv_get p1, grv_get p2, grv_size p1 _ _ _ _ _ h.len, Array.getElem?_setIfInBounds, p1]
  by_cases e : 27 = m
  · subst e; simp
  · rw [if_neg e, if_neg e]
end Go.Proofs.YtbdbkjngdhcjpaaDoor
