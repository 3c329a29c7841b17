import Derived.Test.YtiimimclbkjcbaaIc
import Derived.Test.YtiimimclbkjcbaaM9
import Derived.Test.YtiimimclbkjcbaaM12
namespace Go.Proofs.Ytiimimclbkjcbaa
open Go.RowKit
open Go.Proofs

/-- The state of a wish's cell, by its place in the row of cells. -/
def stP (v : Wish) (c : Int) (k : Nat) : Int := if v.cells.size ≤ k then 0 else src v.cells k % c
theorem stP_bd (v : Wish) (c : Int) (k : Nat) (h : 2 ≤ c) : 0 ≤ stP v c k ∧ stP v c k < c := by
  unfold stP
  split
  · omega
  · exact ⟨Int.emod_nonneg _ (by omega), Int.emod_lt_of_pos _ (by omega)⟩

set_option maxRecDepth 100000 in
set_option maxHeartbeats 400000 in
theorem pstate_any (p : Pu.Plan) (hp : Pu.PlanOk p) (v : Wish) (hv : v.cells.size ≤ maxLen) (x y k : Nat) (hx : x ≤ 12) (hy : y ≤ 12) (hk : (y : Int) * p.w + x = k) (w : World) :
    Calls Try.prog 19 #[.agg (planv p), .agg (wishv v), .int .i64 x, .int .i64 y] w fun e w' => e = .returned (.int .i64 (stP v p.c k)) ∧ Kp (fun _ => False) w w' := by
  have hw := hp.w
  have hc := hp.c
  have h0 : 0 ≤ (y : Int) * p.w := Int.mul_nonneg (by omega) (by omega)
  have h1 : (y : Int) * p.w ≤ 144 := by
    have a1 : (y : Int) * p.w ≤ 12 * p.w := Int.mul_le_mul_of_nonneg_right (by omega) (by omega)
    omega
  unfold maxLen at hv
  clear hp
  unfold stP
  by_cases hl : v.cells.size ≤ k
  · rw [if_pos hl]
    go_enter Try.func19, Try.ntmps19
    go_wp2_with (first
      | (refine wpList_box_row rfl 34 _ rfl (planv p) rfl ?_
         intro w1 hw1
         have P1 : Hid (PlAt w1 w.heap.size p) := ⟨by rw [hw1]; exact heap_alloc_new _ _⟩
         have K1 : Hid (Kp (fun _ => False) w w1) := by rw [hw1]; exact (Kp.refl _ _).alloc _
         clear hw1)
      | (refine wpList_box_row rfl 32 _ rfl (wishv v) rfl ?_
         intro w2 hw2
         have P2 : Hid (PlAt w2 w.heap.size p) := by rw [hw2]; exact P1.out.keep ((Kp.refl (fun _ => False) _).alloc _) (fun hx => hx)
         have K2 : Hid (Kp (fun _ => False) w w2) := by rw [hw2]; exact K1.out.alloc _
         have W2 : Hid (WsAt w2 w1.heap.size v) := ⟨by rw [hw2]; exact heap_alloc_new _ _⟩
         have c5 : w2.cell? ⟨w.heap.size, 5, none⟩ = some (.int .i64 p.w) := P2.out.cell 5
         have d8 : w2.cell? ⟨w1.heap.size, 8, none⟩ = some (.string v.cells) := W2.out.cell 8
         clear hw2))
    go_ret
    exact ⟨rfl, K2.out⟩
  · rw [if_neg hl, src_lt (by omega)]
    have hkl : k < v.cells.size := by omega
    have hb : (v.cells[k].toNat : Int) < 256 := by have := v.cells[k].toNat_lt; omega
    go_enter Try.func19, Try.ntmps19
    go_wp2_with (first
      | (refine wpList_box_row rfl 34 _ rfl (planv p) rfl ?_
         intro w1 hw1
         have P1 : Hid (PlAt w1 w.heap.size p) := ⟨by rw [hw1]; exact heap_alloc_new _ _⟩
         have K1 : Hid (Kp (fun _ => False) w w1) := by rw [hw1]; exact (Kp.refl _ _).alloc _
         clear hw1)
      | (refine wpList_box_row rfl 32 _ rfl (wishv v) rfl ?_
         intro w2 hw2
         have P2 : Hid (PlAt w2 w.heap.size p) := by rw [hw2]; exact P1.out.keep ((Kp.refl (fun _ => False) _).alloc _) (fun hx => hx)
         have K2 : Hid (Kp (fun _ => False) w w2) := by rw [hw2]; exact K1.out.alloc _
         have W2 : Hid (WsAt w2 w1.heap.size v) := ⟨by rw [hw2]; exact heap_alloc_new _ _⟩
         have c3 : w2.cell? ⟨w.heap.size, 3, none⟩ = some (.int .i64 p.c) := P2.out.cell 3
         have c5 : w2.cell? ⟨w.heap.size, 5, none⟩ = some (.int .i64 p.w) := P2.out.cell 5
         have d8 : w2.cell? ⟨w1.heap.size, 8, none⟩ = some (.string v.cells) := W2.out.cell 8
         clear hw2))
    go_quiet (fail)
    go_wp2_with fail
    go_ret
    exact ⟨rfl, K2.out.drewN _⟩
end Go.Proofs.Ytiimimclbkjcbaa
namespace Go.Proofs.Ytiimimclbkjcbaa
open Go.RowKit
open Go.Proofs

/-- The cells of a wish, so many of them. -/
def fillS (v : Wish) (c : Int) (k : Nat) : List Int := (List.range 768).map fun m => if m < k then stP v c m else 0
theorem fillN_zero (N : Nat) (v : Wish) (c : Int) : ((List.range N).map fun m => if m < 0 then stP v c m else 0) = List.replicate N 0 := by
  apply List.ext_getElem
  · simp
  · intro i h1 h2
    simp
theorem fillS_zero (v : Wish) (c : Int) : fillS v c 0 = noS := fillN_zero 768 v c
theorem fillS_succ (v : Wish) (c : Int) (k : Nat) (_h : k < 768) : (fillS v c k).set k (stP v c k) = fillS v c (k + 1) := by
  unfold fillS
  apply List.ext_getElem
  · simp
  · intro i h1 h2
    rw [List.getElem_set]
    simp only [List.getElem_map, List.getElem_range]
    by_cases e : k = i
    · subst e; simp
    · rw [if_neg e]
      by_cases l : i < k
      · rw [if_pos l, if_pos (by omega)]
      · rw [if_neg l, if_neg (by omega)]
theorem fillS_get (v : Wish) (c : Int) (k m : Nat) (h : m < k) (h2 : m < 768) : (fillS v c k).getD m 0 = stP v c m := by
  unfold fillS
  simp [List.getD, h, h2]
theorem planv_size (p : Pu.Plan) : (planv p).size = 11 := rfl
theorem wish_one (v : Wish) : (wishv v).size = 9 := rfl
theorem ret_t2 {a b c : Value} (h : a = b) : Ending.returned (.tuple #[a, c]) = .returned (.tuple #[b, c]) := by rw [h]

/-- What 'made' keeps in its loops. -/
structure Mst (w wr : World) (g2 q : Nat) (p : Pu.Plan) (v : Wish) (k : Nat) : Prop where
  plan : PlAt wr w.heap.size p
  wish : WsAt wr g2 v
  grid : GrAt wr q (preOf (Pu.ruleOf p) (Pu.shapeOf p) 0) p.w p.h 0 0 (fillS v p.c k)
  keep : Kp (fun _ => False) w wr

set_option maxRecDepth 100000 in
set_option maxHeartbeats 1000000 in
theorem pmade_any (p : Pu.Plan) (hp : Pu.PlanOk p) (v : Wish) (hv : v.cells.size ≤ maxLen) (w : World) :
    Calls Try.prog 17 #[.agg (planv p), .agg (wishv v)] w fun e w' => (∃ q, e = .returned (.tuple #[.pointer (some ⟨q, 0, none⟩), .bool true]) ∧ w.heap.size ≤ q ∧ RuleOk (Pu.ruleOf p) ∧ GrAt w' q (preOf (Pu.ruleOf p) (Pu.shapeOf p) 0) p.w p.h 0 0 (fillS v p.c (p.h * p.w).toNat)) ∧ Kp (fun _ => False) w w' := by
  have hw := hp.w
  have hh := hp.h
  have hc := hp.c
  obtain ⟨W, hW⟩ := Int.eq_ofNat_of_zero_le (show 0 ≤ p.w by omega)
  obtain ⟨H, hH⟩ := Int.eq_ofNat_of_zero_le (show 0 ≤ p.h by omega)
  have LT := hide (fun wx => ptext_any p hp wx)
  have LL := hide (fun wx => Load_text p hp wx)
  have LS := hide (fun (wx : World) (x y k : Nat) (h1 : x ≤ 12) (h2 : y ≤ 12) (h3 : (y : Int) * p.w + x = k) => pstate_any p hp v hv x y k h1 h2 h3 wx)
  have LP := hide (fun (wx : World) (q : Nat) (S : List Int) (a b s : Int) (h : GrAt wx q (preOf (Pu.ruleOf p) (Pu.shapeOf p) 0) p.w p.h 0 0 S) (hr : RuleOk (Pu.ruleOf p)) (ha : 0 ≤ a ∧ a < p.w) (hb : 0 ≤ b ∧ b < p.h) (hs : 0 ≤ s ∧ s < p.c) => wput_two q (Pu.ruleOf p) (Pu.shapeOf p) 0 S a b s wx h hr (two_plan hp) ha hb hs)
  have EW := hide hW
  have EH := hide hH
  have W12 : W ≤ 12 := by omega
  have H12 : H ≤ 12 := by omega
  have W1 : 1 ≤ W := by omega
  clear hW hH
  go_enter Try.func17, Try.ntmps17
  go_wp2_with (first
    | (refine wpList_box_row rfl 34 _ rfl (planv p) rfl ?_
       intro w1 hw1
       have P1 : Hid (PlAt w1 w.heap.size p) := ⟨by rw [hw1]; exact heap_alloc_new _ _⟩
       have K1 : Hid (Kp (fun _ => False) w w1) := by rw [hw1]; exact (Kp.refl _ _).alloc _
       clear hw1)
    | (refine wpList_box_row rfl 32 _ rfl (wishv v) rfl ?_
       intro w2 hw2
       have P2 : Hid (PlAt w2 w.heap.size p) := by rw [hw2]; exact P1.out.keep ((Kp.refl (fun _ => False) _).alloc _) (fun hx => hx)
       have K2 : Hid (Kp (fun _ => False) w w2) := by rw [hw2]; exact K1.out.alloc _
       have W2 : Hid (WsAt w2 w1.heap.size v) := ⟨by rw [hw2]; exact heap_alloc_new _ _⟩
       clear hw2)
    | (refine wpList_load_row rfl 34 _ rfl w.heap.size rfl 34 (planv p) (0, 0) _ P2.out.row Try.underlying34 rfl info_plan ?_))
  refine (LT.out _).mono ?_
  rintro e w3 ⟨rfl, k3⟩
  have P3 := hide (P2.out.keep k3 (fun hx => hx))
  have W3 := hide (W2.out.keep k3 (fun hx => hx))
  have K3 := hide (K2.out.trans k3)
  clear k3
  go_wp2_with fail
  refine (LL.out _).mono ?_
  rintro e w4 ⟨⟨q, rfl, hq0, rk, g4⟩, k4⟩
  have sz3 := K3.out.size
  have RK := hide rk
  have M4 : Hid (Mst w w4 w1.heap.size q p v 0) := ⟨P3.out.keep k4 (fun hx => hx), W3.out.keep k4 (fun hx => hx), by rw [fillS_zero]; exact g4, K3.out.trans k4⟩
  have hql : w.heap.size ≤ q := by omega
  clear g4 k4 rk
  have gne1 : w.heap.size ≠ q := by
    intro e
    have h1 := M4.out.plan.row
    have h2 := M4.out.grid.row
    rw [e, h2] at h1
    simp at h1
  have gne2 : w1.heap.size ≠ q := by
    intro e
    have h1 := M4.out.wish.row
    have h2 := M4.out.grid.row
    rw [e, h2] at h1
    simp at h1
  go_wp2_with fail
  have e0 : (0 : Nat) = 0 * W := by omega
  rw [e0] at M4
  clear e0
  go_loopg [10] H (fun gk jj wr => ∃ j : Nat, j ≤ H ∧ H ≤ j + gk ∧ jj = .int .i64 j ∧ Mst w wr w1.heap.size q p v (j * W))
  case atStart => exact ⟨0, by omega, by omega, rfl, M4.out⟩
  case round =>
    obtain ⟨j, g1, g2, rfl, m5⟩ := hrel
    have M5 := hide m5
    have c6 : wr.cell? ⟨w.heap.size, 6, none⟩ = some (.int .i64 H) := by rw [← EH.out]; exact m5.plan.cell 6
    clear m5
    by_cases hj : j < H
    · go_wp2_with fail
      have e0 : j * W = j * W + 0 := by omega
      rw [e0] at M5
      clear e0
      obtain ⟨gO, hgO⟩ : ∃ g, g = gk := ⟨gk, rfl⟩
      have HGO := hide hgO
      clear hgO
      go_loopg [11] W (fun gi ii ws => ∃ i : Nat, i ≤ W ∧ W ≤ i + gi ∧ ii = .int .i64 i ∧ Mst w ws w1.heap.size q p v (j * W + i))
      case atStart => exact ⟨0, by omega, by omega, rfl, M5.out⟩
      case round =>
        obtain ⟨i, r1, r2, rfl, m6⟩ := hrel
        have M6 := hide m6
        have c5 : wr.cell? ⟨w.heap.size, 5, none⟩ = some (.int .i64 W) := by rw [← EW.out]; exact m6.plan.cell 5
        clear m6 c6
        by_cases hi : i < W
        · have HK : Hid ((j : Int) * p.w + i = ((j * W + i : Nat) : Int)) := by show _ = _; rw [EW.out]; simp
          have HB := hide (stP_bd v p.c (j * W + i) hc.1)
          have klt : j * W + i < 768 := by
            have : j * W ≤ 12 * W := Nat.mul_le_mul_right W (by omega)
            omega
          go_wp2_with (first
            | (refine wpList_load_row rfl 34 _ rfl w.heap.size rfl 34 (planv p) (0, 0) _ M6.out.plan.row Try.underlying34 rfl info_plan ?_)
            | (refine wpList_load_row rfl 32 _ rfl w1.heap.size rfl 32 (wishv v) (0, 0) _ M6.out.wish.row Try.underlying32 rfl info_wish ?_))
          refine (LS.out _ i j (j * W + i) (by omega) (by omega) HK.out).mono ?_
          rintro e w6 ⟨rfl, k6⟩
          have M7 : Hid (Mst w w6 w1.heap.size q p v (j * W + i)) := ⟨M6.out.plan.keep k6 (fun hx => hx), M6.out.wish.keep k6 (fun hx => hx), M6.out.grid.keep k6 (fun hx => hx), M6.out.keep.trans k6⟩
          clear k6
          go_wp2_with fail
          refine (LP.out _ q _ i j (stP v p.c (j * W + i)) M7.out.grid RK.out (by have := EW.out; omega) (by have := EH.out; omega) HB.out).mono ?_
          rintro e w7 ⟨rfl, g7, k7⟩
          have M8 : Hid (Mst w w7 w1.heap.size q p v (j * W + i + 1)) := by
            refine ⟨M7.out.plan.keep k7 gne1, M7.out.wish.keep k7 gne2, ?_, M7.out.keep.tr k7 (by intro z hz1 hz2; omega)⟩
            rw [← fillS_succ v p.c (j * W + i) klt]
            have e2 : ((j : Int) * (Pu.shapeOf p).w + i).toNat = j * W + i := by
              show ((j : Int) * p.w + i).toNat = _
              rw [HK.out]; rfl
            rw [e2] at g7
            exact g7
          clear g7 k7
          go_wp2_with fail
          go_roundg (gk - 1)
          case measure => omega
          case rel => exact ⟨i + 1, by omega, by omega, by go_num, M8.out⟩
        · have ei : i = W := by omega
          subst ei
          have e1 : j * i + i = (j + 1) * i := by rw [Nat.add_mul]; omega
          rw [e1] at M6
          clear e1
          go_wp2_with fail
          go_roundg (gO - 1)
          case measure => have := HGO.out; omega
          case rel => exact ⟨j + 1, by omega, by have := HGO.out; omega, by go_num, M6.out⟩
    · have ej : j = H := by omega
      subst ej
      go_wp2_with fail
      go_ret2
      have ek : (p.h * p.w).toNat = j * W := by rw [EW.out, EH.out, ← Int.natCast_mul]; rfl
      refine ⟨⟨q, rfl, hql, RK.out, ?_⟩, M5.out.keep⟩
      rw [ek]
      exact M5.out.grid
end Go.Proofs.Ytiimimclbkjcbaa
