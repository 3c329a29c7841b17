import Derived.Test.YtiimimclbkjcbaaIc
namespace Go.Proofs.Ytiimimclbkjcbaa
open Go.RowKit
open Go.Proofs

/-- The state of a wish's cell, by its place in the row of cells. -/
def stP (v : Wish) (c : Int) (k : Nat) : Int := if v.cells.size ≤ k then 0 else src v.cells k % c
theorem stP_bd (v : Wish) (c : Int) (k : Nat) (h : 2 ≤ c) : 0 ≤ stP v c k ∧ stP v c k < c := by
  unfold stP
  split
  · omega
  · exact ⟨Int.emod_nonneg _ (by omega), Int.emod_lt_of_pos _ (by omega)⟩

set_option maxRecDepth 100000 in
set_option maxHeartbeats 400000 in
theorem pstate_any (p : Pu.Plan) (hp : Pu.PlanOk p) (v : Wish) (hv : v.cells.size ≤ maxLen) (x y k : Nat) (hx : x ≤ 12) (hy : y ≤ 12) (hk : (y : Int) * p.w + x = k) (w : World) :
    Calls Try.prog 19 #[.agg (planv p), .agg (wishv v), .int .i64 x, .int .i64 y] w fun e w' => e = .returned (.int .i64 (stP v p.c k)) ∧ Kp (fun _ => False) w w' := by
  have hw := hp.w
  have hc := hp.c
  have h0 : 0 ≤ (y : Int) * p.w := Int.mul_nonneg (by omega) (by omega)
  have h1 : (y : Int) * p.w ≤ 144 := by
    have a1 : (y : Int) * p.w ≤ 12 * p.w := Int.mul_le_mul_of_nonneg_right (by omega) (by omega)
    omega
  unfold maxLen at hv
  clear hp
  unfold stP
  by_cases hl : v.cells.size ≤ k
  · rw [if_pos hl]
    go_enter Try.func19, Try.ntmps19
    go_wp2_with (first
      | (refine wpList_box_row rfl 34 _ rfl (planv p) rfl ?_
         intro w1 hw1
         have P1 : Hid (PlAt w1 w.heap.size p) := ⟨by rw [hw1]; exact heap_alloc_new _ _⟩
         have K1 : Hid (Kp (fun _ => False) w w1) := by rw [hw1]; exact (Kp.refl _ _).alloc _
         clear hw1)
      | (refine wpList_box_row rfl 32 _ rfl (wishv v) rfl ?_
         intro w2 hw2
         have P2 : Hid (PlAt w2 w.heap.size p) := by rw [hw2]; exact P1.out.keep ((Kp.refl (fun _ => False) _).alloc _) (fun hx => hx)
         have K2 : Hid (Kp (fun _ => False) w w2) := by rw [hw2]; exact K1.out.alloc _
         have W2 : Hid (WsAt w2 w1.heap.size v) := ⟨by rw [hw2]; exact heap_alloc_new _ _⟩
         have c5 : w2.cell? ⟨w.heap.size, 5, none⟩ = some (.int .i64 p.w) := P2.out.cell 5
         have d8 : w2.cell? ⟨w1.heap.size, 8, none⟩ = some (.string v.cells) := W2.out.cell 8
         clear hw2))
    go_ret
    exact ⟨rfl, K2.out⟩
  · rw [if_neg hl, src_lt (by omega)]
    have hkl : k < v.cells.size := by omega
    have hb : (v.cells[k].toNat : Int) < 256 := by have := v.cells[k].toNat_lt; omega
    go_enter Try.func19, Try.ntmps19
    go_wp2_with (first
      | (refine wpList_box_row rfl 34 _ rfl (planv p) rfl ?_
         intro w1 hw1
         have P1 : Hid (PlAt w1 w.heap.size p) := ⟨by rw [hw1]; exact heap_alloc_new _ _⟩
         have K1 : Hid (Kp (fun _ => False) w w1) := by rw [hw1]; exact (Kp.refl _ _).alloc _
         clear hw1)
      | (refine wpList_box_row rfl 32 _ rfl (wishv v) rfl ?_
         intro w2 hw2
         have P2 : Hid (PlAt w2 w.heap.size p) := by rw [hw2]; exact P1.out.keep ((Kp.refl (fun _ => False) _).alloc _) (fun hx => hx)
         have K2 : Hid (Kp (fun _ => False) w w2) := by rw [hw2]; exact K1.out.alloc _
         have W2 : Hid (WsAt w2 w1.heap.size v) := ⟨by rw [hw2]; exact heap_alloc_new _ _⟩
         have c3 : w2.cell? ⟨w.heap.size, 3, none⟩ = some (.int .i64 p.c) := P2.out.cell 3
         have c5 : w2.cell? ⟨w.heap.size, 5, none⟩ = some (.int .i64 p.w) := P2.out.cell 5
         have d8 : w2.cell? ⟨w1.heap.size, 8, none⟩ = some (.string v.cells) := W2.out.cell 8
         clear hw2))
    go_quiet (fail)
    go_wp2_with fail
    go_ret
    exact ⟨rfl, K2.out.drewN _⟩
end Go.Proofs.Ytiimimclbkjcbaa
