import Derived.Test.YtiimimclbkjcbaaGa
namespace Go.Proofs.Ytiimimclbkjcbaa
open Go.RowKit
open Go.Proofs

/-- A box at block p, no edge of it beyond M. -/
def bxv (e : Bool) (L T R B : Int) : Array Value := #[.bool e, .int .i64 L, .int .i64 T, .int .i64 R, .int .i64 B]
def BxW (w : World) (p : Nat) (M : Int) : Prop := ∃ e L T R B, w.heap[p]? = some (.cells (bxv e L T R B) 86 (0, 0)) ∧ (-M ≤ L ∧ L ≤ M) ∧ (-M ≤ T ∧ T ≤ M) ∧ (-M ≤ R ∧ R ≤ M) ∧ (-M ≤ B ∧ B ≤ M)
section
variable {w : World} {p : Nat} {M u : Int}
theorem BxW.s0 (h : BxW w p M) (e : Bool) : BxW (w.setCell ⟨p, 0, none⟩ (.bool e)) p M := by
  obtain ⟨e0, L, T, R, B, hr, h1, h2, h3, h4⟩ := h
  exact ⟨e, L, T, R, B, by rw [heap_setCell_same w p _ _ _ _ hr]; rfl, h1, h2, h3, h4⟩
theorem BxW.s1 (h : BxW w p M) (hu : -M ≤ u ∧ u ≤ M) : BxW (w.setCell ⟨p, 1, none⟩ (.int .i64 u)) p M := by
  obtain ⟨e0, L, T, R, B, hr, h1, h2, h3, h4⟩ := h
  exact ⟨e0, u, T, R, B, by rw [heap_setCell_same w p _ _ _ _ hr]; rfl, hu, h2, h3, h4⟩
theorem BxW.s2 (h : BxW w p M) (hu : -M ≤ u ∧ u ≤ M) : BxW (w.setCell ⟨p, 2, none⟩ (.int .i64 u)) p M := by
  obtain ⟨e0, L, T, R, B, hr, h1, h2, h3, h4⟩ := h
  exact ⟨e0, L, u, R, B, by rw [heap_setCell_same w p _ _ _ _ hr]; rfl, h1, hu, h3, h4⟩
theorem BxW.s3 (h : BxW w p M) (hu : -M ≤ u ∧ u ≤ M) : BxW (w.setCell ⟨p, 3, none⟩ (.int .i64 u)) p M := by
  obtain ⟨e0, L, T, R, B, hr, h1, h2, h3, h4⟩ := h
  exact ⟨e0, L, T, u, B, by rw [heap_setCell_same w p _ _ _ _ hr]; rfl, h1, h2, hu, h4⟩
theorem BxW.s4 (h : BxW w p M) (hu : -M ≤ u ∧ u ≤ M) : BxW (w.setCell ⟨p, 4, none⟩ (.int .i64 u)) p M := by
  obtain ⟨e0, L, T, R, B, hr, h1, h2, h3, h4⟩ := h
  exact ⟨e0, L, T, R, u, by rw [heap_setCell_same w p _ _ _ _ hr]; rfl, h1, h2, h3, hu⟩
end

theorem Kp.setB {a w : World} {p k : Nat} {u : Value} (h : Kp (· = p) a w) : Kp (· = p) a (w.setCell ⟨p, k, none⟩ u) := h.setCell rfl u

set_option maxHeartbeats 1000000 in
theorem add_any (p : Nat) (M x y : Int) (w : World) (h : BxW w p M) (hx : -M ≤ x ∧ x ≤ M) (hy : -M ≤ y ∧ y ≤ M) :
    Calls Try.prog 63 #[.pointer (some ⟨p, 0, none⟩), .int .i64 x, .int .i64 y] w fun e w' => (∃ v, e = .returned v) ∧ BxW w' p M ∧ Kp (· = p) w w' := by
  have H := hide h
  obtain ⟨e0, L, T, R, B, hr, h1, h2, h3, h4⟩ := h
  have c0 : w.cell? ⟨p, 0, none⟩ = some (.bool e0) := cell_of_row w p 0 _ _ _ hr
  have c1 : w.cell? ⟨p, 1, none⟩ = some (.int .i64 L) := cell_of_row w p 1 _ _ _ hr
  have c2 : w.cell? ⟨p, 2, none⟩ = some (.int .i64 T) := cell_of_row w p 2 _ _ _ hr
  have c3 : w.cell? ⟨p, 3, none⟩ = some (.int .i64 R) := cell_of_row w p 3 _ _ _ hr
  have c4 : w.cell? ⟨p, 4, none⟩ = some (.int .i64 B) := cell_of_row w p 4 _ _ _ hr
  have f0 := frozen_of_row w p 0 _ _ hr
  have f1 := frozen_of_row w p 1 _ _ hr
  have f2 := frozen_of_row w p 2 _ _ hr
  have f3 := frozen_of_row w p 3 _ _ hr
  have f4 := frozen_of_row w p 4 _ _ hr
  clear hr
  cases e0
  · go_enter Try.func63, Try.ntmps63
    go_wp2
    all_goals
      go_end0
      refine ⟨⟨_, rfl⟩, ?_, ?_⟩
      · repeat (first | (with_reducible exact H.out) | (with_reducible refine BxW.s1 ?_ hx) | (with_reducible refine BxW.s3 ?_ hx) | (with_reducible refine BxW.s2 ?_ hy) | (with_reducible refine BxW.s4 ?_ hy) | (with_reducible refine BxW.s0 ?_ _))
      · repeat (first | (with_reducible exact Kp.refl _ _) | (with_reducible refine Kp.setB ?_))
  · go_enter Try.func63, Try.ntmps63
    go_wp2
    all_goals
      go_end0
      refine ⟨⟨_, rfl⟩, ?_, ?_⟩
      · repeat (first | (with_reducible exact H.out) | (with_reducible refine BxW.s1 ?_ hx) | (with_reducible refine BxW.s3 ?_ hx) | (with_reducible refine BxW.s2 ?_ hy) | (with_reducible refine BxW.s4 ?_ hy) | (with_reducible refine BxW.s0 ?_ _))
      · repeat (first | (with_reducible exact Kp.refl _ _) | (with_reducible refine Kp.setB ?_))
end Go.Proofs.Ytiimimclbkjcbaa
