import Derived.Test.YtiimimclbkjcbaaM13
import Derived.Test.YtiimimclbkjcbaaM9
import Derived.Test.YtiimimclbkjcbaaWn
namespace Go.Proofs.Ytiimimclbkjcbaa
open Go.RowKit
open Go.Proofs

set_option maxHeartbeats 400000 in
theorem pcounts_any (p : Pu.Plan) (dx dy : Int) (w : World) (hx : -1 ≤ dx ∧ dx ≤ 1) (hy : -1 ≤ dy ∧ dy ≤ 1) :
    Calls Try.prog 36 #[.agg (planv p), .int .i64 dx, .int .i64 dy] w fun e w' => e = .returned (.bool (countsP p.near dx dy)) ∧ Kp (fun _ => False) w w' := by
  have hm : -1 ≤ dx * dy ∧ dx * dy ≤ 1 := by
    have h1 : dx = -1 ∨ dx = 0 ∨ dx = 1 := by omega
    rcases h1 with rfl | rfl | rfl <;> omega
  unfold countsP
  by_cases h0 : dx = 0 ∧ dy = 0
  · rw [if_pos h0]
    obtain ⟨rfl, rfl⟩ := h0
    go_enter Try.func36, Try.ntmps36
    go_wp2_with (refine wpList_box_row rfl 34 _ rfl (planv p) rfl ?_
                 intro w1 hw1
                 have K1 : Hid (Kp (fun _ => False) w w1) := by rw [hw1]; exact (Kp.refl _ _).alloc _
                 clear hw1)
    go_ret
    exact ⟨rfl, K1.out⟩
  · rw [if_neg h0]
    have hg : (dx == 0) = true ∧ (dy == 0) = false ∨ (dx == 0) = false := by
      by_cases e : dx = 0
      · left; exact ⟨by simpa using e, by simp; omega⟩
      · right; simpa using e
    clear h0
    by_cases h1 : p.near = 86
    · rw [if_pos h1]
      rcases hg with ⟨b1, b2⟩ | b1
      all_goals
        go_enter Try.func36, Try.ntmps36
        go_wp2_with (refine wpList_box_row rfl 34 _ rfl (planv p) rfl ?_
                     intro w1 hw1
                     have K1 : Hid (Kp (fun _ => False) w w1) := by rw [hw1]; exact (Kp.refl _ _).alloc _
                     have c0 : w1.cell? ⟨w.heap.size, 0, none⟩ = some (.int .u8 86) := by rw [hw1, cell_of_row _ _ 0 _ _ _ (heap_alloc_new _ _), ← h1]; rfl
                     clear hw1)
        go_ret
        exact ⟨ret_bool (by first | rfl | (rw [Bool.eq_iff_iff]; simp)), K1.out⟩
    · rw [if_neg h1]
      have n1 : (p.near == 86) = false := by simpa using h1
      by_cases h2 : p.near = 72
      · rw [if_pos h2]
        clear n1 h1
        rcases hg with ⟨b1, b2⟩ | b1
        all_goals
          go_enter Try.func36, Try.ntmps36
          go_wp2_with (refine wpList_box_row rfl 34 _ rfl (planv p) rfl ?_
                       intro w1 hw1
                       have K1 : Hid (Kp (fun _ => False) w w1) := by rw [hw1]; exact (Kp.refl _ _).alloc _
                       have c0 : w1.cell? ⟨w.heap.size, 0, none⟩ = some (.int .u8 72) := by rw [hw1, cell_of_row _ _ 0 _ _ _ (heap_alloc_new _ _), ← h2]; rfl
                       clear hw1)
          go_ret
          exact ⟨ret_bool (by first | rfl | (rw [Bool.eq_iff_iff]; simp)), K1.out⟩
      · rw [if_neg h2]
        have n2 : (p.near == 72) = false := by simpa using h2
        clear h1 h2
        rcases hg with ⟨b1, b2⟩ | b1
        all_goals
          go_enter Try.func36, Try.ntmps36
          go_wp2_with (refine wpList_box_row rfl 34 _ rfl (planv p) rfl ?_
                       intro w1 hw1
                       have K1 : Hid (Kp (fun _ => False) w w1) := by rw [hw1]; exact (Kp.refl _ _).alloc _
                       have c0 : w1.cell? ⟨w.heap.size, 0, none⟩ = some (.int .u8 p.near) := by rw [hw1, cell_of_row _ _ 0 _ _ _ (heap_alloc_new _ _)]; rfl
                       clear hw1)
          go_ret
          exact ⟨rfl, K1.out⟩

set_option maxRecDepth 100000 in
set_option maxHeartbeats 400000 in
theorem pnext_any (p : Pu.Plan) (hp : Pu.PlanOk p) (s : Int) (k : Nat) (w : World) (hs : 0 ≤ s ∧ s < p.c) (hk : k < 9) :
    Calls Try.prog 37 #[.agg (planv p), .int .i64 s, .int .i64 k] w fun e w' => e = .returned (.int .i64 (nextP p s k)) ∧ Kp (fun _ => False) w w' := by
  have hc := hp.c
  have bb := bits_bd hp
  have e1 : ((p.births : Int) / 2 ^ k).tmod 2 = ((p.births / 2 ^ k % 2 : Nat) : Int) := by
    have hnn : (0 : Int) ≤ (p.births : Int) / 2 ^ k := Int.ediv_nonneg (by omega) (Int.le_of_lt (Int.pow_pos (by omega)))
    rw [Int.tmod_eq_emod_of_nonneg hnn]
    simp
  have e2 : ((p.lives : Int) / 2 ^ k).tmod 2 = ((p.lives / 2 ^ k % 2 : Nat) : Int) := by
    have hnn : (0 : Int) ≤ (p.lives : Int) / 2 ^ k := Int.ediv_nonneg (by omega) (Int.le_of_lt (Int.pow_pos (by omega)))
    rw [Int.tmod_eq_emod_of_nonneg hnn]
    simp
  unfold nextP
  by_cases h0 : s = 0
  · subst h0
    rw [if_pos rfl, ← e1]
    clear e1 e2
    go_enter Try.func37, Try.ntmps37
    go_wp2_with (refine wpList_box_row rfl 34 _ rfl (planv p) rfl ?_
                 intro w1 hw1
                 have K1 : Hid (Kp (fun _ => False) w w1) := by rw [hw1]; exact (Kp.refl _ _).alloc _
                 have c1 : w1.cell? ⟨w.heap.size, 1, none⟩ = some (.int .i64 p.births) := by rw [hw1, cell_of_row _ _ 1 _ _ _ (heap_alloc_new _ _)]; rfl
                 clear hw1)
    go_ret
    exact ⟨rfl, K1.out⟩
  · rw [if_neg h0]
    clear e1
    have b0 : (s == 0) = false := by simpa using h0
    by_cases h1 : s = 1
    · subst h1
      clear b0
      rcases Nat.mod_two_eq_zero_or_one (p.lives / 2 ^ k) with hz | hz
      · rw [hz] at e2
        rw [if_neg (by omega)]
        have ef : (((p.lives : Int) / 2 ^ k).tmod 2 == 1) = false := by rw [e2]; rfl
        have em : Hid ((1 + 1 : Int).tmod p.c = (1 + 1) % p.c) := Int.tmod_eq_emod_of_nonneg (by omega)
        clear e2 hz
        go_enter Try.func37, Try.ntmps37
        go_wp2_with (refine wpList_box_row rfl 34 _ rfl (planv p) rfl ?_
                     intro w1 hw1
                     have K1 : Hid (Kp (fun _ => False) w w1) := by rw [hw1]; exact (Kp.refl _ _).alloc _
                     have c2 : w1.cell? ⟨w.heap.size, 2, none⟩ = some (.int .i64 p.lives) := by rw [hw1, cell_of_row _ _ 2 _ _ _ (heap_alloc_new _ _)]; rfl
                     have c3 : w1.cell? ⟨w.heap.size, 3, none⟩ = some (.int .i64 p.c) := by rw [hw1, cell_of_row _ _ 3 _ _ _ (heap_alloc_new _ _)]; rfl
                     clear hw1)
        go_ret
        exact ⟨ret_int (by first | rfl | exact em.out), K1.out⟩
      · rw [hz] at e2
        rw [if_pos ⟨rfl, hz⟩]
        have ef : (((p.lives : Int) / 2 ^ k).tmod 2 == 1) = true := by rw [e2]; rfl
        clear e2 hz
        go_enter Try.func37, Try.ntmps37
        go_wp2_with (refine wpList_box_row rfl 34 _ rfl (planv p) rfl ?_
                     intro w1 hw1
                     have K1 : Hid (Kp (fun _ => False) w w1) := by rw [hw1]; exact (Kp.refl _ _).alloc _
                     have c2 : w1.cell? ⟨w.heap.size, 2, none⟩ = some (.int .i64 p.lives) := by rw [hw1, cell_of_row _ _ 2 _ _ _ (heap_alloc_new _ _)]; rfl
                     clear hw1)
        go_ret
        exact ⟨rfl, K1.out⟩
    · rw [if_neg (by omega)]
      have b1 : (s == 1) = false := by simpa using h1
      have em : Hid ((s + 1 : Int).tmod p.c = (s + 1) % p.c) := Int.tmod_eq_emod_of_nonneg (by omega)
      clear e2 h0 h1
      go_enter Try.func37, Try.ntmps37
      go_wp2_with (refine wpList_box_row rfl 34 _ rfl (planv p) rfl ?_
                   intro w1 hw1
                   have K1 : Hid (Kp (fun _ => False) w w1) := by rw [hw1]; exact (Kp.refl _ _).alloc _
                   have c3 : w1.cell? ⟨w.heap.size, 3, none⟩ = some (.int .i64 p.c) := by rw [hw1, cell_of_row _ _ 3 _ _ _ (heap_alloc_new _ _)]; rfl
                   clear hw1)
      go_ret
      exact ⟨ret_int (by first | rfl | exact em.out), K1.out⟩

end Go.Proofs.Ytiimimclbkjcbaa
namespace Go.Proofs.Ytiimimclbkjcbaa
open Go.RowKit
open Go.Proofs

/-- A row of numbers, cell by cell. -/
def RowF (w : World) (g : Nat) (W : Nat) (f : Nat → Int) : Prop := ∃ cur, w.heap[g]? = some (.cells cur 3 (0, 0)) ∧ ∀ x, x < W → cur[x]? = some (.int .i64 (f x))
theorem RowF.cell {w : World} {g W : Nat} {f : Nat → Int} (h : RowF w g W f) {x : Nat} (hx : x < W) : w.cell? ⟨g, x, none⟩ = some (.int .i64 (f x)) := by
  obtain ⟨cur, hr, hc⟩ := h
  rw [cell_of_row w g x _ _ _ hr]
  exact hc x hx
theorem RowF.keep {w w' : World} {g W : Nat} {f : Nat → Int} (h : RowF w g W f) {T : Nat → Prop} (k : Kp T w w') (hn : ¬ T g) : RowF w' g W f := by
  obtain ⟨cur, hr, hc⟩ := h
  exact ⟨cur, k.row hr hn, hc⟩
/-- Rows of numbers, all as long: a slice of slices. -/
structure MxF (w : World) (base : Nat) (v : Value) (n W : Nat) (f : Nat → Nat → Int) : Prop where
  own : ∃ vs : List Value, w.ownsRow base 43 1 v n vs ∧ ∀ i, i < n → ∃ gi ci, vs[i]? = some (.slice (some ⟨gi, 0, none⟩) W ci) ∧ RowF w gi W (fun x => f x i)
theorem MxF.nil (w : World) (base W : Nat) (f : Nat → Nat → Int) : MxF w base (.slice none 0 0) 0 W f := ⟨[], World.ownsRow_nil _ _ _ _, fun i hi => absurd hi (by omega)⟩
theorem MxF.keep {w w' : World} {base : Nat} {v : Value} {n W : Nat} {f : Nat → Nat → Int} (h : MxF w base v n W f) (k : Kp (fun _ => False) w w') : MxF w' base v n W f := by
  obtain ⟨vs, ho, hr⟩ := h.own
  refine ⟨vs, own_keep ho k (by intro g hg hx; exact hx), fun i hi => ?_⟩
  obtain ⟨gi, ci, h1, h2⟩ := hr i hi
  exact ⟨gi, ci, h1, h2.keep k (fun hx => hx)⟩
theorem MxF.open_ {w : World} {base : Nat} {v : Value} {n W : Nat} {f : Nat → Nat → Int} (h : MxF w base v n W f) (hn : 0 < n) : ∃ g cap, v = .slice (some ⟨g, 0, none⟩) n cap ∧ n ≤ cap ∧ cap ≤ maxLen ∧ ∀ i, i < n → ∃ gi ci, w.cell? ⟨g, i, none⟩ = some (.slice (some ⟨gi, 0, none⟩) W ci) ∧ ∀ x, x < W → w.cell? ⟨gi, x, none⟩ = some (.int .i64 (f x i)) := by
  obtain ⟨vs, ho, hr⟩ := h.own
  rcases ho.2 with ⟨_, h0⟩ | ⟨g, cap, cur, rfl, _, hg, h1, h2, h3, ht⟩
  · omega
  · refine ⟨g, cap, rfl, h1, h2, fun i hi => ?_⟩
    obtain ⟨gi, ci, e1, e2⟩ := hr i hi
    refine ⟨gi, ci, ?_, fun x hx => e2.cell hx⟩
    rw [cell_of_row w g i _ _ _ hg]
    rw [← ht, List.getElem?_take, if_pos (by omega)] at e1
    simpa using e1
theorem MxF.congr {w : World} {base : Nat} {v : Value} {n W : Nat} {f h : Nat → Nat → Int} (hm : MxF w base v n W f) (e : ∀ i x, i < n → x < W → f x i = h x i) : MxF w base v n W h := by
  obtain ⟨vs, ho, hr⟩ := hm.own
  refine ⟨vs, ho, fun i hi => ?_⟩
  obtain ⟨gi, ci, h1, cur, h2, h3⟩ := hr i hi
  exact ⟨gi, ci, h1, cur, h2, fun x hx => (h3 x hx).trans (by show some (Value.int .i64 (f x i)) = some (Value.int .i64 (h x i)); rw [e i x hi hx])⟩
/-- A row that is being made: k of its cells. -/
def rowL (f : Nat → Int) (k : Nat) : List Value := (List.range k).map fun x => .int .i64 (f x)
theorem rowL_succ (f : Nat → Int) (k : Nat) : rowL f (k + 1) = rowL f k ++ [.int .i64 (f k)] := by
  unfold rowL
  rw [List.range_succ, List.map_append]
  rfl
theorem rowL_len (f : Nat → Int) (k : Nat) : (rowL f k).length = k := by unfold rowL; simp
theorem rowF_of_own {w : World} {base : Nat} {v : Value} {W : Nat} {f : Nat → Int} (h : w.ownsRow base 3 1 v W (rowL f W)) (hW : 0 < W) : ∃ g c, v = .slice (some ⟨g, 0, none⟩) W c ∧ base ≤ g ∧ RowF w g W f := by
  rcases h.2 with ⟨_, h0⟩ | ⟨g, cap, cur, rfl, hb, hg, _, _, _, ht⟩
  · omega
  · refine ⟨g, cap, rfl, hb, cur, hg, fun x hx => ?_⟩
    have e : (rowL f W)[x]? = some (.int .i64 (f x)) := by unfold rowL; simp [hx]
    rw [← ht, List.getElem?_take, if_pos (by omega)] at e
    simpa using e
/-- One row more. -/
theorem MxF.push {w w' : World} {base : Nat} {v v' : Value} {n W : Nat} {f : Nat → Nat → Int} (h : MxF w base v n W f) {g c : Nat} (hr : RowF w g W (fun x => f x n))
    (hg : ∀ vs, w.ownsRow base 43 1 v n vs → w'.ownsRow base 43 1 v' (n + 1) (vs ++ [.slice (some ⟨g, 0, none⟩) W c]) ∧ ∀ (k : Nat) (cur : Array Value), w.heap[k]? = some (Obj.cells cur 3 (0, 0)) → w'.heap[k]? = some (Obj.cells cur 3 (0, 0))) : MxF w' base v' (n + 1) W f := by
  obtain ⟨vs, ho, hs⟩ := h.own
  obtain ⟨h1, h2⟩ := hg vs ho
  have hl : vs.length = n := by have := ho.1; omega
  refine ⟨_, h1, fun i hi => ?_⟩
  by_cases e : i < n
  · obtain ⟨gi, ci, e1, cur, e2, e3⟩ := hs i e
    exact ⟨gi, ci, by rw [List.getElem?_append_left (by omega)]; exact e1, cur, h2 _ _ e2, e3⟩
  · have ei : i = n := by omega
    subst ei
    obtain ⟨cur, e2, e3⟩ := hr
    exact ⟨g, c, by rw [List.getElem?_append_right (by omega), hl]; simp, cur, h2 _ _ e2, e3⟩

end Go.Proofs.Ytiimimclbkjcbaa
