import Derived.Test.YteanpanjcakepabWn
namespace Go.Proofs.Yteanpanjcakepab
open Go.RowKit
open Go.Proofs

/-- A row of numbers, cell by cell. -/
def RowF (w : World) (g : Nat) (W : Nat) (f : Nat → Int) : Prop := ∃ cur, w.heap[g]? = some (.cells cur 3 (0, 0)) ∧ ∀ x, x < W → cur[x]? = some (.int .i64 (f x))
theorem RowF.cell {w : World} {g W : Nat} {f : Nat → Int} (h : RowF w g W f) {x : Nat} (hx : x < W) : w.cell? ⟨g, x, none⟩ = some (.int .i64 (f x)) := by
  obtain ⟨cur, hr, hc⟩ := h
  rw [cell_of_row w g x _ _ _ hr]
  exact hc x hx
theorem RowF.keep {w w' : World} {g W : Nat} {f : Nat → Int} (h : RowF w g W f) {T : Nat → Prop} (k : Kp T w w') (hn : ¬ T g) : RowF w' g W f := by
  obtain ⟨cur, hr, hc⟩ := h
  exact ⟨cur, k.row hr hn, hc⟩
/-- Rows of numbers, all as long: a slice of slices. -/
structure MxF (w : World) (base : Nat) (v : Value) (n W : Nat) (f : Nat → Nat → Int) : Prop where
  own : ∃ vs : List Value, w.ownsRow base 31 1 v n vs ∧ ∀ i, i < n → ∃ gi ci, vs[i]? = some (.slice (some ⟨gi, 0, none⟩) W ci) ∧ RowF w gi W (fun x => f x i)
theorem MxF.nil (w : World) (base W : Nat) (f : Nat → Nat → Int) : MxF w base (.slice none 0 0) 0 W f := ⟨[], World.ownsRow_nil _ _ _ _, fun i hi => absurd hi (by omega)⟩
theorem MxF.keep {w w' : World} {base : Nat} {v : Value} {n W : Nat} {f : Nat → Nat → Int} (h : MxF w base v n W f) (k : Kp (fun _ => False) w w') : MxF w' base v n W f := by
  obtain ⟨vs, ho, hr⟩ := h.own
  refine ⟨vs, own_keep ho k (by intro g hg hx; exact hx), fun i hi => ?_⟩
  obtain ⟨gi, ci, h1, h2⟩ := hr i hi
  exact ⟨gi, ci, h1, h2.keep k (fun hx => hx)⟩
theorem MxF.open_ {w : World} {base : Nat} {v : Value} {n W : Nat} {f : Nat → Nat → Int} (h : MxF w base v n W f) (hn : 0 < n) : ∃ g cap, v = .slice (some ⟨g, 0, none⟩) n cap ∧ n ≤ cap ∧ cap ≤ maxLen ∧ ∀ i, i < n → ∃ gi ci, w.cell? ⟨g, i, none⟩ = some (.slice (some ⟨gi, 0, none⟩) W ci) ∧ ∀ x, x < W → w.cell? ⟨gi, x, none⟩ = some (.int .i64 (f x i)) := by
  obtain ⟨vs, ho, hr⟩ := h.own
  rcases ho.2 with ⟨_, h0⟩ | ⟨g, cap, cur, rfl, _, hg, h1, h2, h3, ht⟩
  · omega
  · refine ⟨g, cap, rfl, h1, h2, fun i hi => ?_⟩
    obtain ⟨gi, ci, e1, e2⟩ := hr i hi
    refine ⟨gi, ci, ?_, fun x hx => e2.cell hx⟩
    rw [cell_of_row w g i _ _ _ hg]
    rw [← ht, List.getElem?_take, if_pos (by omega)] at e1
    simpa using e1
theorem MxF.congr {w : World} {base : Nat} {v : Value} {n W : Nat} {f h : Nat → Nat → Int} (hm : MxF w base v n W f) (e : ∀ i x, i < n → x < W → f x i = h x i) : MxF w base v n W h := by
  obtain ⟨vs, ho, hr⟩ := hm.own
  refine ⟨vs, ho, fun i hi => ?_⟩
  obtain ⟨gi, ci, h1, cur, h2, h3⟩ := hr i hi
  exact ⟨gi, ci, h1, cur, h2, fun x hx => (h3 x hx).trans (by show some (Value.int .i64 (f x i)) = some (Value.int .i64 (h x i)); rw [e i x hi hx])⟩
/-- A row that is being made: k of its cells. -/
def rowL (f : Nat → Int) (k : Nat) : List Value := (List.range k).map fun x => .int .i64 (f x)
theorem rowL_succ (f : Nat → Int) (k : Nat) : rowL f (k + 1) = rowL f k ++ [.int .i64 (f k)] := by
  unfold rowL
  rw [List.range_succ, List.map_append]
  rfl
theorem rowL_len (f : Nat → Int) (k : Nat) : (rowL f k).length = k := by unfold rowL; simp
theorem rowF_of_own {w : World} {base : Nat} {v : Value} {W : Nat} {f : Nat → Int} (h : w.ownsRow base 3 1 v W (rowL f W)) (hW : 0 < W) : ∃ g c, v = .slice (some ⟨g, 0, none⟩) W c ∧ base ≤ g ∧ RowF w g W f := by
  rcases h.2 with ⟨_, h0⟩ | ⟨g, cap, cur, rfl, hb, hg, _, _, _, ht⟩
  · omega
  · refine ⟨g, cap, rfl, hb, cur, hg, fun x hx => ?_⟩
    have e : (rowL f W)[x]? = some (.int .i64 (f x)) := by unfold rowL; simp [hx]
    rw [← ht, List.getElem?_take, if_pos (by omega)] at e
    simpa using e
/-- One row more. -/
theorem MxF.push {w w' : World} {base : Nat} {v v' : Value} {n W : Nat} {f : Nat → Nat → Int} (h : MxF w base v n W f) {g c : Nat} (hr : RowF w g W (fun x => f x n))
    (hg : ∀ vs, w.ownsRow base 31 1 v n vs → w'.ownsRow base 31 1 v' (n + 1) (vs ++ [.slice (some ⟨g, 0, none⟩) W c]) ∧ ∀ (k : Nat) (cur : Array Value), w.heap[k]? = some (Obj.cells cur 3 (0, 0)) → w'.heap[k]? = some (Obj.cells cur 3 (0, 0))) : MxF w' base v' (n + 1) W f := by
  obtain ⟨vs, ho, hs⟩ := h.own
  obtain ⟨h1, h2⟩ := hg vs ho
  have hl : vs.length = n := by have := ho.1; omega
  refine ⟨_, h1, fun i hi => ?_⟩
  by_cases e : i < n
  · obtain ⟨gi, ci, e1, cur, e2, e3⟩ := hs i e
    exact ⟨gi, ci, by rw [List.getElem?_append_left (by omega)]; exact e1, cur, h2 _ _ e2, e3⟩
  · have ei : i = n := by omega
    subst ei
    obtain ⟨cur, e2, e3⟩ := hr
    exact ⟨g, c, by rw [List.getElem?_append_right (by omega), hl]; simp, cur, h2 _ _ e2, e3⟩

/-- How many of the first n of nine count. -/
def ones9 (f : Nat → Nat → Bool) (n : Nat) : Nat := ((List.range n).filter fun m => f (m % 3) (m / 3)).length
theorem ones9_succ (f : Nat → Nat → Bool) (n : Nat) : ones9 f (n + 1) = ones9 f n + if f (n % 3) (n / 3) = true then 1 else 0 := by
  unfold ones9
  rw [List.range_succ, List.filter_append, List.length_append]
  by_cases h : f (n % 3) (n / 3) = true <;> simp [h]
theorem ones9_le (f : Nat → Nat → Bool) (n : Nat) : ones9 f n ≤ n := by
  unfold ones9
  refine Nat.le_trans (List.length_filter_le _ _) (by simp)
theorem ones9_8 (f : Nat → Nat → Bool) (h : f 1 1 = false) : ones9 f 9 ≤ 8 := by
  have h4 := ones9_le f 4
  have e6 := ones9_succ f 5
  have e7 := ones9_succ f 6
  have e8 := ones9_succ f 7
  have e9 := ones9_succ f 8
  have e5 : ones9 f 5 = ones9 f 4 + if f 1 1 = true then 1 else 0 := ones9_succ f 4
  rw [h, if_neg (by simp), Nat.add_zero] at e5
  have : ones9 f 6 ≤ ones9 f 5 + 1 := by rw [e6]; split <;> omega
  have : ones9 f 7 ≤ ones9 f 6 + 1 := by rw [e7]; split <;> omega
  have : ones9 f 8 ≤ ones9 f 7 + 1 := by rw [e8]; split <;> omega
  have : ones9 f 9 ≤ ones9 f 8 + 1 := by rw [e9]; split <;> omega
  omega
theorem ones9_at (f : Nat → Nat → Bool) (a b : Nat) (ha : a < 3) : ones9 f (3 * b + a + 1) = ones9 f (3 * b + a) + if f a b = true then 1 else 0 := by
  rw [ones9_succ, Nat.mul_add_mod, Nat.mod_eq_of_lt ha, Nat.mul_add_div (by omega), Nat.div_eq_of_lt ha, Nat.add_zero]
theorem ones9_congr {f g : Nat → Nat → Bool} (n : Nat) (h : ∀ a b, a < 3 → 3 * b + a < n → f a b = g a b) : ones9 f n = ones9 g n := by
  unfold ones9
  congr 1
  apply List.filter_congr
  intro m hm
  have hm' := List.mem_range.1 hm
  exact h _ _ (Nat.mod_lt _ (by omega)) (by omega)
end Go.Proofs.Yteanpanjcakepab
