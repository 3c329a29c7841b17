import Derived.Test.YtflbkgfcnggkpabWn
import Derived.Test.YtflbkgfcnggkpabM3
namespace Go.Proofs.Ytflbkgfcnggkpab
open Go.RowKit
open Go.Proofs

/-- A row of numbers, cell by cell. -/
def RowF (w : World) (g : Nat) (W : Nat) (f : Nat → Int) : Prop := ∃ cur, w.heap[g]? = some (.cells cur 3 (0, 0)) ∧ ∀ x, x < W → cur[x]? = some (.int .i64 (f x))
theorem RowF.cell {w : World} {g W : Nat} {f : Nat → Int} (h : RowF w g W f) {x : Nat} (hx : x < W) : w.cell? ⟨g, x, none⟩ = some (.int .i64 (f x)) := by
  obtain ⟨cur, hr, hc⟩ := h
  rw [cell_of_row w g x _ _ _ hr]
  exact hc x hx
theorem RowF.keep {w w' : World} {g W : Nat} {f : Nat → Int} (h : RowF w g W f) {T : Nat → Prop} (k : Kp T w w') (hn : ¬ T g) : RowF w' g W f := by
  obtain ⟨cur, hr, hc⟩ := h
  exact ⟨cur, k.row hr hn, hc⟩
/-- Rows of numbers, all as long: a slice of slices. -/
structure MxF (w : World) (base : Nat) (v : Value) (n W : Nat) (f : Nat → Nat → Int) : Prop where
  own : ∃ vs : List Value, w.ownsRow base 31 1 v n vs ∧ ∀ i, i < n → ∃ gi ci, vs[i]? = some (.slice (some ⟨gi, 0, none⟩) W ci) ∧ RowF w gi W (fun x => f x i)
theorem MxF.nil (w : World) (base W : Nat) (f : Nat → Nat → Int) : MxF w base (.slice none 0 0) 0 W f := ⟨[], World.ownsRow_nil _ _ _ _, fun i hi => absurd hi (by omega)⟩
theorem MxF.keep {w w' : World} {base : Nat} {v : Value} {n W : Nat} {f : Nat → Nat → Int} (h : MxF w base v n W f) (k : Kp (fun _ => False) w w') : MxF w' base v n W f := by
  obtain ⟨vs, ho, hr⟩ := h.own
  refine ⟨vs, own_keep ho k (by intro g hg hx; exact hx), fun i hi => ?_⟩
  obtain ⟨gi, ci, h1, h2⟩ := hr i hi
  exact ⟨gi, ci, h1, h2.keep k (fun hx => hx)⟩
theorem MxF.open_ {w : World} {base : Nat} {v : Value} {n W : Nat} {f : Nat → Nat → Int} (h : MxF w base v n W f) (hn : 0 < n) : ∃ g cap, v = .slice (some ⟨g, 0, none⟩) n cap ∧ n ≤ cap ∧ cap ≤ maxLen ∧ ∀ i, i < n → ∃ gi ci, w.cell? ⟨g, i, none⟩ = some (.slice (some ⟨gi, 0, none⟩) W ci) ∧ ∀ x, x < W → w.cell? ⟨gi, x, none⟩ = some (.int .i64 (f x i)) := by
  obtain ⟨vs, ho, hr⟩ := h.own
  rcases ho.2 with ⟨_, h0⟩ | ⟨g, cap, cur, rfl, _, hg, h1, h2, h3, ht⟩
  · omega
  · refine ⟨g, cap, rfl, h1, h2, fun i hi => ?_⟩
    obtain ⟨gi, ci, e1, e2⟩ := hr i hi
    refine ⟨gi, ci, ?_, fun x hx => e2.cell hx⟩
    rw [cell_of_row w g i _ _ _ hg]
    rw [← ht, List.getElem?_take, if_pos (by omega)] at e1
    simpa using e1
theorem MxF.congr {w : World} {base : Nat} {v : Value} {n W : Nat} {f h : Nat → Nat → Int} (hm : MxF w base v n W f) (e : ∀ i x, i < n → x < W → f x i = h x i) : MxF w base v n W h := by
  obtain ⟨vs, ho, hr⟩ := hm.own
  refine ⟨vs, ho, fun i hi => ?_⟩
  obtain ⟨gi, ci, h1, cur, h2, h3⟩ := hr i hi
  exact ⟨gi, ci, h1, cur, h2, fun x hx => (h3 x hx).trans (by show some (Value.int .i64 (f x i)) = some (Value.int .i64 (h x i)); rw [e i x hi hx])⟩
/-- A row that is being made: k of its cells. -/
def rowL (f : Nat → Int) (k : Nat) : List Value := (List.range k).map fun x => .int .i64 (f x)
theorem rowL_succ (f : Nat → Int) (k : Nat) : rowL f (k + 1) = rowL f k ++ [.int .i64 (f k)] := by
  unfold rowL
  rw [List.range_succ, List.map_append]
  rfl
theorem rowL_len (f : Nat → Int) (k : Nat) : (rowL f k).length = k := by unfold rowL; simp
theorem rowF_of_own {w : World} {base : Nat} {v : Value} {W : Nat} {f : Nat → Int} (h : w.ownsRow base 3 1 v W (rowL f W)) (hW : 0 < W) : ∃ g c, v = .slice (some ⟨g, 0, none⟩) W c ∧ base ≤ g ∧ RowF w g W f := by
  rcases h.2 with ⟨_, h0⟩ | ⟨g, cap, cur, rfl, hb, hg, _, _, _, ht⟩
  · omega
  · refine ⟨g, cap, rfl, hb, cur, hg, fun x hx => ?_⟩
    have e : (rowL f W)[x]? = some (.int .i64 (f x)) := by unfold rowL; simp [hx]
    rw [← ht, List.getElem?_take, if_pos (by omega)] at e
    simpa using e
/-- One row more. -/
theorem MxF.push {w w' : World} {base : Nat} {v v' : Value} {n W : Nat} {f : Nat → Nat → Int} (h : MxF w base v n W f) {g c : Nat} (hr : RowF w g W (fun x => f x n))
    (hg : ∀ vs, w.ownsRow base 31 1 v n vs → w'.ownsRow base 31 1 v' (n + 1) (vs ++ [.slice (some ⟨g, 0, none⟩) W c]) ∧ ∀ (k : Nat) (cur : Array Value), w.heap[k]? = some (Obj.cells cur 3 (0, 0)) → w'.heap[k]? = some (Obj.cells cur 3 (0, 0))) : MxF w' base v' (n + 1) W f := by
  obtain ⟨vs, ho, hs⟩ := h.own
  obtain ⟨h1, h2⟩ := hg vs ho
  have hl : vs.length = n := by have := ho.1; omega
  refine ⟨_, h1, fun i hi => ?_⟩
  by_cases e : i < n
  · obtain ⟨gi, ci, e1, cur, e2, e3⟩ := hs i e
    exact ⟨gi, ci, by rw [List.getElem?_append_left (by omega)]; exact e1, cur, h2 _ _ e2, e3⟩
  · have ei : i = n := by omega
    subst ei
    obtain ⟨cur, e2, e3⟩ := hr
    exact ⟨g, c, by rw [List.getElem?_append_right (by omega), hl]; simp, cur, h2 _ _ e2, e3⟩

end Go.Proofs.Ytflbkgfcnggkpab
