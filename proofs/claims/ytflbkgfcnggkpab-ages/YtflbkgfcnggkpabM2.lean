import Derived.Test.YtflbkgfcnggkpabWn
import Derived.Test.YtflbkgfcnggkpabJo
import Derived.Test.YtflbkgfcnggkpabWe
namespace Go.Proofs.Ytflbkgfcnggkpab
open Go.RowKit
open Go.Proofs

/-- A row of numbers, cell by cell. -/
def RowF (w : World) (g : Nat) (W : Nat) (f : Nat → Int) : Prop := ∃ cur, w.heap[g]? = some (.cells cur 3 (0, 0)) ∧ ∀ x, x < W → cur[x]? = some (.int .i64 (f x))
theorem RowF.cell {w : World} {g W : Nat} {f : Nat → Int} (h : RowF w g W f) {x : Nat} (hx : x < W) : w.cell? ⟨g, x, none⟩ = some (.int .i64 (f x)) := by
  obtain ⟨cur, hr, hc⟩ := h
  rw [cell_of_row w g x _ _ _ hr]
  exact hc x hx
theorem RowF.keep {w w' : World} {g W : Nat} {f : Nat → Int} (h : RowF w g W f) {T : Nat → Prop} (k : Kp T w w') (hn : ¬ T g) : RowF w' g W f := by
  obtain ⟨cur, hr, hc⟩ := h
  exact ⟨cur, k.row hr hn, hc⟩
/-- Rows of numbers, all as long: a slice of slices. -/
structure MxF (w : World) (base : Nat) (v : Value) (n W : Nat) (f : Nat → Nat → Int) : Prop where
  own : ∃ vs : List Value, w.ownsRow base 31 1 v n vs ∧ ∀ i, i < n → ∃ gi ci, vs[i]? = some (.slice (some ⟨gi, 0, none⟩) W ci) ∧ RowF w gi W (fun x => f x i)
theorem MxF.nil (w : World) (base W : Nat) (f : Nat → Nat → Int) : MxF w base (.slice none 0 0) 0 W f := ⟨[], World.ownsRow_nil _ _ _ _, fun i hi => absurd hi (by omega)⟩
theorem MxF.keep {w w' : World} {base : Nat} {v : Value} {n W : Nat} {f : Nat → Nat → Int} (h : MxF w base v n W f) (k : Kp (fun _ => False) w w') : MxF w' base v n W f := by
  obtain ⟨vs, ho, hr⟩ := h.own
  refine ⟨vs, own_keep ho k (by intro g hg hx; exact hx), fun i hi => ?_⟩
  obtain ⟨gi, ci, h1, h2⟩ := hr i hi
  exact ⟨gi, ci, h1, h2.keep k (fun hx => hx)⟩
theorem MxF.open_ {w : World} {base : Nat} {v : Value} {n W : Nat} {f : Nat → Nat → Int} (h : MxF w base v n W f) (hn : 0 < n) : ∃ g cap, v = .slice (some ⟨g, 0, none⟩) n cap ∧ n ≤ cap ∧ cap ≤ maxLen ∧ ∀ i, i < n → ∃ gi ci, w.cell? ⟨g, i, none⟩ = some (.slice (some ⟨gi, 0, none⟩) W ci) ∧ ∀ x, x < W → w.cell? ⟨gi, x, none⟩ = some (.int .i64 (f x i)) := by
  obtain ⟨vs, ho, hr⟩ := h.own
  rcases ho.2 with ⟨_, h0⟩ | ⟨g, cap, cur, rfl, _, hg, h1, h2, h3, ht⟩
  · omega
  · refine ⟨g, cap, rfl, h1, h2, fun i hi => ?_⟩
    obtain ⟨gi, ci, e1, e2⟩ := hr i hi
    refine ⟨gi, ci, ?_, fun x hx => e2.cell hx⟩
    rw [cell_of_row w g i _ _ _ hg]
    rw [← ht, List.getElem?_take, if_pos (by omega)] at e1
    simpa using e1
theorem MxF.congr {w : World} {base : Nat} {v : Value} {n W : Nat} {f h : Nat → Nat → Int} (hm : MxF w base v n W f) (e : ∀ i x, i < n → x < W → f x i = h x i) : MxF w base v n W h := by
  obtain ⟨vs, ho, hr⟩ := hm.own
  refine ⟨vs, ho, fun i hi => ?_⟩
  obtain ⟨gi, ci, h1, cur, h2, h3⟩ := hr i hi
  exact ⟨gi, ci, h1, cur, h2, fun x hx => (h3 x hx).trans (by show some (Value.int .i64 (f x i)) = some (Value.int .i64 (h x i)); rw [e i x hi hx])⟩
/-- A row that is being made: k of its cells. -/
def rowL (f : Nat → Int) (k : Nat) : List Value := (List.range k).map fun x => .int .i64 (f x)
theorem rowL_succ (f : Nat → Int) (k : Nat) : rowL f (k + 1) = rowL f k ++ [.int .i64 (f k)] := by
  unfold rowL
  rw [List.range_succ, List.map_append]
  rfl
theorem rowL_len (f : Nat → Int) (k : Nat) : (rowL f k).length = k := by unfold rowL; simp
theorem rowF_of_own {w : World} {base : Nat} {v : Value} {W : Nat} {f : Nat → Int} (h : w.ownsRow base 3 1 v W (rowL f W)) (hW : 0 < W) : ∃ g c, v = .slice (some ⟨g, 0, none⟩) W c ∧ base ≤ g ∧ RowF w g W f := by
  rcases h.2 with ⟨_, h0⟩ | ⟨g, cap, cur, rfl, hb, hg, _, _, _, ht⟩
  · omega
  · refine ⟨g, cap, rfl, hb, cur, hg, fun x hx => ?_⟩
    have e : (rowL f W)[x]? = some (.int .i64 (f x)) := by unfold rowL; simp [hx]
    rw [← ht, List.getElem?_take, if_pos (by omega)] at e
    simpa using e
/-- One row more. -/
theorem MxF.push {w w' : World} {base : Nat} {v v' : Value} {n W : Nat} {f : Nat → Nat → Int} (h : MxF w base v n W f) {g c : Nat} (hr : RowF w g W (fun x => f x n))
    (hg : ∀ vs, w.ownsRow base 31 1 v n vs → w'.ownsRow base 31 1 v' (n + 1) (vs ++ [.slice (some ⟨g, 0, none⟩) W c]) ∧ ∀ (k : Nat) (cur : Array Value), w.heap[k]? = some (Obj.cells cur 3 (0, 0)) → w'.heap[k]? = some (Obj.cells cur 3 (0, 0))) : MxF w' base v' (n + 1) W f := by
  obtain ⟨vs, ho, hs⟩ := h.own
  obtain ⟨h1, h2⟩ := hg vs ho
  have hl : vs.length = n := by have := ho.1; omega
  refine ⟨_, h1, fun i hi => ?_⟩
  by_cases e : i < n
  · obtain ⟨gi, ci, e1, cur, e2, e3⟩ := hs i e
    exact ⟨gi, ci, by rw [List.getElem?_append_left (by omega)]; exact e1, cur, h2 _ _ e2, e3⟩
  · have ei : i = n := by omega
    subst ei
    obtain ⟨cur, e2, e3⟩ := hr
    exact ⟨g, c, by rw [List.getElem?_append_right (by omega), hl]; simp, cur, h2 _ _ e2, e3⟩

end Go.Proofs.Ytflbkgfcnggkpab
namespace Go.Proofs.Ytflbkgfcnggkpab
open Go.RowKit
open Go.Proofs
theorem Kp.below {w w' : World} (h : Kp (fun _ => False) w w') : Below w.heap.size w w' := ⟨h.os, h.tape, h.output, h.size, fun k hk => h.block k hk (fun x => x)⟩

def pickP (c n : Int) : Int := if c < 0 then (-(c + 1)) % n else c % n
set_option maxHeartbeats 400000 in
theorem pick_any (c n : Int) (w : World) (h0 : 0 < n) (h1 : n ≤ 1048576) (c0 : -9223372036854775808 ≤ c) (c1 : c ≤ 9223372036854775807) : Calls Try.prog 14 #[.int .i64 c, .int .i64 n] w fun e w' => e = .returned (.int .i64 (pickP c n)) ∧ w' = w := by
  unfold pickP
  by_cases hc : c < 0
  · rw [if_pos hc]
    have b1 := Int.emod_nonneg (-(c + 1)) (show n ≠ 0 by omega)
    have b2 := Int.emod_lt_of_pos (-(c + 1)) h0
    have e : -((c + 1).tmod n) = (-(c + 1)) % n := by rw [← Int.neg_tmod, Int.tmod_eq_emod_of_nonneg (by omega)]
    have E := hide e
    clear e b1 b2
    go_enter Try.func14, Try.ntmps14
    go_wp2
    go_ret
    exact ⟨ret_int E.out, rfl⟩
  · rw [if_neg hc]
    have b1 := Int.emod_nonneg c (show n ≠ 0 by omega)
    have b2 := Int.emod_lt_of_pos c h0
    go_enter Try.func14, Try.ntmps14
    go_wp2
    go_ret
    exact ⟨rfl, rfl⟩
end Go.Proofs.Ytflbkgfcnggkpab
