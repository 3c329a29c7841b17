import Derived.Test.YtiimimclbkjcbaaM4
import Derived.Test.YtiimimclbkjcbaaWi
namespace Go.Proofs.Ytiimimclbkjcbaa
open Go.RowKit
open Go.Proofs

/-- Some cells in a row, stored one behind the other. -/
def putCells (w : World) (g : Nat) : Nat → List Value → World
  | _, [] => w
  | k, v :: vs => putCells (w.setCell ⟨g, k, none⟩ v) g (k + 1) vs
def splice (cur : Array Value) : Nat → List Value → Array Value
  | _, [] => cur
  | k, v :: vs => splice (cur.setIfInBounds k v) (k + 1) vs
theorem splice_size (vs : List Value) : ∀ (cur : Array Value) (k : Nat), (splice cur k vs).size = cur.size := by
  induction vs with
  | nil => intro cur k; rfl
  | cons v vs ih => intro cur k; unfold splice; rw [ih]; simp
theorem splice_get (vs : List Value) : ∀ (cur : Array Value) (k m : Nat), k + vs.length ≤ cur.size → (splice cur k vs)[m]? = if m < k then cur[m]? else if m < k + vs.length then vs[m - k]? else cur[m]? := by
  induction vs with
  | nil =>
    intro cur k m _
    simp only [splice, List.length_nil, Nat.add_zero]
    by_cases h : m < k
    · rw [if_pos h]
    · rw [if_neg h, if_neg h]
  | cons v vs ih =>
    intro cur k m h
    simp only [List.length_cons] at h
    unfold splice
    rw [ih _ _ _ (by simp; omega)]
    by_cases h1 : m < k
    · rw [if_pos h1, if_pos (by omega)]
      rw [Array.getElem?_setIfInBounds_ne (by omega)]
    · rw [if_neg h1]
      by_cases h2 : m = k
      · subst h2
        rw [if_pos (by omega), if_pos (by simp)]
        rw [Array.getElem?_setIfInBounds_self_of_lt (by omega)]
        simp
      · rw [if_neg (show ¬ m < k + 1 by omega)]
        by_cases h3 : m < k + (vs.length + 1)
        · rw [if_pos (show m < k + 1 + vs.length by omega), List.length_cons, if_pos h3]
          rw [show m - k = (m - (k + 1)) + 1 by omega]
          rfl
        · rw [if_neg (show ¬ m < k + 1 + vs.length by omega), List.length_cons, if_neg h3]
          rw [Array.getElem?_setIfInBounds_ne (by omega)]
theorem putCells_row (vs : List Value) : ∀ (w : World) (g k : Nat) (cur : Array Value) (t : TypeId), w.heap[g]? = some (.cells cur t (0, 0)) → (putCells w g k vs).heap[g]? = some (.cells (splice cur k vs) t (0, 0)) := by
  induction vs with
  | nil => intro w g k cur t h; exact h
  | cons v vs ih => intro w g k cur t h; exact ih _ _ _ _ _ (heap_setCell_same w g k cur t v h)
theorem putCells_other (vs : List Value) : ∀ (w : World) (g k m : Nat), m ≠ g → (putCells w g k vs).heap[m]? = w.heap[m]? := by
  induction vs with
  | nil => intro w g k m _; rfl
  | cons v vs ih => intro w g k m h; exact (ih _ _ _ _ h).trans (heap_setCell_other _ _ _ _ h)
theorem putCells_kp (vs : List Value) : ∀ {S : Nat → Prop} {a w : World} (g k : Nat), Kp S a w → S g → Kp S a (putCells w g k vs) := by
  induction vs with
  | nil => intro S a w g k h _; exact h
  | cons v vs ih => intro S a w g k h hs; exact ih _ _ (h.setCell hs v) hs
theorem putCells_new (vs : List Value) : ∀ {S : Nat → Prop} {a w : World} (g k : Nat), Kp S a w → a.heap.size ≤ g → Kp S a (putCells w g k vs) := by
  induction vs with
  | nil => intro S a w g k h _; exact h
  | cons v vs ih => intro S a w g k h hs; exact ih _ _ (h.setNew hs v) hs

theorem run_storeCells_at {P : Program} (g : Nat) (t : TypeId) (off : Nat) : ∀ (vs : List Value) (i : Nat) (cur : Array Value) (w : World), w.heap[g]? = some (.cells cur t (0, 0)) → off + i + vs.length ≤ cur.size → (∀ v ∈ vs, v.oneCell' = true) →
    (storeCells ⟨g, off, none⟩ vs i).run P w = .ok () (putCells w g (off + i) vs)
  | [], i, cur, w, _, _, _ => rfl
  | v :: rest, i, cur, w, hg, hl, h1 => by
    have hi : off + i < cur.size := by simp at hl; omega
    have hadd : (⟨g, off, none⟩ : Addr).add i = ⟨g, off + i, none⟩ := by unfold Addr.add; split <;> simp_all
    have hcell : w.cell? ⟨g, off + i, none⟩ = some cur[off + i] := by simp [World.cell?, hg, hi]
    have hfro : w.frozen? ⟨g, off + i, none⟩ = false := by simp [World.frozen?, hg]
    have hst : (store ((⟨g, off, none⟩ : Addr).add i) v).run P w = .ok () (w.setCell ⟨g, off + i, none⟩ v) := by
      rw [hadd, run_store P w _ v _ (h1 v (by simp)), hcell]
      simp [hfro]
    have ih := run_storeCells_at (P := P) g t off rest (i + 1) (cur.setIfInBounds (off + i) v) (w.setCell ⟨g, off + i, none⟩ v) (heap_setCell_same w g (off + i) cur t v hg) (by simp at hl ⊢; omega) (fun x hx => h1 x (by simp [hx]))
    simp only [storeCells, Sem.run_bind, hst, Result.andThen_ok, ih]
    rfl

theorem wpList_store_at {P : Program} {ops : Array Oper} {rest : List Oper} {o : Oper} {a : Act} {w : World} {Q : Exit → Act → World → Prop} (hgd : o.guard = none) (ty : TypeId) (x y : Operand) (ho : o.op = .store ty x y)
    (g off : Nat) (cells : Array Value) (hx : a.eval x = .pointer (some ⟨g, off, none⟩)) (hy : a.eval y = .agg cells)
    (t : TypeId) (old : Array Value) (hg : w.heap[g]? = some (.cells old t (0, 0))) (hi : (P.info? ty).map (·.size) = some cells.size)
    (hold : off + cells.size ≤ old.size) (h1 : cells.all (·.oneCell') = true)
    (h : wpList P ops Q rest (a.put o.dst undef) (putCells w g off cells.toList)) : wpList P ops Q (o :: rest) a w := by
  refine wpList_plain hgd fun _ hK => ?_
  have hrun : (storeVar ty ⟨g, off, none⟩ (.agg cells)).run P w = .ok () (putCells w g off cells.toList) := by
    have := run_storeCells_at (P := P) g t off cells.toList 0 old w hg (by simp; omega) (fun v hv => (Array.all_eq_true_iff_forall_mem.1 h1) v (by simpa using hv))
    cases hq : P.info? ty with
    | none => simp [hq] at hi
    | some i =>
      have hs : cells.size = i.size := by simp [hq] at hi; omega
      simp [storeVar, sizeOf, typeInfo, hq, Value.cells, hs, this]
  unfold Oper.wp execOp
  simp only [ho, hx, hy, Instr.storeAt, Instr.sureAddr, Sem.run_bind, Sem.run_pure, Result.andThen_ok, hrun]
  exact hK _ _ h

theorem wpList_store_at_g {P : Program} {ops : Array Oper} {rest : List Oper} {o : Oper} {a : Act} {w : World} {Q : Exit → Act → World → Prop} (hgd : o.guard = none) (ty : TypeId) (x y : Operand) (ho : o.op = .store ty x y)
    (g off : Nat) (cells : Array Value) (hx : a.eval x = .pointer (some ⟨g, off, none⟩)) (hy : a.eval y = .agg cells)
    (t : TypeId) (old : Array Value) (hg : w.heap[g]? = some (.cells old t (0, 0))) (hi : (P.info? ty).map (·.size) = some cells.size)
    (hold : off + cells.size ≤ old.size) (h1 : cells.all (·.oneCell') = true)
    (h : ∀ w', w' = putCells w g off cells.toList → wpList P ops Q rest (a.put o.dst undef) w') : wpList P ops Q (o :: rest) a w :=
  wpList_store_at hgd ty x y ho g off cells hx hy t old hg hi hold h1 (h _ rfl)

/-- The cells of the parts of a text. -/
def ptv (r : Pu.Rule) (x : Pu.Shape) (age col row : Int) (v : Value) : Array Value := rulev r ++ shv x ++ #[.int .i64 age, .int .i64 col, .int .i64 row, v]
structure PtAt (w : World) (p : Nat) (r : Pu.Rule) (x : Pu.Shape) (age col row : Int) (v : Value) : Prop where
  row : w.heap[p]? = some (.cells (ptv r x age col row v) 76 (0, 0))
  ok : RuleOk r
theorem ptv_size {r : Pu.Rule} (h : RuleOk r) (x : Pu.Shape) (age col row : Int) (v : Value) : (ptv r x age col row v).size = 31 := by
  simp [ptv, rulev_size h, shv]
theorem ptv_get {r : Pu.Rule} (h : RuleOk r) (x : Pu.Shape) (age col row : Int) (v : Value) (m : Nat) : (ptv r x age col row v)[m]? = if m < 20 then (rulev r)[m]? else if m < 27 then (shv x)[m - 20]? else #[Value.int .i64 age, .int .i64 col, .int .i64 row, v][m - 27]? := by
  have hr := rulev_size h
  have hx : (shv x).size = 7 := rfl
  unfold ptv
  rw [Array.getElem?_append, Array.getElem?_append, Array.size_append, hr, hx]
  by_cases h1 : m < 20
  · rw [if_pos (by omega), if_pos h1, if_pos h1]
  · by_cases h2 : m < 27
    · rw [if_pos (by omega), if_neg h1, if_neg h1, if_pos h2]
    · rw [if_neg (by omega), if_neg h1, if_neg h2]
theorem put_rule {r r' : Pu.Rule} (h : RuleOk r) (h' : RuleOk r') (x : Pu.Shape) (age col row : Int) (v : Value) : splice (ptv r x age col row v) 0 (rulev r').toList = ptv r' x age col row v := by
  apply Array.ext_getElem?
  intro m
  have hr := rulev_size h'
  rw [splice_get _ _ _ _ (by rw [ptv_size h]; simp [hr]), ptv_get h, ptv_get h']
  simp only [Array.length_toList, hr, Nat.not_lt_zero, if_false, Nat.zero_add, Nat.sub_zero, Array.getElem?_toList]
  by_cases h1 : m < 20
  · simp [h1]
  · simp [h1]
theorem put_shape {r : Pu.Rule} (h : RuleOk r) (x x' : Pu.Shape) (age col row : Int) (v : Value) : splice (ptv r x age col row v) 20 (shv x').toList = ptv r x' age col row v := by
  apply Array.ext_getElem?
  intro m
  have hr : (shv x').size = 7 := rfl
  rw [splice_get _ _ _ _ (by rw [ptv_size h]; simp [hr]), ptv_get h, ptv_get h]
  simp only [Array.length_toList, hr, Array.getElem?_toList]
  by_cases h1 : m < 20
  · simp [h1]
  · by_cases h2 : m < 27
    · simp [h1, h2]
    · simp [h1, h2]
theorem set_tail {r : Pu.Rule} (h : RuleOk r) (x : Pu.Shape) {age col row age' col' row' : Int} {v v' : Value} (k : Nat) (u : Value)
    (e : #[Value.int .i64 age, .int .i64 col, .int .i64 row, v].setIfInBounds k u = #[Value.int .i64 age', .int .i64 col', .int .i64 row', v']) : (ptv r x age col row v).setIfInBounds (27 + k) u = ptv r x age' col' row' v' := by
  unfold ptv
  rw [Array.setIfInBounds_append_right (by simp [rulev_size h, shv]), ← e]
  congr 2
  simp [rulev_size h, shv]
theorem PtAt.lt {w : World} {p : Nat} {r : Pu.Rule} {x : Pu.Shape} {age col row : Int} {v : Value} (h : PtAt w p r x age col row v) : p < w.heap.size := (Array.getElem?_eq_some_iff.1 h.row).1
theorem PtAt.cell {w : World} {p : Nat} {r : Pu.Rule} {x : Pu.Shape} {age col row : Int} {v : Value} (h : PtAt w p r x age col row v) (m : Nat) : w.cell? ⟨p, 27 + m, none⟩ = #[Value.int .i64 age, .int .i64 col, .int .i64 row, v][m]? := by
  rw [cell_of_row w p _ _ _ _ h.row, ptv_get h.ok, if_neg (by omega), if_neg (by omega)]
  congr 1
  omega
theorem PtAt.fro {w : World} {p : Nat} {r : Pu.Rule} {x : Pu.Shape} {age col row : Int} {v : Value} (h : PtAt w p r x age col row v) (m : Nat) : w.frozen? ⟨p, m, none⟩ = false := frozen_of_row w p _ _ _ h.row
theorem PtAt.set {w : World} {p : Nat} {r : Pu.Rule} {x : Pu.Shape} {age col row age' col' row' : Int} {v v' : Value} (h : PtAt w p r x age col row v) (k : Nat) (u : Value)
    (e : #[Value.int .i64 age, .int .i64 col, .int .i64 row, v].setIfInBounds k u = #[Value.int .i64 age', .int .i64 col', .int .i64 row', v']) : PtAt (w.setCell ⟨p, 27 + k, none⟩ u) p r x age' col' row' v' :=
  ⟨by rw [heap_setCell_same w p _ _ _ _ h.row, set_tail h.ok x k u e], h.ok⟩
theorem PtAt.keep {S : Nat → Prop} {w w' : World} {p : Nat} {r : Pu.Rule} {x : Pu.Shape} {age col row : Int} {v : Value} (h : PtAt w p r x age col row v) (k : Kp S w w') (hn : ¬ S p) : PtAt w' p r x age col row v := ⟨k.row h.row hn, h.ok⟩
theorem PtAt.putRule {w : World} {p : Nat} {r r' : Pu.Rule} {x : Pu.Shape} {age col row : Int} {v : Value} (h : PtAt w p r x age col row v) (h' : RuleOk r') : PtAt (putCells w p 0 (rulev r').toList) p r' x age col row v :=
  ⟨by rw [putCells_row _ _ _ _ _ _ h.row, put_rule h.ok h'], h'⟩
theorem PtAt.putShape {w : World} {p : Nat} {r : Pu.Rule} {x x' : Pu.Shape} {age col row : Int} {v : Value} (h : PtAt w p r x age col row v) : PtAt (putCells w p 20 (shv x').toList) p r x' age col row v :=
  ⟨by rw [putCells_row _ _ _ _ _ _ h.row, put_shape h.ok], h.ok⟩
theorem RdAt.put {w : World} {b : Nat} {s : ByteArray} {i : Nat} (h : RdAt w b s i) {g : Nat} (hg : b ≠ g) (k : Nat) (vs : List Value) : RdAt (putCells w g k vs) b s i := h.of_row (putCells_other _ _ _ _ _ hg)
end Go.Proofs.Ytiimimclbkjcbaa
