import Derived.Test.YtbdbkjngdhcjpaaDoorM8
import Derived.Test.YtbdbkjngdhcjpaaDoorWn
namespace Go.Proofs.YtbdbkjngdhcjpaaDoor
open Go.RowKit
open Go.Proofs

section
variable {P : Program} {ops : Array Oper} {rest : List Oper} {o : Oper} {a : Act} {w : World} {Q : Exit → Act → World → Prop}
theorem wpList_alloc_row (hgd : o.guard = none) (ty : TypeId) (ho : o.op = .alloc ty) (z : Array Value) (hz : (P.info? ty).map (·.zero) = some (some (.agg z)))
    (h : ∀ w', w' = w.alloc (.cells z ty) → wpList P ops Q rest (a.put o.dst (.pointer (some ⟨w.heap.size, 0, none⟩))) w') : wpList P ops Q (o :: rest) a w := by
  refine wpList_plain hgd fun _ hK => ?_
  cases hq : P.info? ty with
  | none => simp [hq] at hz
  | some i =>
    have hi : i.zero = some (.agg z) := by simpa [hq] using hz
    unfold Oper.wp execOp
    simp [ho, Instr.alloc, zeroValue, typeInfo, hq, hi, newVar, newRow, Value.cells]
    exact hK _ _ (h _ rfl)
theorem wpList_box_row (hgd : o.guard = none) (ty : TypeId) (x : Operand) (ho : o.op = .box ty x) (z : Array Value) (hx : a.eval x = .agg z)
    (h : ∀ w', w' = w.alloc (.cells z ty) → wpList P ops Q rest (a.put o.dst (.pointer (some ⟨w.heap.size, 0, none⟩))) w') : wpList P ops Q (o :: rest) a w := by
  refine wpList_plain hgd fun _ hK => ?_
  unfold Oper.wp execOp
  simp [ho, hx, Instr.box, newVar, newRow, Value.cells]
  exact hK _ _ (h _ rfl)
end

theorem wpList_build2 {P : Program} {ops : Array Oper} {rest : List Oper} {o : Oper} {a : Act} {w : World} {Q : Exit → Act → World → Prop} (hg : o.guard = none) (t : TypeId) (i j : Nat) (x y : Operand) (ho : o.op = .build t #[(i, x), (j, y)])
    (u v : Value) (hu : a.eval x = u) (hv : a.eval y = v) (cells : Array Value) (hf : P.built t [(i, u), (j, v)] = some cells) (h : wpList P ops Q rest (a.put o.dst (.agg cells)) w) : wpList P ops Q (o :: rest) a w :=
  wpList_build_is hg t _ ho cells (by simpa [hu, hv] using hf) h
theorem wpList_build3 {P : Program} {ops : Array Oper} {rest : List Oper} {o : Oper} {a : Act} {w : World} {Q : Exit → Act → World → Prop} (hg : o.guard = none) (t : TypeId) (i j k : Nat) (x y z : Operand) (ho : o.op = .build t #[(i, x), (j, y), (k, z)])
    (u v r : Value) (hu : a.eval x = u) (hv : a.eval y = v) (hr : a.eval z = r) (cells : Array Value) (hf : P.built t [(i, u), (j, v), (k, r)] = some cells) (h : wpList P ops Q rest (a.put o.dst (.agg cells)) w) : wpList P ops Q (o :: rest) a w :=
  wpList_build_is hg t _ ho cells (by simpa [hu, hv, hr] using hf) h

/-- A grid's own cells. -/
def gnew (gw gh : Int) (S : List Int) : Array Value := #[.int .i64 gw, .int .i64 gh, .int .i64 0, .int .i64 0] ++ intsv S
def noS : List Int := List.replicate 768 0
theorem noS_len : noS.length = 768 := List.length_replicate
theorem intsv_one (S : List Int) : (intsv S).all (·.oneCell') = true := by
  rw [Array.all_eq_true_iff_forall_mem]
  intro v hv
  unfold intsv at hv
  rw [List.mem_toArray, List.mem_map] at hv
  obtain ⟨k, _, rfl⟩ := hv
  rfl
theorem gnew_size (gw gh : Int) {S : List Int} (h : S.length = 768) : (gnew gw gh S).size = 772 := by
  unfold gnew intsv
  rw [Array.size_append]
  simp only [List.size_toArray, List.length_map, h]
  rfl
theorem gnew_one (gw gh : Int) (S : List Int) : (gnew gw gh S).all (·.oneCell') = true := by
  unfold gnew
  rw [Array.all_append, intsv_one]
  simp [Value.oneCell']
theorem info_grid : (Tryd.prog.info? 53).map (·.size) = some 772 := by kernel_rfl

set_option maxRecDepth 100000 in
set_option maxHeartbeats 400000 in
theorem new_core (S : List Int) (hS : S.length = 768) (hz : (Tryd.prog.info? 53).map (·.zero) = some (some (.agg (gnew 0 0 S)))) (gw gh : Int) (hb : Tryd.prog.built 53 [(0, .int .i64 gw), (1, .int .i64 gh)] = some (gnew gw gh S)) (w : World) :
    Calls Tryd.prog 47 #[.int .i64 gw, .int .i64 gh] w fun e w' => e = .returned (.agg (gnew gw gh S)) ∧ Kp (fun _ => False) w w' := by
  have HZ := hide hz
  have HB := hide hb
  have HS := hide hS
  clear hz hb hS
  go_enter Tryd.func47, Tryd.ntmps47
  go_wp2_with (first
    | (refine wpList_alloc_row rfl 53 rfl (gnew 0 0 S) HZ.out ?_
       intro w1 hw1
       have A1 : Hid (w1.heap[w.heap.size]? = some (.cells (gnew 0 0 S) 53 (0, 0))) := by rw [hw1]; exact heap_alloc_new _ _
       have K1 : Hid (Kp (fun _ => False) w w1) := by rw [hw1]; exact (Kp.refl _ _).alloc _
       clear hw1)
    | (refine wpList_build2 rfl 53 _ _ _ _ rfl (.int .i64 gw) (.int .i64 gh) rfl rfl (gnew gw gh S) HB.out ?_)
    | (refine wpList_store_row_g rfl 53 _ _ rfl w.heap.size (gnew gw gh S) rfl rfl 53 (gnew 0 0 S) A1.out (by rw [info_grid, gnew_size _ _ HS.out]) (by rw [gnew_size _ _ HS.out, gnew_size _ _ HS.out]) (gnew_one _ _ _) ?_
       intro w2 hw2
       have A2 : Hid (w2.heap[w.heap.size]? = some (.cells (gnew gw gh S) 53 (0, 0))) := by rw [hw2]; exact setRow_heap _ _ _ _ _ _ A1.out
       have K2 : Hid (Kp (fun _ => False) w w2) := by rw [hw2]; exact K1.out.setRowNew (Nat.le_refl _) _
       clear hw2))
  exact bodyPost_ret (v := .agg (gnew gw gh S)) (results_cell_row Tryd.results47 _ _ w.heap.size 53 (gnew gw gh S) (0, 0) _ rfl A2.out Tryd.underlying53 rfl (by rw [info_grid, gnew_size _ _ HS.out])) rfl ⟨rfl, K2.out⟩
theorem noS_zero : ∀ k, noS.getD k 0 = 0 := by
  intro k
  unfold noS
  unfold List.getD
  rw [List.getElem?_replicate]
  split <;> rfl
end Go.Proofs.YtbdbkjngdhcjpaaDoor
