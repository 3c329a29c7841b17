import Derived.Test.YthmhjjkmnnmjlaaGreatDoorM15
import Derived.Test.YthmhjjkmnnmjlaaGreatDoorWn
import Derived.Deep.RegionWith
import Derived.Deep.CutRange
namespace Go.Proofs.YthmhjjkmnnmjlaaGreatDoor
open Go.RowKit
open Go.Proofs

section
variable {P : Program} {ops : Array Oper} {rest : List Oper} {o : Oper} {a : Act} {w : World} {Q : Exit → Act → World → Prop}
theorem wpList_alloc_row (hgd : o.guard = none) (ty : TypeId) (ho : o.op = .alloc ty) (z : Array Value) (hz : (P.info? ty).map (·.zero) = some (some (.agg z)))
    (h : ∀ w', w' = w.alloc (.cells z ty) → wpList P ops Q rest (a.put o.dst (.pointer (some ⟨w.heap.size, 0, none⟩))) w') : wpList P ops Q (o :: rest) a w := by
  refine wpList_plain hgd fun _ hK => ?_
  cases hq : P.info? ty with
  | none => simp [hq] at hz
  | some i =>
    have hi : i.zero = some (.agg z) := by simpa [hq] using hz
    unfold Oper.wp execOp
    simp [ho, Instr.alloc, zeroValue, typeInfo, hq, hi, newVar, newRow, Value.cells]
    exact hK _ _ (h _ rfl)
theorem wpList_box_row (hgd : o.guard = none) (ty : TypeId) (x : Operand) (ho : o.op = .box ty x) (z : Array Value) (hx : a.eval x = .agg z)
    (h : ∀ w', w' = w.alloc (.cells z ty) → wpList P ops Q rest (a.put o.dst (.pointer (some ⟨w.heap.size, 0, none⟩))) w') : wpList P ops Q (o :: rest) a w := by
  refine wpList_plain hgd fun _ hK => ?_
  unfold Oper.wp execOp
  simp [ho, hx, Instr.box, newVar, newRow, Value.cells]
  exact hK _ _ (h _ rfl)
end

theorem wpList_build2 {P : Program} {ops : Array Oper} {rest : List Oper} {o : Oper} {a : Act} {w : World} {Q : Exit → Act → World → Prop} (hg : o.guard = none) (t : TypeId) (i j : Nat) (x y : Operand) (ho : o.op = .build t #[(i, x), (j, y)])
    (u v : Value) (hu : a.eval x = u) (hv : a.eval y = v) (cells : Array Value) (hf : P.built t [(i, u), (j, v)] = some cells) (h : wpList P ops Q rest (a.put o.dst (.agg cells)) w) : wpList P ops Q (o :: rest) a w :=
  wpList_build_is hg t _ ho cells (by simpa [hu, hv] using hf) h
theorem wpList_build3 {P : Program} {ops : Array Oper} {rest : List Oper} {o : Oper} {a : Act} {w : World} {Q : Exit → Act → World → Prop} (hg : o.guard = none) (t : TypeId) (i j k : Nat) (x y z : Operand) (ho : o.op = .build t #[(i, x), (j, y), (k, z)])
    (u v r : Value) (hu : a.eval x = u) (hv : a.eval y = v) (hr : a.eval z = r) (cells : Array Value) (hf : P.built t [(i, u), (j, v), (k, r)] = some cells) (h : wpList P ops Q rest (a.put o.dst (.agg cells)) w) : wpList P ops Q (o :: rest) a w :=
  wpList_build_is hg t _ ho cells (by simpa [hu, hv, hr] using hf) h

/-- A grid's own cells. -/
def gnew (gw gh : Int) (S : List Int) : Array Value := #[.int .i64 gw, .int .i64 gh, .int .i64 0, .int .i64 0] ++ intsv S
def noS : List Int := List.replicate 768 0
theorem noS_len : noS.length = 768 := List.length_replicate
theorem intsv_one (S : List Int) : (intsv S).all (·.oneCell') = true := by
  rw [Array.all_eq_true_iff_forall_mem]
  intro v hv
  unfold intsv at hv
  rw [List.mem_toArray, List.mem_map] at hv
  obtain ⟨k, _, rfl⟩ := hv
  rfl
theorem gnew_size (gw gh : Int) {S : List Int} (h : S.length = 768) : (gnew gw gh S).size = 772 := by
  unfold gnew intsv
  rw [Array.size_append]
  simp only [List.size_toArray, List.length_map, h]
  rfl
theorem gnew_one (gw gh : Int) (S : List Int) : (gnew gw gh S).all (·.oneCell') = true := by
  unfold gnew
  rw [Array.all_append, intsv_one]
  simp [Value.oneCell']
theorem info_grid : (Tryz.prog.info? 68).map (·.size) = some 772 := by kernel_rfl

set_option maxRecDepth 100000 in
set_option maxHeartbeats 400000 in
theorem new_core (S : List Int) (hS : S.length = 768) (hz : (Tryz.prog.info? 68).map (·.zero) = some (some (.agg (gnew 0 0 S)))) (gw gh : Int) (hb : Tryz.prog.built 68 [(0, .int .i64 gw), (1, .int .i64 gh)] = some (gnew gw gh S)) (w : World) :
    Calls Tryz.prog 52 #[.int .i64 gw, .int .i64 gh] w fun e w' => e = .returned (.agg (gnew gw gh S)) ∧ Kp (fun _ => False) w w' := by
  have HZ := hide hz
  have HB := hide hb
  have HS := hide hS
  clear hz hb hS
  go_enter Tryz.func52, Tryz.ntmps52
  go_wp2_with (first
    | (refine wpList_alloc_row rfl 68 rfl (gnew 0 0 S) HZ.out ?_
       intro w1 hw1
       have A1 : Hid (w1.heap[w.heap.size]? = some (.cells (gnew 0 0 S) 68 (0, 0))) := by rw [hw1]; exact heap_alloc_new _ _
       have K1 : Hid (Kp (fun _ => False) w w1) := by rw [hw1]; exact (Kp.refl _ _).alloc _
       clear hw1)
    | (refine wpList_build2 rfl 68 _ _ _ _ rfl (.int .i64 gw) (.int .i64 gh) rfl rfl (gnew gw gh S) HB.out ?_)
    | (refine wpList_store_row_g rfl 68 _ _ rfl w.heap.size (gnew gw gh S) rfl rfl 68 (gnew 0 0 S) A1.out (by rw [info_grid, gnew_size _ _ HS.out]) (by rw [gnew_size _ _ HS.out, gnew_size _ _ HS.out]) (gnew_one _ _ _) ?_
       intro w2 hw2
       have A2 : Hid (w2.heap[w.heap.size]? = some (.cells (gnew gw gh S) 68 (0, 0))) := by rw [hw2]; exact setRow_heap _ _ _ _ _ _ A1.out
       have K2 : Hid (Kp (fun _ => False) w w2) := by rw [hw2]; exact K1.out.setRowNew (Nat.le_refl _) _
       clear hw2))
  exact bodyPost_ret (v := .agg (gnew gw gh S)) (results_cell_row Tryz.results52 _ _ w.heap.size 68 (gnew gw gh S) (0, 0) _ rfl A2.out Tryz.underlying68 rfl (by rw [info_grid, gnew_size _ _ HS.out])) rfl ⟨rfl, K2.out⟩
theorem noS_zero : ∀ k, noS.getD k 0 = 0 := by
  intro k
  unfold noS
  unfold List.getD
  rw [List.getElem?_replicate]
  split <;> rfl
end Go.Proofs.YthmhjjkmnnmjlaaGreatDoor
namespace Go.Proofs.YthmhjjkmnnmjlaaGreatDoor
open Go.RowKit
open Go.Proofs

section
variable {P : Program} {ops : Array Oper} {rest : List Oper} {o : Oper} {a : Act} {w : World} {Q : Exit → Act → World → Prop}
/-- Some cells of a row are read, as one value. -/
theorem wpList_load_at (hgd : o.guard = none) (ty : TypeId) (x : Operand) (ho : o.op = .load ty x) (g off : Nat) (hx : a.eval x = .pointer (some ⟨g, off, none⟩)) (sub : Array Value)
    (hc : ∀ j v, sub[j]? = some v → w.cell? ⟨g, off + j, none⟩ = some v) (d : TypeDesc) (hu : P.underlying ty = some d) (hd : (match d with | .struct _ | .array _ _ => true | _ => false) = true) (hi : (P.info? ty).map (·.size) = some sub.size)
    (h : wpList P ops Q rest (a.put o.dst (.agg sub)) w) : wpList P ops Q (o :: rest) a w := by
  refine wpList_plain hgd fun _ hK => ?_
  have hl : (loadCells ⟨g, off, none⟩ sub.toList.length).run P w = .ok sub.toList.toArray w :=
    run_loadCells_list (P := P) w ⟨g, off, none⟩ sub.toList (fun j v hv => by
      have hadd : (⟨g, off, none⟩ : Addr).add j = ⟨g, off + j, none⟩ := by unfold Addr.add; split <;> simp_all
      rw [hadd]
      exact hc j v (by simpa using hv))
  have hload : (loadVar ty ⟨g, off, none⟩).run P w = .ok (.agg sub) w := by
    cases hq : P.info? ty with
    | none => simp [hq] at hi
    | some i =>
      have hs : i.size = sub.size := by simpa [hq] using hi
      have hagg : (isAgg ty).run P w = .ok true w := by
        unfold isAgg
        rw [Sem.run_bind, run_underlying hu w]
        cases d <;> simp_all
      simp only [Array.length_toList, Array.toArray_toList] at hl
      simp [loadVar, Sem.run_bind, hagg, sizeOf, typeInfo, hq, hs, hl]
  unfold Oper.wp execOp
  simp only [ho, hx, Instr.loadAt, Instr.sureAddr, Sem.run_bind, Sem.run_pure, Result.andThen_ok, hload]
  exact hK _ _ h
end

/-- What stands ahead of a world's grid. -/
def preOf (r : Pu.Rule) (x : Pu.Shape) (age : Int) : Array Value := rulev r ++ shv x ++ #[.int .i64 age]
theorem preOf_size {r : Pu.Rule} (h : RuleOk r) (x : Pu.Shape) (age : Int) : (preOf r x age).size = 28 := by
  unfold preOf
  rw [Array.size_append, Array.size_append, rulev_size h, shv_size]
  rfl
theorem preOf_shape {r : Pu.Rule} (h : RuleOk r) (x : Pu.Shape) (age : Int) (j : Nat) (hj : j < 7) : (preOf r x age)[20 + j]? = (shv x)[j]? := by
  unfold preOf
  rw [Array.getElem?_append, Array.getElem?_append, Array.size_append, rulev_size h, shv_size, if_pos (by omega), if_neg (by omega)]
  congr 1
  omega
theorem GrAt.shape {w : World} {q : Nat} {r : Pu.Rule} {x : Pu.Shape} {age : Int} {gw gh l t : Int} {S : List Int} (h : GrAt w q (preOf r x age) gw gh l t S) (hr : RuleOk r) (j : Nat) (v : Value) (hv : (shv x)[j]? = some v) : w.cell? ⟨q, 20 + j, none⟩ = some v := by
  have hj : j < 7 := by
    rcases Nat.lt_or_ge j 7 with h7 | h7
    · exact h7
    · rw [Array.getElem?_eq_none (by rw [shv_size]; omega)] at hv; simp at hv
  rw [cell_of_row w q _ _ _ _ h.row, grv_get h.psz, if_pos (by omega), preOf_shape hr x age j hj, hv]

theorem near_bd {x : Pu.Shape} (hx : Pu.ShapeOk x) {a b : Int} (h1 : hasB x a b = true) (h2 : nearB x a b = true) : (-9999 ≤ a ∧ a ≤ 9999) ∧ -9999 ≤ b ∧ b ≤ 9999 := by
  have w12 := hx.w12
  have h12 := hx.h12
  simp [hasB, nearB, onSideB, nearOnB] at h1 h2
  omega

theorem wrap_is {z : Int} (h : -100000000 ≤ z ∧ z ≤ 100000000) : IntKind.i64.wrap z = z := by
  rw [IntKind.wrap_i64]
  omega
def BoolRet (e : Ending) : Prop := ∃ y : Bool, e = .returned (.bool y)
/-- A world's block whose grid's window is not beyond M. -/
def WdW (w : World) (q : Nat) (r : Pu.Rule) (x : Pu.Shape) (age M : Int) : Prop := ∃ l t S, GrAt w q (preOf r x age) x.w x.h l t S ∧ (-M ≤ l ∧ l ≤ M) ∧ (-M ≤ t ∧ t ≤ M)
theorem bool_ret (y : Bool) : BoolRet (.returned (.bool y)) := ⟨y, rfl⟩
theorem WdW.mk' {w : World} {q : Nat} {r : Pu.Rule} {x : Pu.Shape} {age M l t : Int} {S : List Int} (h : GrAt w q (preOf r x age) x.w x.h l t S) (h1 : -M ≤ l ∧ l ≤ M) (h2 : -M ≤ t ∧ t ≤ M) : WdW w q r x age M := ⟨l, t, S, h, h1, h2⟩

set_option maxRecDepth 100000 in
set_option maxHeartbeats 400000 in
/-- A live cell is put into the world's own grid. -/
theorem settle_any (q : Nat) (r : Pu.Rule) (x : Pu.Shape) (age l t : Int) (S : List Int) (M a b u : Int) (w : World) (h : GrAt w q (preOf r x age) x.w x.h l t S) (hr : RuleOk r) (hx : Pu.ShapeOk x) (hh : hasB x a b = true)
    (l0 : -M ≤ l ∧ l + 64 ≤ M) (t0 : -M ≤ t ∧ t + 64 ≤ M) (hM : M ≤ 50000000) (hM0 : 20000 ≤ M) :
    Calls Tryz.prog 77 #[.pointer (some ⟨q, 0, none⟩), .pointer (some ⟨q, 28, none⟩), .int .i64 a, .int .i64 b, .int .i64 u] w fun e w' => BoolRet e ∧ WdW w' q r x age M ∧ Kp (· = q) w w' := by
  have H := hide h
  have ld := hide (fun j v => h.shape hr j v)
  cases hnear : nearB x a b with
  | false =>
    have HNr := hide (fun wx => by have := near_any x a b wx; rw [hnear] at this; exact this)
    clear hnear hh h hx
    go_enter Tryz.func77, Tryz.ntmps77
    go_wp2_with (refine wpList_load_at rfl 65 _ rfl q 20 rfl (shv x) ld.out _ Tryz.underlying65 rfl info_shape ?_)
    refine (HNr.out _).mono ?_
    rintro e w2 ⟨rfl, k2⟩
    have A2 := hide (H.out.keep k2 (fun hx => hx))
    have K2 := hide (k2.mono (T := (· = q)) (fun _ hx => hx.elim))
    clear k2
    go_wp2_with fail
    go_ret
    exact ⟨bool_ret false, WdW.mk' A2.out (by omega) (by omega), K2.out⟩
  | true =>
    have HNr := hide (fun wx => by have := near_any x a b wx; rw [hnear] at this; exact this)
    have nb := near_bd hx hh hnear
    have HP := hide (fun (wx : World) (hg : GrAt wx q (preOf r x age) x.w x.h l t S) => put_any q (preOf r x age) x.w x.h l t S M a b u wx hg hx.w0 hx.w12 hx.h0 hx.h12 (by omega) (by omega) (by omega) (by omega) (by omega) (by omega) (by omega) (by omega))
    clear hnear hh h hx
    go_enter Tryz.func77, Tryz.ntmps77
    go_wp2_with (refine wpList_load_at rfl 65 _ rfl q 20 rfl (shv x) ld.out _ Tryz.underlying65 rfl info_shape ?_)
    refine (HNr.out _).mono ?_
    rintro e w2 ⟨rfl, k2⟩
    have A2 := hide (H.out.keep k2 (fun hx => hx))
    have K2 := hide (k2.mono (T := (· = q)) (fun _ hx => hx.elim))
    clear k2
    go_wp2_with fail
    refine (HP.out _ A2.out).mono ?_
    rintro e w3 ⟨⟨y, rfl⟩, ⟨l2, t2, S2, g8, g9, g10⟩, k3⟩
    have A3 := hide g8
    have K3 := hide (K2.out.trans k3)
    clear g8 k3
    go_wp2_with fail
    go_ret
    exact ⟨bool_ret y, WdW.mk' A3.out g9 g10, K3.out⟩

set_option maxRecDepth 100000 in
set_option maxHeartbeats 400000 in
theorem layRun_any (q : Nat) (r : Pu.Rule) (x : Pu.Shape) (age l t : Int) (S : List Int) (M a b : Int) (rn : Pu.Run) (w : World) (h : GrAt w q (preOf r x age) x.w x.h l t S) (hr : RuleOk r) (hx : Pu.ShapeOk x) (hn : 1 ≤ rn.count ∧ rn.count ≤ 99)
    (l0 : -M ≤ l ∧ l ≤ M) (t0 : -M ≤ t ∧ t ≤ M) (hM : M ≤ 40000000) (hM0 : 20000 ≤ M) (ha : -1000000 ≤ a ∧ a ≤ 1000000) (_hb : -1000000 ≤ b ∧ b ≤ 1000000) :
    Calls Tryz.prog 83 #[.pointer (some ⟨q, 0, none⟩), .int .i64 a, .int .i64 b, .agg (runv rn)] w fun e w' => BoolRet e ∧ WdW w' q r x age (M + 6400) ∧ Kp (· = q) w w' := by
  have hq := h.lt
  have w0 := hx.w0
  have w12 := hx.w12
  have h0 := hx.h0
  have h12 := hx.h12
  obtain ⟨n, st, dn⟩ := rn
  simp only [runv] at *
  have H := hide h
  have HR := hide hr
  have HX := hide hx
  clear h hr hx
  by_cases hs : st = 0
  · subst hs
    go_enter Tryz.func83, Tryz.ntmps83
    go_wp2_with fail
    go_ret
    exact ⟨bool_ret true, WdW.mk' (H.out.alloc _) (by omega) (by omega), (Kp.refl _ _).alloc _⟩
  · have bs : (st == 0) = false := by simpa using hs
    clear hs
    go_enter Tryz.func83, Tryz.ntmps83
    go_wp2_with fail
    go_loopg [9] n.toNat (fun gk v wr => ∃ (k : Nat) (l' t' : Int) (S' : List Int), (k : Int) ≤ n ∧ n ≤ k + gk ∧ v = .int .i64 k ∧ GrAt wr q (preOf r x age) x.w x.h l' t' S' ∧ (-(M + 64 * k) ≤ l' ∧ l' ≤ M + 64 * k) ∧ (-(M + 64 * k) ≤ t' ∧ t' ≤ M + 64 * k) ∧
      wr.heap[w.heap.size]? = some (.cells #[.int .i64 n, .int .i64 st, .bool dn] 119 (0, 0)) ∧ Kp (· = q) w wr)
    case atStart => exact ⟨0, l, t, S, by omega, by omega, rfl, H.out.alloc _, by omega, by omega, heap_alloc_new _ _, (Kp.refl _ _).alloc _⟩
    case round =>
      obtain ⟨k, l', t', S', g1, g2, rfl, g3, g4, g5, g6, g7⟩ := hrel
      have d0 : wr.cell? ⟨w.heap.size, 0, none⟩ = some (.int .i64 n) := cell_of_row _ _ 0 _ _ _ g6
      have d1 : wr.cell? ⟨w.heap.size, 1, none⟩ = some (.int .i64 st) := cell_of_row _ _ 1 _ _ _ g6
      have G3 := hide g3
      have G6 := hide g6
      have G7 := hide g7
      have ld := hide (fun j v => g3.shape HR.out j v)
      clear g3 g6 g7
      by_cases hlt : (k : Int) < n
      · cases hhas : hasB x (a + k) b with
        | false =>
          have HH := hide (fun wx => by have := has_any x (a + k) b wx; rw [hhas] at this; exact this)
          clear hhas
          go_wp2_with (refine wpList_load_at rfl 65 _ rfl q 20 rfl (shv x) ld.out _ Tryz.underlying65 rfl info_shape ?_)
          refine (HH.out _).mono ?_
          rintro e w1 ⟨rfl, k1⟩
          go_wp2_with fail
          go_roundg (gk - 1)
          case measure => omega
          case rel => exact ⟨k + 1, l', t', S', by omega, by omega, by go_num, G3.out.keep k1 (fun hx => hx), by omega, by omega, k1.row G6.out (fun hx => hx), G7.out.trans (k1.mono (fun _ hx => hx.elim))⟩
        | true =>
          have HH := hide (fun wx => by have := has_any x (a + k) b wx; rw [hhas] at this; exact this)
          go_wp2_with (refine wpList_load_at rfl 65 _ rfl q 20 rfl (shv x) ld.out _ Tryz.underlying65 rfl info_shape ?_)
          refine (HH.out _).mono ?_
          rintro e w1 ⟨rfl, k1⟩
          have A1 := hide (G3.out.keep k1 (fun hx => hx))
          have B1 := hide (k1.row G6.out (fun hx => hx))
          have K1 := hide (G7.out.trans (k1.mono (T := (· = q)) (fun _ hx => hx.elim)))
          clear k1
          have d2 : w1.cell? ⟨w.heap.size, 1, none⟩ = some (.int .i64 st) := cell_of_row _ _ 1 _ _ _ B1.out
          have HP := hide (fun (wx : World) (hx : GrAt wx q (preOf r x age) x.w x.h l' t' S') => settle_any q r x age l' t' S' (M + 64 * (k + 1)) (a + k) b st wx hx HR.out HX.out hhas (by omega) (by omega) (by omega) (by omega))
          have HW := hide (wrap_is (z := a + k) (by omega))
          clear hhas
          go_wp2_with fail
          go_region_with (go_at_call 77; rw [HW.out]; refine (HP.out _ (by exact ⟨A1.out.row, A1.out.psz, A1.out.len⟩)).mono ?_; rintro e w3 ⟨⟨y, rfl⟩, ⟨l2, t2, S2, g8, g9, g10⟩, k3⟩)
          have A3 := hide g8
          have B3 := hide (k3.row (w := w1.drew) B1.out (by omega))
          have K3 := hide (K1.out.trans (Kp.drewNl (n := 1) k3))
          clear g8 k3
          cases y
          · go_wp2_with fail
            go_ret
            exact ⟨bool_ret false, WdW.mk' A3.out (by omega) (by omega), K3.out⟩
          · go_wp2_with fail
            go_roundg (gk - 1)
            case measure => omega
            case rel => exact ⟨k + 1, l2, t2, S2, by omega, by omega, by go_num, A3.out, by omega, by omega, B3.out, K3.out⟩
      · go_wp2_with fail
        go_ret
        exact ⟨bool_ret true, WdW.mk' G3.out (by omega) (by omega), G7.out⟩
end Go.Proofs.YthmhjjkmnnmjlaaGreatDoor
namespace Go.Proofs.YthmhjjkmnnmjlaaGreatDoor
open Go.RowKit
open Go.Proofs

theorem GrAt.rule {w : World} {q : Nat} {r : Pu.Rule} {x : Pu.Shape} {age : Int} {gw gh l t : Int} {S : List Int} (h : GrAt w q (preOf r x age) gw gh l t S) (hr : RuleOk r) (j : Nat) (v : Value) (hv : (rulev r)[j]? = some v) : w.cell? ⟨q, 0 + j, none⟩ = some v := by
  have hj : j < 20 := by
    rcases Nat.lt_or_ge j 20 with h7 | h7
    · exact h7
    · rw [Array.getElem?_eq_none (by rw [rulev_size hr]; omega)] at hv; simp at hv
  rw [cell_of_row w q _ _ _ _ h.row, grv_get h.psz, if_pos (by omega), Nat.zero_add]
  unfold preOf
  rw [Array.getElem?_append, if_pos (by rw [Array.size_append, rulev_size hr]; omega), Array.getElem?_append, if_pos (by rw [rulev_size hr]; omega)]
  exact hv
theorem rulev_around {r : Pu.Rule} : (rulev r)[0]? = some (.int .u8 r.around) := by
  unfold rulev
  simp [Array.getElem?_append]
theorem bv_getD (l : List Bool) (hl : l.length = 9) (m : Nat) (hm : m < 9) : (bv l)[m]? = some (.bool (l.getD m false)) := by
  rw [bv_get l m (by omega)]
  simp [List.getD, show m < l.length by omega]
theorem rule_at {r : Pu.Rule} (hr : RuleOk r) (m : Nat) (hm : m < 9) : (rulev r)[1 + m]? = some (.bool (r.births.getD m false)) ∧ (rulev r)[10 + m]? = some (.bool (r.survivals.getD m false)) := by
  have z1 : (#[Value.int .u8 r.around] : Array Value).size = 1 := rfl
  have z2 : (#[Value.int .u8 r.around] ++ bv r.births).size = 10 := by rw [Array.size_append, z1, bv_size, hr.1]
  have z3 : (#[Value.int .u8 r.around] ++ bv r.births ++ bv r.survivals).size = 19 := by rw [Array.size_append, z2, bv_size, hr.2]
  unfold rulev
  constructor
  · rw [Array.getElem?_append, if_pos (by omega), Array.getElem?_append, if_pos (by omega), Array.getElem?_append, if_neg (by omega), z1, show 1 + m - 1 = m by omega]
    exact bv_getD _ hr.1 m hm
  · rw [Array.getElem?_append, if_pos (by omega), Array.getElem?_append, if_neg (by omega), z2, show 10 + m - 10 = m by omega]
    exact bv_getD _ hr.2 m hm
theorem app_set (A : Array Value) (h : A.size = 27) (u v : Value) : (A ++ #[u]).setIfInBounds 27 v = A ++ #[v] := by
  apply Array.ext_getElem?
  intro m
  rw [Array.getElem?_setIfInBounds, Array.size_append, h, Array.getElem?_append, Array.getElem?_append, h]
  by_cases e : 27 = m
  · subst e
    simp
  · rw [if_neg e]
    by_cases l : m < 27
    · rw [if_pos l, if_pos l]
    · rw [if_neg l, if_neg l, Array.getElem?_eq_none (by simp; omega), Array.getElem?_eq_none (by simp; omega)]
theorem preOf_age {r : Pu.Rule} (h : RuleOk r) (x : Pu.Shape) (a b : Int) : (preOf r x a).setIfInBounds 27 (.int .i64 b) = preOf r x b :=
  app_set (rulev r ++ shv x) (by rw [Array.size_append, rulev_size h]; rfl) _ _
theorem GrAt.age {w : World} {q : Nat} {r : Pu.Rule} {x : Pu.Shape} {a gw gh l t : Int} {S : List Int} (h : GrAt w q (preOf r x a) gw gh l t S) (hr : RuleOk r) : w.cell? ⟨q, 27, none⟩ = some (.int .i64 a) := by
  rw [cell_of_row w q _ _ _ _ h.row, grv_get h.psz, if_pos (by omega)]
  unfold preOf
  have z1 : (rulev r ++ shv x).size = 27 := by rw [Array.size_append, rulev_size hr]; rfl
  rw [Array.getElem?_append, if_neg (by omega), z1]
  rfl
theorem GrAt.setAge {w : World} {q : Nat} {r : Pu.Rule} {x : Pu.Shape} {a gw gh l t : Int} {S : List Int} (h : GrAt w q (preOf r x a) gw gh l t S) (hr : RuleOk r) (b : Int) : GrAt (w.setCell ⟨q, 27, none⟩ (.int .i64 b)) q (preOf r x b) gw gh l t S := by
  refine ⟨?_, preOf_size hr x b, h.len⟩
  rw [heap_setCell_same w q _ _ _ _ h.row, ← preOf_age hr x a b]
  congr 2
  apply Array.ext_getElem?
  intro m
  have p1 : (preOf r x a).size = 28 := h.psz
  have p2 : ((preOf r x a).setIfInBounds 27 (.int .i64 b)).size = 28 := by rw [Array.size_setIfInBounds]; exact p1
  rw [Array.getElem?_setIfInBounds, grv_get p1, grv_get p2, grv_size p1 _ _ _ _ _ h.len, Array.getElem?_setIfInBounds, p1]
  by_cases e : 27 = m
  · subst e; simp
  · rw [if_neg e, if_neg e]
end Go.Proofs.YthmhjjkmnnmjlaaGreatDoor
namespace Go.Proofs.YthmhjjkmnnmjlaaGreatDoor
open Go.RowKit
open Go.Proofs

section
variable {P : Program} {o : Oper} {a : Act} {w : World} {Q : Exit → Act → World → Prop} {K : Act → World → Prop}
theorem loadVar_at (ty : TypeId) (g off : Nat) (sub : Array Value) (hc : ∀ j v, sub[j]? = some v → w.cell? ⟨g, off + j, none⟩ = some v) (d : TypeDesc) (hu : P.underlying ty = some d) (hd : (match d with | .struct _ | .array _ _ => true | _ => false) = true) (hi : (P.info? ty).map (·.size) = some sub.size) : (loadVar ty ⟨g, off, none⟩).run P w = .ok (.agg sub) w := by
  have hl : (loadCells ⟨g, off, none⟩ sub.toList.length).run P w = .ok sub.toList.toArray w :=
    run_loadCells_list (P := P) w ⟨g, off, none⟩ sub.toList (fun j v hv => by
      have hadd : (⟨g, off, none⟩ : Addr).add j = ⟨g, off + j, none⟩ := by unfold Addr.add; split <;> simp_all
      rw [hadd]
      exact hc j v (by simpa using hv))
  cases hq : P.info? ty with
  | none => simp [hq] at hi
  | some i =>
    have hs : i.size = sub.size := by simpa [hq] using hi
    have hagg : (isAgg ty).run P w = .ok true w := by
      unfold isAgg
      rw [Sem.run_bind, run_underlying hu w]
      cases d <;> simp_all
    simp only [Array.length_toList, Array.toArray_toList] at hl
    simp [loadVar, Sem.run_bind, hagg, sizeOf, typeInfo, hq, hs, hl]
theorem wp_load_at (ty : TypeId) (x : Operand) (ho : o.op = .load ty x) (g off : Nat) (hx : a.eval x = .pointer (some ⟨g, off, none⟩)) (sub : Array Value) (hc : ∀ j v, sub[j]? = some v → w.cell? ⟨g, off + j, none⟩ = some v) (d : TypeDesc) (hu : P.underlying ty = some d) (hd : (match d with | .struct _ | .array _ _ => true | _ => false) = true) (hi : (P.info? ty).map (·.size) = some sub.size)
    (h : K (a.put o.dst (.agg sub)) w) : o.wp P a w K Q := by
  have hload := loadVar_at (P := P) (w := w) ty g off sub hc d hu hd hi
  unfold Oper.wp execOp
  simp only [ho, hx, Instr.loadAt, Instr.sureAddr, Sem.run_bind, Sem.run_pure, Result.andThen_ok, hload]
  exact h
theorem wp_load_int (ty : TypeId) (x : Operand) (ho : o.op = .load ty x) (ad : Addr) (hx : a.eval x = .pointer (some ad)) (v : Value) (hc : w.cell? ad = some v) {k : IntKind} (hu : P.underlying ty = some (.int k)) (h : K (a.put o.dst v) w) : o.wp P a w K Q := by
  have hagg : (isAgg ty).run P w = .ok false w := by
    unfold isAgg
    rw [Sem.run_bind, run_underlying hu w]
    rfl
  have hl : (loadVar ty ad).run P w = .ok v w := by
    simp [loadVar, Sem.run_bind, hagg, hc]
  unfold Oper.wp execOp
  simp only [ho, hx, Instr.loadAt, Instr.sureAddr, Sem.run_bind, Sem.run_pure, Result.andThen_ok, hl]
  exact h
theorem wp_conv (s d : TypeId) (x : Operand) (ho : o.op = .convert s d x) (v r : Value) (hv : a.eval x = v) (hr : (convert s d v).run P w = .ok r w) (h : K (a.put o.dst r) w) : o.wp P a w K Q := by
  unfold Oper.wp execOp
  simp [ho, hv, hr]
  exact h
end
/-- 'string' of a slice of one byte, wherever it lies. -/
theorem conv1g (w : World) (g : Nat) (n : Int) (hg : w.heap[g]? = some (.cells #[.int .u8 n] 5 (0, 0))) (h0 : 0 ≤ n) (h1 : n < 256) : (convert 112 9 (.slice (some ⟨g, 0, none⟩) 1 1)).run Tryz.prog w = .ok (.string (ustr [b8 n])) w := by
  have hc := run_convert_bytes_back (P := Tryz.prog) w 112 9 5 ⟨g, 0, none⟩ 1 [UInt8.ofNat n.toNat] Tryz.underlying112 Tryz.underlying5 Tryz.underlying9 (fun j hj => by
    have hj0 : j = 0 := by simp at hj; omega
    subst hj0
    show World.cell? _ ⟨g, 0, none⟩ = _
    rw [cell_of_row _ g 0 _ _ _ hg]
    have e : ((UInt8.ofNat n.toNat).toNat : Int) = n := by
      rw [UInt8.toNat_ofNat']
      omega
    simp only [List.getElem_cons_zero]
    rw [e]
    rfl)
  exact hc
/-- What each operation of ruleText's first statement leaves. -/
def rtV (r : Pu.Rule) (B : Nat) (S1 S2 : ByteArray) : Nat → Value → World → Prop
  | 0, v, _ => v = .pointer (some ⟨B, 0, none⟩)
  | 1, v, _ => v = .int .u8 r.around
  | 2, v, wx => ∃ g, v = .slice (some ⟨g, 0, none⟩) 1 1 ∧ wx.heap[g]? = some (.cells #[.int .u8 r.around] 5 (0, 0))
  | 3, v, _ => v = .string (ustr [b8 r.around])
  | 4, v, _ => v = .string (ustr [b8 r.around] ++ ustr [66])
  | 5, v, _ => v = .pointer (some ⟨B, 1, none⟩)
  | 6, v, _ => v = .agg (bv r.births)
  | 7, v, _ => v = .string S1
  | 8, v, _ => v = .string (ustr [b8 r.around] ++ ustr [66] ++ S1)
  | 9, v, _ => v = .string (ustr [b8 r.around] ++ ustr [66] ++ S1 ++ ustr [47, 83])
  | 10, v, _ => v = .pointer (some ⟨B, 10, none⟩)
  | 11, v, _ => v = .agg (bv r.survivals)
  | 12, v, _ => v = .string S2
  | 13, v, _ => v = .string (ustr [b8 r.around] ++ ustr [66] ++ S1 ++ ustr [47, 83] ++ S2)
  | 14, v, _ => v = .string (ustr [b8 r.around] ++ ustr [66] ++ S1 ++ ustr [47, 83] ++ S2)
  | _, _, _ => True
theorem rtV_mono {r : Pu.Rule} {B : Nat} {S1 S2 : ByteArray} {i : Nat} {v : Value} {wx wy : World} (h : rtV r B S1 S2 i v wx) (k : Kp (fun _ => False) wx wy) : rtV r B S1 S2 i v wy := by
  unfold rtV at *
  split at h
  case h_3 =>
    obtain ⟨g, h1, h2⟩ := h
    exact ⟨g, h1, k.row h2 (fun x => x)⟩
  all_goals exact h
def rtD (i : Nat) : Nat := if i = 14 then 3 else i + 4
def rtF (r : Pu.Rule) (B : Nat) (x : Nat → Value) : Act := { tmps := #[.agg (rulev r), .pointer (some ⟨B, 0, none⟩), .string { data := #[] }, x 3, x 4, x 5, x 6, x 7, x 8, x 9, x 10, x 11, x 12, x 13, x 14, x 15, x 16, x 17, undef, undef, undef, undef, undef, undef, undef, undef, undef, undef], defers := [] }
def rtI (r : Pu.Rule) (B : Nat) (S1 S2 : ByteArray) (w1 : World) (listed : Array Bool) (a : Act) (wx : World) : Prop :=
  ∃ x : Nat → Value, a = rtF r B x ∧ Kp (fun _ => False) w1 wx ∧ ∀ i, listed.getD i false = true → rtV r B S1 S2 i (x (rtD i)) wx
theorem rtF_put (r : Pu.Rule) (B : Nat) (x : Nat → Value) (d : Nat) (h3 : 3 ≤ d) (h17 : d ≤ 17) (v : Value) : (rtF r B x).put (some d) v = rtF r B (fun k => if k = d then v else x k) := by
  have : d = 3 ∨ d = 4 ∨ d = 5 ∨ d = 6 ∨ d = 7 ∨ d = 8 ∨ d = 9 ∨ d = 10 ∨ d = 11 ∨ d = 12 ∨ d = 13 ∨ d = 14 ∨ d = 15 ∨ d = 16 ∨ d = 17 := by omega
  rcases this with rfl | rfl | rfl | rfl | rfl | rfl | rfl | rfl | rfl | rfl | rfl | rfl | rfl | rfl | rfl <;> rfl
theorem rtI_put {r : Pu.Rule} {B : Nat} {S1 S2 : ByteArray} {w1 wx wy : World} {listed : Array Bool} {x : Nat → Value} (kx : Kp (fun _ => False) w1 wx) (hv : ∀ i, listed.getD i false = true → rtV r B S1 S2 i (x (rtD i)) wx) (i d : Nat) (hi : i < 15) (hd : d = rtD i) (v : Value) (k : Kp (fun _ => False) wx wy) (hV : rtV r B S1 S2 i v wy) :
    rtI r B S1 S2 w1 (listed.setIfInBounds i true) ((rtF r B x).put (some d) v) wy := by
  have hdb : 3 ≤ d ∧ d ≤ 17 := by rw [hd]; unfold rtD; split <;> omega
  refine ⟨_, rtF_put r B x d hdb.1 hdb.2 v, kx.trans k, fun j hj => ?_⟩
  by_cases e : j = i
  · subst e
    simp only [← hd, if_true]
    exact hV
  · have hj' : listed.getD j false = true := (getD_setF _ _ _ hj).resolve_left e
    have hne : rtD j ≠ d ∨ 15 ≤ j := by
      rw [hd]
      unfold rtD
      by_cases h14 : j = 14
      · left; rw [if_pos h14, if_neg (by omega)]; omega
      · by_cases h15 : 15 ≤ j
        · exact Or.inr h15
        · left
          rw [if_neg h14]
          split <;> omega
    rcases hne with hne | h15
    · simp only [if_neg hne]
      exact rtV_mono (hv j hj') k
    · unfold rtV
      split <;> first | omega | trivial

theorem rulev_b {r : Pu.Rule} (hr : RuleOk r) (j : Nat) (v : Value) (h : (bv r.births)[j]? = some v) : (rulev r)[1 + j]? = some v := by
  have hj : j < 9 := by have := (Array.getElem?_eq_some_iff.1 h).1; rw [bv_size, hr.1] at this; exact this
  rw [(rule_at hr j hj).1, ← bv_getD _ hr.1 j hj]
  exact h
theorem rulev_s {r : Pu.Rule} (hr : RuleOk r) (j : Nat) (v : Value) (h : (bv r.survivals)[j]? = some v) : (rulev r)[10 + j]? = some v := by
  have hj : j < 9 := by have := (Array.getElem?_eq_some_iff.1 h).1; rw [bv_size, hr.2] at this; exact this
  rw [(rule_at hr j hj).2, ← bv_getD _ hr.2 j hj]
  exact h

set_option maxRecDepth 100000 in
set_option maxHeartbeats 1000000 in
theorem ruleText_any (r : Pu.Rule) (hr : RuleOk r) (ha : 0 ≤ r.around ∧ r.around < 256) (hst : 2 ≤ r.states ∧ r.states ≤ 9) (w : World) (ht : Tab w) :
    Calls Tryz.prog 68 #[.agg (rulev r)] w fun e w' => e = .returned (.string (ustr (Sv.ruleT r))) ∧ Kp (fun _ => False) w w' := by
  have HT := hide ht
  have L1 := hide (fun (wx : World) (hx : Tab wx) => setText_any r.births hr.1 wx hx)
  have L2 := hide (fun (wx : World) (hx : Tab wx) => setText_any r.survivals hr.2 wx hx)
  have z1 := Sv.setN_len r.births 9
  have z2 := Sv.setN_len r.survivals 9
  rw [← ustr_size] at z1 z2
  have z1' : (ustr (Sv.set r.births)).size ≤ 99 := z1
  have z2' : (ustr (Sv.set r.survivals)).size ≤ 99 := z2
  have EQ : Hid (ustr (Sv.ruleT r) = ustr [b8 r.around] ++ ustr [66] ++ ustr (Sv.set r.births) ++ ustr [47, 83] ++ ustr (Sv.set r.survivals) ++ ustr (if 2 < r.states then [47] ++ Lib.itoa r.states else [])) := by
    show _ = _
    simp only [ustr_app]
    rfl
  rw [EQ.out]
  have T1 : Hid (2 < r.states → ustr (if 2 < r.states then [47] ++ Lib.itoa r.states else []) = ustr [47] ++ ustr (Lib.itoa r.states)) := fun h => by rw [if_pos h, ustr_app]
  have T2 : Hid (¬ 2 < r.states → ∀ X : ByteArray, X ++ ustr (if 2 < r.states then [47] ++ Lib.itoa r.states else []) = X) := fun h X => by
    rw [if_neg h]
    apply ByteArray.ext
    simp [ustr, ByteArray.data_append]
  generalize ustr (if 2 < r.states then [47] ++ Lib.itoa r.states else []) = T at *
  clear z1 z2 ht EQ
  generalize ustr (Sv.set r.births) = S1 at *
  generalize ustr (Sv.set r.survivals) = S2 at *
  have z3 : (ustr [b8 r.around]).size = 1 := rfl
  have z4 : (ustr [66]).size = 1 := rfl
  have z5 : (ustr [47, 83]).size = 2 := rfl
  have RB := hide (fun j v => rulev_b (r := r) hr j v)
  have RS := hide (fun j v => rulev_s (r := r) hr j v)
  go_enter Tryz.func68, Tryz.ntmps68
  go_upto_region 1 with fail
  go_cut [3] from 4 to 17 (fun v3 wc => v3 = .string (ustr [b8 r.around] ++ ustr [66] ++ S1 ++ ustr [47, 83] ++ S2) ∧ Kp (fun _ => False) (w.alloc (.cells (rulev r) 63)) wc)
  case first =>
    refine wp_region_inv (by kernel_rfl) (rtI r w.heap.size S1 S2 (w.alloc (.cells (rulev r) 63))) ?_ ?_ ?_ ?_
    · kernel_rfl
    · rintro listed a wx i o ⟨x, rfl, kx, hv⟩ ho hall
      have hi : i < 15 := by
        have := (Array.getElem?_eq_some_iff.1 ho).1
        simpa using this
      have K0 : Hid (Kp (fun _ => False) w wx) := ((Kp.refl _ _).alloc _).trans kx
      have R0 : Hid (wx.heap[w.heap.size]? = some (.cells (rulev r) 63 (0, 0))) := kx.row (heap_alloc_new _ _) (fun hx => hx)
      have cl := hide (fun (wy : World) (d : Nat) (hd : d = rtD i) (v : Value) (k : Kp (fun _ => False) wx wy) (hV : rtV r w.heap.size S1 S2 i v wy) => rtI_put kx hv i d hi hd v k hV)
      have HV := hide hv
      have HA := hide hall
      clear kx hv hall
      have hc : i = 0 ∨ i = 1 ∨ i = 2 ∨ i = 3 ∨ i = 4 ∨ i = 5 ∨ i = 6 ∨ i = 7 ∨ i = 8 ∨ i = 9 ∨ i = 10 ∨ i = 11 ∨ i = 12 ∨ i = 13 ∨ i = 14 := by omega
      rcases hc with rfl | rfl | rfl | rfl | rfl | rfl | rfl | rfl | rfl | rfl | rfl | rfl | rfl | rfl | rfl
      all_goals
        simp at ho
        subst ho
        refine ⟨rfl, ?_⟩
      · unfold Oper.wp execOp
        go_simp
        exact cl.out wx 4 rfl _ (Kp.refl _ _) rfl
      · have v0 : x 4 = _ := HV.out 0 (HA.out ⟨0, .data⟩ (by simp) rfl)
        refine wp_load_int 5 _ rfl ⟨w.heap.size, 0, none⟩ v0 (.int .u8 r.around) (by rw [cell_of_row _ _ 0 _ _ _ R0.out]; exact rulev_around) Tryz.underlying5 ?_
        exact cl.out wx 5 rfl _ (Kp.refl _ _) rfl
      · have t5 : (rtF r w.heap.size x).tmps[5]?.getD undef = .int .u8 r.around := HV.out 1 (HA.out ⟨1, .data⟩ (by simp) rfl)
        unfold Oper.wp execOp
        go_simp
        exact cl.out _ 6 rfl _ ((Kp.refl _ _).alloc _) ⟨_, rfl, heap_alloc_new _ _⟩
      · obtain ⟨g, v2, r2⟩ : ∃ g, x 6 = _ ∧ _ := HV.out 2 (HA.out ⟨2, .data⟩ (by simp) rfl)
        refine wp_conv 112 9 _ rfl _ _ v2 (conv1g wx g r.around r2 ha.1 ha.2) ?_
        exact cl.out wx 7 rfl _ (Kp.refl _ _) rfl
      · have t7 : (rtF r w.heap.size x).tmps[7]?.getD undef = .string (ustr [b8 r.around]) := HV.out 3 (HA.out ⟨3, .data⟩ (by simp) rfl)
        unfold Oper.wp execOp
        go_simp
        exact cl.out wx 8 rfl _ (Kp.refl _ _) rfl
      · unfold Oper.wp execOp
        go_simp
        exact cl.out wx 9 rfl _ (Kp.refl _ _) rfl
      · have v5 : x 9 = _ := HV.out 5 (HA.out ⟨5, .data⟩ (by simp) rfl)
        refine wp_load_at 61 _ rfl w.heap.size 1 v5 (bv r.births) (fun j v h => by rw [cell_of_row _ _ _ _ _ _ R0.out]; exact RB.out j v h) _ Tryz.underlying61 rfl (by rw [info_set, bv_size, hr.1]) ?_
        exact cl.out wx 10 rfl _ (Kp.refl _ _) rfl
      · have t10 : (rtF r w.heap.size x).tmps[10]?.getD undef = .agg (bv r.births) := HV.out 6 (HA.out ⟨6, .data⟩ (by simp) rfl)
        unfold Oper.wp execOp
        go_simp
        refine (L1.out wx (HT.out.keep K0.out)).mono ?_
        rintro e wy ⟨rfl, ky⟩
        exact cl.out wy 11 rfl _ ky rfl
      · have t8 : (rtF r w.heap.size x).tmps[8]?.getD undef = .string (ustr [b8 r.around] ++ ustr [66]) := HV.out 4 (HA.out ⟨4, .data⟩ (by simp) rfl)
        have t11 : (rtF r w.heap.size x).tmps[11]?.getD undef = .string S1 := HV.out 7 (HA.out ⟨7, .data⟩ (by simp) rfl)
        unfold Oper.wp execOp
        go_simp
        rw [if_neg (by omega)]
        exact cl.out wx 12 rfl _ (Kp.refl _ _) rfl
      · have t12 : (rtF r w.heap.size x).tmps[12]?.getD undef = .string (ustr [b8 r.around] ++ ustr [66] ++ S1) := HV.out 8 (HA.out ⟨8, .data⟩ (by simp) rfl)
        unfold Oper.wp execOp
        go_simp
        rw [if_neg (by omega)]
        exact cl.out wx 13 rfl _ (Kp.refl _ _) rfl
      · unfold Oper.wp execOp
        go_simp
        exact cl.out wx 14 rfl _ (Kp.refl _ _) rfl
      · have v10 : x 14 = _ := HV.out 10 (HA.out ⟨10, .data⟩ (by simp) rfl)
        refine wp_load_at 61 _ rfl w.heap.size 10 v10 (bv r.survivals) (fun j v h => by rw [cell_of_row _ _ _ _ _ _ R0.out]; exact RS.out j v h) _ Tryz.underlying61 rfl (by rw [info_set, bv_size, hr.2]) ?_
        exact cl.out wx 15 rfl _ (Kp.refl _ _) rfl
      · have t15 : (rtF r w.heap.size x).tmps[15]?.getD undef = .agg (bv r.survivals) := HV.out 11 (HA.out ⟨11, .data⟩ (by simp) rfl)
        unfold Oper.wp execOp
        go_simp
        refine (L2.out wx (HT.out.keep K0.out)).mono ?_
        rintro e wy ⟨rfl, ky⟩
        exact cl.out wy 16 rfl _ ky rfl
      · have t13 : (rtF r w.heap.size x).tmps[13]?.getD undef = .string (ustr [b8 r.around] ++ ustr [66] ++ S1 ++ ustr [47, 83]) := HV.out 9 (HA.out ⟨9, .data⟩ (by simp) rfl)
        have t16 : (rtF r w.heap.size x).tmps[16]?.getD undef = .string S2 := HV.out 12 (HA.out ⟨12, .data⟩ (by simp) rfl)
        unfold Oper.wp execOp
        go_simp
        rw [if_neg (by omega)]
        exact cl.out wx 17 rfl _ (Kp.refl _ _) rfl
      · have t17 : (rtF r w.heap.size x).tmps[17]?.getD undef = .string (ustr [b8 r.around] ++ ustr [66] ++ S1 ++ ustr [47, 83] ++ S2) := HV.out 13 (HA.out ⟨13, .data⟩ (by simp) rfl)
        unfold Oper.wp execOp
        go_simp
        exact cl.out wx 3 rfl _ (Kp.refl _ _) rfl
    · rintro listed a wx ⟨x, rfl, kx, hv⟩ hall
      have v3 : x 3 = _ := hv 14 (hall 14 (by simp))
      unfold rtF
      rw [v3]
      go_wp2_with fail
      go_meet
      case rel => exact ⟨rfl, kx⟩
    · exact ⟨fun _ => undef, rfl, (Kp.refl _ _).drewN 1, fun i hi => absurd hi (by simp only [Array.getD_eq_getD_getElem?, Array.getElem?_replicate]; split <;> simp)⟩
  case rest =>
    obtain ⟨rfl, kc⟩ := hcut
    have KC : Hid (Kp (fun _ => False) w wc) := ((Kp.refl _ _).alloc _).trans kc
    have R0 : Hid (wc.heap[w.heap.size]? = some (.cells (rulev r) 63 (0, 0))) := kc.row (heap_alloc_new _ _) (fun hx => hx)
    have c19 : wc.cell? ⟨w.heap.size, 19, none⟩ = some (.int .i64 r.states) := by rw [cell_of_row _ _ 19 _ _ _ R0.out]; exact rulev_states hr
    have LI := hide (fun (wx : World) (hx : Tab wx) => itoa_any r.states wx hx (by omega) (by omega))
    have z6 := itoa_len r.states
    rw [← ustr_size] at z6
    clear kc
    have z7 : (ustr [47]).size = 1 := rfl
    by_cases h2 : 2 < r.states
    · have E1 := hide (T1.out h2)
      generalize ustr (Lib.itoa r.states) = A at *
      go_wp2_with fail
      refine (LI.out _ (HT.out.keep KC.out)).mono ?_
      rintro e w4 ⟨rfl, k4⟩
      have K4 := hide (KC.out.trans k4)
      clear k4
      go_wp2_with fail
      go_ret
      exact ⟨by rw [E1.out]; rfl, K4.out⟩
    · have E1 := hide (T2.out h2)
      go_wp2_with fail
      go_ret
      exact ⟨by rw [E1.out]; rfl, KC.out⟩
end Go.Proofs.YthmhjjkmnnmjlaaGreatDoor
