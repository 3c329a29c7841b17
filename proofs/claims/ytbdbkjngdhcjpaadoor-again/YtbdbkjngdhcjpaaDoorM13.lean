import Derived.Test.YtbdbkjngdhcjpaaDoorM11
import Derived.Test.YtbdbkjngdhcjpaaDoorWn
import Derived.Deep.RegionWith
namespace Go.Proofs.YtbdbkjngdhcjpaaDoor
open Go.RowKit
open Go.Proofs

section
variable {P : Program} {ops : Array Oper} {rest : List Oper} {o : Oper} {a : Act} {w : World} {Q : Exit → Act → World → Prop}
theorem wpList_alloc_row (hgd : o.guard = none) (ty : TypeId) (ho : o.op = .alloc ty) (z : Array Value) (hz : (P.info? ty).map (·.zero) = some (some (.agg z)))
    (h : ∀ w', w' = w.alloc (.cells z ty) → wpList P ops Q rest (a.put o.dst (.pointer (some ⟨w.heap.size, 0, none⟩))) w') : wpList P ops Q (o :: rest) a w := by
  refine wpList_plain hgd fun _ hK => ?_
  cases hq : P.info? ty with
  | none => simp [hq] at hz
  | some i =>
    have hi : i.zero = some (.agg z) := by simpa [hq] using hz
    unfold Oper.wp execOp
    simp [ho, Instr.alloc, zeroValue, typeInfo, hq, hi, newVar, newRow, Value.cells]
    exact hK _ _ (h _ rfl)
theorem wpList_box_row (hgd : o.guard = none) (ty : TypeId) (x : Operand) (ho : o.op = .box ty x) (z : Array Value) (hx : a.eval x = .agg z)
    (h : ∀ w', w' = w.alloc (.cells z ty) → wpList P ops Q rest (a.put o.dst (.pointer (some ⟨w.heap.size, 0, none⟩))) w') : wpList P ops Q (o :: rest) a w := by
  refine wpList_plain hgd fun _ hK => ?_
  unfold Oper.wp execOp
  simp [ho, hx, Instr.box, newVar, newRow, Value.cells]
  exact hK _ _ (h _ rfl)
end

theorem wpList_build2 {P : Program} {ops : Array Oper} {rest : List Oper} {o : Oper} {a : Act} {w : World} {Q : Exit → Act → World → Prop} (hg : o.guard = none) (t : TypeId) (i j : Nat) (x y : Operand) (ho : o.op = .build t #[(i, x), (j, y)])
    (u v : Value) (hu : a.eval x = u) (hv : a.eval y = v) (cells : Array Value) (hf : P.built t [(i, u), (j, v)] = some cells) (h : wpList P ops Q rest (a.put o.dst (.agg cells)) w) : wpList P ops Q (o :: rest) a w :=
  wpList_build_is hg t _ ho cells (by simpa [hu, hv] using hf) h
theorem wpList_build3 {P : Program} {ops : Array Oper} {rest : List Oper} {o : Oper} {a : Act} {w : World} {Q : Exit → Act → World → Prop} (hg : o.guard = none) (t : TypeId) (i j k : Nat) (x y z : Operand) (ho : o.op = .build t #[(i, x), (j, y), (k, z)])
    (u v r : Value) (hu : a.eval x = u) (hv : a.eval y = v) (hr : a.eval z = r) (cells : Array Value) (hf : P.built t [(i, u), (j, v), (k, r)] = some cells) (h : wpList P ops Q rest (a.put o.dst (.agg cells)) w) : wpList P ops Q (o :: rest) a w :=
  wpList_build_is hg t _ ho cells (by simpa [hu, hv, hr] using hf) h

/-- A grid's own cells. -/
def gnew (gw gh : Int) (S : List Int) : Array Value := #[.int .i64 gw, .int .i64 gh, .int .i64 0, .int .i64 0] ++ intsv S
def noS : List Int := List.replicate 768 0
theorem noS_len : noS.length = 768 := List.length_replicate
theorem intsv_one (S : List Int) : (intsv S).all (·.oneCell') = true := by
  rw [Array.all_eq_true_iff_forall_mem]
  intro v hv
  unfold intsv at hv
  rw [List.mem_toArray, List.mem_map] at hv
  obtain ⟨k, _, rfl⟩ := hv
  rfl
theorem gnew_size (gw gh : Int) {S : List Int} (h : S.length = 768) : (gnew gw gh S).size = 772 := by
  unfold gnew intsv
  rw [Array.size_append]
  simp only [List.size_toArray, List.length_map, h]
  rfl
theorem gnew_one (gw gh : Int) (S : List Int) : (gnew gw gh S).all (·.oneCell') = true := by
  unfold gnew
  rw [Array.all_append, intsv_one]
  simp [Value.oneCell']
theorem info_grid : (Tryd.prog.info? 53).map (·.size) = some 772 := by kernel_rfl

set_option maxRecDepth 100000 in
set_option maxHeartbeats 400000 in
theorem new_core (S : List Int) (hS : S.length = 768) (hz : (Tryd.prog.info? 53).map (·.zero) = some (some (.agg (gnew 0 0 S)))) (gw gh : Int) (hb : Tryd.prog.built 53 [(0, .int .i64 gw), (1, .int .i64 gh)] = some (gnew gw gh S)) (w : World) :
    Calls Tryd.prog 47 #[.int .i64 gw, .int .i64 gh] w fun e w' => e = .returned (.agg (gnew gw gh S)) ∧ Kp (fun _ => False) w w' := by
  have HZ := hide hz
  have HB := hide hb
  have HS := hide hS
  clear hz hb hS
  go_enter Tryd.func47, Tryd.ntmps47
  go_wp2_with (first
    | (refine wpList_alloc_row rfl 53 rfl (gnew 0 0 S) HZ.out ?_
       intro w1 hw1
       have A1 : Hid (w1.heap[w.heap.size]? = some (.cells (gnew 0 0 S) 53 (0, 0))) := by rw [hw1]; exact heap_alloc_new _ _
       have K1 : Hid (Kp (fun _ => False) w w1) := by rw [hw1]; exact (Kp.refl _ _).alloc _
       clear hw1)
    | (refine wpList_build2 rfl 53 _ _ _ _ rfl (.int .i64 gw) (.int .i64 gh) rfl rfl (gnew gw gh S) HB.out ?_)
    | (refine wpList_store_row_g rfl 53 _ _ rfl w.heap.size (gnew gw gh S) rfl rfl 53 (gnew 0 0 S) A1.out (by rw [info_grid, gnew_size _ _ HS.out]) (by rw [gnew_size _ _ HS.out, gnew_size _ _ HS.out]) (gnew_one _ _ _) ?_
       intro w2 hw2
       have A2 : Hid (w2.heap[w.heap.size]? = some (.cells (gnew gw gh S) 53 (0, 0))) := by rw [hw2]; exact setRow_heap _ _ _ _ _ _ A1.out
       have K2 : Hid (Kp (fun _ => False) w w2) := by rw [hw2]; exact K1.out.setRowNew (Nat.le_refl _) _
       clear hw2))
  exact bodyPost_ret (v := .agg (gnew gw gh S)) (results_cell_row Tryd.results47 _ _ w.heap.size 53 (gnew gw gh S) (0, 0) _ rfl A2.out Tryd.underlying53 rfl (by rw [info_grid, gnew_size _ _ HS.out])) rfl ⟨rfl, K2.out⟩
theorem noS_zero : ∀ k, noS.getD k 0 = 0 := by
  intro k
  unfold noS
  unfold List.getD
  rw [List.getElem?_replicate]
  split <;> rfl
end Go.Proofs.YtbdbkjngdhcjpaaDoor
namespace Go.Proofs.YtbdbkjngdhcjpaaDoor
open Go.RowKit
open Go.Proofs

section
variable {P : Program} {ops : Array Oper} {rest : List Oper} {o : Oper} {a : Act} {w : World} {Q : Exit → Act → World → Prop}
/-- Some cells of a row are read, as one value. -/
theorem wpList_load_at (hgd : o.guard = none) (ty : TypeId) (x : Operand) (ho : o.op = .load ty x) (g off : Nat) (hx : a.eval x = .pointer (some ⟨g, off, none⟩)) (sub : Array Value)
    (hc : ∀ j v, sub[j]? = some v → w.cell? ⟨g, off + j, none⟩ = some v) (d : TypeDesc) (hu : P.underlying ty = some d) (hd : (match d with | .struct _ | .array _ _ => true | _ => false) = true) (hi : (P.info? ty).map (·.size) = some sub.size)
    (h : wpList P ops Q rest (a.put o.dst (.agg sub)) w) : wpList P ops Q (o :: rest) a w := by
  refine wpList_plain hgd fun _ hK => ?_
  have hl : (loadCells ⟨g, off, none⟩ sub.toList.length).run P w = .ok sub.toList.toArray w :=
    run_loadCells_list (P := P) w ⟨g, off, none⟩ sub.toList (fun j v hv => by
      have hadd : (⟨g, off, none⟩ : Addr).add j = ⟨g, off + j, none⟩ := by unfold Addr.add; split <;> simp_all
      rw [hadd]
      exact hc j v (by simpa using hv))
  have hload : (loadVar ty ⟨g, off, none⟩).run P w = .ok (.agg sub) w := by
    cases hq : P.info? ty with
    | none => simp [hq] at hi
    | some i =>
      have hs : i.size = sub.size := by simpa [hq] using hi
      have hagg : (isAgg ty).run P w = .ok true w := by
        unfold isAgg
        rw [Sem.run_bind, run_underlying hu w]
        cases d <;> simp_all
      simp only [Array.length_toList, Array.toArray_toList] at hl
      simp [loadVar, Sem.run_bind, hagg, sizeOf, typeInfo, hq, hs, hl]
  unfold Oper.wp execOp
  simp only [ho, hx, Instr.loadAt, Instr.sureAddr, Sem.run_bind, Sem.run_pure, Result.andThen_ok, hload]
  exact hK _ _ h
end

/-- What stands ahead of a world's grid. -/
def preOf (r : Pu.Rule) (x : Pu.Shape) (age : Int) : Array Value := rulev r ++ shv x ++ #[.int .i64 age]
theorem preOf_size {r : Pu.Rule} (h : RuleOk r) (x : Pu.Shape) (age : Int) : (preOf r x age).size = 28 := by
  unfold preOf
  rw [Array.size_append, Array.size_append, rulev_size h, shv_size]
  rfl
theorem preOf_shape {r : Pu.Rule} (h : RuleOk r) (x : Pu.Shape) (age : Int) (j : Nat) (hj : j < 7) : (preOf r x age)[20 + j]? = (shv x)[j]? := by
  unfold preOf
  rw [Array.getElem?_append, Array.getElem?_append, Array.size_append, rulev_size h, shv_size, if_pos (by omega), if_neg (by omega)]
  congr 1
  omega
theorem GrAt.shape {w : World} {q : Nat} {r : Pu.Rule} {x : Pu.Shape} {age : Int} {gw gh l t : Int} {S : List Int} (h : GrAt w q (preOf r x age) gw gh l t S) (hr : RuleOk r) (j : Nat) (v : Value) (hv : (shv x)[j]? = some v) : w.cell? ⟨q, 20 + j, none⟩ = some v := by
  have hj : j < 7 := by
    rcases Nat.lt_or_ge j 7 with h7 | h7
    · exact h7
    · rw [Array.getElem?_eq_none (by rw [shv_size]; omega)] at hv; simp at hv
  rw [cell_of_row w q _ _ _ _ h.row, grv_get h.psz, if_pos (by omega), preOf_shape hr x age j hj, hv]

theorem near_bd {x : Pu.Shape} (hx : Pu.ShapeOk x) {a b : Int} (h1 : hasB x a b = true) (h2 : nearB x a b = true) : (-9999 ≤ a ∧ a ≤ 9999) ∧ -9999 ≤ b ∧ b ≤ 9999 := by
  have w12 := hx.w12
  have h12 := hx.h12
  simp [hasB, nearB, onSideB, nearOnB] at h1 h2
  omega

theorem wrap_is {z : Int} (h : -100000000 ≤ z ∧ z ≤ 100000000) : IntKind.i64.wrap z = z := by
  rw [IntKind.wrap_i64]
  omega
def BoolRet (e : Ending) : Prop := ∃ y : Bool, e = .returned (.bool y)
/-- A world's block whose grid's window is not beyond M. -/
def WdW (w : World) (q : Nat) (r : Pu.Rule) (x : Pu.Shape) (age M : Int) : Prop := ∃ l t S, GrAt w q (preOf r x age) x.w x.h l t S ∧ (-M ≤ l ∧ l ≤ M) ∧ (-M ≤ t ∧ t ≤ M)
theorem bool_ret (y : Bool) : BoolRet (.returned (.bool y)) := ⟨y, rfl⟩
theorem WdW.mk' {w : World} {q : Nat} {r : Pu.Rule} {x : Pu.Shape} {age M l t : Int} {S : List Int} (h : GrAt w q (preOf r x age) x.w x.h l t S) (h1 : -M ≤ l ∧ l ≤ M) (h2 : -M ≤ t ∧ t ≤ M) : WdW w q r x age M := ⟨l, t, S, h, h1, h2⟩

set_option maxRecDepth 100000 in
set_option maxHeartbeats 400000 in
/-- A live cell is put into the world's own grid. -/
theorem settle_any (q : Nat) (r : Pu.Rule) (x : Pu.Shape) (age l t : Int) (S : List Int) (M a b u : Int) (w : World) (h : GrAt w q (preOf r x age) x.w x.h l t S) (hr : RuleOk r) (hx : Pu.ShapeOk x) (hh : hasB x a b = true)
    (l0 : -M ≤ l ∧ l + 64 ≤ M) (t0 : -M ≤ t ∧ t + 64 ≤ M) (hM : M ≤ 50000000) (hM0 : 20000 ≤ M) :
    Calls Tryd.prog 58 #[.pointer (some ⟨q, 0, none⟩), .pointer (some ⟨q, 28, none⟩), .int .i64 a, .int .i64 b, .int .i64 u] w fun e w' => BoolRet e ∧ WdW w' q r x age M ∧ Kp (· = q) w w' := by
  have H := hide h
  have ld := hide (fun j v => h.shape hr j v)
  cases hnear : nearB x a b with
  | false =>
    have HNr := hide (fun wx => by have := near_any x a b wx; rw [hnear] at this; exact this)
    clear hnear hh h hx
    go_enter Tryd.func58, Tryd.ntmps58
    go_wp2_with (refine wpList_load_at rfl 50 _ rfl q 20 rfl (shv x) ld.out _ Tryd.underlying50 rfl info_shape ?_)
    refine (HNr.out _).mono ?_
    rintro e w2 ⟨rfl, k2⟩
    have A2 := hide (H.out.keep k2 (fun hx => hx))
    have K2 := hide (k2.mono (T := (· = q)) (fun _ hx => hx.elim))
    clear k2
    go_wp2_with fail
    go_ret
    exact ⟨bool_ret false, WdW.mk' A2.out (by omega) (by omega), K2.out⟩
  | true =>
    have HNr := hide (fun wx => by have := near_any x a b wx; rw [hnear] at this; exact this)
    have nb := near_bd hx hh hnear
    have HP := hide (fun (wx : World) (hg : GrAt wx q (preOf r x age) x.w x.h l t S) => put_any q (preOf r x age) x.w x.h l t S M a b u wx hg hx.w0 hx.w12 hx.h0 hx.h12 (by omega) (by omega) (by omega) (by omega) (by omega) (by omega) (by omega) (by omega))
    clear hnear hh h hx
    go_enter Tryd.func58, Tryd.ntmps58
    go_wp2_with (refine wpList_load_at rfl 50 _ rfl q 20 rfl (shv x) ld.out _ Tryd.underlying50 rfl info_shape ?_)
    refine (HNr.out _).mono ?_
    rintro e w2 ⟨rfl, k2⟩
    have A2 := hide (H.out.keep k2 (fun hx => hx))
    have K2 := hide (k2.mono (T := (· = q)) (fun _ hx => hx.elim))
    clear k2
    go_wp2_with fail
    refine (HP.out _ A2.out).mono ?_
    rintro e w3 ⟨⟨y, rfl⟩, ⟨l2, t2, S2, g8, g9, g10⟩, k3⟩
    have A3 := hide g8
    have K3 := hide (K2.out.trans k3)
    clear g8 k3
    go_wp2_with fail
    go_ret
    exact ⟨bool_ret y, WdW.mk' A3.out g9 g10, K3.out⟩

set_option maxRecDepth 100000 in
set_option maxHeartbeats 400000 in
theorem layRun_any (q : Nat) (r : Pu.Rule) (x : Pu.Shape) (age l t : Int) (S : List Int) (M a b : Int) (rn : Pu.Run) (w : World) (h : GrAt w q (preOf r x age) x.w x.h l t S) (hr : RuleOk r) (hx : Pu.ShapeOk x) (hn : 1 ≤ rn.count ∧ rn.count ≤ 99)
    (l0 : -M ≤ l ∧ l ≤ M) (t0 : -M ≤ t ∧ t ≤ M) (hM : M ≤ 40000000) (hM0 : 20000 ≤ M) (ha : -1000000 ≤ a ∧ a ≤ 1000000) (_hb : -1000000 ≤ b ∧ b ≤ 1000000) :
    Calls Tryd.prog 75 #[.pointer (some ⟨q, 0, none⟩), .int .i64 a, .int .i64 b, .agg (runv rn)] w fun e w' => BoolRet e ∧ WdW w' q r x age (M + 6400) ∧ Kp (· = q) w w' := by
  have hq := h.lt
  have w0 := hx.w0
  have w12 := hx.w12
  have h0 := hx.h0
  have h12 := hx.h12
  obtain ⟨n, st, dn⟩ := rn
  simp only [runv] at *
  have H := hide h
  have HR := hide hr
  have HX := hide hx
  clear h hr hx
  by_cases hs : st = 0
  · subst hs
    go_enter Tryd.func75, Tryd.ntmps75
    go_wp2_with fail
    go_ret
    exact ⟨bool_ret true, WdW.mk' (H.out.alloc _) (by omega) (by omega), (Kp.refl _ _).alloc _⟩
  · have bs : (st == 0) = false := by simpa using hs
    clear hs
    go_enter Tryd.func75, Tryd.ntmps75
    go_wp2_with fail
    go_loopg [9] n.toNat (fun gk v wr => ∃ (k : Nat) (l' t' : Int) (S' : List Int), (k : Int) ≤ n ∧ n ≤ k + gk ∧ v = .int .i64 k ∧ GrAt wr q (preOf r x age) x.w x.h l' t' S' ∧ (-(M + 64 * k) ≤ l' ∧ l' ≤ M + 64 * k) ∧ (-(M + 64 * k) ≤ t' ∧ t' ≤ M + 64 * k) ∧
      wr.heap[w.heap.size]? = some (.cells #[.int .i64 n, .int .i64 st, .bool dn] 115 (0, 0)) ∧ Kp (· = q) w wr)
    case atStart => exact ⟨0, l, t, S, by omega, by omega, rfl, H.out.alloc _, by omega, by omega, heap_alloc_new _ _, (Kp.refl _ _).alloc _⟩
    case round =>
      obtain ⟨k, l', t', S', g1, g2, rfl, g3, g4, g5, g6, g7⟩ := hrel
      have d0 : wr.cell? ⟨w.heap.size, 0, none⟩ = some (.int .i64 n) := cell_of_row _ _ 0 _ _ _ g6
      have d1 : wr.cell? ⟨w.heap.size, 1, none⟩ = some (.int .i64 st) := cell_of_row _ _ 1 _ _ _ g6
      have G3 := hide g3
      have G6 := hide g6
      have G7 := hide g7
      have ld := hide (fun j v => g3.shape HR.out j v)
      clear g3 g6 g7
      by_cases hlt : (k : Int) < n
      · cases hhas : hasB x (a + k) b with
        | false =>
          have HH := hide (fun wx => by have := has_any x (a + k) b wx; rw [hhas] at this; exact this)
          clear hhas
          go_wp2_with (refine wpList_load_at rfl 50 _ rfl q 20 rfl (shv x) ld.out _ Tryd.underlying50 rfl info_shape ?_)
          refine (HH.out _).mono ?_
          rintro e w1 ⟨rfl, k1⟩
          go_wp2_with fail
          go_roundg (gk - 1)
          case measure => omega
          case rel => exact ⟨k + 1, l', t', S', by omega, by omega, by go_num, G3.out.keep k1 (fun hx => hx), by omega, by omega, k1.row G6.out (fun hx => hx), G7.out.trans (k1.mono (fun _ hx => hx.elim))⟩
        | true =>
          have HH := hide (fun wx => by have := has_any x (a + k) b wx; rw [hhas] at this; exact this)
          go_wp2_with (refine wpList_load_at rfl 50 _ rfl q 20 rfl (shv x) ld.out _ Tryd.underlying50 rfl info_shape ?_)
          refine (HH.out _).mono ?_
          rintro e w1 ⟨rfl, k1⟩
          have A1 := hide (G3.out.keep k1 (fun hx => hx))
          have B1 := hide (k1.row G6.out (fun hx => hx))
          have K1 := hide (G7.out.trans (k1.mono (T := (· = q)) (fun _ hx => hx.elim)))
          clear k1
          have d2 : w1.cell? ⟨w.heap.size, 1, none⟩ = some (.int .i64 st) := cell_of_row _ _ 1 _ _ _ B1.out
          have HP := hide (fun (wx : World) (hx : GrAt wx q (preOf r x age) x.w x.h l' t' S') => settle_any q r x age l' t' S' (M + 64 * (k + 1)) (a + k) b st wx hx HR.out HX.out hhas (by omega) (by omega) (by omega) (by omega))
          have HW := hide (wrap_is (z := a + k) (by omega))
          clear hhas
          go_wp2_with fail
          go_region_with (go_at_call 58; rw [HW.out]; refine (HP.out _ (by exact ⟨A1.out.row, A1.out.psz, A1.out.len⟩)).mono ?_; rintro e w3 ⟨⟨y, rfl⟩, ⟨l2, t2, S2, g8, g9, g10⟩, k3⟩)
          have A3 := hide g8
          have B3 := hide (k3.row (w := w1.drew) B1.out (by omega))
          have K3 := hide (K1.out.trans (Kp.drewNl (n := 1) k3))
          clear g8 k3
          cases y
          · go_wp2_with fail
            go_ret
            exact ⟨bool_ret false, WdW.mk' A3.out (by omega) (by omega), K3.out⟩
          · go_wp2_with fail
            go_roundg (gk - 1)
            case measure => omega
            case rel => exact ⟨k + 1, l2, t2, S2, by omega, by omega, by go_num, A3.out, by omega, by omega, B3.out, K3.out⟩
      · go_wp2_with fail
        go_ret
        exact ⟨bool_ret true, WdW.mk' G3.out (by omega) (by omega), G7.out⟩
end Go.Proofs.YtbdbkjngdhcjpaaDoor
namespace Go.Proofs.YtbdbkjngdhcjpaaDoor
open Go.RowKit
open Go.Proofs

theorem runsv_get : ∀ (acc : List Pu.Run) (i j : Nat) (h : i < acc.length), j < 3 → (runsv acc)[3 * i + j]? = (runv acc[i])[j]? := by
  intro acc
  induction acc with
  | nil => intro i j h; simp at h
  | cons r rs ih =>
    intro i j h hj
    have hr : (runv r).toList.length = 3 := rfl
    unfold runsv
    cases i with
    | zero =>
      rw [List.getElem?_append_left (by rw [hr]; omega)]
      simp
    | succ i =>
      rw [List.getElem?_append_right (by rw [hr]; omega), hr, show 3 * (i + 1) + j - 3 = 3 * i + j by omega]
      simp only [List.length_cons] at h
      exact ih i j (by omega) hj

/-- The runs' own row. -/
structure RunsAt (w : World) (g cap : Nat) (acc : List Pu.Run) : Prop where
  row : ∃ cur, w.heap[g]? = some (.cells cur 115 (0, 0)) ∧ cur.toList.take (acc.length * 3) = runsv acc
theorem RunsAt.cell {w : World} {g cap : Nat} {acc : List Pu.Run} (h : RunsAt w g cap acc) (i : Nat) (hi : i < acc.length) (j : Nat) (v : Value) (hv : (runv acc[i])[j]? = some v) : w.cell? ⟨g, i * 3 + j, none⟩ = some v := by
  rw [Nat.mul_comm i 3]
  obtain ⟨cur, hr, ht⟩ := h.row
  have hj : j < 3 := by
    rcases Nat.lt_or_ge j 3 with h3 | h3
    · exact h3
    · rw [Array.getElem?_eq_none (by show 3 ≤ j; exact h3)] at hv; simp at hv
  rw [cell_of_row w g _ _ _ _ hr]
  have h1 := runsv_get acc i j hi hj
  rw [hv, ← ht, List.getElem?_take, if_pos (by omega)] at h1
  simpa using h1
theorem RunsAt.keep {T : Nat → Prop} {w w' : World} {g cap : Nat} {acc : List Pu.Run} (h : RunsAt w g cap acc) (k : Kp T w w') (hn : ¬ T g) : RunsAt w' g cap acc := by
  obtain ⟨cur, hr, ht⟩ := h.row
  exact ⟨cur, k.row hr hn, ht⟩

set_option maxRecDepth 100000 in
set_option maxHeartbeats 400000 in
theorem lay_nil (q : Nat) (r : Pu.Rule) (x : Pu.Shape) (age col row l t : Int) (S : List Int) (w : World) (h : GrAt w q (preOf r x age) x.w x.h l t S) (hr : RuleOk r) (l0 : -20000 ≤ l ∧ l ≤ 20000) (t0 : -20000 ≤ t ∧ t ≤ 20000) :
    Calls Tryd.prog 48 #[.pointer (some ⟨q, 0, none⟩), .agg (ptv r x age col row (.slice none 0 0))] w fun e w' => BoolRet e ∧ WdW w' q r x age 3000000 ∧ Kp (· = q) w w' := by
  have H := hide h
  have HR := hide hr
  clear h hr
  go_enter Tryd.func48, Tryd.ntmps48
  go_wp2_with (refine wpList_box_row rfl 91 _ rfl (ptv r x age col row (.slice none 0 0)) rfl ?_
               intro w1 hw1
               have P1 : Hid (PtAt w1 w.heap.size r x age col row (.slice none 0 0)) := ⟨by rw [hw1]; exact heap_alloc_new _ _, HR.out⟩
               have G1 : Hid (GrAt w1 q (preOf r x age) x.w x.h l t S) := by rw [hw1]; exact H.out.alloc _
               have K1 : Hid (Kp (· = q) w w1) := by rw [hw1]; exact (Kp.refl _ _).alloc _
               have c1 : w1.cell? ⟨w.heap.size, 28, none⟩ = some (.int .i64 col) := P1.out.cell 1
               have c2 : w1.cell? ⟨w.heap.size, 29, none⟩ = some (.int .i64 row) := P1.out.cell 2
               have c3 : w1.cell? ⟨w.heap.size, 30, none⟩ = some (.slice none 0 0) := P1.out.cell 3
               clear hw1)
  go_loopg [5, 6, 7] 0 (fun gk a b i wr => a = .int .i64 col ∧ b = .int .i64 row ∧ i = .int .i64 0 ∧ wr = w1)
  case atStart => exact ⟨rfl, rfl, rfl, rfl⟩
  case round =>
    obtain ⟨rfl, rfl, rfl, rfl⟩ := hrel
    go_wp2_with fail
    go_ret
    exact ⟨bool_ret true, WdW.mk' G1.out (by omega) (by omega), K1.out⟩

set_option maxRecDepth 100000 in
set_option maxHeartbeats 400000 in
theorem lay_some (q g cap : Nat) (r : Pu.Rule) (x : Pu.Shape) (age col row l t : Int) (S : List Int) (acc : List Pu.Run) (w : World) (h : GrAt w q (preOf r x age) x.w x.h l t S) (hr : RuleOk r) (hx : Pu.ShapeOk x) (l0 : -20000 ≤ l ∧ l ≤ 20000) (t0 : -20000 ≤ t ∧ t ≤ 20000)
    (ha : RunsAt w g cap acc) (hgq : g ≠ q) (hlen : acc.length ≤ 401) (hok : ∀ rn, rn ∈ acc → 1 ≤ rn.count ∧ rn.count ≤ 99) (hc : -9999 ≤ col ∧ col ≤ 9999) (hw : -9999 ≤ row ∧ row ≤ 9999) :
    Calls Tryd.prog 48 #[.pointer (some ⟨q, 0, none⟩), .agg (ptv r x age col row (.slice (some ⟨g, 0, none⟩) acc.length cap))] w fun e w' => BoolRet e ∧ WdW w' q r x age 3000000 ∧ Kp (· = q) w w' := by
  have hq := h.lt
  have hgl : g < w.heap.size := by
    obtain ⟨cur, hr1, _⟩ := ha.row
    exact (Array.getElem?_eq_some_iff.1 hr1).1
  have H := hide h
  have HR := hide hr
  have HX := hide hx
  have HA := hide ha
  have HOK := hide hok
  clear h hr hx ha hok
  go_enter Tryd.func48, Tryd.ntmps48
  go_wp2_with (refine wpList_box_row rfl 91 _ rfl (ptv r x age col row (.slice (some ⟨g, 0, none⟩) acc.length cap)) rfl ?_
               intro w1 hw1
               have P1 : Hid (PtAt w1 w.heap.size r x age col row (.slice (some ⟨g, 0, none⟩) acc.length cap)) := ⟨by rw [hw1]; exact heap_alloc_new _ _, HR.out⟩
               have G1 : Hid (GrAt w1 q (preOf r x age) x.w x.h l t S) := by rw [hw1]; exact H.out.alloc _
               have K1 : Hid (Kp (· = q) w w1) := by rw [hw1]; exact (Kp.refl _ _).alloc _
               have A1 : Hid (RunsAt w1 g cap acc) := by rw [hw1]; exact HA.out.keep ((Kp.refl (fun _ => False) w).alloc _) (fun hx => hx)
               have c1 : w1.cell? ⟨w.heap.size, 28, none⟩ = some (.int .i64 col) := P1.out.cell 1
               have c2 : w1.cell? ⟨w.heap.size, 29, none⟩ = some (.int .i64 row) := P1.out.cell 2
               clear hw1)
  go_loopg [5, 6, 7] acc.length (fun gk a b i wr => ∃ (k : Nat) (a' b' : Int), k ≤ acc.length ∧ acc.length ≤ k + gk ∧ a = .int .i64 a' ∧ b = .int .i64 b' ∧ i = .int .i64 k ∧ (-(9999 + 99 * k) ≤ a' ∧ a' ≤ 9999 + 99 * k) ∧ (-(9999 + 99 * k) ≤ b' ∧ b' ≤ 9999 + 99 * k) ∧
    WdW wr q r x age (20000 + 6400 * k) ∧ PtAt wr w.heap.size r x age col row (.slice (some ⟨g, 0, none⟩) acc.length cap) ∧ RunsAt wr g cap acc ∧ Kp (· = q) w wr)
  case atStart => exact ⟨0, col, row, by omega, by omega, rfl, rfl, rfl, by omega, by omega, WdW.mk' G1.out (by omega) (by omega), P1.out, A1.out, K1.out⟩
  case round =>
    obtain ⟨k, a', b', g1, g2, rfl, rfl, rfl, g3, g4, g5, g6, g7, g8⟩ := hrel
    clear c1 c2
    have c1 : wr.cell? ⟨w.heap.size, 28, none⟩ = some (.int .i64 col) := g6.cell 1
    have c3 : wr.cell? ⟨w.heap.size, 30, none⟩ = some (.slice (some ⟨g, 0, none⟩) acc.length cap) := g6.cell 3
    have G5 := hide g5
    have G6 := hide g6
    have G7 := hide g7
    have G8 := hide g8
    clear g5 g6 g7 g8
    by_cases hlt : k < acc.length
    · have rk := HOK.out acc[k] (List.getElem_mem hlt)
      have ldr := hide (fun j v => G7.out.cell k hlt j v)
      generalize acc[k] = rn at *
      have HD : Hid ((runv rn)[2]? = some (.bool rn.down)) := rfl
      generalize rn.down = dn at HD
      cases dn
      · go_wp2_with (first
          | (refine wpList_load_at rfl 115 _ rfl g (k * 3) rfl (runv rn) ldr.out _ Tryd.underlying115 rfl info_run ?_)
          | (refine wpList_store_row_g rfl 115 _ _ rfl wr.heap.size (runv rn) rfl rfl 115 (runv ⟨0, 0, false⟩) (heap_alloc_new _ _) info_run rfl (runv_one _) ?_
             intro w2 hw2
             have KK : Kp (fun _ => False) wr w2 := by rw [hw2]; exact ((Kp.refl _ _).alloc _).setRowNew (Nat.le_refl _) _
             have E2 : Hid (w2.heap[wr.heap.size]? = some (.cells (runv rn) 115 (0, 0))) := by rw [hw2]; exact setRow_heap _ _ _ _ _ _ (heap_alloc_new _ _)
             have P2 := hide (G6.out.keep KK (fun hx => hx))
             have A2 := hide (G7.out.keep KK (fun hx => hx))
             have K2 := hide (G8.out.trans (KK.mono (T := (· = q)) (fun _ hx => hx.elim)))
             have W2 : Hid (WdW w2 q r x age (20000 + 6400 * k)) := by
               obtain ⟨l', t', S', h1, h2, h3⟩ := G5.out
               exact WdW.mk' (h1.keep KK (fun hx => hx)) h2 h3
             have e0 : w2.cell? ⟨wr.heap.size, 0, none⟩ = some (.int .i64 rn.count) := cell_of_row _ _ 0 _ _ _ E2.out
             have e1 : w2.cell? ⟨wr.heap.size, 1, none⟩ = some (.int .i64 rn.state) := cell_of_row _ _ 1 _ _ _ E2.out
             have e2 : w2.cell? ⟨wr.heap.size, 2, none⟩ = some (.bool false) := (cell_of_row _ _ 2 _ _ _ E2.out).trans HD.out
             have c4 : w2.cell? ⟨w.heap.size, 28, none⟩ = some (.int .i64 col) := P2.out.cell 1
             clear hw2 KK))
        obtain ⟨l', t', S', h1, h2, h3⟩ := W2.out
        have hqw : q < w2.heap.size := h1.lt
        refine (layRun_any q r x age l' t' S' (20000 + 6400 * k) a' b' ⟨rn.count, rn.state, false⟩ _ h1 HR.out HX.out rk h2 h3 (by omega) (by omega) (by omega) (by omega)).mono ?_
        rintro e w3 ⟨⟨y, rfl⟩, w3w, k3⟩
        have P3 := hide (P2.out.keep k3 (by omega))
        have A3 := hide (A2.out.keep k3 hgq)
        have K3 := hide (K2.out.trans k3)
        have W3 := hide w3w
        have e0' : w3.cell? ⟨wr.heap.size, 0, none⟩ = some (.int .i64 rn.count) := cell_of_row _ _ 0 _ _ _ (k3.row E2.out (by have := hq; have := G8.out.size; omega))
        clear k3 w3w h1 e0 e1 e2
        cases y
        · go_wp2_with fail
          go_ret
          obtain ⟨l2, t2, S2, j1, j2, j3⟩ := W3.out
          exact ⟨bool_ret false, WdW.mk' j1 (by omega) (by omega), K3.out⟩
        · go_wp2_with fail
          go_roundg (gk - 1)
          case measure => omega
          case rel =>
            obtain ⟨l2, t2, S2, j1, j2, j3⟩ := W3.out
            exact ⟨k + 1, a' + rn.count, b', by omega, by omega, by go_num, rfl, by go_num, by omega, by omega, WdW.mk' j1 (by omega) (by omega), P3.out, A3.out, K3.out⟩
      · go_wp2_with (first
          | (refine wpList_load_at rfl 115 _ rfl g (k * 3) rfl (runv rn) ldr.out _ Tryd.underlying115 rfl info_run ?_)
          | (refine wpList_store_row_g rfl 115 _ _ rfl wr.heap.size (runv rn) rfl rfl 115 (runv ⟨0, 0, false⟩) (heap_alloc_new _ _) info_run rfl (runv_one _) ?_
             intro w2 hw2
             have KK : Kp (fun _ => False) wr w2 := by rw [hw2]; exact ((Kp.refl _ _).alloc _).setRowNew (Nat.le_refl _) _
             have E2 : Hid (w2.heap[wr.heap.size]? = some (.cells (runv rn) 115 (0, 0))) := by rw [hw2]; exact setRow_heap _ _ _ _ _ _ (heap_alloc_new _ _)
             have P2 := hide (G6.out.keep KK (fun hx => hx))
             have A2 := hide (G7.out.keep KK (fun hx => hx))
             have K2 := hide (G8.out.trans (KK.mono (T := (· = q)) (fun _ hx => hx.elim)))
             have W2 : Hid (WdW w2 q r x age (20000 + 6400 * k)) := by
               obtain ⟨l', t', S', h1, h2, h3⟩ := G5.out
               exact WdW.mk' (h1.keep KK (fun hx => hx)) h2 h3
             have e0 : w2.cell? ⟨wr.heap.size, 0, none⟩ = some (.int .i64 rn.count) := cell_of_row _ _ 0 _ _ _ E2.out
             have e1 : w2.cell? ⟨wr.heap.size, 1, none⟩ = some (.int .i64 rn.state) := cell_of_row _ _ 1 _ _ _ E2.out
             have e2 : w2.cell? ⟨wr.heap.size, 2, none⟩ = some (.bool true) := (cell_of_row _ _ 2 _ _ _ E2.out).trans HD.out
             have c4 : w2.cell? ⟨w.heap.size, 28, none⟩ = some (.int .i64 col) := P2.out.cell 1
             clear hw2 KK))
        go_roundg (gk - 1)
        case measure => omega
        case rel =>
          obtain ⟨l2, t2, S2, j1, j2, j3⟩ := W2.out
          exact ⟨k + 1, col, b' + rn.count, by omega, by omega, rfl, by go_num, by go_num, by omega, by omega, WdW.mk' j1 (by omega) (by omega), P2.out, A2.out, K2.out⟩
    · go_wp2_with fail
      go_ret
      obtain ⟨l', t', S', h1, h2, h3⟩ := G5.out
      exact ⟨bool_ret true, WdW.mk' h1 (by omega) (by omega), G8.out⟩
end Go.Proofs.YtbdbkjngdhcjpaaDoor
