import Derived.Test.YtbdbkjngdhcjpaaDoorGg
import Derived.Deep.RegionWith
namespace Go.Proofs.YtbdbkjngdhcjpaaDoor
open Go.RowKit
open Go.Proofs

section
variable {P : Program} {ops : Array Oper} {rest : List Oper} {o : Oper} {a : Act} {w : World} {Q : Exit → Act → World → Prop}
/-- Some cells of a row are read, as one value. -/
theorem wpList_load_at (hgd : o.guard = none) (ty : TypeId) (x : Operand) (ho : o.op = .load ty x) (g off : Nat) (hx : a.eval x = .pointer (some ⟨g, off, none⟩)) (sub : Array Value)
    (hc : ∀ j v, sub[j]? = some v → w.cell? ⟨g, off + j, none⟩ = some v) (d : TypeDesc) (hu : P.underlying ty = some d) (hd : (match d with | .struct _ | .array _ _ => true | _ => false) = true) (hi : (P.info? ty).map (·.size) = some sub.size)
    (h : wpList P ops Q rest (a.put o.dst (.agg sub)) w) : wpList P ops Q (o :: rest) a w := by
  refine wpList_plain hgd fun _ hK => ?_
  have hl : (loadCells ⟨g, off, none⟩ sub.toList.length).run P w = .ok sub.toList.toArray w :=
    run_loadCells_list (P := P) w ⟨g, off, none⟩ sub.toList (fun j v hv => by
      have hadd : (⟨g, off, none⟩ : Addr).add j = ⟨g, off + j, none⟩ := by unfold Addr.add; split <;> simp_all
      rw [hadd]
      exact hc j v (by simpa using hv))
  have hload : (loadVar ty ⟨g, off, none⟩).run P w = .ok (.agg sub) w := by
    cases hq : P.info? ty with
    | none => simp [hq] at hi
    | some i =>
      have hs : i.size = sub.size := by simpa [hq] using hi
      have hagg : (isAgg ty).run P w = .ok true w := by
        unfold isAgg
        rw [Sem.run_bind, run_underlying hu w]
        cases d <;> simp_all
      simp only [Array.length_toList, Array.toArray_toList] at hl
      simp [loadVar, Sem.run_bind, hagg, sizeOf, typeInfo, hq, hs, hl]
  unfold Oper.wp execOp
  simp only [ho, hx, Instr.loadAt, Instr.sureAddr, Sem.run_bind, Sem.run_pure, Result.andThen_ok, hload]
  exact hK _ _ h
end

/-- What stands ahead of a world's grid. -/
def preOf (r : Pu.Rule) (x : Pu.Shape) (age : Int) : Array Value := rulev r ++ shv x ++ #[.int .i64 age]
theorem preOf_size {r : Pu.Rule} (h : RuleOk r) (x : Pu.Shape) (age : Int) : (preOf r x age).size = 28 := by
  unfold preOf
  rw [Array.size_append, Array.size_append, rulev_size h, shv_size]
  rfl
theorem preOf_shape {r : Pu.Rule} (h : RuleOk r) (x : Pu.Shape) (age : Int) (j : Nat) (hj : j < 7) : (preOf r x age)[20 + j]? = (shv x)[j]? := by
  unfold preOf
  rw [Array.getElem?_append, Array.getElem?_append, Array.size_append, rulev_size h, shv_size, if_pos (by omega), if_neg (by omega)]
  congr 1
  omega
theorem GrAt.shape {w : World} {q : Nat} {r : Pu.Rule} {x : Pu.Shape} {age : Int} {gw gh l t : Int} {S : List Int} (h : GrAt w q (preOf r x age) gw gh l t S) (hr : RuleOk r) (j : Nat) (v : Value) (hv : (shv x)[j]? = some v) : w.cell? ⟨q, 20 + j, none⟩ = some v := by
  have hj : j < 7 := by
    rcases Nat.lt_or_ge j 7 with h7 | h7
    · exact h7
    · rw [Array.getElem?_eq_none (by rw [shv_size]; omega)] at hv; simp at hv
  rw [cell_of_row w q _ _ _ _ h.row, grv_get h.psz, if_pos (by omega), preOf_shape hr x age j hj, hv]

theorem near_bd {x : Pu.Shape} (hx : Pu.ShapeOk x) {a b : Int} (h1 : hasB x a b = true) (h2 : nearB x a b = true) : (-9999 ≤ a ∧ a ≤ 9999) ∧ -9999 ≤ b ∧ b ≤ 9999 := by
  have w12 := hx.w12
  have h12 := hx.h12
  simp [hasB, nearB, onSideB, nearOnB] at h1 h2
  omega

theorem wrap_is {z : Int} (h : -100000000 ≤ z ∧ z ≤ 100000000) : IntKind.i64.wrap z = z := by
  rw [IntKind.wrap_i64]
  omega
def BoolRet (e : Ending) : Prop := ∃ y : Bool, e = .returned (.bool y)
/-- A world's block whose grid's window is not beyond M. -/
def WdW (w : World) (q : Nat) (r : Pu.Rule) (x : Pu.Shape) (age M : Int) : Prop := ∃ l t S, GrAt w q (preOf r x age) x.w x.h l t S ∧ (-M ≤ l ∧ l ≤ M) ∧ (-M ≤ t ∧ t ≤ M)
theorem bool_ret (y : Bool) : BoolRet (.returned (.bool y)) := ⟨y, rfl⟩
theorem WdW.mk' {w : World} {q : Nat} {r : Pu.Rule} {x : Pu.Shape} {age M l t : Int} {S : List Int} (h : GrAt w q (preOf r x age) x.w x.h l t S) (h1 : -M ≤ l ∧ l ≤ M) (h2 : -M ≤ t ∧ t ≤ M) : WdW w q r x age M := ⟨l, t, S, h, h1, h2⟩

set_option maxRecDepth 100000 in
set_option maxHeartbeats 400000 in
/-- A live cell is put into the world's own grid. -/
theorem settle_any (q : Nat) (r : Pu.Rule) (x : Pu.Shape) (age l t : Int) (S : List Int) (M a b u : Int) (w : World) (h : GrAt w q (preOf r x age) x.w x.h l t S) (hr : RuleOk r) (hx : Pu.ShapeOk x) (hh : hasB x a b = true)
    (l0 : -M ≤ l ∧ l + 64 ≤ M) (t0 : -M ≤ t ∧ t + 64 ≤ M) (hM : M ≤ 50000000) (hM0 : 20000 ≤ M) :
    Calls Tryd.prog 58 #[.pointer (some ⟨q, 0, none⟩), .pointer (some ⟨q, 28, none⟩), .int .i64 a, .int .i64 b, .int .i64 u] w fun e w' => BoolRet e ∧ WdW w' q r x age M ∧ Kp (· = q) w w' := by
  have H := hide h
  have ld := hide (fun j v => h.shape hr j v)
  cases hnear : nearB x a b with
  | false =>
    have HNr := hide (fun wx => by have := near_any x a b wx; rw [hnear] at this; exact this)
    clear hnear hh h hx
    go_enter Tryd.func58, Tryd.ntmps58
    go_wp2_with (refine wpList_load_at rfl 50 _ rfl q 20 rfl (shv x) ld.out _ Tryd.underlying50 rfl info_shape ?_)
    refine (HNr.out _).mono ?_
    rintro e w2 ⟨rfl, k2⟩
    have A2 := hide (H.out.keep k2 (fun hx => hx))
    have K2 := hide (k2.mono (T := (· = q)) (fun _ hx => hx.elim))
    clear k2
    go_wp2_with fail
    go_ret
    exact ⟨bool_ret false, WdW.mk' A2.out (by omega) (by omega), K2.out⟩
  | true =>
    have HNr := hide (fun wx => by have := near_any x a b wx; rw [hnear] at this; exact this)
    have nb := near_bd hx hh hnear
    have HP := hide (fun (wx : World) (hg : GrAt wx q (preOf r x age) x.w x.h l t S) => put_any q (preOf r x age) x.w x.h l t S M a b u wx hg hx.w0 hx.w12 hx.h0 hx.h12 (by omega) (by omega) (by omega) (by omega) (by omega) (by omega) (by omega) (by omega))
    clear hnear hh h hx
    go_enter Tryd.func58, Tryd.ntmps58
    go_wp2_with (refine wpList_load_at rfl 50 _ rfl q 20 rfl (shv x) ld.out _ Tryd.underlying50 rfl info_shape ?_)
    refine (HNr.out _).mono ?_
    rintro e w2 ⟨rfl, k2⟩
    have A2 := hide (H.out.keep k2 (fun hx => hx))
    have K2 := hide (k2.mono (T := (· = q)) (fun _ hx => hx.elim))
    clear k2
    go_wp2_with fail
    refine (HP.out _ A2.out).mono ?_
    rintro e w3 ⟨⟨y, rfl⟩, ⟨l2, t2, S2, g8, g9, g10⟩, k3⟩
    have A3 := hide g8
    have K3 := hide (K2.out.trans k3)
    clear g8 k3
    go_wp2_with fail
    go_ret
    exact ⟨bool_ret y, WdW.mk' A3.out g9 g10, K3.out⟩

set_option maxRecDepth 100000 in
set_option maxHeartbeats 400000 in
theorem layRun_any (q : Nat) (r : Pu.Rule) (x : Pu.Shape) (age l t : Int) (S : List Int) (M a b : Int) (rn : Pu.Run) (w : World) (h : GrAt w q (preOf r x age) x.w x.h l t S) (hr : RuleOk r) (hx : Pu.ShapeOk x) (hn : 1 ≤ rn.count ∧ rn.count ≤ 99)
    (l0 : -M ≤ l ∧ l ≤ M) (t0 : -M ≤ t ∧ t ≤ M) (hM : M ≤ 40000000) (hM0 : 20000 ≤ M) (ha : -1000000 ≤ a ∧ a ≤ 1000000) (_hb : -1000000 ≤ b ∧ b ≤ 1000000) :
    Calls Tryd.prog 75 #[.pointer (some ⟨q, 0, none⟩), .int .i64 a, .int .i64 b, .agg (runv rn)] w fun e w' => BoolRet e ∧ WdW w' q r x age (M + 6400) ∧ Kp (· = q) w w' := by
  have hq := h.lt
  have w0 := hx.w0
  have w12 := hx.w12
  have h0 := hx.h0
  have h12 := hx.h12
  obtain ⟨n, st, dn⟩ := rn
  simp only [runv] at *
  have H := hide h
  have HR := hide hr
  have HX := hide hx
  clear h hr hx
  by_cases hs : st = 0
  · subst hs
    go_enter Tryd.func75, Tryd.ntmps75
    go_wp2_with fail
    go_ret
    exact ⟨bool_ret true, WdW.mk' (H.out.alloc _) (by omega) (by omega), (Kp.refl _ _).alloc _⟩
  · have bs : (st == 0) = false := by simpa using hs
    clear hs
    go_enter Tryd.func75, Tryd.ntmps75
    go_wp2_with fail
    go_loopg [9] n.toNat (fun gk v wr => ∃ (k : Nat) (l' t' : Int) (S' : List Int), (k : Int) ≤ n ∧ n ≤ k + gk ∧ v = .int .i64 k ∧ GrAt wr q (preOf r x age) x.w x.h l' t' S' ∧ (-(M + 64 * k) ≤ l' ∧ l' ≤ M + 64 * k) ∧ (-(M + 64 * k) ≤ t' ∧ t' ≤ M + 64 * k) ∧
      wr.heap[w.heap.size]? = some (.cells #[.int .i64 n, .int .i64 st, .bool dn] 115 (0, 0)) ∧ Kp (· = q) w wr)
    case atStart => exact ⟨0, l, t, S, by omega, by omega, rfl, H.out.alloc _, by omega, by omega, heap_alloc_new _ _, (Kp.refl _ _).alloc _⟩
    case round =>
      obtain ⟨k, l', t', S', g1, g2, rfl, g3, g4, g5, g6, g7⟩ := hrel
      have d0 : wr.cell? ⟨w.heap.size, 0, none⟩ = some (.int .i64 n) := cell_of_row _ _ 0 _ _ _ g6
      have d1 : wr.cell? ⟨w.heap.size, 1, none⟩ = some (.int .i64 st) := cell_of_row _ _ 1 _ _ _ g6
      have G3 := hide g3
      have G6 := hide g6
      have G7 := hide g7
      have ld := hide (fun j v => g3.shape HR.out j v)
      clear g3 g6 g7
      by_cases hlt : (k : Int) < n
      · cases hhas : hasB x (a + k) b with
        | false =>
          have HH := hide (fun wx => by have := has_any x (a + k) b wx; rw [hhas] at this; exact this)
          clear hhas
          go_wp2_with (refine wpList_load_at rfl 50 _ rfl q 20 rfl (shv x) ld.out _ Tryd.underlying50 rfl info_shape ?_)
          refine (HH.out _).mono ?_
          rintro e w1 ⟨rfl, k1⟩
          go_wp2_with fail
          go_roundg (gk - 1)
          case measure => omega
          case rel => exact ⟨k + 1, l', t', S', by omega, by omega, by go_num, G3.out.keep k1 (fun hx => hx), by omega, by omega, k1.row G6.out (fun hx => hx), G7.out.trans (k1.mono (fun _ hx => hx.elim))⟩
        | true =>
          have HH := hide (fun wx => by have := has_any x (a + k) b wx; rw [hhas] at this; exact this)
          go_wp2_with (refine wpList_load_at rfl 50 _ rfl q 20 rfl (shv x) ld.out _ Tryd.underlying50 rfl info_shape ?_)
          refine (HH.out _).mono ?_
          rintro e w1 ⟨rfl, k1⟩
          have A1 := hide (G3.out.keep k1 (fun hx => hx))
          have B1 := hide (k1.row G6.out (fun hx => hx))
          have K1 := hide (G7.out.trans (k1.mono (T := (· = q)) (fun _ hx => hx.elim)))
          clear k1
          have d2 : w1.cell? ⟨w.heap.size, 1, none⟩ = some (.int .i64 st) := cell_of_row _ _ 1 _ _ _ B1.out
          have HP := hide (fun (wx : World) (hx : GrAt wx q (preOf r x age) x.w x.h l' t' S') => settle_any q r x age l' t' S' (M + 64 * (k + 1)) (a + k) b st wx hx HR.out HX.out hhas (by omega) (by omega) (by omega) (by omega))
          have HW := hide (wrap_is (z := a + k) (by omega))
          clear hhas
          go_wp2_with fail
          go_region_with (go_at_call 58; rw [HW.out]; refine (HP.out _ (by exact ⟨A1.out.row, A1.out.psz, A1.out.len⟩)).mono ?_; rintro e w3 ⟨⟨y, rfl⟩, ⟨l2, t2, S2, g8, g9, g10⟩, k3⟩)
          have A3 := hide g8
          have B3 := hide (k3.row (w := w1.drew) B1.out (by omega))
          have K3 := hide (K1.out.trans (Kp.drewNl (n := 1) k3))
          clear g8 k3
          cases y
          · go_wp2_with fail
            go_ret
            exact ⟨bool_ret false, WdW.mk' A3.out (by omega) (by omega), K3.out⟩
          · go_wp2_with fail
            go_roundg (gk - 1)
            case measure => omega
            case rel => exact ⟨k + 1, l2, t2, S2, by omega, by omega, by go_num, A3.out, by omega, by omega, B3.out, K3.out⟩
      · go_wp2_with fail
        go_ret
        exact ⟨bool_ret true, WdW.mk' G3.out (by omega) (by omega), G7.out⟩
end Go.Proofs.YtbdbkjngdhcjpaaDoor
namespace Go.Proofs.YtbdbkjngdhcjpaaDoor
open Go.RowKit
open Go.Proofs

theorem GrAt.rule {w : World} {q : Nat} {r : Pu.Rule} {x : Pu.Shape} {age : Int} {gw gh l t : Int} {S : List Int} (h : GrAt w q (preOf r x age) gw gh l t S) (hr : RuleOk r) (j : Nat) (v : Value) (hv : (rulev r)[j]? = some v) : w.cell? ⟨q, 0 + j, none⟩ = some v := by
  have hj : j < 20 := by
    rcases Nat.lt_or_ge j 20 with h7 | h7
    · exact h7
    · rw [Array.getElem?_eq_none (by rw [rulev_size hr]; omega)] at hv; simp at hv
  rw [cell_of_row w q _ _ _ _ h.row, grv_get h.psz, if_pos (by omega), Nat.zero_add]
  unfold preOf
  rw [Array.getElem?_append, if_pos (by rw [Array.size_append, rulev_size hr]; omega), Array.getElem?_append, if_pos (by rw [rulev_size hr]; omega)]
  exact hv
theorem rulev_around {r : Pu.Rule} : (rulev r)[0]? = some (.int .u8 r.around) := by
  unfold rulev
  simp [Array.getElem?_append]
theorem bv_getD (l : List Bool) (hl : l.length = 9) (m : Nat) (hm : m < 9) : (bv l)[m]? = some (.bool (l.getD m false)) := by
  rw [bv_get l m (by omega)]
  simp [List.getD, show m < l.length by omega]
theorem rule_at {r : Pu.Rule} (hr : RuleOk r) (m : Nat) (hm : m < 9) : (rulev r)[1 + m]? = some (.bool (r.births.getD m false)) ∧ (rulev r)[10 + m]? = some (.bool (r.survivals.getD m false)) := by
  have z1 : (#[Value.int .u8 r.around] : Array Value).size = 1 := rfl
  have z2 : (#[Value.int .u8 r.around] ++ bv r.births).size = 10 := by rw [Array.size_append, z1, bv_size, hr.1]
  have z3 : (#[Value.int .u8 r.around] ++ bv r.births ++ bv r.survivals).size = 19 := by rw [Array.size_append, z2, bv_size, hr.2]
  unfold rulev
  constructor
  · rw [Array.getElem?_append, if_pos (by omega), Array.getElem?_append, if_pos (by omega), Array.getElem?_append, if_neg (by omega), z1, show 1 + m - 1 = m by omega]
    exact bv_getD _ hr.1 m hm
  · rw [Array.getElem?_append, if_pos (by omega), Array.getElem?_append, if_neg (by omega), z2, show 10 + m - 10 = m by omega]
    exact bv_getD _ hr.2 m hm
theorem app_set (A : Array Value) (h : A.size = 27) (u v : Value) : (A ++ #[u]).setIfInBounds 27 v = A ++ #[v] := by
  apply Array.ext_getElem?
  intro m
  rw [Array.getElem?_setIfInBounds, Array.size_append, h, Array.getElem?_append, Array.getElem?_append, h]
  by_cases e : 27 = m
  · subst e
    simp
  · rw [if_neg e]
    by_cases l : m < 27
    · rw [if_pos l, if_pos l]
    · rw [if_neg l, if_neg l, Array.getElem?_eq_none (by simp; omega), Array.getElem?_eq_none (by simp; omega)]
theorem preOf_age {r : Pu.Rule} (h : RuleOk r) (x : Pu.Shape) (a b : Int) : (preOf r x a).setIfInBounds 27 (.int .i64 b) = preOf r x b :=
  app_set (rulev r ++ shv x) (by rw [Array.size_append, rulev_size h]; rfl) _ _
theorem GrAt.age {w : World} {q : Nat} {r : Pu.Rule} {x : Pu.Shape} {a gw gh l t : Int} {S : List Int} (h : GrAt w q (preOf r x a) gw gh l t S) (hr : RuleOk r) : w.cell? ⟨q, 27, none⟩ = some (.int .i64 a) := by
  rw [cell_of_row w q _ _ _ _ h.row, grv_get h.psz, if_pos (by omega)]
  unfold preOf
  have z1 : (rulev r ++ shv x).size = 27 := by rw [Array.size_append, rulev_size hr]; rfl
  rw [Array.getElem?_append, if_neg (by omega), z1]
  rfl
theorem GrAt.setAge {w : World} {q : Nat} {r : Pu.Rule} {x : Pu.Shape} {a gw gh l t : Int} {S : List Int} (h : GrAt w q (preOf r x a) gw gh l t S) (hr : RuleOk r) (b : Int) : GrAt (w.setCell ⟨q, 27, none⟩ (.int .i64 b)) q (preOf r x b) gw gh l t S := by
  refine ⟨?_, preOf_size hr x b, h.len⟩
  rw [heap_setCell_same w q _ _ _ _ h.row, ← preOf_age hr x a b]
  congr 2
  apply Array.ext_getElem?
  intro m
  have p1 : (preOf r x a).size = 28 := h.psz
  have p2 : ((preOf r x a).setIfInBounds 27 (.int .i64 b)).size = 28 := by rw [Array.size_setIfInBounds]; exact p1
  rw [Array.getElem?_setIfInBounds, grv_get p1, grv_get p2, grv_size p1 _ _ _ _ _ h.len, Array.getElem?_setIfInBounds, p1]
  by_cases e : 27 = m
  · subst e; simp
  · rw [if_neg e, if_neg e]
end Go.Proofs.YtbdbkjngdhcjpaaDoor
