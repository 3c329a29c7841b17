import Derived.Test.YtbdbkjngdhcjpaaDoorSe
import Derived.Lib.QuietBelow
import Derived.Test.YtbdbkjngdhcjpaaDoorM14
namespace Go.Proofs.YtbdbkjngdhcjpaaDoor
open Go.RowKit
open Go.Proofs

theorem Kp.regrown (w : World) (d : Nat) (os : Array Obj) : Kp (fun _ => False) w (Sort.grow (redrawn w d) os) := by
  have h := below_regrown w d os
  exact ⟨h.os, h.tape, h.output, h.size, fun k hk _ => h.block k hk⟩
theorem Calls.kp_regrown {P : Program} {f : FuncId} {args : Array Value} {w : World} {d : Nat} {os : Array Obj} {v : Value}
    (h : Calls P f args (Sort.grow (redrawn w d) os) fun e w' => e = .returned v ∧ Kp (fun _ => False) (Sort.grow (redrawn w d) os) w') : Calls P f args (Sort.grow (redrawn w d) os) fun e w'' => e = .returned v ∧ ∃ p : Regrown, w'' = Sort.grow (redrawn w p.d) p.os :=
  Calls.regrown_of (h.mono fun _ _ ⟨he, k⟩ => ⟨he, ⟨k.os, k.tape, k.output, k.size, fun i hi => k.block i hi (fun x => x)⟩⟩)

/-- A whole row that is read, in a region that only reads. -/
theorem wpQuiet_load_row {P : Program} {ops : Array Oper} {C : World → Prop} {Q : Act → Prop} {rest : List Oper} {o : Oper} {a : Act} (hgd : o.guard = none) (ty : TypeId) (x : Operand) (ho : o.op = .load ty x) (g : Nat) (hx : a.eval x = .pointer (some ⟨g, 0, none⟩)) (t : TypeId) (cs : Array Value) (fr : Nat × Nat) (d : TypeDesc)
    (hg : ∀ w, C w → w.heap[g]? = some (.cells cs t fr)) (hu : P.underlying ty = some d) (hd : (match d with | .struct _ | .array _ _ => true | _ => false) = true) (hsz : (P.info? ty).map (·.size) = some cs.size)
    (h : wpQuiet P ops C Q rest (a.put o.dst (.agg cs))) : wpQuiet P ops C Q (o :: rest) a := by
  unfold wpQuiet
  rw [if_pos (by simp [Region.wanted, hgd])]
  refine ⟨.agg cs, fun w hw => ?_, h⟩
  have hl := run_loadVar_row w g t ty cs fr d (hg w hw) hu hd hsz
  unfold Oper.quietAt execOp
  simp only [ho, hx, Instr.loadAt, Instr.sureAddr, Sem.run_bind, Sem.run_pure, Result.andThen_ok, hl]
  exact ⟨rfl, rfl⟩
theorem Regrown.row {w w' : World} (h : ∃ p : Regrown, w' = Sort.grow (redrawn w p.d) p.os) {g : Nat} {o : Obj} (hr : w.heap[g]? = some o) : w'.heap[g]? = some o := by
  obtain ⟨⟨d, os⟩, rfl⟩ := h
  exact (Kp.regrown w d os).row hr (fun x => x)

set_option maxRecDepth 100000 in
set_option maxHeartbeats 400000 in
theorem shapeText_any (x : Pu.Shape) (w : World) (ht : Tab w) (hk : 0 ≤ x.kind ∧ x.kind < 256) (hw : 0 ≤ x.w ∧ x.w ≤ 64) (hh : 0 ≤ x.h ∧ x.h ≤ 64) (hws : 0 ≤ x.ws ∧ x.ws ≤ 64) (hhs : 0 ≤ x.hs ∧ x.hs ≤ 64) :
    Calls Tryd.prog 39 #[.agg (shv x)] w fun e w' => e = .returned (.string (ustr (Sv.shapeT x))) ∧ Kp (fun _ => False) w w' := by
  have HT := hide ht
  have EQ : Hid (ustr (Sv.shapeT x) = ustr [b8 x.kind] ++ (ustr (Lib.itoa x.w) ++ ustr (Sv.behind x.ws x.wst)) ++ ustr [44] ++ (ustr (Lib.itoa x.h) ++ ustr (Sv.behind x.hs x.hst))) := by
    show _ = _
    simp only [ustr_app]
    rfl
  rw [EQ.out]
  have z1 := itoa_len x.w
  have z2 := itoa_len x.h
  have z3 := Sv.behind_len x.ws x.wst
  have z4 := Sv.behind_len x.hs x.hst
  have z5 : (ustr [b8 x.kind]).size = 1 := rfl
  rw [← ustr_size] at z1 z2 z3 z4
  have L1 := hide (fun (wx : World) (hx : Tab wx) => itoa_any x.w wx hx (by omega) (by omega))
  have L2 := hide (fun (wx : World) (hx : Tab wx) => itoa_any x.h wx hx (by omega) (by omega))
  have L3 := hide (fun (wx : World) (hx : Tab wx) => behind_any x.ws x.wst wx hx hws)
  have L4 := hide (fun (wx : World) (hx : Tab wx) => behind_any x.hs x.hst wx hx hhs)
  clear ht EQ
  generalize ustr (Lib.itoa x.w) = A1 at *
  generalize ustr (Lib.itoa x.h) = A2 at *
  generalize ustr (Sv.behind x.ws x.wst) = A3 at *
  generalize ustr (Sv.behind x.hs x.hst) = A4 at *
  obtain ⟨xk, xw, xh, xws, xhs, xwst, xhst⟩ := x
  simp only [shv] at *
  go_enter Tryd.func39, Tryd.ntmps39
  go_upto_region 1 with fail
  generalize hW : w.alloc (Obj.cells #[Value.int .u8 xk, .int .i64 xw, .int .i64 xh, .int .i64 xws, .int .i64 xhs, .bool xwst, .bool xhst] 50) = w1
  have R1 : Hid (w1.heap[w.heap.size]? = some (.cells #[Value.int .u8 xk, .int .i64 xw, .int .i64 xh, .int .i64 xws, .int .i64 xhs, .bool xwst, .bool xhst] 50 (0, 0))) := by rw [← hW]; exact heap_alloc_new _ _
  have K1 : Hid (Kp (fun _ => False) w w1) := by rw [← hW]; exact (Kp.refl _ _).alloc _
  clear hW
  have c1 : ∀ d os, (Sort.grow (redrawn w1 d) os).cell? ⟨w.heap.size, 1, none⟩ = some (.int .i64 xw) := fun d os => cell_regrown (cell_of_row _ _ 1 _ _ _ R1.out) d os
  have c3 : ∀ d os, (Sort.grow (redrawn w1 d) os).cell? ⟨w.heap.size, 3, none⟩ = some (.int .i64 xws) := fun d os => cell_regrown (cell_of_row _ _ 3 _ _ _ R1.out) d os
  have c5 : ∀ d os, (Sort.grow (redrawn w1 d) os).cell? ⟨w.heap.size, 5, none⟩ = some (.bool xwst) := fun d os => cell_regrown (cell_of_row _ _ 5 _ _ _ R1.out) d os
  have n1 : ¬ 9223372036854775807 < A1.size + A3.size := by omega
  refine wp_region_quiet_below (by kernel_rfl) (by kernel_rfl) ?_
  repeat (quiet_step (first | exact Calls.kp_regrown (L1.out _ (HT.out.keep (K1.out.trans (Kp.regrown _ _ _)))) | exact Calls.kp_regrown (L3.out _ (HT.out.keep (K1.out.trans (Kp.regrown _ _ _))))))
  refine wpQuiet_nil ?_
  intro w2 hw2
  have K2 : Hid (Kp (fun _ => False) w1 w2) := by
    obtain ⟨⟨dq, osq⟩, rfl⟩ := hw2
    exact Kp.regrown _ _ _
  clear hw2 c1 c3 c5
  go_upto_region 2 with fail
  have R2 : Hid (w2.heap[w.heap.size]? = some (.cells #[Value.int .u8 xk, .int .i64 xw, .int .i64 xh, .int .i64 xws, .int .i64 xhs, .bool xwst, .bool xhst] 50 (0, 0))) := K2.out.row R1.out (fun hx => hx)
  have c2 : ∀ d os, (Sort.grow (redrawn w2 d) os).cell? ⟨w.heap.size, 2, none⟩ = some (.int .i64 xh) := fun d os => cell_regrown (cell_of_row _ _ 2 _ _ _ R2.out) d os
  have c4 : ∀ d os, (Sort.grow (redrawn w2 d) os).cell? ⟨w.heap.size, 4, none⟩ = some (.int .i64 xhs) := fun d os => cell_regrown (cell_of_row _ _ 4 _ _ _ R2.out) d os
  have c6 : ∀ d os, (Sort.grow (redrawn w2 d) os).cell? ⟨w.heap.size, 6, none⟩ = some (.bool xhst) := fun d os => cell_regrown (cell_of_row _ _ 6 _ _ _ R2.out) d os
  have n2 : ¬ 9223372036854775807 < A2.size + A4.size := by omega
  refine wp_region_quiet_below (by kernel_rfl) (by kernel_rfl) ?_
  repeat (quiet_step (first | exact Calls.kp_regrown (L2.out _ (HT.out.keep ((K1.out.trans K2.out).trans (Kp.regrown _ _ _)))) | exact Calls.kp_regrown (L4.out _ (HT.out.keep ((K1.out.trans K2.out).trans (Kp.regrown _ _ _))))))
  refine wpQuiet_nil ?_
  intro w3 hw3
  have K3 : Hid (Kp (fun _ => False) w2 w3) := by
    obtain ⟨⟨dq, osq⟩, rfl⟩ := hw3
    exact Kp.regrown _ _ _
  have d0 : w3.cell? ⟨w.heap.size, 0, none⟩ = some (.int .u8 xk) := cell_of_row _ _ 0 _ _ _ (K3.out.row R2.out (fun hx => hx))
  clear hw3 c2 c4 c6
  go_wp2_with (refine wpList_convu rfl 85 9 _ rfl _ _ rfl (conv1u _ _ hk.1 hk.2) ?_
               intro wz hwz
               have KZ : Hid (Kp (fun _ => False) w3 wz) := by rw [hwz]; exact (Kp.refl _ _).alloc _
               clear hwz)
  go_ret
  exact ⟨rfl, ((K1.out.trans K2.out).trans K3.out).trans KZ.out⟩

theorem head_len (r : Pu.Rule) (x : Pu.Shape) (hst : 2 ≤ r.states ∧ r.states ≤ 9) (hw : 0 ≤ x.w ∧ x.w ≤ 64) (hh : 0 ≤ x.h ∧ x.h ≤ 64) (hws : 0 ≤ x.ws ∧ x.ws ≤ 64) (hhs : 0 ≤ x.hs ∧ x.hs ≤ 64) : (Sv.ruleT r).length ≤ 300 ∧ (Sv.shapeT x).length ≤ 300 := by
  have z1 := itoa_len x.w
  have z2 := itoa_len x.h
  have z3 := Sv.behind_len x.ws x.wst
  have z4 := Sv.behind_len x.hs x.hst
  have z5 : (Sv.set r.births).length ≤ 99 := Sv.setN_len r.births 9
  have z6 : (Sv.set r.survivals).length ≤ 99 := Sv.setN_len r.survivals 9
  have z7 := itoa_len r.states
  constructor
  · unfold Sv.ruleT
    simp only [List.length_append, List.length_cons, List.length_nil]
    split
    · simp only [List.length_append, List.length_cons, List.length_nil]
      omega
    · simp only [List.length_nil]
      omega
  · unfold Sv.shapeT
    simp only [List.length_append, List.length_cons, List.length_nil]
    omega

set_option maxRecDepth 100000 in
set_option maxHeartbeats 1000000 in
theorem write_any (q : Nat) (pre : Array Value) (r : Pu.Rule) (x : Pu.Shape) (age l t : Int) (S : List Int) (w : World) (h : GrAt w q pre x.w x.h l t S) (ht : Tab w) (hr : RuleOk r) (ha : 0 ≤ r.around ∧ r.around < 256) (hst : 2 ≤ r.states ∧ r.states ≤ 9)
    (hk : 0 ≤ x.kind ∧ x.kind < 256) (hw : 0 ≤ x.w ∧ x.w ≤ 12) (hh : 0 ≤ x.h ∧ x.h ≤ 12) (hws : 0 ≤ x.ws ∧ x.ws ≤ 64) (hhs : 0 ≤ x.hs ∧ x.hs ≤ 64) (hage : 0 ≤ age ∧ age ≤ 1000000)
    (l0 : -40000000 ≤ l) (l1 : l ≤ 40000000) (t0 : -40000000 ≤ t) (t1 : t ≤ 40000000) :
    Calls Tryd.prog 21 #[.agg (rulev r), .agg (shv x), .int .i64 age, .pointer (some ⟨q, 28, none⟩)] w fun e w' => e = .returned (.string (ustr (Sv.writeT r x age (getP x.w x.h l t S) (liveP x.w x.h l t S)))) ∧ Kp (fun _ => False) w w' := by
  have HT := hide ht
  have G0 := hide h
  have zh := head_len r x hst (by omega) (by omega) hws hhs
  have z1 := zh.1
  have z2 := zh.2
  have z3 := itoa_len age
  rw [← ustr_size] at z1 z2 z3
  have EH : Hid (ustr (Sv.headT r x age) = ustr (Sv.ruleT r) ++ ustr [32] ++ ustr (Sv.shapeT x) ++ ustr [32] ++ ustr (Lib.itoa age)) := by
    show _ = _
    simp only [ustr_app]
    rfl
  have L1 := hide (fun (wx : World) (hx : Tab wx) => ruleText_any r hr ha hst wx hx)
  have L2 := hide (fun (wx : World) (hx : Tab wx) => shapeText_any x wx hx hk (by omega) (by omega) hws hhs)
  have L3 := hide (fun (wx : World) (hx : Tab wx) => itoa_any age wx hx (by omega) (by omega))
  have L4 := hide (fun (wx : World) (hx : GrAt wx q pre x.w x.h l t S) => live_exact q pre x.w x.h l t S wx hx hw.1 hw.2 hh.1 hh.2 l0 l1 t0 t1)
  have HB : Hid ((liveP x.w x.h l t S).e = true ∨ ((l ≤ (liveP x.w x.h l t S).L ∧ (liveP x.w x.h l t S).L ≤ (liveP x.w x.h l t S).R ∧ (liveP x.w x.h l t S).R < l + 64) ∧ (t ≤ (liveP x.w x.h l t S).T ∧ (liveP x.w x.h l t S).T ≤ (liveP x.w x.h l t S).B ∧ (liveP x.w x.h l t S).B < t + 64))) := by
    have b1 := spanP_bd hw.1 hw.2
    have b2 := spanP_bd hh.1 hh.2
    have := liveAll_bd (getP x.w x.h l t S) l t (spanP x.w).toNat (spanP x.h).toNat (spanP x.h).toNat (Nat.le_refl _)
    unfold liveP
    rcases this with h1 | h1
    · exact Or.inl h1
    · right
      omega
  have L5 := hide (fun (wx : World) (hx : GrAt wx q pre x.w x.h l t S) (hx2 : Tab wx) (b : Bx) (n m : Nat) (h1 : -50000000 ≤ b.L ∧ b.L ≤ 50000000) (h2 : -50000000 ≤ b.T ∧ b.T ≤ 50000000) (h3 : b.R = b.L + n - 1) (h4 : n ≤ 64) (h5 : b.B = b.T + m - 1) (h6 : m ≤ 64) => bodyText_any q pre x.w x.h l t S b n m wx hx hx2 hw.1 hw.2 hh.1 hh.2 l0 l1 t0 t1 h1 h2 h3 h4 h5 h6)
  have L6 := hide (fun (b : Bx) (n m : Nat) (h4 : n ≤ 64) => Sv.bodyN_len (getP x.w x.h l t S) b.L b.T n h4 m)
  have HWT : Hid (∀ b, Sv.writeT r x age (getP x.w x.h l t S) b = if b.e = true then Sv.headT r x age ++ [32, 48, 44, 48, 32, 33] else Sv.headT r x age ++ [32] ++ Sv.placeT b.L b.T ++ [32] ++ Sv.body (getP x.w x.h l t S) b.L b.T (b.R - b.L + 1).toNat (b.B - b.T + 1).toNat ++ [33]) := fun _ => rfl
  clear ht h zh
  generalize ustr (Sv.ruleT r) = A1 at *
  generalize ustr (Sv.shapeT x) = A2 at *
  generalize ustr (Lib.itoa age) = A3 at *
  generalize liveP x.w x.h l t S = b at *
  obtain ⟨be, bL, bT, bR, bB⟩ := b
  simp only at HB
  go_enter Tryd.func21, Tryd.ntmps21
  go_upto_region 1 with fail
  generalize hW : (w.alloc (Obj.cells (rulev r) 48)).alloc (Obj.cells (shv x) 50) = w1
  have R1 : Hid (w1.heap[w.heap.size]? = some (.cells (rulev r) 48 (0, 0))) := by rw [← hW]; exact heap_alloc2_old _ _ _
  have R2 : Hid (w1.heap[w.heap.size + 1]? = some (.cells (shv x) 50 (0, 0))) := by rw [← hW]; exact heap_alloc2_new _ _ _
  have K1 : Hid (Kp (fun _ => False) w w1) := by rw [← hW]; exact ((Kp.refl _ _).alloc _).alloc _
  clear hW
  have n1 : ¬ 9223372036854775807 < A1.size + 1 := by omega
  have n2 : ¬ 9223372036854775807 < A1.size + 1 + A2.size := by omega
  have n3 : ¬ 9223372036854775807 < A1.size + 1 + A2.size + 1 := by omega
  have n4 : ¬ 9223372036854775807 < A1.size + 1 + A2.size + 1 + A3.size := by omega
  refine wp_region_quiet_below (by kernel_rfl) (by kernel_rfl) ?_
  refine wpQuiet_load_row rfl 48 _ rfl w.heap.size rfl 48 (rulev r) (0, 0) _ (fun _ hx => Regrown.row hx R1.out) Tryd.underlying48 rfl (by rw [info_rule, rulev_size hr]) ?_
  quiet_step (exact Calls.kp_regrown (L1.out _ (HT.out.keep (K1.out.trans (Kp.regrown _ _ _)))))
  quiet_step (fail)
  refine wpQuiet_load_row rfl 50 _ rfl (w.heap.size + 1) rfl 50 (shv x) (0, 0) _ (fun _ hx => Regrown.row hx R2.out) Tryd.underlying50 rfl info_shape ?_
  quiet_step (exact Calls.kp_regrown (L2.out _ (HT.out.keep (K1.out.trans (Kp.regrown _ _ _)))))
  quiet_step (fail)
  quiet_step (fail)
  quiet_step (fail)
  quiet_step (exact Calls.kp_regrown (L3.out _ (HT.out.keep (K1.out.trans (Kp.regrown _ _ _)))))
  quiet_step (fail)
  quiet_step (fail)
  refine wpQuiet_nil ?_
  intro w2 hw2
  have K2 : Hid (Kp (fun _ => False) w w2) := by
    obtain ⟨⟨dq, osq⟩, rfl⟩ := hw2
    exact K1.out.trans (Kp.regrown _ _ _)
  clear hw2 n1 n2 n3 R1 R2 K1
  go_wp2_with fail
  refine (L4.out _ (G0.out.keep K2.out (fun hx => hx))).mono ?_
  rintro e w3 ⟨rfl, k3⟩
  have K3 := hide (K2.out.trans k3)
  clear k3
  have EH2 : Hid (A1 ++ { data := #[32] } ++ A2 ++ { data := #[32] } ++ A3 = ustr (Sv.headT r x age)) := by
    show _ = _
    rw [EH.out]
    rfl
  have zH : (A1 ++ { data := #[32] } ++ A2 ++ { data := #[32] } ++ A3).size ≤ 2000000 := by
    simp only [ByteArray.size_append]
    show A1.size + 1 + A2.size + 1 + A3.size ≤ 2000000
    omega
  rw [EH2.out] at zH ⊢
  clear EH EH2
  generalize hHD : ustr (Sv.headT r x age) = HD at *
  have HHD := hide hHD
  clear hHD n4
  cases be
  · have hb := HB.out.resolve_left (by simp)
    have EW : Hid (ustr (Sv.writeT r x age (getP x.w x.h l t S) ⟨false, bL, bT, bR, bB⟩) = HD ++ ustr [32] ++ (ustr (Lib.itoa bL) ++ ustr [44] ++ ustr (Lib.itoa bT)) ++ ustr [32] ++ ustr (Sv.body (getP x.w x.h l t S) bL bT (bR - bL + 1).toNat (bB - bT + 1).toNat) ++ ustr [33]) := by
      show _ = _
      rw [HWT.out, if_neg (by simp), ← HHD.out]
      simp only [ustr_app, Sv.placeT, List.append_assoc]
    have LB := hide (fun (wx : World) (hx : GrAt wx q pre x.w x.h l t S) (hx2 : Tab wx) => L5.out wx hx hx2 ⟨false, bL, bT, bR, bB⟩ (bR - bL + 1).toNat (bB - bT + 1).toNat (by show -50000000 ≤ bL ∧ bL ≤ 50000000; omega) (by show -50000000 ≤ bT ∧ bT ≤ 50000000; omega) (by show bR = bL + ((bR - bL + 1).toNat : Int) - 1; omega) (by omega) (by show bB = bT + ((bB - bT + 1).toNat : Int) - 1; omega) (by omega))
    have zB := (L6.out ⟨false, bL, bT, bR, bB⟩ (bR - bL + 1).toNat (bB - bT + 1).toNat (by omega)).2
    have zB2 : (ustr (Sv.body (getP x.w x.h l t S) bL bT (bR - bL + 1).toNat (bB - bT + 1).toNat)).size ≤ 30000 := by
      rw [ustr_size]
      show (Sv.bodyN (getP x.w x.h l t S) bL bT (bR - bL + 1).toNat (bB - bT + 1).toNat).text.length ≤ 30000
      have h0 := (L6.out ⟨false, bL, bT, bR, bB⟩ (bR - bL + 1).toNat (bB - bT + 1).toNat (by omega)).1
      simp only at zB h0
      omega
    have zL := itoa_len bL
    have zT := itoa_len bT
    rw [← ustr_size] at zL zT
    have LL := hide (fun (wx : World) (hx : Tab wx) => itoa_any bL wx hx (by omega) (by omega))
    have LT := hide (fun (wx : World) (hx : Tab wx) => itoa_any bT wx hx (by omega) (by omega))
    simp only [bxV, bxv] at LB ⊢
    generalize ustr (Sv.body (getP x.w x.h l t S) bL bT (bR - bL + 1).toNat (bB - bT + 1).toNat) = BD at *
    generalize ustr (Lib.itoa bL) = AL at *
    generalize ustr (Lib.itoa bT) = AT at *
    clear HWT zB L5 L6 HB
    go_upto_region 5 with fail
    generalize hW : w3.alloc (Obj.cells #[Value.bool false, .int .i64 bL, .int .i64 bT, .int .i64 bR, .int .i64 bB] 81) = w4
    have R4 : Hid (w4.heap[w3.heap.size]? = some (.cells #[Value.bool false, .int .i64 bL, .int .i64 bT, .int .i64 bR, .int .i64 bB] 81 (0, 0))) := by rw [← hW]; exact heap_alloc_new _ _
    have K4 : Hid (Kp (fun _ => False) w w4) := by rw [← hW]; exact K3.out.alloc _
    clear hW
    have c1 : ∀ d os, (Sort.grow (redrawn w4 d) os).cell? ⟨w3.heap.size, 1, none⟩ = some (.int .i64 bL) := fun d os => cell_regrown (cell_of_row _ _ 1 _ _ _ R4.out) d os
    have c2 : ∀ d os, (Sort.grow (redrawn w4 d) os).cell? ⟨w3.heap.size, 2, none⟩ = some (.int .i64 bT) := fun d os => cell_regrown (cell_of_row _ _ 2 _ _ _ R4.out) d os
    have n1 : ¬ 9223372036854775807 < AL.size + 1 := by omega
    have n2 : ¬ 9223372036854775807 < AL.size + 1 + AT.size := by omega
    refine wp_region_quiet_below (by kernel_rfl) (by kernel_rfl) ?_
    repeat (quiet_step (first | exact Calls.kp_regrown (LL.out _ (HT.out.keep (K4.out.trans (Kp.regrown _ _ _)))) | exact Calls.kp_regrown (LT.out _ (HT.out.keep (K4.out.trans (Kp.regrown _ _ _))))))
    refine wpQuiet_nil ?_
    intro w5 hw5
    have R5 := hide (Regrown.row hw5 R4.out)
    have K5 : Hid (Kp (fun _ => False) w w5) := by
      obtain ⟨⟨dq, osq⟩, rfl⟩ := hw5
      exact K4.out.trans (Kp.regrown _ _ _)
    clear hw5 n1 n2 c1 c2 K4 R4
    have zP : (AL ++ { data := #[44] } ++ AT).size ≤ 90000000 := by
      simp only [ByteArray.size_append]
      show AL.size + 1 + AT.size ≤ 90000000
      omega
    have EP : Hid (AL ++ ustr [44] ++ AT = AL ++ { data := #[44] } ++ AT) := rfl
    rw [EP.out] at EW
    clear EP
    generalize AL ++ { data := #[44] } ++ AT = PL at *
    go_wp2_with (refine wpList_load_row rfl 81 _ rfl w3.heap.size rfl 81 #[Value.bool false, .int .i64 bL, .int .i64 bT, .int .i64 bR, .int .i64 bB] (0, 0) _ R5.out Tryd.underlying81 rfl info_box ?_)
    refine (LB.out _ (G0.out.keep K5.out (fun hx => hx)) (HT.out.keep K5.out)).mono ?_
    rintro e w6 ⟨rfl, k6⟩
    have K6 := hide (K5.out.trans k6)
    clear k6
    go_wp2_with fail
    go_ret
    exact ⟨by rw [EW.out]; rfl, K6.out⟩
  · have EW : Hid (ustr (Sv.writeT r x age (getP x.w x.h l t S) ⟨true, bL, bT, bR, bB⟩) = HD ++ ustr [32, 48, 44, 48, 32, 33]) := by
      show _ = _
      rw [HWT.out, if_pos rfl, ← ustr_app, HHD.out]
    simp only [bxV, bxv]
    clear HWT
    go_wp2_with fail
    go_ret
    exact ⟨by rw [EW.out]; rfl, K3.out.alloc _⟩

/-- What a world is saved as. -/
def saveT (r : Pu.Rule) (x : Pu.Shape) (age l t : Int) (S : List Int) : ByteArray := ustr (Sv.writeT r x age (getP x.w x.h l t S) (liveP x.w x.h l t S))
/-- Some cells of a row that are read as one value, in a region that only reads. -/
theorem wpQuiet_load_at {P : Program} {ops : Array Oper} {C : World → Prop} {Q : Act → Prop} {rest : List Oper} {o : Oper} {a : Act} (hgd : o.guard = none) (ty : TypeId) (x : Operand) (ho : o.op = .load ty x) (g off : Nat) (hx : a.eval x = .pointer (some ⟨g, off, none⟩)) (sub : Array Value) (d : TypeDesc)
    (hc : ∀ w, C w → ∀ j v, sub[j]? = some v → w.cell? ⟨g, off + j, none⟩ = some v) (hu : P.underlying ty = some d) (hd : (match d with | .struct _ | .array _ _ => true | _ => false) = true) (hi : (P.info? ty).map (·.size) = some sub.size)
    (h : wpQuiet P ops C Q rest (a.put o.dst (.agg sub))) : wpQuiet P ops C Q (o :: rest) a := by
  unfold wpQuiet
  rw [if_pos (by simp [Region.wanted, hgd])]
  refine ⟨.agg sub, fun w hw => ?_, h⟩
  have hl := loadVar_at (P := P) (w := w) ty g off sub (hc w hw) d hu hd hi
  unfold Oper.quietAt execOp
  simp only [ho, hx, Instr.loadAt, Instr.sureAddr, Sem.run_bind, Sem.run_pure, Result.andThen_ok, hl]
  exact ⟨rfl, rfl⟩
theorem Regrown.kp {w w' : World} (h : ∃ p : Regrown, w' = Sort.grow (redrawn w p.d) p.os) : Kp (fun _ => False) w w' := by
  obtain ⟨⟨d, os⟩, rfl⟩ := h
  exact Kp.regrown w d os

set_option maxRecDepth 100000 in
set_option maxHeartbeats 400000 in
theorem save_any (q : Nat) (r : Pu.Rule) (x : Pu.Shape) (age l t : Int) (S : List Int) (w : World) (h : GrAt w q (preOf r x age) x.w x.h l t S) (ht : Tab w) (hr : RuleOk r) (ha : 0 ≤ r.around ∧ r.around < 256) (hst : 2 ≤ r.states ∧ r.states ≤ 9)
    (hk : 0 ≤ x.kind ∧ x.kind < 256) (hw : 0 ≤ x.w ∧ x.w ≤ 12) (hh : 0 ≤ x.h ∧ x.h ≤ 12) (hws : 0 ≤ x.ws ∧ x.ws ≤ 64) (hhs : 0 ≤ x.hs ∧ x.hs ≤ 64) (hage : 0 ≤ age ∧ age ≤ 1000000)
    (l0 : -40000000 ≤ l) (l1 : l ≤ 40000000) (t0 : -40000000 ≤ t) (t1 : t ≤ 40000000) :
    Calls Tryd.prog 8 #[.pointer (some ⟨q, 0, none⟩)] w fun e w' => e = .returned (.string (saveT r x age l t S)) ∧ Kp (fun _ => False) w w' := by
  have L := hide (fun (wx : World) (hx : GrAt wx q (preOf r x age) x.w x.h l t S) (hx2 : Tab wx) => write_any q (preOf r x age) r x age l t S wx hx hx2 hr ha hst hk hw hh hws hhs hage l0 l1 t0 t1)
  have HT := hide ht
  have G0 := hide h
  have c27 := h.age hr
  clear h ht
  unfold saveT
  generalize ustr (Sv.writeT r x age (getP x.w x.h l t S) (liveP x.w x.h l t S)) = O at *
  go_enter Tryd.func8, Tryd.ntmps8
  go_upto_region 1 with fail
  have c27' : ∀ d os, (Sort.grow (redrawn w d) os).cell? ⟨q, 27, none⟩ = some (.int .i64 age) := fun d os => cell_regrown c27 d os
  refine wp_region_quiet_below (by kernel_rfl) (by kernel_rfl) ?_
  quiet_step (fail)
  quiet_step (fail)
  quiet_step (fail)
  refine wpQuiet_load_at rfl 48 _ rfl q 0 rfl (rulev r) _ (fun wx hx j v hv => (G0.out.keep (Regrown.kp hx) (fun hx => hx)).rule hr j v hv) Tryd.underlying48 rfl (by rw [info_rule, rulev_size hr]) ?_
  quiet_step (fail)
  quiet_step (fail)
  quiet_step (fail)
  refine wpQuiet_load_at rfl 50 _ rfl q 20 rfl (shv x) _ (fun wx hx j v hv => (G0.out.keep (Regrown.kp hx) (fun hx => hx)).shape hr j v hv) Tryd.underlying50 rfl info_shape ?_
  repeat (quiet_step (exact Calls.kp_regrown (L.out _ (G0.out.keep (Kp.regrown _ _ _) (fun hx => hx)) (HT.out.keep (Kp.regrown _ _ _)))))
  refine wpQuiet_nil ?_
  intro w5 hw5
  have K5 := hide (Regrown.kp hw5)
  clear hw5
  go_wp2_with fail
  go_ret
  exact ⟨rfl, K5.out⟩
end Go.Proofs.YtbdbkjngdhcjpaaDoor
