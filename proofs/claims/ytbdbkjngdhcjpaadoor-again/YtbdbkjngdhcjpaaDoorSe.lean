import Derived.Test.YtbdbkjngdhcjpaaDoorM24
import Derived.Test.YtbdbkjngdhcjpaaDoorM14
import Derived.Deep.CutRange
import Derived.Deep.RegionWith
namespace Go.Proofs.YtbdbkjngdhcjpaaDoor
open Go.RowKit
open Go.Proofs

section
variable {P : Program} {o : Oper} {a : Act} {w : World} {Q : Exit → Act → World → Prop} {K : Act → World → Prop}
theorem loadVar_at (ty : TypeId) (g off : Nat) (sub : Array Value) (hc : ∀ j v, sub[j]? = some v → w.cell? ⟨g, off + j, none⟩ = some v) (d : TypeDesc) (hu : P.underlying ty = some d) (hd : (match d with | .struct _ | .array _ _ => true | _ => false) = true) (hi : (P.info? ty).map (·.size) = some sub.size) : (loadVar ty ⟨g, off, none⟩).run P w = .ok (.agg sub) w := by
  have hl : (loadCells ⟨g, off, none⟩ sub.toList.length).run P w = .ok sub.toList.toArray w :=
    run_loadCells_list (P := P) w ⟨g, off, none⟩ sub.toList (fun j v hv => by
      have hadd : (⟨g, off, none⟩ : Addr).add j = ⟨g, off + j, none⟩ := by unfold Addr.add; split <;> simp_all
      rw [hadd]
      exact hc j v (by simpa using hv))
  cases hq : P.info? ty with
  | none => simp [hq] at hi
  | some i =>
    have hs : i.size = sub.size := by simpa [hq] using hi
    have hagg : (isAgg ty).run P w = .ok true w := by
      unfold isAgg
      rw [Sem.run_bind, run_underlying hu w]
      cases d <;> simp_all
    simp only [Array.length_toList, Array.toArray_toList] at hl
    simp [loadVar, Sem.run_bind, hagg, sizeOf, typeInfo, hq, hs, hl]
theorem wp_load_at (ty : TypeId) (x : Operand) (ho : o.op = .load ty x) (g off : Nat) (hx : a.eval x = .pointer (some ⟨g, off, none⟩)) (sub : Array Value) (hc : ∀ j v, sub[j]? = some v → w.cell? ⟨g, off + j, none⟩ = some v) (d : TypeDesc) (hu : P.underlying ty = some d) (hd : (match d with | .struct _ | .array _ _ => true | _ => false) = true) (hi : (P.info? ty).map (·.size) = some sub.size)
    (h : K (a.put o.dst (.agg sub)) w) : o.wp P a w K Q := by
  have hload := loadVar_at (P := P) (w := w) ty g off sub hc d hu hd hi
  unfold Oper.wp execOp
  simp only [ho, hx, Instr.loadAt, Instr.sureAddr, Sem.run_bind, Sem.run_pure, Result.andThen_ok, hload]
  exact h
theorem wp_load_int (ty : TypeId) (x : Operand) (ho : o.op = .load ty x) (ad : Addr) (hx : a.eval x = .pointer (some ad)) (v : Value) (hc : w.cell? ad = some v) {k : IntKind} (hu : P.underlying ty = some (.int k)) (h : K (a.put o.dst v) w) : o.wp P a w K Q := by
  have hagg : (isAgg ty).run P w = .ok false w := by
    unfold isAgg
    rw [Sem.run_bind, run_underlying hu w]
    rfl
  have hl : (loadVar ty ad).run P w = .ok v w := by
    simp [loadVar, Sem.run_bind, hagg, hc]
  unfold Oper.wp execOp
  simp only [ho, hx, Instr.loadAt, Instr.sureAddr, Sem.run_bind, Sem.run_pure, Result.andThen_ok, hl]
  exact h
theorem wp_conv (s d : TypeId) (x : Operand) (ho : o.op = .convert s d x) (v r : Value) (hv : a.eval x = v) (hr : (convert s d v).run P w = .ok r w) (h : K (a.put o.dst r) w) : o.wp P a w K Q := by
  unfold Oper.wp execOp
  simp [ho, hv, hr]
  exact h
end
/-- 'string' of a slice of one byte, wherever it lies. -/
theorem conv1g (w : World) (g : Nat) (n : Int) (hg : w.heap[g]? = some (.cells #[.int .u8 n] 5 (0, 0))) (h0 : 0 ≤ n) (h1 : n < 256) : (convert 85 9 (.slice (some ⟨g, 0, none⟩) 1 1)).run Tryd.prog w = .ok (.string (ustr [b8 n])) w := by
  have hc := run_convert_bytes_back (P := Tryd.prog) w 85 9 5 ⟨g, 0, none⟩ 1 [UInt8.ofNat n.toNat] Tryd.underlying85 Tryd.underlying5 Tryd.underlying9 (fun j hj => by
    have hj0 : j = 0 := by simp at hj; omega
    subst hj0
    show World.cell? _ ⟨g, 0, none⟩ = _
    rw [cell_of_row _ g 0 _ _ _ hg]
    have e : ((UInt8.ofNat n.toNat).toNat : Int) = n := by
      rw [UInt8.toNat_ofNat']
      omega
    simp only [List.getElem_cons_zero]
    rw [e]
    rfl)
  exact hc
/-- What each operation of ruleText's first statement leaves. -/
def rtV (r : Pu.Rule) (B : Nat) (S1 S2 : ByteArray) : Nat → Value → World → Prop
  | 0, v, _ => v = .pointer (some ⟨B, 0, none⟩)
  | 1, v, _ => v = .int .u8 r.around
  | 2, v, wx => ∃ g, v = .slice (some ⟨g, 0, none⟩) 1 1 ∧ wx.heap[g]? = some (.cells #[.int .u8 r.around] 5 (0, 0))
  | 3, v, _ => v = .string (ustr [b8 r.around])
  | 4, v, _ => v = .string (ustr [b8 r.around] ++ ustr [66])
  | 5, v, _ => v = .pointer (some ⟨B, 1, none⟩)
  | 6, v, _ => v = .agg (bv r.births)
  | 7, v, _ => v = .string S1
  | 8, v, _ => v = .string (ustr [b8 r.around] ++ ustr [66] ++ S1)
  | 9, v, _ => v = .string (ustr [b8 r.around] ++ ustr [66] ++ S1 ++ ustr [47, 83])
  | 10, v, _ => v = .pointer (some ⟨B, 10, none⟩)
  | 11, v, _ => v = .agg (bv r.survivals)
  | 12, v, _ => v = .string S2
  | 13, v, _ => v = .string (ustr [b8 r.around] ++ ustr [66] ++ S1 ++ ustr [47, 83] ++ S2)
  | 14, v, _ => v = .string (ustr [b8 r.around] ++ ustr [66] ++ S1 ++ ustr [47, 83] ++ S2)
  | _, _, _ => True
theorem rtV_mono {r : Pu.Rule} {B : Nat} {S1 S2 : ByteArray} {i : Nat} {v : Value} {wx wy : World} (h : rtV r B S1 S2 i v wx) (k : Kp (fun _ => False) wx wy) : rtV r B S1 S2 i v wy := by
  unfold rtV at *
  split at h
  case h_3 =>
    obtain ⟨g, h1, h2⟩ := h
    exact ⟨g, h1, k.row h2 (fun x => x)⟩
  all_goals exact h
def rtD (i : Nat) : Nat := if i = 14 then 3 else i + 4
def rtF (r : Pu.Rule) (B : Nat) (x : Nat → Value) : Act := { tmps := #[.agg (rulev r), .pointer (some ⟨B, 0, none⟩), .string { data := #[] }, x 3, x 4, x 5, x 6, x 7, x 8, x 9, x 10, x 11, x 12, x 13, x 14, x 15, x 16, x 17, undef, undef, undef, undef, undef, undef, undef, undef, undef, undef], defers := [] }
def rtI (r : Pu.Rule) (B : Nat) (S1 S2 : ByteArray) (w1 : World) (listed : Array Bool) (a : Act) (wx : World) : Prop :=
  ∃ x : Nat → Value, a = rtF r B x ∧ Kp (fun _ => False) w1 wx ∧ ∀ i, listed.getD i false = true → rtV r B S1 S2 i (x (rtD i)) wx
theorem rtF_put (r : Pu.Rule) (B : Nat) (x : Nat → Value) (d : Nat) (h3 : 3 ≤ d) (h17 : d ≤ 17) (v : Value) : (rtF r B x).put (some d) v = rtF r B (fun k => if k = d then v else x k) := by
  have : d = 3 ∨ d = 4 ∨ d = 5 ∨ d = 6 ∨ d = 7 ∨ d = 8 ∨ d = 9 ∨ d = 10 ∨ d = 11 ∨ d = 12 ∨ d = 13 ∨ d = 14 ∨ d = 15 ∨ d = 16 ∨ d = 17 := by omega
  rcases this with rfl | rfl | rfl | rfl | rfl | rfl | rfl | rfl | rfl | rfl | rfl | rfl | rfl | rfl | rfl <;> rfl
theorem rtI_put {r : Pu.Rule} {B : Nat} {S1 S2 : ByteArray} {w1 wx wy : World} {listed : Array Bool} {x : Nat → Value} (kx : Kp (fun _ => False) w1 wx) (hv : ∀ i, listed.getD i false = true → rtV r B S1 S2 i (x (rtD i)) wx) (i d : Nat) (hi : i < 15) (hd : d = rtD i) (v : Value) (k : Kp (fun _ => False) wx wy) (hV : rtV r B S1 S2 i v wy) :
    rtI r B S1 S2 w1 (listed.setIfInBounds i true) ((rtF r B x).put (some d) v) wy := by
  have hdb : 3 ≤ d ∧ d ≤ 17 := by rw [hd]; unfold rtD; split <;> omega
  refine ⟨_, rtF_put r B x d hdb.1 hdb.2 v, kx.trans k, fun j hj => ?_⟩
  by_cases e : j = i
  · subst e
    simp only [← hd, if_true]
    exact hV
  · have hj' : listed.getD j false = true := (getD_setF _ _ _ hj).resolve_left e
    have hne : rtD j ≠ d ∨ 15 ≤ j := by
      rw [hd]
      unfold rtD
      by_cases h14 : j = 14
      · left; rw [if_pos h14, if_neg (by omega)]; omega
      · by_cases h15 : 15 ≤ j
        · exact Or.inr h15
        · left
          rw [if_neg h14]
          split <;> omega
    rcases hne with hne | h15
    · simp only [if_neg hne]
      exact rtV_mono (hv j hj') k
    · unfold rtV
      split <;> first | omega | trivial

theorem rulev_b {r : Pu.Rule} (hr : RuleOk r) (j : Nat) (v : Value) (h : (bv r.births)[j]? = some v) : (rulev r)[1 + j]? = some v := by
  have hj : j < 9 := by have := (Array.getElem?_eq_some_iff.1 h).1; rw [bv_size, hr.1] at this; exact this
  rw [(rule_at hr j hj).1, ← bv_getD _ hr.1 j hj]
  exact h
theorem rulev_s {r : Pu.Rule} (hr : RuleOk r) (j : Nat) (v : Value) (h : (bv r.survivals)[j]? = some v) : (rulev r)[10 + j]? = some v := by
  have hj : j < 9 := by have := (Array.getElem?_eq_some_iff.1 h).1; rw [bv_size, hr.2] at this; exact this
  rw [(rule_at hr j hj).2, ← bv_getD _ hr.2 j hj]
  exact h

set_option maxRecDepth 100000 in
set_option maxHeartbeats 1000000 in
theorem ruleText_any (r : Pu.Rule) (hr : RuleOk r) (ha : 0 ≤ r.around ∧ r.around < 256) (hst : 2 ≤ r.states ∧ r.states ≤ 9) (w : World) (ht : Tab w) :
    Calls Tryd.prog 38 #[.agg (rulev r)] w fun e w' => e = .returned (.string (ustr (Sv.ruleT r))) ∧ Kp (fun _ => False) w w' := by
  have HT := hide ht
  have L1 := hide (fun (wx : World) (hx : Tab wx) => setText_any r.births hr.1 wx hx)
  have L2 := hide (fun (wx : World) (hx : Tab wx) => setText_any r.survivals hr.2 wx hx)
  have z1 := Sv.setN_len r.births 9
  have z2 := Sv.setN_len r.survivals 9
  rw [← ustr_size] at z1 z2
  have z1' : (ustr (Sv.set r.births)).size ≤ 99 := z1
  have z2' : (ustr (Sv.set r.survivals)).size ≤ 99 := z2
  have EQ : Hid (ustr (Sv.ruleT r) = ustr [b8 r.around] ++ ustr [66] ++ ustr (Sv.set r.births) ++ ustr [47, 83] ++ ustr (Sv.set r.survivals) ++ ustr (if 2 < r.states then [47] ++ Lib.itoa r.states else [])) := by
    show _ = _
    simp only [ustr_app]
    rfl
  rw [EQ.out]
  have T1 : Hid (2 < r.states → ustr (if 2 < r.states then [47] ++ Lib.itoa r.states else []) = ustr [47] ++ ustr (Lib.itoa r.states)) := fun h => by rw [if_pos h, ustr_app]
  have T2 : Hid (¬ 2 < r.states → ∀ X : ByteArray, X ++ ustr (if 2 < r.states then [47] ++ Lib.itoa r.states else []) = X) := fun h X => by
    rw [if_neg h]
    apply ByteArray.ext
    simp [ustr, ByteArray.data_append]
  generalize ustr (if 2 < r.states then [47] ++ Lib.itoa r.states else []) = T at *
  clear z1 z2 ht EQ
  generalize ustr (Sv.set r.births) = S1 at *
  generalize ustr (Sv.set r.survivals) = S2 at *
  have z3 : (ustr [b8 r.around]).size = 1 := rfl
  have z4 : (ustr [66]).size = 1 := rfl
  have z5 : (ustr [47, 83]).size = 2 := rfl
  have RB := hide (fun j v => rulev_b (r := r) hr j v)
  have RS := hide (fun j v => rulev_s (r := r) hr j v)
  go_enter Tryd.func38, Tryd.ntmps38
  go_upto_region 1 with fail
  go_cut [3] from 4 to 17 (fun v3 wc => v3 = .string (ustr [b8 r.around] ++ ustr [66] ++ S1 ++ ustr [47, 83] ++ S2) ∧ Kp (fun _ => False) (w.alloc (.cells (rulev r) 48)) wc)
  case first =>
    refine wp_region_inv (by kernel_rfl) (rtI r w.heap.size S1 S2 (w.alloc (.cells (rulev r) 48))) ?_ ?_ ?_ ?_
    · kernel_rfl
    · rintro listed a wx i o ⟨x, rfl, kx, hv⟩ ho hall
      have hi : i < 15 := by
        have := (Array.getElem?_eq_some_iff.1 ho).1
        simpa using this
      have K0 : Hid (Kp (fun _ => False) w wx) := ((Kp.refl _ _).alloc _).trans kx
      have R0 : Hid (wx.heap[w.heap.size]? = some (.cells (rulev r) 48 (0, 0))) := kx.row (heap_alloc_new _ _) (fun hx => hx)
      have cl := hide (fun (wy : World) (d : Nat) (hd : d = rtD i) (v : Value) (k : Kp (fun _ => False) wx wy) (hV : rtV r w.heap.size S1 S2 i v wy) => rtI_put kx hv i d hi hd v k hV)
      have HV := hide hv
      have HA := hide hall
      clear kx hv hall
      have hc : i = 0 ∨ i = 1 ∨ i = 2 ∨ i = 3 ∨ i = 4 ∨ i = 5 ∨ i = 6 ∨ i = 7 ∨ i = 8 ∨ i = 9 ∨ i = 10 ∨ i = 11 ∨ i = 12 ∨ i = 13 ∨ i = 14 := by omega
      rcases hc with rfl | rfl | rfl | rfl | rfl | rfl | rfl | rfl | rfl | rfl | rfl | rfl | rfl | rfl | rfl
      all_goals
        simp at ho
        subst ho
        refine ⟨rfl, ?_⟩
      · unfold Oper.wp execOp
        go_simp
        exact cl.out wx 4 rfl _ (Kp.refl _ _) rfl
      · have v0 : x 4 = _ := HV.out 0 (HA.out ⟨0, .data⟩ (by simp) rfl)
        refine wp_load_int 5 _ rfl ⟨w.heap.size, 0, none⟩ v0 (.int .u8 r.around) (by rw [cell_of_row _ _ 0 _ _ _ R0.out]; exact rulev_around) Tryd.underlying5 ?_
        exact cl.out wx 5 rfl _ (Kp.refl _ _) rfl
      · have t5 : (rtF r w.heap.size x).tmps[5]?.getD undef = .int .u8 r.around := HV.out 1 (HA.out ⟨1, .data⟩ (by simp) rfl)
        unfold Oper.wp execOp
        go_simp
        exact cl.out _ 6 rfl _ ((Kp.refl _ _).alloc _) ⟨_, rfl, heap_alloc_new _ _⟩
      · obtain ⟨g, v2, r2⟩ : ∃ g, x 6 = _ ∧ _ := HV.out 2 (HA.out ⟨2, .data⟩ (by simp) rfl)
        refine wp_conv 85 9 _ rfl _ _ v2 (conv1g wx g r.around r2 ha.1 ha.2) ?_
        exact cl.out wx 7 rfl _ (Kp.refl _ _) rfl
      · have t7 : (rtF r w.heap.size x).tmps[7]?.getD undef = .string (ustr [b8 r.around]) := HV.out 3 (HA.out ⟨3, .data⟩ (by simp) rfl)
        unfold Oper.wp execOp
        go_simp
        exact cl.out wx 8 rfl _ (Kp.refl _ _) rfl
      · unfold Oper.wp execOp
        go_simp
        exact cl.out wx 9 rfl _ (Kp.refl _ _) rfl
      · have v5 : x 9 = _ := HV.out 5 (HA.out ⟨5, .data⟩ (by simp) rfl)
        refine wp_load_at 46 _ rfl w.heap.size 1 v5 (bv r.births) (fun j v h => by rw [cell_of_row _ _ _ _ _ _ R0.out]; exact RB.out j v h) _ Tryd.underlying46 rfl (by rw [info_set, bv_size, hr.1]) ?_
        exact cl.out wx 10 rfl _ (Kp.refl _ _) rfl
      · have t10 : (rtF r w.heap.size x).tmps[10]?.getD undef = .agg (bv r.births) := HV.out 6 (HA.out ⟨6, .data⟩ (by simp) rfl)
        unfold Oper.wp execOp
        go_simp
        refine (L1.out wx (HT.out.keep K0.out)).mono ?_
        rintro e wy ⟨rfl, ky⟩
        exact cl.out wy 11 rfl _ ky rfl
      · have t8 : (rtF r w.heap.size x).tmps[8]?.getD undef = .string (ustr [b8 r.around] ++ ustr [66]) := HV.out 4 (HA.out ⟨4, .data⟩ (by simp) rfl)
        have t11 : (rtF r w.heap.size x).tmps[11]?.getD undef = .string S1 := HV.out 7 (HA.out ⟨7, .data⟩ (by simp) rfl)
        unfold Oper.wp execOp
        go_simp
        rw [if_neg (by omega)]
        exact cl.out wx 12 rfl _ (Kp.refl _ _) rfl
      · have t12 : (rtF r w.heap.size x).tmps[12]?.getD undef = .string (ustr [b8 r.around] ++ ustr [66] ++ S1) := HV.out 8 (HA.out ⟨8, .data⟩ (by simp) rfl)
        unfold Oper.wp execOp
        go_simp
        rw [if_neg (by omega)]
        exact cl.out wx 13 rfl _ (Kp.refl _ _) rfl
      · unfold Oper.wp execOp
        go_simp
        exact cl.out wx 14 rfl _ (Kp.refl _ _) rfl
      · have v10 : x 14 = _ := HV.out 10 (HA.out ⟨10, .data⟩ (by simp) rfl)
        refine wp_load_at 46 _ rfl w.heap.size 10 v10 (bv r.survivals) (fun j v h => by rw [cell_of_row _ _ _ _ _ _ R0.out]; exact RS.out j v h) _ Tryd.underlying46 rfl (by rw [info_set, bv_size, hr.2]) ?_
        exact cl.out wx 15 rfl _ (Kp.refl _ _) rfl
      · have t15 : (rtF r w.heap.size x).tmps[15]?.getD undef = .agg (bv r.survivals) := HV.out 11 (HA.out ⟨11, .data⟩ (by simp) rfl)
        unfold Oper.wp execOp
        go_simp
        refine (L2.out wx (HT.out.keep K0.out)).mono ?_
        rintro e wy ⟨rfl, ky⟩
        exact cl.out wy 16 rfl _ ky rfl
      · have t13 : (rtF r w.heap.size x).tmps[13]?.getD undef = .string (ustr [b8 r.around] ++ ustr [66] ++ S1 ++ ustr [47, 83]) := HV.out 9 (HA.out ⟨9, .data⟩ (by simp) rfl)
        have t16 : (rtF r w.heap.size x).tmps[16]?.getD undef = .string S2 := HV.out 12 (HA.out ⟨12, .data⟩ (by simp) rfl)
        unfold Oper.wp execOp
        go_simp
        rw [if_neg (by omega)]
        exact cl.out wx 17 rfl _ (Kp.refl _ _) rfl
      · have t17 : (rtF r w.heap.size x).tmps[17]?.getD undef = .string (ustr [b8 r.around] ++ ustr [66] ++ S1 ++ ustr [47, 83] ++ S2) := HV.out 13 (HA.out ⟨13, .data⟩ (by simp) rfl)
        unfold Oper.wp execOp
        go_simp
        exact cl.out wx 3 rfl _ (Kp.refl _ _) rfl
    · rintro listed a wx ⟨x, rfl, kx, hv⟩ hall
      have v3 : x 3 = _ := hv 14 (hall 14 (by simp))
      unfold rtF
      rw [v3]
      go_wp2_with fail
      go_meet
      case rel => exact ⟨rfl, kx⟩
    · exact ⟨fun _ => undef, rfl, (Kp.refl _ _).drewN 1, fun i hi => absurd hi (by simp only [Array.getD_eq_getD_getElem?, Array.getElem?_replicate]; split <;> simp)⟩
  case rest =>
    obtain ⟨rfl, kc⟩ := hcut
    have KC : Hid (Kp (fun _ => False) w wc) := ((Kp.refl _ _).alloc _).trans kc
    have R0 : Hid (wc.heap[w.heap.size]? = some (.cells (rulev r) 48 (0, 0))) := kc.row (heap_alloc_new _ _) (fun hx => hx)
    have c19 : wc.cell? ⟨w.heap.size, 19, none⟩ = some (.int .i64 r.states) := by rw [cell_of_row _ _ 19 _ _ _ R0.out]; exact rulev_states hr
    have LI := hide (fun (wx : World) (hx : Tab wx) => itoa_any r.states wx hx (by omega) (by omega))
    have z6 := itoa_len r.states
    rw [← ustr_size] at z6
    clear kc
    have z7 : (ustr [47]).size = 1 := rfl
    by_cases h2 : 2 < r.states
    · have E1 := hide (T1.out h2)
      generalize ustr (Lib.itoa r.states) = A at *
      go_wp2_with fail
      refine (LI.out _ (HT.out.keep KC.out)).mono ?_
      rintro e w4 ⟨rfl, k4⟩
      have K4 := hide (KC.out.trans k4)
      clear k4
      go_wp2_with fail
      go_ret
      exact ⟨by rw [E1.out]; rfl, K4.out⟩
    · have E1 := hide (T2.out h2)
      go_wp2_with fail
      go_ret
      exact ⟨by rw [E1.out]; rfl, KC.out⟩
end Go.Proofs.YtbdbkjngdhcjpaaDoor
