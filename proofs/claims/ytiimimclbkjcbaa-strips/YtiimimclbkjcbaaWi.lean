import Derived.Test.YtiimimclbkjcbaaM4
namespace Go.Proofs.Ytiimimclbkjcbaa
open Go.RowKit
open Go.Proofs

/-- The cells of a rule. -/
def rulev (r : Pu.Rule) : Array Value := #[.int .u8 r.around] ++ bv r.births ++ bv r.survivals ++ #[.int .i64 r.states]
def zrule : Pu.Rule := ⟨0, Pu.noSet, Pu.noSet, 0⟩
theorem info_rule : (Try.prog.info? 56).map (·.size) = some 20 := by kernel_rfl
def RuleOk (r : Pu.Rule) : Prop := r.births.length = 9 ∧ r.survivals.length = 9
theorem rulev_size {r : Pu.Rule} (h : RuleOk r) : (rulev r).size = 20 := by
  simp [rulev, bv_size, h.1, h.2]
theorem rulev_one (r : Pu.Rule) : (rulev r).all (·.oneCell') = true := by
  unfold rulev
  rw [Array.all_append, Array.all_append, Array.all_append, bv_one, bv_one]
  simp [Value.oneCell']
/-- What a call that reads a rule hands back. -/
def RuleRet (e : Ending) (o : Option Pu.Rule) : Prop := ∃ x : Pu.Rule, e = .returned (.tuple #[.agg (rulev x), .bool o.isSome]) ∧ RuleOk x ∧ ∀ a, o = some a → x = a
theorem build_rule0 (w : World) : (Instr.build 56 #[]).run Try.prog w = .ok (.agg (rulev zrule)) w := by kernel_rfl
theorem nine (l : List Bool) (h : l.length = 9) : ∃ b0 b1 b2 b3 b4 b5 b6 b7 b8, l = [b0, b1, b2, b3, b4, b5, b6, b7, b8] := by
  match l, h with
  | [b0, b1, b2, b3, b4, b5, b6, b7, b8], _ => exact ⟨b0, b1, b2, b3, b4, b5, b6, b7, b8, rfl⟩
theorem wpList_build_is {P : Program} {ops : Array Oper} {rest : List Oper} {o : Oper} {a : Act} {w : World} {Q : Exit → Act → World → Prop} (hg : o.guard = none) (t : TypeId) (parts : Array (Nat × Operand)) (ho : o.op = .build t parts)
    (cells : Array Value) (hf : P.built t (parts.map fun (i, x) => (i, a.eval x)).toList = some cells)
    (h : wpList P ops Q rest (a.put o.dst (.agg cells)) w) : wpList P ops Q (o :: rest) a w :=
  wpList_build hg t parts ho (by rw [hf]; rfl) (by rw [hf]; exact h)
theorem built_rule9 (a c : Int) (b0 b1 b2 b3 b4 b5 b6 b7 b8 s0 s1 s2 s3 s4 s5 s6 s7 s8 : Bool) :
    Try.prog.built 56 [(0, .int .u8 a), (1, .agg (bv [b0, b1, b2, b3, b4, b5, b6, b7, b8])), (2, .agg (bv [s0, s1, s2, s3, s4, s5, s6, s7, s8])), (3, .int .i64 c)] =
      some (rulev ⟨a, [b0, b1, b2, b3, b4, b5, b6, b7, b8], [s0, s1, s2, s3, s4, s5, s6, s7, s8], c⟩) := by kernel_rfl
theorem built_rule (a c : Int) (l m : List Bool) (hl : l.length = 9) (hm : m.length = 9) :
    Try.prog.built 56 [(0, .int .u8 a), (1, .agg (bv l)), (2, .agg (bv m)), (3, .int .i64 c)] = some (rulev ⟨a, l, m, c⟩) := by
  obtain ⟨b0, b1, b2, b3, b4, b5, b6, b7, b8, rfl⟩ := nine l hl
  obtain ⟨s0, s1, s2, s3, s4, s5, s6, s7, s8, rfl⟩ := nine m hm
  exact built_rule9 a c b0 b1 b2 b3 b4 b5 b6 b7 b8 s0 s1 s2 s3 s4 s5 s6 s7 s8
theorem lets_rule : lets ⟨#[77, 86, 72]⟩ = [77, 86, 72] := by decide
theorem neighbours_bd (a : Int) : 0 ≤ Pu.neighbours a ∧ Pu.neighbours a ≤ 8 := by
  unfold Pu.neighbours; split
  · omega
  · split
    · omega
    · split <;> omega
theorem zrule_ok : RuleOk zrule := ⟨rfl, rfl⟩
theorem heap_new_keep {w : World} {o : Obj} {g : Nat} {x : Obj} (h : w.heap[g]? = some x) : (w.alloc o).heap[g]? = some x := (Below.heap_alloc w o g (Array.getElem?_eq_some_iff.1 h).1).trans h

set_option maxHeartbeats 2000000 in
set_option maxRecDepth 100000 in
theorem rule_any (b : Nat) (s : ByteArray) (i : Nat) (w : World) (h : RdAt w b s i) (j : Nat) (o : Option Pu.Rule) (hq : Hid (Pu.rule (src s) i = (j, o))) :
    Calls Try.prog 69 #[.pointer (some ⟨b, 0, none⟩)] w fun e w' => RuleRet e o ∧ RdAt w' b s j ∧ Kp (· = b) w w' := by
  have hb := h.lt
  have H := hide (h.alloc (.cells (rulev zrule) 56))
  clear h
  have bu0 := build_rule0
  have hq' := hq.out
  unfold Pu.rule at hq'
  rcases hl : Pu.letter [77, 86, 72] (src s) i with ⟨j1, _ | k⟩
  · rw [bnd_none hl] at hq'
    obtain ⟨rfl, rfl⟩ := Prod.mk.inj hq'
    rw [← lets_rule] at hl
    have HL := hide hl
    clear hq hq' hl
    go_enter Try.func69, Try.ntmps69
    go_wp2_with fail
    refine (letter_any b s i ⟨#[77, 86, 72]⟩ _ H.out (by decide) j1 none HL).mono ?_
    rintro e w1 ⟨⟨x, rfl, hx⟩, r1, k1⟩
    clear hx
    have A1 := hide (k1.row (g := w.heap.size) (heap_alloc_new w (.cells (rulev zrule) 56)) (by omega))
    have K1 := hide (((Kp.refl (· = b) w).alloc _).trans k1)
    have R1 := hide r1
    clear k1 r1
    go_wp2_with (refine wpList_store_row rfl 56 _ _ rfl w.heap.size (rulev zrule) rfl rfl 56 (rulev zrule) A1.out info_rule rfl (rulev_one _) ?_)
    exact bodyPost_ret (v := .tuple #[.agg (rulev zrule), .bool false]) (results_row_tmp Try.results69 _ _ w.heap.size 56 _ (0, 0) _ rfl (setRow_heap _ _ _ _ _ _ A1.out) Try.underlying56 rfl info_rule) rfl
      ⟨⟨_, rfl, zrule_ok, fun a ha => by simp at ha⟩, R1.out.setRow (by omega) _, K1.out.setRowNew (Nat.le_refl _) _⟩
  · have hkm : k ∈ [(77 : Int), 86, 72] := by
      unfold Pu.letter at hl
      split at hl
      · rename_i hm
        have := Option.some.inj (Prod.mk.inj hl).2
        rwa [this] at hm
      · simp at hl
    have hkb : 0 ≤ k ∧ k ≤ 255 := by simp at hkm; omega
    rw [bnd_some hl] at hq'
    have HQ := hide hq'
    rw [← lets_rule] at hl
    have HL := hide hl
    clear hq hq' hl hkm
    go_enter Try.func69, Try.ntmps69
    go_wp2_with fail
    refine (letter_any b s i ⟨#[77, 86, 72]⟩ _ H.out (by decide) j1 (some k) HL).mono ?_
    rintro e w1 ⟨⟨x, rfl, hx⟩, r1, k1⟩
    obtain rfl := hx k rfl
    clear hx
    have A1 := hide (k1.row (g := w.heap.size) (heap_alloc_new w (.cells (rulev zrule) 56)) (by omega))
    have K1 := hide (((Kp.refl (· = b) w).alloc _).trans k1)
    have R1 := hide r1
    clear k1 r1 HL
    by_cases e : src s j1 = 66
    · have hq2 := HQ.out
      rw [bnd_some (show Pu.take 66 (src s) j1 = (j1 + 1, some ()) by unfold Pu.take; rw [if_pos e])] at hq2
      obtain ⟨j3, bs, hset, hbs⟩ := set_some (Pu.neighbours x) (src s) (j1 + 1)
      rw [bnd_some hset] at hq2
      have HQ2 := hide hq2
      have E := hide e
      have HSET := hide hset
      have HBS := hide hbs
      clear e hq2 HQ hset hbs
      have hnb := neighbours_bd x
      go_wp2_with fail
      refine (take_yes R1.out (by omega) E.out).mono ?_
      rintro e w2 ⟨rfl, r2, k2⟩
      have A2 := hide (k2.row A1.out (by omega))
      have K2 := hide (K1.out.trans k2)
      have R2 := hide r2
      clear k2 r2
      go_wp2_with fail
      refine (neighbours_any x _ hkb.1 hkb.2).mono ?_
      rintro e w3 ⟨rfl, hw⟩
      subst w3
      go_wp2_with fail
      refine (set_any b s (j1 + 1) (Pu.neighbours x) _ R2.out hnb.1 hnb.2 j3 bs HSET).mono ?_
      rintro e w4 ⟨rfl, r4, k4⟩
      have s4 := k4.size
      have s2 := K2.out.size
      have A4 := hide (k4.row A2.out (by omega))
      have K4 := hide (K2.out.trans k4)
      have R4 := hide r4
      clear k4 r4
      go_wp2_with (refine wpList_store_row rfl 54 _ _ rfl w4.heap.size (bv bs) rfl rfl 54 (bv Pu.noSet) (heap_alloc_new _ _) (by rw [info_set, bv_size, HBS.out]) (by rw [bv_size, bv_size, HBS.out]; rfl) (bv_one _) ?_)
      have l4 : w.heap.size < w4.heap.size := (Array.getElem?_eq_some_iff.1 A4.out).1
      have A5 : Hid (((w4.alloc (.cells (bv Pu.noSet) 54)).setRow w4.heap.size (bv bs)).heap[w.heap.size]? = some (.cells (rulev zrule) 56 (0, 0))) := (setRow_other _ _ _ _ (by omega)).trans (heap_new_keep A4.out)
      have B5 : Hid (((w4.alloc (.cells (bv Pu.noSet) 54)).setRow w4.heap.size (bv bs)).heap[w4.heap.size]? = some (.cells (bv bs) 54 (0, 0))) := setRow_heap _ _ _ _ _ _ (heap_alloc_new _ _)
      have R5 : Hid (RdAt ((w4.alloc (.cells (bv Pu.noSet) 54)).setRow w4.heap.size (bv bs)) b s j3) := (R4.out.alloc _).setRow (by omega) _
      have K5 : Hid (Kp (· = b) w ((w4.alloc (.cells (bv Pu.noSet) 54)).setRow w4.heap.size (bv bs))) := (K4.out.alloc _).setRowNew (by omega) _
      have z5 : ((w4.alloc (.cells (bv Pu.noSet) 54)).setRow w4.heap.size (bv bs)).heap.size = w4.heap.size + 1 := by simp
      have z5' : w4.heap.size < ((w4.alloc (.cells (bv Pu.noSet) 54)).setRow w4.heap.size (bv bs)).heap.size := by omega
      clear z5
      by_cases e : src s j3 = 47
      · have hq3 := HQ2.out
        rw [bnd_some (show Pu.take 47 (src s) j3 = (j3 + 1, some ()) by unfold Pu.take; rw [if_pos e])] at hq3
        have HQ3 := hide hq3
        have E := hide e
        clear e hq3 HQ2
        refine (take_yes R5.out (by omega) E.out).mono ?_
        rintro e w6 ⟨rfl, r6, k6⟩
        have z6 := k6.size
        have A6 := hide (k6.row A5.out (by omega))
        have B6 := hide (k6.row B5.out (by omega))
        have K6 := hide (K5.out.trans k6)
        have R6 := hide r6
        clear k6 r6
        by_cases e : src s (j3 + 1) = 83
        · have hq4 := HQ3.out
          rw [bnd_some (show Pu.take 83 (src s) (j3 + 1) = (j3 + 1 + 1, some ()) by unfold Pu.take; rw [if_pos e])] at hq4
          obtain ⟨j7, ss, hset, hss⟩ := set_some (Pu.neighbours x) (src s) (j3 + 1 + 1)
          rw [bnd_some hset] at hq4
          have HQ4 := hide hq4
          have E := hide e
          have HSET2 := hide hset
          have HSS := hide hss
          clear e hq4 HQ3 hset hss
          go_wp2_with fail
          refine (take_yes R6.out (by omega) E.out).mono ?_
          rintro e w7 ⟨rfl, r7, k7⟩
          have z7 := k7.size
          have A7 := hide (k7.row A6.out (by omega))
          have B7 := hide (k7.row B6.out (by omega))
          have K7 := hide (K6.out.trans k7)
          have R7 := hide r7
          clear k7 r7
          go_wp2_with fail
          refine (set_any b s (j3 + 1 + 1) (Pu.neighbours x) _ R7.out hnb.1 hnb.2 j7 ss HSET2).mono ?_
          rintro e w8 ⟨rfl, r8, k8⟩
          have z8 := k8.size
          have A8 := hide (k8.row A7.out (by omega))
          have B8 := hide (k8.row B7.out (by omega))
          have K8 := hide (K7.out.trans k8)
          have R8 := hide r8
          clear k8 r8
          have hlt8 : w4.heap.size < w8.heap.size := by omega
          go_wp2_with (refine wpList_store_row rfl 54 _ _ rfl w8.heap.size (bv ss) rfl rfl 54 (bv Pu.noSet) (heap_alloc_new _ _) (by rw [info_set, bv_size, HSS.out]) (by rw [bv_size, bv_size, HSS.out]; rfl) (bv_one _) ?_)
          have A9 : Hid (((w8.alloc (.cells (bv Pu.noSet) 54)).setRow w8.heap.size (bv ss)).heap[w.heap.size]? = some (.cells (rulev zrule) 56 (0, 0))) := (setRow_other _ _ _ _ (by omega)).trans (heap_new_keep A8.out)
          have B9 : Hid (((w8.alloc (.cells (bv Pu.noSet) 54)).setRow w8.heap.size (bv ss)).heap[w4.heap.size]? = some (.cells (bv bs) 54 (0, 0))) := (setRow_other _ _ _ _ (by omega)).trans (heap_new_keep B8.out)
          have C9 : Hid (((w8.alloc (.cells (bv Pu.noSet) 54)).setRow w8.heap.size (bv ss)).heap[w8.heap.size]? = some (.cells (bv ss) 54 (0, 0))) := setRow_heap _ _ _ _ _ _ (heap_alloc_new _ _)
          have R9 : Hid (RdAt ((w8.alloc (.cells (bv Pu.noSet) 54)).setRow w8.heap.size (bv ss)) b s j7) := (R8.out.alloc _).setRow (by omega) _
          have K9 : Hid (Kp (· = b) w ((w8.alloc (.cells (bv Pu.noSet) 54)).setRow w8.heap.size (bv ss))) := (K8.out.alloc _).setRowNew (by omega) _
          rcases hst : Pu.states (src s) j7 with ⟨j8, o8⟩
          have HST := hide hst
          have HO : Hid (j = j8 ∧ o = o8.map fun c => ⟨x, bs, ss, c⟩) := by
            have hq5 := HQ4.out
            cases o8 with
            | none =>
              rw [bnd_none hst] at hq5
              exact ⟨(Prod.mk.inj hq5).1.symm, (Prod.mk.inj hq5).2.symm⟩
            | some c =>
              rw [bnd_some hst] at hq5
              exact ⟨(Prod.mk.inj hq5).1.symm, (Prod.mk.inj hq5).2.symm⟩
          clear hst HQ4
          refine (states_any b s j7 _ R9.out j8 o8 HST).mono ?_
          rintro e w10 ⟨⟨c, rfl, hc⟩, r10, k10⟩
          have HC := hide hc
          have A10 := hide (k10.row A9.out (by omega))
          have B10 := hide (k10.row B9.out (by omega))
          have C10 := hide (k10.row C9.out (by omega))
          have K10 := hide (K9.out.trans k10)
          have R10 := hide r10
          clear k10 r10 hc
          go_wp2_with (first
            | (refine wpList_load_row rfl 54 _ rfl w4.heap.size rfl 54 (bv bs) (0, 0) _ B10.out Try.underlying54 rfl (by rw [info_set, bv_size, HBS.out]) ?_)
            | (refine wpList_load_row rfl 54 _ rfl w8.heap.size rfl 54 (bv ss) (0, 0) _ C10.out Try.underlying54 rfl (by rw [info_set, bv_size, HSS.out]) ?_)
            | (refine wpList_build_is rfl 56 _ rfl (rulev ⟨x, bs, ss, c⟩) (by simp [Act.eval]; exact built_rule x c bs ss HBS.out HSS.out) ?_)
            | (refine wpList_store_row rfl 56 _ _ rfl w.heap.size (rulev ⟨x, bs, ss, c⟩) rfl rfl 56 (rulev zrule) A10.out (by rw [info_rule, rulev_size (r := ⟨x, bs, ss, c⟩) ⟨HBS.out, HSS.out⟩]) (by rw [rulev_size (r := ⟨x, bs, ss, c⟩) ⟨HBS.out, HSS.out⟩]; rfl) (rulev_one _) ?_))
          obtain ⟨rfl, rfl⟩ := HO.out
          refine bodyPost_ret (v := .tuple #[.agg (rulev ⟨x, bs, ss, c⟩), .bool o8.isSome]) (results_row_tmp Try.results69 _ _ w.heap.size 56 (rulev ⟨x, bs, ss, c⟩) (0, 0) _ rfl (setRow_heap _ _ _ _ _ _ A10.out) Try.underlying56 rfl (by rw [info_rule, rulev_size (r := ⟨x, bs, ss, c⟩) ⟨HBS.out, HSS.out⟩])) rfl
            ⟨⟨⟨x, bs, ss, c⟩, by cases o8 <;> rfl, ⟨HBS.out, HSS.out⟩, ?_⟩, R10.out.setRow (by omega) _, K10.out.setRowNew (Nat.le_refl _) _⟩
          intro a ha
          cases o8 with
          | none => simp at ha
          | some c8 => rw [HC.out c8 rfl]; exact Option.some.inj ha
        · have hq4 := HQ3.out
          rw [bnd_none (show Pu.take 83 (src s) (j3 + 1) = (j3 + 1, none) by unfold Pu.take; rw [if_neg e])] at hq4
          obtain ⟨rfl, rfl⟩ := Prod.mk.inj hq4
          have E := hide e
          clear e hq4 HQ3
          go_wp2_with fail
          refine (take_no R6.out (by omega) E.out).mono ?_
          rintro e w7 ⟨rfl, r7, k7⟩
          have A7 := hide (k7.row A6.out (by omega))
          have K7 := hide (K6.out.trans k7)
          have R7 := hide r7
          clear k7 r7
          go_wp2_with (refine wpList_store_row rfl 56 _ _ rfl w.heap.size (rulev zrule) rfl rfl 56 (rulev zrule) A7.out info_rule rfl (rulev_one _) ?_)
          exact bodyPost_ret (v := .tuple #[.agg (rulev zrule), .bool false]) (results_row_tmp Try.results69 _ _ w.heap.size 56 _ (0, 0) _ rfl (setRow_heap _ _ _ _ _ _ A7.out) Try.underlying56 rfl info_rule) rfl
            ⟨⟨_, rfl, zrule_ok, fun a ha => by simp at ha⟩, R7.out.setRow (by omega) _, K7.out.setRowNew (Nat.le_refl _) _⟩
      · have hq3 := HQ2.out
        rw [bnd_none (show Pu.take 47 (src s) j3 = (j3, none) by unfold Pu.take; rw [if_neg e])] at hq3
        obtain ⟨rfl, rfl⟩ := Prod.mk.inj hq3
        have E := hide e
        clear e hq3 HQ2
        refine (take_no R5.out (by omega) E.out).mono ?_
        rintro e w6 ⟨rfl, r6, k6⟩
        have A6 := hide (k6.row A5.out (by omega))
        have K6 := hide (K5.out.trans k6)
        have R6 := hide r6
        clear k6 r6
        go_wp2_with (refine wpList_store_row rfl 56 _ _ rfl w.heap.size (rulev zrule) rfl rfl 56 (rulev zrule) A6.out info_rule rfl (rulev_one _) ?_)
        exact bodyPost_ret (v := .tuple #[.agg (rulev zrule), .bool false]) (results_row_tmp Try.results69 _ _ w.heap.size 56 _ (0, 0) _ rfl (setRow_heap _ _ _ _ _ _ A6.out) Try.underlying56 rfl info_rule) rfl
          ⟨⟨_, rfl, zrule_ok, fun a ha => by simp at ha⟩, R6.out.setRow (by omega) _, K6.out.setRowNew (Nat.le_refl _) _⟩
    · have hq2 := HQ.out
      rw [bnd_none (show Pu.take 66 (src s) j1 = (j1, none) by unfold Pu.take; rw [if_neg e])] at hq2
      obtain ⟨rfl, rfl⟩ := Prod.mk.inj hq2
      have E := hide e
      clear e hq2 HQ
      go_wp2_with fail
      refine (take_no R1.out (by omega) E.out).mono ?_
      rintro e w2 ⟨rfl, r2, k2⟩
      have A2 := hide (k2.row A1.out (by omega))
      have K2 := hide (K1.out.trans k2)
      have R2 := hide r2
      clear k2 r2
      go_wp2_with (refine wpList_store_row rfl 56 _ _ rfl w.heap.size (rulev zrule) rfl rfl 56 (rulev zrule) A2.out info_rule rfl (rulev_one _) ?_)
      exact bodyPost_ret (v := .tuple #[.agg (rulev zrule), .bool false]) (results_row_tmp Try.results69 _ _ w.heap.size 56 _ (0, 0) _ rfl (setRow_heap _ _ _ _ _ _ A2.out) Try.underlying56 rfl info_rule) rfl
        ⟨⟨_, rfl, zrule_ok, fun a ha => by simp at ha⟩, R2.out.setRow (by omega) _, K2.out.setRowNew (Nat.le_refl _) _⟩
end Go.Proofs.Ytiimimclbkjcbaa
