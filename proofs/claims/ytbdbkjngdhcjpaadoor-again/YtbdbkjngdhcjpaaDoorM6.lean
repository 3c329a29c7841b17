import Derived.Test.YtbdbkjngdhcjpaaDoorM5
namespace Go.Proofs.YtbdbkjngdhcjpaaDoor
open Go.RowKit
open Go.Proofs

/-- The cells of a rule. -/
def rulev (r : Pu.Rule) : Array Value := #[.int .u8 r.around] ++ bv r.births ++ bv r.survivals ++ #[.int .i64 r.states]
def zrule : Pu.Rule := ⟨0, Pu.noSet, Pu.noSet, 0⟩
theorem info_rule : (Tryd.prog.info? 48).map (·.size) = some 20 := by kernel_rfl
def RuleOk (r : Pu.Rule) : Prop := r.births.length = 9 ∧ r.survivals.length = 9
theorem rulev_size {r : Pu.Rule} (h : RuleOk r) : (rulev r).size = 20 := by
  simp [rulev, bv_size, h.1, h.2]
theorem rulev_one (r : Pu.Rule) : (rulev r).all (·.oneCell') = true := by
  unfold rulev
  rw [Array.all_append, Array.all_append, Array.all_append, bv_one, bv_one]
  simp [Value.oneCell']
/-- What a call that reads a rule hands back. -/
def RuleRet (e : Ending) (o : Option Pu.Rule) : Prop := ∃ x : Pu.Rule, e = .returned (.tuple #[.agg (rulev x), .bool o.isSome]) ∧ RuleOk x ∧ ∀ a, o = some a → x = a
theorem build_rule0 (w : World) : (Instr.build 48 #[]).run Tryd.prog w = .ok (.agg (rulev zrule)) w := by kernel_rfl
theorem nine (l : List Bool) (h : l.length = 9) : ∃ b0 b1 b2 b3 b4 b5 b6 b7 b8, l = [b0, b1, b2, b3, b4, b5, b6, b7, b8] := by
  match l, h with
  | [b0, b1, b2, b3, b4, b5, b6, b7, b8], _ => exact ⟨b0, b1, b2, b3, b4, b5, b6, b7, b8, rfl⟩
theorem wpList_build_is {P : Program} {ops : Array Oper} {rest : List Oper} {o : Oper} {a : Act} {w : World} {Q : Exit → Act → World → Prop} (hg : o.guard = none) (t : TypeId) (parts : Array (Nat × Operand)) (ho : o.op = .build t parts)
    (cells : Array Value) (hf : P.built t (parts.map fun (i, x) => (i, a.eval x)).toList = some cells)
    (h : wpList P ops Q rest (a.put o.dst (.agg cells)) w) : wpList P ops Q (o :: rest) a w :=
  wpList_build hg t parts ho (by rw [hf]; rfl) (by rw [hf]; exact h)
theorem built_rule9 (a c : Int) (b0 b1 b2 b3 b4 b5 b6 b7 b8 s0 s1 s2 s3 s4 s5 s6 s7 s8 : Bool) :
    Tryd.prog.built 48 [(0, .int .u8 a), (1, .agg (bv [b0, b1, b2, b3, b4, b5, b6, b7, b8])), (2, .agg (bv [s0, s1, s2, s3, s4, s5, s6, s7, s8])), (3, .int .i64 c)] =
      some (rulev ⟨a, [b0, b1, b2, b3, b4, b5, b6, b7, b8], [s0, s1, s2, s3, s4, s5, s6, s7, s8], c⟩) := by kernel_rfl
theorem built_rule (a c : Int) (l m : List Bool) (hl : l.length = 9) (hm : m.length = 9) :
    Tryd.prog.built 48 [(0, .int .u8 a), (1, .agg (bv l)), (2, .agg (bv m)), (3, .int .i64 c)] = some (rulev ⟨a, l, m, c⟩) := by
  obtain ⟨b0, b1, b2, b3, b4, b5, b6, b7, b8, rfl⟩ := nine l hl
  obtain ⟨s0, s1, s2, s3, s4, s5, s6, s7, s8, rfl⟩ := nine m hm
  exact built_rule9 a c b0 b1 b2 b3 b4 b5 b6 b7 b8 s0 s1 s2 s3 s4 s5 s6 s7 s8
theorem lets_rule : lets ⟨#[77, 86, 72]⟩ = [77, 86, 72] := by decide
theorem neighbours_bd (a : Int) : 0 ≤ Pu.neighbours a ∧ Pu.neighbours a ≤ 8 := by
  unfold Pu.neighbours; split
  · omega
  · split
    · omega
    · split <;> omega
theorem zrule_ok : RuleOk zrule := ⟨rfl, rfl⟩
theorem heap_new_keep {w : World} {o : Obj} {g : Nat} {x : Obj} (h : w.heap[g]? = some x) : (w.alloc o).heap[g]? = some x := (Below.heap_alloc w o g (Array.getElem?_eq_some_iff.1 h).1).trans h

set_option maxHeartbeats 2000000 in
set_option maxRecDepth 100000 in
theorem rule_any (b : Nat) (s : ByteArray) (i : Nat) (w : World) (h : RdAt w b s i) (j : Nat) (o : Option Pu.Rule) (hq : Hid (Pu.rule (src s) i = (j, o))) :
    Calls Tryd.prog 92 #[.pointer (some ⟨b, 0, none⟩)] w fun e w' => RuleRet e o ∧ RdAt w' b s j ∧ Kp (· = b) w w' := by
  have hb := h.lt
  have H := hide (h.alloc (.cells (rulev zrule) 48))
  clear h
  have bu0 := build_rule0
  have hq' := hq.out
  unfold Pu.rule at hq'
  rcases hl : Pu.letter [77, 86, 72] (src s) i with ⟨j1, _ | k⟩
  · rw [bnd_none hl] at hq'
    obtain ⟨rfl, rfl⟩ := Prod.mk.inj hq'
    rw [← lets_rule] at hl
    have HL := hide hl
    clear hq hq' hl
    go_enter Tryd.func92, Tryd.ntmps92
    go_wp2_with fail
    refine (letter_any b s i ⟨#[77, 86, 72]⟩ _ H.out (by decide) j1 none HL).mono ?_
    rintro e w1 ⟨⟨x, rfl, hx⟩, r1, k1⟩
    clear hx
    have A1 := hide (k1.row (g := w.heap.size) (heap_alloc_new w (.cells (rulev zrule) 48)) (by omega))
    have K1 := hide (((Kp.refl (· = b) w).alloc _).trans k1)
    have R1 := hide r1
    clear k1 r1
    go_wp2_with (refine wpList_store_row rfl 48 _ _ rfl w.heap.size (rulev zrule) rfl rfl 48 (rulev zrule) A1.out info_rule rfl (rulev_one _) ?_)
    exact bodyPost_ret (v := .tuple #[.agg (rulev zrule), .bool false]) (results_row_tmp Tryd.results92 _ _ w.heap.size 48 _ (0, 0) _ rfl (setRow_heap _ _ _ _ _ _ A1.out) Tryd.underlying48 rfl info_rule) rfl
      ⟨⟨_, rfl, zrule_ok, fun a ha => by simp at ha⟩, R1.out.setRow (by omega) _, K1.out.setRowNew (Nat.le_refl _) _⟩
  · have hkm : k ∈ [(77 : Int), 86, 72] := by
      unfold Pu.letter at hl
      split at hl
      · rename_i hm
        have := Option.some.inj (Prod.mk.inj hl).2
        rwa [this] at hm
      · simp at hl
    have hkb : 0 ≤ k ∧ k ≤ 255 := by simp at hkm; omega
    rw [bnd_some hl] at hq'
    have HQ := hide hq'
    rw [← lets_rule] at hl
    have HL := hide hl
    clear hq hq' hl hkm
    go_enter Tryd.func92, Tryd.ntmps92
    go_wp2_with fail
    refine (letter_any b s i ⟨#[77, 86, 72]⟩ _ H.out (by decide) j1 (some k) HL).mono ?_
    rintro e w1 ⟨⟨x, rfl, hx⟩, r1, k1⟩
    obtain rfl := hx k rfl
    clear hx
    have A1 := hide (k1.row (g := w.heap.size) (heap_alloc_new w (.cells (rulev zrule) 48)) (by omega))
    have K1 := hide (((Kp.refl (· = b) w).alloc _).trans k1)
    have R1 := hide r1
    clear k1 r1 HL
    by_cases e : src s j1 = 66
    · have hq2 := HQ.out
      rw [bnd_some (show Pu.take 66 (src s) j1 = (j1 + 1, some ()) by unfold Pu.take; rw [if_pos e])] at hq2
      obtain ⟨j3, bs, hset, hbs⟩ := set_some (Pu.neighbours x) (src s) (j1 + 1)
      rw [bnd_some hset] at hq2
      have HQ2 := hide hq2
      have E := hide e
      have HSET := hide hset
      have HBS := hide hbs
      clear e hq2 HQ hset hbs
      have hnb := neighbours_bd x
      go_wp2_with fail
      refine (take_yes R1.out (by omega) E.out).mono ?_
      rintro e w2 ⟨rfl, r2, k2⟩
      have A2 := hide (k2.row A1.out (by omega))
      have K2 := hide (K1.out.trans k2)
      have R2 := hide r2
      clear k2 r2
      go_wp2_with fail
      refine (neighbours_any x _ hkb.1 hkb.2).mono ?_
      rintro e w3 ⟨rfl, hw⟩
      subst w3
      go_wp2_with fail
      refine (set_any b s (j1 + 1) (Pu.neighbours x) _ R2.out hnb.1 hnb.2 j3 bs HSET).mono ?_
      rintro e w4 ⟨rfl, r4, k4⟩
      have s4 := k4.size
      have s2 := K2.out.size
      have A4 := hide (k4.row A2.out (by omega))
      have K4 := hide (K2.out.trans k4)
      have R4 := hide r4
      clear k4 r4
      go_wp2_with (refine wpList_store_row rfl 46 _ _ rfl w4.heap.size (bv bs) rfl rfl 46 (bv Pu.noSet) (heap_alloc_new _ _) (by rw [info_set, bv_size, HBS.out]) (by rw [bv_size, bv_size, HBS.out]; rfl) (bv_one _) ?_)
      have l4 : w.heap.size < w4.heap.size := (Array.getElem?_eq_some_iff.1 A4.out).1
      have A5 : Hid (((w4.alloc (.cells (bv Pu.noSet) 46)).setRow w4.heap.size (bv bs)).heap[w.heap.size]? = some (.cells (rulev zrule) 48 (0, 0))) := (setRow_other _ _ _ _ (by omega)).trans (heap_new_keep A4.out)
      have B5 : Hid (((w4.alloc (.cells (bv Pu.noSet) 46)).setRow w4.heap.size (bv bs)).heap[w4.heap.size]? = some (.cells (bv bs) 46 (0, 0))) := setRow_heap _ _ _ _ _ _ (heap_alloc_new _ _)
      have R5 : Hid (RdAt ((w4.alloc (.cells (bv Pu.noSet) 46)).setRow w4.heap.size (bv bs)) b s j3) := (R4.out.alloc _).setRow (by omega) _
      have K5 : Hid (Kp (· = b) w ((w4.alloc (.cells (bv Pu.noSet) 46)).setRow w4.heap.size (bv bs))) := (K4.out.alloc _).setRowNew (by omega) _
      have z5 : ((w4.alloc (.cells (bv Pu.noSet) 46)).setRow w4.heap.size (bv bs)).heap.size = w4.heap.size + 1 := by simp
      have z5' : w4.heap.size < ((w4.alloc (.cells (bv Pu.noSet) 46)).setRow w4.heap.size (bv bs)).heap.size := by omega
      clear z5
      by_cases e : src s j3 = 47
      · have hq3 := HQ2.out
        rw [bnd_some (show Pu.take 47 (src s) j3 = (j3 + 1, some ()) by unfold Pu.take; rw [if_pos e])] at hq3
        have HQ3 := hide hq3
        have E := hide e
        clear e hq3 HQ2
        refine (take_yes R5.out (by omega) E.out).mono ?_
        rintro e w6 ⟨rfl, r6, k6⟩
        have z6 := k6.size
        have A6 := hide (k6.row A5.out (by omega))
        have B6 := hide (k6.row B5.out (by omega))
        have K6 := hide (K5.out.trans k6)
        have R6 := hide r6
        clear k6 r6
        by_cases e : src s (j3 + 1) = 83
        · have hq4 := HQ3.out
          rw [bnd_some (show Pu.take 83 (src s) (j3 + 1) = (j3 + 1 + 1, some ()) by unfold Pu.take; rw [if_pos e])] at hq4
          obtain ⟨j7, ss, hset, hss⟩ := set_some (Pu.neighbours x) (src s) (j3 + 1 + 1)
          rw [bnd_some hset] at hq4
          have HQ4 := hide hq4
          have E := hide e
          have HSET2 := hide hset
          have HSS := hide hss
          clear e hq4 HQ3 hset hss
          go_wp2_with fail
          refine (take_yes R6.out (by omega) E.out).mono ?_
          rintro e w7 ⟨rfl, r7, k7⟩
          have z7 := k7.size
          have A7 := hide (k7.row A6.out (by omega))
          have B7 := hide (k7.row B6.out (by omega))
          have K7 := hide (K6.out.trans k7)
          have R7 := hide r7
          clear k7 r7
          go_wp2_with fail
          refine (set_any b s (j3 + 1 + 1) (Pu.neighbours x) _ R7.out hnb.1 hnb.2 j7 ss HSET2).mono ?_
          rintro e w8 ⟨rfl, r8, k8⟩
          have z8 := k8.size
          have A8 := hide (k8.row A7.out (by omega))
          have B8 := hide (k8.row B7.out (by omega))
          have K8 := hide (K7.out.trans k8)
          have R8 := hide r8
          clear k8 r8
          have hlt8 : w4.heap.size < w8.heap.size := by omega
          go_wp2_with (refine wpList_store_row rfl 46 _ _ rfl w8.heap.size (bv ss) rfl rfl 46 (bv Pu.noSet) (heap_alloc_new _ _) (by rw [info_set, bv_size, HSS.out]) (by rw [bv_size, bv_size, HSS.out]; rfl) (bv_one _) ?_)
          have A9 : Hid (((w8.alloc (.cells (bv Pu.noSet) 46)).setRow w8.heap.size (bv ss)).heap[w.heap.size]? = some (.cells (rulev zrule) 48 (0, 0))) := (setRow_other _ _ _ _ (by omega)).trans (heap_new_keep A8.out)
          have B9 : Hid (((w8.alloc (.cells (bv Pu.noSet) 46)).setRow w8.heap.size (bv ss)).heap[w4.heap.size]? = some (.cells (bv bs) 46 (0, 0))) := (setRow_other _ _ _ _ (by omega)).trans (heap_new_keep B8.out)
          have C9 : Hid (((w8.alloc (.cells (bv Pu.noSet) 46)).setRow w8.heap.size (bv ss)).heap[w8.heap.size]? = some (.cells (bv ss) 46 (0, 0))) := setRow_heap _ _ _ _ _ _ (heap_alloc_new _ _)
          have R9 : Hid (RdAt ((w8.alloc (.cells (bv Pu.noSet) 46)).setRow w8.heap.size (bv ss)) b s j7) := (R8.out.alloc _).setRow (by omega) _
          have K9 : Hid (Kp (· = b) w ((w8.alloc (.cells (bv Pu.noSet) 46)).setRow w8.heap.size (bv ss))) := (K8.out.alloc _).setRowNew (by omega) _
          rcases hst : Pu.states (src s) j7 with ⟨j8, o8⟩
          have HST := hide hst
          have HO : Hid (j = j8 ∧ o = o8.map fun c => ⟨x, bs, ss, c⟩) := by
            have hq5 := HQ4.out
            cases o8 with
            | none =>
              rw [bnd_none hst] at hq5
              exact ⟨(Prod.mk.inj hq5).1.symm, (Prod.mk.inj hq5).2.symm⟩
            | some c =>
              rw [bnd_some hst] at hq5
              exact ⟨(Prod.mk.inj hq5).1.symm, (Prod.mk.inj hq5).2.symm⟩
          clear hst HQ4
          refine (states_any b s j7 _ R9.out j8 o8 HST).mono ?_
          rintro e w10 ⟨⟨c, rfl, hc⟩, r10, k10⟩
          have HC := hide hc
          have A10 := hide (k10.row A9.out (by omega))
          have B10 := hide (k10.row B9.out (by omega))
          have C10 := hide (k10.row C9.out (by omega))
          have K10 := hide (K9.out.trans k10)
          have R10 := hide r10
          clear k10 r10 hc
          go_wp2_with (first
            | (refine wpList_load_row rfl 46 _ rfl w4.heap.size rfl 46 (bv bs) (0, 0) _ B10.out Tryd.underlying46 rfl (by rw [info_set, bv_size, HBS.out]) ?_)
            | (refine wpList_load_row rfl 46 _ rfl w8.heap.size rfl 46 (bv ss) (0, 0) _ C10.out Tryd.underlying46 rfl (by rw [info_set, bv_size, HSS.out]) ?_)
            | (refine wpList_build_is rfl 48 _ rfl (rulev ⟨x, bs, ss, c⟩) (by simp [Act.eval]; exact built_rule x c bs ss HBS.out HSS.out) ?_)
            | (refine wpList_store_row rfl 48 _ _ rfl w.heap.size (rulev ⟨x, bs, ss, c⟩) rfl rfl 48 (rulev zrule) A10.out (by rw [info_rule, rulev_size (r := ⟨x, bs, ss, c⟩) ⟨HBS.out, HSS.out⟩]) (by rw [rulev_size (r := ⟨x, bs, ss, c⟩) ⟨HBS.out, HSS.out⟩]; rfl) (rulev_one _) ?_))
          obtain ⟨rfl, rfl⟩ := HO.out
          refine bodyPost_ret (v := .tuple #[.agg (rulev ⟨x, bs, ss, c⟩), .bool o8.isSome]) (results_row_tmp Tryd.results92 _ _ w.heap.size 48 (rulev ⟨x, bs, ss, c⟩) (0, 0) _ rfl (setRow_heap _ _ _ _ _ _ A10.out) Tryd.underlying48 rfl (by rw [info_rule, rulev_size (r := ⟨x, bs, ss, c⟩) ⟨HBS.out, HSS.out⟩])) rfl
            ⟨⟨⟨x, bs, ss, c⟩, by cases o8 <;> rfl, ⟨HBS.out, HSS.out⟩, ?_⟩, R10.out.setRow (by omega) _, K10.out.setRowNew (Nat.le_refl _) _⟩
          intro a ha
          cases o8 with
          | none => simp at ha
          | some c8 => rw [HC.out c8 rfl]; exact Option.some.inj ha
        · have hq4 := HQ3.out
          rw [bnd_none (show Pu.take 83 (src s) (j3 + 1) = (j3 + 1, none) by unfold Pu.take; rw [if_neg e])] at hq4
          obtain ⟨rfl, rfl⟩ := Prod.mk.inj hq4
          have E := hide e
          clear e hq4 HQ3
          go_wp2_with fail
          refine (take_no R6.out (by omega) E.out).mono ?_
          rintro e w7 ⟨rfl, r7, k7⟩
          have A7 := hide (k7.row A6.out (by omega))
          have K7 := hide (K6.out.trans k7)
          have R7 := hide r7
          clear k7 r7
          go_wp2_with (refine wpList_store_row rfl 48 _ _ rfl w.heap.size (rulev zrule) rfl rfl 48 (rulev zrule) A7.out info_rule rfl (rulev_one _) ?_)
          exact bodyPost_ret (v := .tuple #[.agg (rulev zrule), .bool false]) (results_row_tmp Tryd.results92 _ _ w.heap.size 48 _ (0, 0) _ rfl (setRow_heap _ _ _ _ _ _ A7.out) Tryd.underlying48 rfl info_rule) rfl
            ⟨⟨_, rfl, zrule_ok, fun a ha => by simp at ha⟩, R7.out.setRow (by omega) _, K7.out.setRowNew (Nat.le_refl _) _⟩
      · have hq3 := HQ2.out
        rw [bnd_none (show Pu.take 47 (src s) j3 = (j3, none) by unfold Pu.take; rw [if_neg e])] at hq3
        obtain ⟨rfl, rfl⟩ := Prod.mk.inj hq3
        have E := hide e
        clear e hq3 HQ2
        refine (take_no R5.out (by omega) E.out).mono ?_
        rintro e w6 ⟨rfl, r6, k6⟩
        have A6 := hide (k6.row A5.out (by omega))
        have K6 := hide (K5.out.trans k6)
        have R6 := hide r6
        clear k6 r6
        go_wp2_with (refine wpList_store_row rfl 48 _ _ rfl w.heap.size (rulev zrule) rfl rfl 48 (rulev zrule) A6.out info_rule rfl (rulev_one _) ?_)
        exact bodyPost_ret (v := .tuple #[.agg (rulev zrule), .bool false]) (results_row_tmp Tryd.results92 _ _ w.heap.size 48 _ (0, 0) _ rfl (setRow_heap _ _ _ _ _ _ A6.out) Tryd.underlying48 rfl info_rule) rfl
          ⟨⟨_, rfl, zrule_ok, fun a ha => by simp at ha⟩, R6.out.setRow (by omega) _, K6.out.setRowNew (Nat.le_refl _) _⟩
    · have hq2 := HQ.out
      rw [bnd_none (show Pu.take 66 (src s) j1 = (j1, none) by unfold Pu.take; rw [if_neg e])] at hq2
      obtain ⟨rfl, rfl⟩ := Prod.mk.inj hq2
      have E := hide e
      clear e hq2 HQ
      go_wp2_with fail
      refine (take_no R1.out (by omega) E.out).mono ?_
      rintro e w2 ⟨rfl, r2, k2⟩
      have A2 := hide (k2.row A1.out (by omega))
      have K2 := hide (K1.out.trans k2)
      have R2 := hide r2
      clear k2 r2
      go_wp2_with (refine wpList_store_row rfl 48 _ _ rfl w.heap.size (rulev zrule) rfl rfl 48 (rulev zrule) A2.out info_rule rfl (rulev_one _) ?_)
      exact bodyPost_ret (v := .tuple #[.agg (rulev zrule), .bool false]) (results_row_tmp Tryd.results92 _ _ w.heap.size 48 _ (0, 0) _ rfl (setRow_heap _ _ _ _ _ _ A2.out) Tryd.underlying48 rfl info_rule) rfl
        ⟨⟨_, rfl, zrule_ok, fun a ha => by simp at ha⟩, R2.out.setRow (by omega) _, K2.out.setRowNew (Nat.le_refl _) _⟩
end Go.Proofs.YtbdbkjngdhcjpaaDoor
namespace Go.Proofs.YtbdbkjngdhcjpaaDoor
open Go.RowKit
open Go.Proofs

/-- Some cells in a row, stored one behind the other. -/
def putCells (w : World) (g : Nat) : Nat → List Value → World
  | _, [] => w
  | k, v :: vs => putCells (w.setCell ⟨g, k, none⟩ v) g (k + 1) vs
def splice (cur : Array Value) : Nat → List Value → Array Value
  | _, [] => cur
  | k, v :: vs => splice (cur.setIfInBounds k v) (k + 1) vs
theorem splice_size (vs : List Value) : ∀ (cur : Array Value) (k : Nat), (splice cur k vs).size = cur.size := by
  induction vs with
  | nil => intro cur k; rfl
  | cons v vs ih => intro cur k; unfold splice; rw [ih]; simp
theorem splice_get (vs : List Value) : ∀ (cur : Array Value) (k m : Nat), k + vs.length ≤ cur.size → (splice cur k vs)[m]? = if m < k then cur[m]? else if m < k + vs.length then vs[m - k]? else cur[m]? := by
  induction vs with
  | nil =>
    intro cur k m _
    simp only [splice, List.length_nil, Nat.add_zero]
    by_cases h : m < k
    · rw [if_pos h]
    · rw [if_neg h, if_neg h]
  | cons v vs ih =>
    intro cur k m h
    simp only [List.length_cons] at h
    unfold splice
    rw [ih _ _ _ (by simp; omega)]
    by_cases h1 : m < k
    · rw [if_pos h1, if_pos (by omega)]
      rw [Array.getElem?_setIfInBounds_ne (by omega)]
    · rw [if_neg h1]
      by_cases h2 : m = k
      · subst h2
        rw [if_pos (by omega), if_pos (by simp)]
        rw [Array.getElem?_setIfInBounds_self_of_lt (by omega)]
        simp
      · rw [if_neg (show ¬ m < k + 1 by omega)]
        by_cases h3 : m < k + (vs.length + 1)
        · rw [if_pos (show m < k + 1 + vs.length by omega), List.length_cons, if_pos h3]
          rw [show m - k = (m - (k + 1)) + 1 by omega]
          rfl
        · rw [if_neg (show ¬ m < k + 1 + vs.length by omega), List.length_cons, if_neg h3]
          rw [Array.getElem?_setIfInBounds_ne (by omega)]
theorem putCells_row (vs : List Value) : ∀ (w : World) (g k : Nat) (cur : Array Value) (t : TypeId), w.heap[g]? = some (.cells cur t (0, 0)) → (putCells w g k vs).heap[g]? = some (.cells (splice cur k vs) t (0, 0)) := by
  induction vs with
  | nil => intro w g k cur t h; exact h
  | cons v vs ih => intro w g k cur t h; exact ih _ _ _ _ _ (heap_setCell_same w g k cur t v h)
theorem putCells_other (vs : List Value) : ∀ (w : World) (g k m : Nat), m ≠ g → (putCells w g k vs).heap[m]? = w.heap[m]? := by
  induction vs with
  | nil => intro w g k m _; rfl
  | cons v vs ih => intro w g k m h; exact (ih _ _ _ _ h).trans (heap_setCell_other _ _ _ _ h)
theorem putCells_kp (vs : List Value) : ∀ {S : Nat → Prop} {a w : World} (g k : Nat), Kp S a w → S g → Kp S a (putCells w g k vs) := by
  induction vs with
  | nil => intro S a w g k h _; exact h
  | cons v vs ih => intro S a w g k h hs; exact ih _ _ (h.setCell hs v) hs
theorem putCells_new (vs : List Value) : ∀ {S : Nat → Prop} {a w : World} (g k : Nat), Kp S a w → a.heap.size ≤ g → Kp S a (putCells w g k vs) := by
  induction vs with
  | nil => intro S a w g k h _; exact h
  | cons v vs ih => intro S a w g k h hs; exact ih _ _ (h.setNew hs v) hs

theorem run_storeCells_at {P : Program} (g : Nat) (t : TypeId) (off : Nat) : ∀ (vs : List Value) (i : Nat) (cur : Array Value) (w : World), w.heap[g]? = some (.cells cur t (0, 0)) → off + i + vs.length ≤ cur.size → (∀ v ∈ vs, v.oneCell' = true) →
    (storeCells ⟨g, off, none⟩ vs i).run P w = .ok () (putCells w g (off + i) vs)
  | [], i, cur, w, _, _, _ => rfl
  | v :: rest, i, cur, w, hg, hl, h1 => by
    have hi : off + i < cur.size := by simp at hl; omega
    have hadd : (⟨g, off, none⟩ : Addr).add i = ⟨g, off + i, none⟩ := by unfold Addr.add; split <;> simp_all
    have hcell : w.cell? ⟨g, off + i, none⟩ = some cur[off + i] := by simp [World.cell?, hg, hi]
    have hfro : w.frozen? ⟨g, off + i, none⟩ = false := by simp [World.frozen?, hg]
    have hst : (store ((⟨g, off, none⟩ : Addr).add i) v).run P w = .ok () (w.setCell ⟨g, off + i, none⟩ v) := by
      rw [hadd, run_store P w _ v _ (h1 v (by simp)), hcell]
      simp [hfro]
    have ih := run_storeCells_at (P := P) g t off rest (i + 1) (cur.setIfInBounds (off + i) v) (w.setCell ⟨g, off + i, none⟩ v) (heap_setCell_same w g (off + i) cur t v hg) (by simp at hl ⊢; omega) (fun x hx => h1 x (by simp [hx]))
    simp only [storeCells, Sem.run_bind, hst, Result.andThen_ok, ih]
    rfl

theorem wpList_store_at {P : Program} {ops : Array Oper} {rest : List Oper} {o : Oper} {a : Act} {w : World} {Q : Exit → Act → World → Prop} (hgd : o.guard = none) (ty : TypeId) (x y : Operand) (ho : o.op = .store ty x y)
    (g off : Nat) (cells : Array Value) (hx : a.eval x = .pointer (some ⟨g, off, none⟩)) (hy : a.eval y = .agg cells)
    (t : TypeId) (old : Array Value) (hg : w.heap[g]? = some (.cells old t (0, 0))) (hi : (P.info? ty).map (·.size) = some cells.size)
    (hold : off + cells.size ≤ old.size) (h1 : cells.all (·.oneCell') = true)
    (h : wpList P ops Q rest (a.put o.dst undef) (putCells w g off cells.toList)) : wpList P ops Q (o :: rest) a w := by
  refine wpList_plain hgd fun _ hK => ?_
  have hrun : (storeVar ty ⟨g, off, none⟩ (.agg cells)).run P w = .ok () (putCells w g off cells.toList) := by
    have := run_storeCells_at (P := P) g t off cells.toList 0 old w hg (by simp; omega) (fun v hv => (Array.all_eq_true_iff_forall_mem.1 h1) v (by simpa using hv))
    cases hq : P.info? ty with
    | none => simp [hq] at hi
    | some i =>
      have hs : cells.size = i.size := by simp [hq] at hi; omega
      simp [storeVar, sizeOf, typeInfo, hq, Value.cells, hs, this]
  unfold Oper.wp execOp
  simp only [ho, hx, hy, Instr.storeAt, Instr.sureAddr, Sem.run_bind, Sem.run_pure, Result.andThen_ok, hrun]
  exact hK _ _ h

theorem wpList_store_at_g {P : Program} {ops : Array Oper} {rest : List Oper} {o : Oper} {a : Act} {w : World} {Q : Exit → Act → World → Prop} (hgd : o.guard = none) (ty : TypeId) (x y : Operand) (ho : o.op = .store ty x y)
    (g off : Nat) (cells : Array Value) (hx : a.eval x = .pointer (some ⟨g, off, none⟩)) (hy : a.eval y = .agg cells)
    (t : TypeId) (old : Array Value) (hg : w.heap[g]? = some (.cells old t (0, 0))) (hi : (P.info? ty).map (·.size) = some cells.size)
    (hold : off + cells.size ≤ old.size) (h1 : cells.all (·.oneCell') = true)
    (h : ∀ w', w' = putCells w g off cells.toList → wpList P ops Q rest (a.put o.dst undef) w') : wpList P ops Q (o :: rest) a w :=
  wpList_store_at hgd ty x y ho g off cells hx hy t old hg hi hold h1 (h _ rfl)

/-- The cells of the parts of a text. -/
def ptv (r : Pu.Rule) (x : Pu.Shape) (age col row : Int) (v : Value) : Array Value := rulev r ++ shv x ++ #[.int .i64 age, .int .i64 col, .int .i64 row, v]
structure PtAt (w : World) (p : Nat) (r : Pu.Rule) (x : Pu.Shape) (age col row : Int) (v : Value) : Prop where
  row : w.heap[p]? = some (.cells (ptv r x age col row v) 91 (0, 0))
  ok : RuleOk r
theorem ptv_size {r : Pu.Rule} (h : RuleOk r) (x : Pu.Shape) (age col row : Int) (v : Value) : (ptv r x age col row v).size = 31 := by
  simp [ptv, rulev_size h, shv]
theorem ptv_get {r : Pu.Rule} (h : RuleOk r) (x : Pu.Shape) (age col row : Int) (v : Value) (m : Nat) : (ptv r x age col row v)[m]? = if m < 20 then (rulev r)[m]? else if m < 27 then (shv x)[m - 20]? else #[Value.int .i64 age, .int .i64 col, .int .i64 row, v][m - 27]? := by
  have hr := rulev_size h
  have hx : (shv x).size = 7 := rfl
  unfold ptv
  rw [Array.getElem?_append, Array.getElem?_append, Array.size_append, hr, hx]
  by_cases h1 : m < 20
  · rw [if_pos (by omega), if_pos h1, if_pos h1]
  · by_cases h2 : m < 27
    · rw [if_pos (by omega), if_neg h1, if_neg h1, if_pos h2]
    · rw [if_neg (by omega), if_neg h1, if_neg h2]
theorem put_rule {r r' : Pu.Rule} (h : RuleOk r) (h' : RuleOk r') (x : Pu.Shape) (age col row : Int) (v : Value) : splice (ptv r x age col row v) 0 (rulev r').toList = ptv r' x age col row v := by
  apply Array.ext_getElem?
  intro m
  have hr := rulev_size h'
  rw [splice_get _ _ _ _ (by rw [ptv_size h]; simp [hr]), ptv_get h, ptv_get h']
  simp only [Array.length_toList, hr, Nat.not_lt_zero, if_false, Nat.zero_add, Nat.sub_zero, Array.getElem?_toList]
  by_cases h1 : m < 20
  · simp [h1]
  · simp [h1]
theorem put_shape {r : Pu.Rule} (h : RuleOk r) (x x' : Pu.Shape) (age col row : Int) (v : Value) : splice (ptv r x age col row v) 20 (shv x').toList = ptv r x' age col row v := by
  apply Array.ext_getElem?
  intro m
  have hr : (shv x').size = 7 := rfl
  rw [splice_get _ _ _ _ (by rw [ptv_size h]; simp [hr]), ptv_get h, ptv_get h]
  simp only [Array.length_toList, hr, Array.getElem?_toList]
  by_cases h1 : m < 20
  · simp [h1]
  · by_cases h2 : m < 27
    · simp [h1, h2]
    · simp [h1, h2]
theorem set_tail {r : Pu.Rule} (h : RuleOk r) (x : Pu.Shape) {age col row age' col' row' : Int} {v v' : Value} (k : Nat) (u : Value)
    (e : #[Value.int .i64 age, .int .i64 col, .int .i64 row, v].setIfInBounds k u = #[Value.int .i64 age', .int .i64 col', .int .i64 row', v']) : (ptv r x age col row v).setIfInBounds (27 + k) u = ptv r x age' col' row' v' := by
  unfold ptv
  rw [Array.setIfInBounds_append_right (by simp [rulev_size h, shv]), ← e]
  congr 2
  simp [rulev_size h, shv]
theorem PtAt.lt {w : World} {p : Nat} {r : Pu.Rule} {x : Pu.Shape} {age col row : Int} {v : Value} (h : PtAt w p r x age col row v) : p < w.heap.size := (Array.getElem?_eq_some_iff.1 h.row).1
theorem PtAt.cell {w : World} {p : Nat} {r : Pu.Rule} {x : Pu.Shape} {age col row : Int} {v : Value} (h : PtAt w p r x age col row v) (m : Nat) : w.cell? ⟨p, 27 + m, none⟩ = #[Value.int .i64 age, .int .i64 col, .int .i64 row, v][m]? := by
  rw [cell_of_row w p _ _ _ _ h.row, ptv_get h.ok, if_neg (by omega), if_neg (by omega)]
  congr 1
  omega
theorem PtAt.fro {w : World} {p : Nat} {r : Pu.Rule} {x : Pu.Shape} {age col row : Int} {v : Value} (h : PtAt w p r x age col row v) (m : Nat) : w.frozen? ⟨p, m, none⟩ = false := frozen_of_row w p _ _ _ h.row
theorem PtAt.set {w : World} {p : Nat} {r : Pu.Rule} {x : Pu.Shape} {age col row age' col' row' : Int} {v v' : Value} (h : PtAt w p r x age col row v) (k : Nat) (u : Value)
    (e : #[Value.int .i64 age, .int .i64 col, .int .i64 row, v].setIfInBounds k u = #[Value.int .i64 age', .int .i64 col', .int .i64 row', v']) : PtAt (w.setCell ⟨p, 27 + k, none⟩ u) p r x age' col' row' v' :=
  ⟨by rw [heap_setCell_same w p _ _ _ _ h.row, set_tail h.ok x k u e], h.ok⟩
theorem PtAt.keep {S : Nat → Prop} {w w' : World} {p : Nat} {r : Pu.Rule} {x : Pu.Shape} {age col row : Int} {v : Value} (h : PtAt w p r x age col row v) (k : Kp S w w') (hn : ¬ S p) : PtAt w' p r x age col row v := ⟨k.row h.row hn, h.ok⟩
theorem PtAt.putRule {w : World} {p : Nat} {r r' : Pu.Rule} {x : Pu.Shape} {age col row : Int} {v : Value} (h : PtAt w p r x age col row v) (h' : RuleOk r') : PtAt (putCells w p 0 (rulev r').toList) p r' x age col row v :=
  ⟨by rw [putCells_row _ _ _ _ _ _ h.row, put_rule h.ok h'], h'⟩
theorem PtAt.putShape {w : World} {p : Nat} {r : Pu.Rule} {x x' : Pu.Shape} {age col row : Int} {v : Value} (h : PtAt w p r x age col row v) : PtAt (putCells w p 20 (shv x').toList) p r x' age col row v :=
  ⟨by rw [putCells_row _ _ _ _ _ _ h.row, put_shape h.ok], h.ok⟩
theorem RdAt.put {w : World} {b : Nat} {s : ByteArray} {i : Nat} (h : RdAt w b s i) {g : Nat} (hg : b ≠ g) (k : Nat) (vs : List Value) : RdAt (putCells w g k vs) b s i := h.of_row (putCells_other _ _ _ _ _ hg)
end Go.Proofs.YtbdbkjngdhcjpaaDoor
