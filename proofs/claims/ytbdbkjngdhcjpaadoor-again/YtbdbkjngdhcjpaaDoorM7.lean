import Derived.Test.YtbdbkjngdhcjpaaDoorM5
import Derived.Test.YtbdbkjngdhcjpaaDoorWl
import Derived.Deep.AppendLies
import Derived.Deep.RegionLaw
import Derived.Deep.LoopGhost
namespace Go.Proofs.YtbdbkjngdhcjpaaDoor
open Go.RowKit
open Go.Proofs

/-- The cells of a run. -/
def runv (x : Pu.Run) : Array Value := #[.int .i64 x.count, .int .i64 x.state, .bool x.down]
theorem info_run : (Tryd.prog.info? 115).map (·.size) = some 3 := by kernel_rfl
theorem runv_one (x : Pu.Run) : (runv x).all (·.oneCell') = true := by
  rw [Array.all_eq_true_iff_forall_mem]
  intro v hv
  simp [runv] at hv
  rcases hv with rfl | rfl | rfl <;> rfl
/-- What a call that reads a run hands back. -/
def RunRet (e : Ending) (o : Option Pu.Run) : Prop := ∃ x : Pu.Run, e = .returned (.tuple #[.agg (runv x), .bool o.isSome]) ∧ ∀ a, o = some a → x = a
theorem build_run0 (w : World) : (Instr.build 115 #[]).run Tryd.prog w = .ok (.agg (runv ⟨0, 0, false⟩)) w := by kernel_rfl
theorem build_run1 (w : World) (c : Int) : (Instr.build 115 #[(0, .int .i64 c), (2, .bool true)]).run Tryd.prog w = .ok (.agg (runv ⟨c, 0, true⟩)) w := by kernel_rfl
theorem build_run2 (w : World) (c x : Int) : (Instr.build 115 #[(0, .int .i64 c), (1, .int .i64 x)]).run Tryd.prog w = .ok (.agg (runv ⟨c, x, false⟩)) w := by kernel_rfl

/-- What run does behind its count. -/
def runRest (c n : Int) : Pu.Rd Pu.Run := Pu.bnd (Pu.opt 36) fun b => if b = true then Pu.ret ⟨n, 0, true⟩ else Pu.bnd (Pu.state c) fun s => Pu.ret ⟨n, s, false⟩
theorem run_eq (c : Int) : Pu.run c = Pu.bnd Pu.count (runRest c) := rfl

set_option maxHeartbeats 1000000 in
theorem run_any (b : Nat) (s : ByteArray) (i : Nat) (c : Int) (w : World) (h : RdAt w b s i) (c0 : 0 ≤ c) (c9 : c ≤ 9) (j : Nat) (o : Option Pu.Run) (hq : Hid (Pu.run c (src s) i = (j, o))) :
    Calls Tryd.prog 97 #[.pointer (some ⟨b, 0, none⟩), .int .i64 c] w fun e w' => RunRet e o ∧ RdAt w' b s j ∧ Kp (· = b) w w' := by
  have hb := h.lt
  have H := hide (h.alloc (.cells (runv ⟨0, 0, false⟩) 115))
  clear h
  have bu0 := build_run0
  have bu1 := build_run1
  have bu2 := build_run2
  have hdb := Pu.digit_bd (src s) i
  have hrest : ∀ (n : Int) (j1 : Nat) (w1 : World), RdAt w1 b s j1 → Kp (· = b) w w1 → w1.heap[w.heap.size]? = some (.cells (runv ⟨0, 0, false⟩) 115 (0, 0)) → runRest c n (src s) j1 = (j, o) →
      (src s j1 = 36 ∧ j = j1 + 1 ∧ o = some ⟨n, 0, true⟩) ∨ (¬ src s j1 = 36 ∧ ∃ o2, Pu.state c (src s) j1 = (j, o2) ∧ o = o2.map fun x => ⟨n, x, false⟩) := by
    intro n j1 w1 _ _ _ hr
    unfold runRest at hr
    by_cases e : src s j1 = 36
    · rw [bnd_some (opt_yes e), if_pos rfl] at hr
      obtain ⟨rfl, rfl⟩ := Prod.mk.inj hr
      exact Or.inl ⟨e, rfl, rfl⟩
    · rw [bnd_some (opt_no e), if_neg (by simp)] at hr
      rcases hs : Pu.state c (src s) j1 with ⟨j2, _ | x⟩
      · rw [bnd_none hs] at hr
        obtain ⟨rfl, rfl⟩ := Prod.mk.inj hr
        exact Or.inr ⟨e, none, rfl, rfl⟩
      · rw [bnd_some hs] at hr
        obtain ⟨rfl, rfl⟩ := Prod.mk.inj hr
        exact Or.inr ⟨e, some x, rfl, rfl⟩
  have HREST := hide hrest
  clear hrest
  have hq' := hq.out
  rw [run_eq] at hq'
  by_cases hd : 0 ≤ Pu.digit (src s) i
  · have ec : Pu.count (src s) i = Pu.number 2 99 (src s) i := by unfold Pu.count; rw [if_pos hd]
    rcases hn : Pu.number 2 99 (src s) i with ⟨j1, _ | n⟩
    · rw [bnd_none (ec.trans hn)] at hq'
      obtain ⟨rfl, rfl⟩ := Prod.mk.inj hq'
      have HN := hide hn
      clear hq' hn ec hq HREST
      go_enter Tryd.func97, Tryd.ntmps97
      go_wp2_with fail
      refine (digit_any b s i _ H.out).mono ?_
      rintro e w1 ⟨rfl, n1, rfl⟩
      go_wp2_with fail
      refine (number_any b s i 2 99 _ (H.out.drewN _) (by omega) (by omega) (by omega) (by omega) j1 none HN).mono ?_
      rintro e w2 ⟨⟨x, rfl, hx⟩, r2, k2⟩
      clear hx
      have A2 := hide (k2.row (g := w.heap.size) (heap_alloc_new w (.cells (runv ⟨0, 0, false⟩) 115)) (by omega))
      have K2 := hide ((((Kp.refl (· = b) w).alloc _).drewN _).trans k2)
      have R2 := hide r2
      clear k2 r2
      go_wp2_with (refine wpList_store_row rfl 115 _ _ rfl w.heap.size (runv ⟨0, 0, false⟩) rfl rfl 115 (runv ⟨0, 0, false⟩) A2.out info_run rfl (runv_one _) ?_)
      exact bodyPost_ret (v := .tuple #[.agg (runv ⟨0, 0, false⟩), .bool false]) (results_row_tmp Tryd.results97 _ _ w.heap.size 115 _ (0, 0) _ rfl (setRow_heap _ _ _ _ _ _ A2.out) Tryd.underlying115 rfl info_run) rfl
        ⟨⟨_, rfl, fun a ha => by simp at ha⟩, R2.out.setRow (by omega) _, K2.out.setRowNew (Nat.le_refl _) _⟩
    · rw [bnd_some (ec.trans hn)] at hq'
      have hnb := number_bd hn
      have HN := hide hn
      have HQ := hide hq'
      clear hq' hn ec hq
      go_enter Tryd.func97, Tryd.ntmps97
      go_wp2_with fail
      refine (digit_any b s i _ H.out).mono ?_
      rintro e w1 ⟨rfl, n1, rfl⟩
      go_wp2_with fail
      refine (number_any b s i 2 99 _ (H.out.drewN _) (by omega) (by omega) (by omega) (by omega) j1 (some n) HN).mono ?_
      rintro e w2 ⟨⟨x, rfl, hx⟩, r2, k2⟩
      obtain rfl := hx n rfl
      clear hx
      have A2 := hide (k2.row (g := w.heap.size) (heap_alloc_new w (.cells (runv ⟨0, 0, false⟩) 115)) (by omega))
      have K2 := hide ((((Kp.refl (· = b) w).alloc _).drewN _).trans k2)
      have R2 := hide r2
      clear k2 r2
      rcases HREST.out x j1 w2 R2.out K2.out A2.out HQ.out with ⟨e, rfl, rfl⟩ | ⟨e, o2, hst, rfl⟩
      · have E := hide e
        clear e HQ HREST
        go_wp2_with fail
        refine (take_yes R2.out (by omega) E.out).mono ?_
        rintro e w3 ⟨rfl, r3, k3⟩
        have A3 := hide (k3.row A2.out (by omega))
        have K3 := hide (K2.out.trans k3)
        have R3 := hide r3
        clear k3 r3
        go_wp2_with (refine wpList_store_row rfl 115 _ _ rfl w.heap.size (runv ⟨x, 0, true⟩) rfl rfl 115 (runv ⟨0, 0, false⟩) A3.out info_run rfl (runv_one _) ?_)
        exact bodyPost_ret (v := .tuple #[.agg (runv ⟨x, 0, true⟩), .bool true]) (results_row_tmp Tryd.results97 _ _ w.heap.size 115 _ (0, 0) _ rfl (setRow_heap _ _ _ _ _ _ A3.out) Tryd.underlying115 rfl info_run) rfl
          ⟨⟨_, rfl, fun a ha => Option.some.inj ha⟩, R3.out.setRow (by omega) _, K3.out.setRowNew (Nat.le_refl _) _⟩
      · have E := hide e
        have HS := hide hst
        clear e HQ HREST hst
        go_wp2_with fail
        refine (take_no R2.out (by omega) E.out).mono ?_
        rintro e w3 ⟨rfl, r3, k3⟩
        have A3 := hide (k3.row A2.out (by omega))
        have K3 := hide (K2.out.trans k3)
        have R3 := hide r3
        clear k3 r3
        go_wp2_with fail
        refine (state_any b s j1 c _ R3.out c0 c9 j o2 HS).mono ?_
        rintro e w4 ⟨⟨y, rfl, hy⟩, r4, k4⟩
        have A4 := hide (k4.row A3.out (by omega))
        have K4 := hide (K3.out.trans k4)
        have R4 := hide r4
        have HY := hide hy
        clear k4 r4 hy
        go_wp2_with (refine wpList_store_row rfl 115 _ _ rfl w.heap.size (runv ⟨x, y, false⟩) rfl rfl 115 (runv ⟨0, 0, false⟩) A4.out info_run rfl (runv_one _) ?_)
        refine bodyPost_ret (v := .tuple #[.agg (runv ⟨x, y, false⟩), .bool o2.isSome]) (results_row_tmp Tryd.results97 _ _ w.heap.size 115 _ (0, 0) _ rfl (setRow_heap _ _ _ _ _ _ A4.out) Tryd.underlying115 rfl info_run) rfl
          ⟨⟨⟨x, y, false⟩, by cases o2 <;> rfl, ?_⟩, R4.out.setRow (by omega) _, K4.out.setRowNew (Nat.le_refl _) _⟩
        intro a ha
        cases o2 with
        | none => simp at ha
        | some z => rw [HY.out z rfl]; exact Option.some.inj ha
  · have ec : Pu.count (src s) i = (i, some 1) := by unfold Pu.count; rw [if_neg hd]
    rw [bnd_some ec] at hq'
    have HQ := hide hq'
    clear hq' ec hq
    go_enter Tryd.func97, Tryd.ntmps97
    go_wp2_with fail
    refine (digit_any b s i _ H.out).mono ?_
    rintro e w1 ⟨rfl, n1, rfl⟩
    have A2 : Hid (((w.alloc (.cells (runv ⟨0, 0, false⟩) 115)).drewN n1).heap[w.heap.size]? = some (.cells (runv ⟨0, 0, false⟩) 115 (0, 0))) := heap_alloc_new w (.cells (runv ⟨0, 0, false⟩) 115)
    have K2 := hide (((Kp.refl (· = b) w).alloc (.cells (runv ⟨0, 0, false⟩) 115)).drewN n1)
    have R2 := hide (H.out.drewN n1)
    rcases HREST.out 1 i _ R2.out K2.out A2.out HQ.out with ⟨e, rfl, rfl⟩ | ⟨e, o2, hst, rfl⟩
    · have E := hide e
      clear e HQ HREST
      go_wp2_with fail
      refine (take_yes R2.out (by omega) E.out).mono ?_
      rintro e w3 ⟨rfl, r3, k3⟩
      have A3 := hide (k3.row A2.out (by omega))
      have K3 := hide (K2.out.trans k3)
      have R3 := hide r3
      clear k3 r3
      go_wp2_with (refine wpList_store_row rfl 115 _ _ rfl w.heap.size (runv ⟨1, 0, true⟩) rfl rfl 115 (runv ⟨0, 0, false⟩) A3.out info_run rfl (runv_one _) ?_)
      exact bodyPost_ret (v := .tuple #[.agg (runv ⟨1, 0, true⟩), .bool true]) (results_row_tmp Tryd.results97 _ _ w.heap.size 115 _ (0, 0) _ rfl (setRow_heap _ _ _ _ _ _ A3.out) Tryd.underlying115 rfl info_run) rfl
        ⟨⟨_, rfl, fun a ha => Option.some.inj ha⟩, R3.out.setRow (by omega) _, K3.out.setRowNew (Nat.le_refl _) _⟩
    · have E := hide e
      have HS := hide hst
      clear e HQ HREST hst
      go_wp2_with fail
      refine (take_no R2.out (by omega) E.out).mono ?_
      rintro e w3 ⟨rfl, r3, k3⟩
      have A3 := hide (k3.row A2.out (by omega))
      have K3 := hide (K2.out.trans k3)
      have R3 := hide r3
      clear k3 r3
      go_wp2_with fail
      refine (state_any b s i c _ R3.out c0 c9 j o2 HS).mono ?_
      rintro e w4 ⟨⟨y, rfl, hy⟩, r4, k4⟩
      have A4 := hide (k4.row A3.out (by omega))
      have K4 := hide (K3.out.trans k4)
      have R4 := hide r4
      have HY := hide hy
      clear k4 r4 hy
      go_wp2_with (refine wpList_store_row rfl 115 _ _ rfl w.heap.size (runv ⟨1, y, false⟩) rfl rfl 115 (runv ⟨0, 0, false⟩) A4.out info_run rfl (runv_one _) ?_)
      refine bodyPost_ret (v := .tuple #[.agg (runv ⟨1, y, false⟩), .bool o2.isSome]) (results_row_tmp Tryd.results97 _ _ w.heap.size 115 _ (0, 0) _ rfl (setRow_heap _ _ _ _ _ _ A4.out) Tryd.underlying115 rfl info_run) rfl
        ⟨⟨⟨1, y, false⟩, by cases o2 <;> rfl, ?_⟩, R4.out.setRow (by omega) _, K4.out.setRowNew (Nat.le_refl _) _⟩
      intro a ha
      cases o2 with
      | none => simp at ha
      | some z => rw [HY.out z rfl]; exact Option.some.inj ha
end Go.Proofs.YtbdbkjngdhcjpaaDoor
namespace Go.Proofs.YtbdbkjngdhcjpaaDoor
open Go.RowKit
open Go.Proofs

theorem wpList_store_row_g {P : Program} {ops : Array Oper} {rest : List Oper} {o : Oper} {a : Act} {w : World} {Q : Exit → Act → World → Prop} (hgd : o.guard = none) (ty : TypeId) (x y : Operand) (ho : o.op = .store ty x y)
    (g : Nat) (cells : Array Value) (hx : a.eval x = .pointer (some ⟨g, 0, none⟩)) (hy : a.eval y = .agg cells)
    (t : TypeId) (old : Array Value) (hg : w.heap[g]? = some (.cells old t (0, 0))) (hi : (P.info? ty).map (·.size) = some cells.size)
    (hold : old.size = cells.size) (h1 : cells.all (·.oneCell') = true)
    (h : ∀ w', w' = w.setRow g cells → wpList P ops Q rest (a.put o.dst undef) w') : wpList P ops Q (o :: rest) a w :=
  wpList_store_row hgd ty x y ho g cells hx hy t old hg hi hold h1 (h _ rfl)

theorem rulev_states {r : Pu.Rule} (h : RuleOk r) : (rulev r)[19]? = some (.int .i64 r.states) := by
  unfold rulev
  rw [Array.getElem?_append_right (by simp [bv_size, h.1, h.2])]
  simp [bv_size, h.1, h.2]
theorem PtAt.states {w : World} {p : Nat} {r : Pu.Rule} {x : Pu.Shape} {age col row : Int} {v : Value} (h : PtAt w p r x age col row v) : w.cell? ⟨p, 19, none⟩ = some (.int .i64 r.states) := by
  rw [cell_of_row w p _ _ _ _ h.row, ptv_get h.ok, if_pos (by omega), rulev_states h.ok]

/-- The cells of some runs, one behind the other. -/
def runsv : List Pu.Run → List Value
  | [] => []
  | r :: rs => (runv r).toList ++ runsv rs
theorem runsv_append (a b : List Pu.Run) : runsv (a ++ b) = runsv a ++ runsv b := by
  induction a with
  | nil => rfl
  | cons r a ih => simp [runsv, ih]
theorem runsv_one (r : Pu.Run) : runsv [r] = (runv r).toList := by simp [runsv]

theorem run_pos {c : Int} {f : Pu.Src} {i j : Nat} {r : Pu.Run} (h : Pu.run c f i = (j, some r)) : i < j := by
  unfold Pu.run at h
  rcases hc : Pu.count f i with ⟨j1, _ | n⟩
  · rw [bnd_none hc] at h; simp at h
  · have h1 := Pu.good_count.mono f i
    rw [hc] at h1
    rw [bnd_some hc] at h
    rcases ho : Pu.opt 36 f j1 with ⟨j2, _ | t⟩
    · rw [bnd_none ho] at h; simp at h
    · rw [bnd_some ho] at h
      unfold Pu.opt at ho
      split at ho
      · have e1 := (Prod.mk.inj ho).1
        have e2 := Option.some.inj (Prod.mk.inj ho).2
        rw [← e2] at h
        simp [Pu.ret] at h
        simp at h1
        omega
      · have e1 := (Prod.mk.inj ho).1
        have e2 := Option.some.inj (Prod.mk.inj ho).2
        rw [← e2] at h
        simp only [Bool.false_eq_true, if_false] at h
        unfold Pu.state at h
        rcases hl : Pu.letter (Pu.letters c) f j2 with ⟨j3, _ | m⟩
        · rw [bnd_none (bnd_none hl)] at h; simp at h
        · rw [bnd_some (a := if m = 46 then 0 else m - 64) (j := j3) (by rw [bnd_some hl]; rfl)] at h
          have e3 := (Prod.mk.inj h).1
          unfold Pu.letter at hl
          split at hl
          · have e4 := (Prod.mk.inj hl).1
            simp at h1
            omega
          · simp at hl

/-- Where the body stands behind some runs. -/
def BodyRel (s : ByteArray) (c : Int) (i k : Nat) (acc : List Pu.Run) : Prop :=
  acc.length ≤ 401 ∧ Pu.body c 401 [] (src s) i = Pu.body c (401 - acc.length) acc (src s) k
theorem BodyRel.next {s : ByteArray} {c : Int} {i k k' : Nat} {acc : List Pu.Run} {r : Pu.Run} (h : BodyRel s c i k acc) (hl : acc.length < 401) (h1 : k < s.size) (h2 : ¬ src s k = 33) (hr : Pu.run c (src s) k = (k', some r)) : BodyRel s c i k' (acc ++ [r]) := by
  refine ⟨by simp; omega, ?_⟩
  rw [h.2]
  have e : 401 - acc.length = (401 - (acc ++ [r]).length) + 1 := by simp; omega
  rw [e]
  conv => lhs; unfold Pu.body
  rw [if_neg (by rw [src_lt h1]; omega), if_neg h2, hr]
theorem BodyRel.fail {s : ByteArray} {c : Int} {i k k' : Nat} {acc : List Pu.Run} (h : BodyRel s c i k acc) (hl : acc.length < 401) (h1 : k < s.size) (h2 : ¬ src s k = 33) (hr : Pu.run c (src s) k = (k', none)) : Pu.body c 401 [] (src s) i = (k', none) := by
  rw [h.2]
  have e : 401 - acc.length = (401 - acc.length - 1) + 1 := by omega
  rw [e]
  unfold Pu.body
  rw [if_neg (by rw [src_lt h1]; omega), if_neg h2, hr]
theorem BodyRel.stop {s : ByteArray} {c : Int} {i k : Nat} {acc : List Pu.Run} (h : BodyRel s c i k acc) (hl : acc.length < 401) (h2 : src s k = 33) : Pu.body c 401 [] (src s) i = (k + 1, if src s (k + 1) = -1 then some acc else none) := by
  rw [h.2]
  have e : 401 - acc.length = (401 - acc.length - 1) + 1 := by omega
  rw [e]
  unfold Pu.body
  rw [if_neg (by omega), if_pos h2]
theorem BodyRel.over {s : ByteArray} {c : Int} {i k : Nat} {acc : List Pu.Run} (h : BodyRel s c i k acc) (h1 : ¬ k < s.size) : Pu.body c 401 [] (src s) i = (k, none) := by
  rw [h.2, Pu.body_end c _ acc (src s) k (src_ge h1)]
theorem info_run1 : ∃ i, Tryd.prog.info? 115 = some i ∧ i.zero = some (.agg (runv ⟨0, 0, false⟩)) ∧ i.size = 3 ∧ i.bytes = 24 := by
  have h : (Tryd.prog.info? 115).map (fun i => (i.zero, i.size, i.bytes)) = some (some (.agg (runv ⟨0, 0, false⟩)), 3, 24) := by kernel_rfl
  cases hq : Tryd.prog.info? 115 with
  | none => simp [hq] at h
  | some i => simp [hq] at h; exact ⟨i, rfl, h.1, h.2.1, h.2.2⟩
theorem own_of {w w' : World} {base : Nat} {e : TypeId} {sz : Nat} {v : Value} {n : Nat} {xs : List Value} (h : w.ownsRow base e sz v n xs) (hk : ∀ g, g < w.heap.size → base ≤ g → w'.heap[g]? = w.heap[g]?) : w'.ownsRow base e sz v n xs := by
  refine ⟨h.1, ?_⟩
  rcases h.2 with h2 | ⟨g, cap, cur, hv, hb, hg, r⟩
  · exact Or.inl h2
  · exact Or.inr ⟨g, cap, cur, hv, hb, (hk g (Array.getElem?_eq_some_iff.1 hg).1 hb).trans hg, r⟩
theorem own_keep {S : Nat → Prop} {w w' : World} {base : Nat} {e : TypeId} {sz : Nat} {v : Value} {n : Nat} {xs : List Value} (h : w.ownsRow base e sz v n xs) (k : Kp S w w') (hS : ∀ g, base ≤ g → ¬ S g) : w'.ownsRow base e sz v n xs :=
  own_of h fun g hg hb => k.block g hg (hS g hb)
theorem own_far {w : World} {base : Nat} {e : TypeId} {sz : Nat} {v : Value} {n : Nat} {xs : List Value} (h : w.ownsRow base e sz v n xs) {k : Nat} (hk : k < base) : some k ≠ v.ownBlock := by
  rcases h.2 with ⟨rfl, _⟩ | ⟨g, cap, cur, rfl, hb, _⟩
  · simp [Value.ownBlock]
  · simp [Value.ownBlock]; omega

set_option maxRecDepth 100000 in
set_option maxHeartbeats 1000000 in
theorem body_any (b p : Nat) (s : ByteArray) (i : Nat) (r : Pu.Rule) (x : Pu.Shape) (age col row : Int) (w : World) (h : RdAt w b s i) (hp : PtAt w p r x age col row (.slice none 0 0)) (hbp : b ≠ p) (c0 : 0 ≤ r.states) (c9 : r.states ≤ 9)
    (j : Nat) (o : Option (List Pu.Run)) (hq : Hid (Pu.body r.states 401 [] (src s) i = (j, o))) :
    Calls Tryd.prog 74 #[.pointer (some ⟨b, 0, none⟩), .pointer (some ⟨p, 0, none⟩)] w fun e w' => e = .returned (.bool o.isSome) ∧ RdAt w' b s j ∧
      (∃ v acc, PtAt w' p r x age col row v ∧ w'.ownsRow w.heap.size 115 3 v acc.length (runsv acc) ∧ ∀ a, o = some a → a = acc) ∧ Kp (fun x => x = b ∨ x = p) w w' := by
  have H := hide h
  have HP := hide hp
  have hb := h.lt
  have hpl := hp.lt
  have hle := h.le
  have hs := h.few
  obtain ⟨ti, ti1, ti2, ti3, ti4⟩ := info_run1
  have TI1 := hide ti1
  have TI2 := hide ti2
  have TI3 := hide ti3
  have TI4 := hide ti4
  clear h hp ti1 ti2 ti3 ti4
  go_enter Tryd.func74, Tryd.ntmps74
  go_wp2
  go_loopg [6] (s.size - i) (fun gk u wr => ∃ (k : Nat) (acc : List Pu.Run) (v : Value), acc.length ≤ k ∧ s.size ≤ k + gk ∧ RdAt wr b s k ∧ PtAt wr p r x age col row v ∧ wr.ownsRow w.heap.size 115 3 v acc.length (runsv acc) ∧ Kp (fun x => x = b ∨ x = p) w wr ∧ BodyRel s r.states i k acc)
  case atStart => exact ⟨i, [], _, Nat.zero_le _, by omega, H.out, HP.out, World.ownsRow_nil _ _ _ _, Kp.refl _ _, ⟨by simp, rfl⟩⟩
  case round =>
    obtain ⟨k, acc, v, g1, g2, g3, g4, g5, g6, g7⟩ := hrel
    have c0' := g3.c0
    have c1' := g3.c1
    have hk := g3.le
    have G3 := hide g3
    have G4 := hide g4
    have G5 := hide g5
    have G6 := hide g6
    have G7 := hide g7
    clear g3 g4 g5 g6 g7
    by_cases hlt : k < s.size
    · by_cases e : src s k = 33
      · have hq' := hq.out
        rw [G7.out.stop (by omega) e] at hq'
        obtain ⟨rfl, hq2⟩ := Prod.mk.inj hq'
        have E := hide e
        have HQ := hide hq2
        clear e hq hq' hq2
        go_wp2_with fail
        go_quiet (fail)
        go_wp2_with fail
        refine (take_yes (G3.out.drewN _) (by omega) E.out).mono ?_
        rintro e w2 ⟨rfl, r2, k2⟩
        have d0 := r2.c0
        have d1 := r2.c1
        have e1 : ((k + 1 : Nat) : Int) = (k : Int) + 1 := by omega
        rw [e1] at d1
        clear e1
        have hfin : ∀ (n : Nat) (y : Bool), y = decide (k + 1 = s.size) → ∀ e : Ending, e = .returned (.bool y) → e = .returned (.bool o.isSome) ∧ RdAt (w2.drewN n) b s (k + 1) ∧
            (∃ v acc, PtAt (w2.drewN n) p r x age col row v ∧ (w2.drewN n).ownsRow w.heap.size 115 3 v acc.length (runsv acc) ∧ ∀ a, o = some a → a = acc) ∧ Kp (fun x => x = b ∨ x = p) w (w2.drewN n) := by
          rintro n y rfl e rfl
          refine ⟨?_, r2.drewN n, ⟨v, acc, ⟨k2.row (w := wr.drewN _) G4.out.row (by omega), G4.out.ok⟩, own_keep (w := wr.drewN _) (w' := w2) G5.out k2 (by intro g hg; omega), ?_⟩, (G6.out.drewN _).trans (k2.mono (fun _ hx => Or.inl hx)) |>.drewN n⟩
          · by_cases hz : k + 1 = s.size
            · rw [decide_eq_true hz, ← HQ.out, if_pos (src_ge (by omega))]; rfl
            · rw [decide_eq_false hz, ← HQ.out, if_neg (by rw [src_lt (show k + 1 < s.size by omega)]; omega)]; rfl
          · intro a ha
            rw [← HQ.out] at ha
            split at ha
            · exact (Option.some.inj ha).symm
            · simp at ha
        have HF := hide hfin
        clear hfin
        go_wp2_with fail
        go_quiet (fail)
        go_wp2_with fail
        go_ret
        exact HF.out _ _ (by rw [Bool.eq_iff_iff]; simp; omega) _ rfl
      · rcases hrun : Pu.run r.states (src s) k with ⟨k', _ | y⟩
        · have hq' := hq.out
          rw [G7.out.fail (by omega) hlt e hrun] at hq'
          obtain ⟨rfl, rfl⟩ := Prod.mk.inj hq'
          have E := hide e
          have HRUN := hide hrun
          clear e hq hq' hrun
          go_wp2_with fail
          go_quiet (fail)
          go_wp2_with fail
          refine (take_no (G3.out.drewN _) (by omega) E.out).mono ?_
          rintro e w2 ⟨rfl, r2, k2⟩
          have P2 : Hid (PtAt w2 p r x age col row v) := ⟨k2.row (w := wr.drewN _) G4.out.row (by omega), G4.out.ok⟩
          have O2 := hide (own_keep (w := wr.drewN _) (w' := w2) G5.out k2 (by intro g hg; omega))
          have K2 := hide ((G6.out.drewN _).trans (k2.mono (T := fun x => x = b ∨ x = p) (fun _ hx => Or.inl hx)))
          have R2 := hide r2
          clear k2 r2
          have st2 := P2.out.states
          go_wp2_with fail
          refine (run_any b s k r.states _ R2.out c0 c9 k' none HRUN).mono ?_
          rintro e w4 ⟨⟨y, rfl, hy⟩, r4, k4⟩
          clear hy
          have P4 := hide (P2.out.keep k4 (by omega))
          have O4 := hide (own_keep O2.out k4 (by intro g hg; omega))
          have K4 := hide (K2.out.trans (k4.mono (T := fun x => x = b ∨ x = p) (fun _ hx => Or.inl hx)))
          have R4 := hide r4
          clear k4 r4 st2
          have l4 := P4.out.lt
          have l5 := R4.out.lt
          have l6 := K4.out.size
          go_wp2_with (refine wpList_store_row_g rfl 115 _ _ rfl w4.heap.size (runv y) rfl rfl 115 (runv ⟨0, 0, false⟩) (heap_alloc_new _ _) info_run rfl (runv_one _) ?_
                       intro w5 hw5
                       have P5 : Hid (PtAt w5 p r x age col row v) := ⟨by rw [hw5]; exact (setRow_other _ _ _ _ (by omega)).trans (heap_new_keep P4.out.row), P4.out.ok⟩
                       have R5 : Hid (RdAt w5 b s k') := by rw [hw5]; exact (R4.out.alloc _).setRow (by omega) _
                       have K5 : Hid (Kp (fun x => x = b ∨ x = p) w w5) := by rw [hw5]; exact (K4.out.alloc _).setRowNew (by omega) _
                       have O5 : Hid (w5.ownsRow w.heap.size 115 3 v acc.length (runsv acc)) := by rw [hw5]; exact own_of O4.out fun g hg _ => (setRow_other _ _ _ _ (by omega)).trans (Below.heap_alloc _ _ _ hg)
                       clear hw5)
          go_ret
          exact ⟨rfl, R5.out, ⟨v, acc, P5.out, O5.out, fun a ha => by simp at ha⟩, K5.out⟩
        · have kpos := run_pos hrun
          have HB := hide (G7.out.next (by omega) hlt e hrun)
          have E := hide e
          have HRUN := hide hrun
          clear e hq hrun
          go_wp2_with fail
          go_quiet (fail)
          go_wp2_with fail
          refine (take_no (G3.out.drewN _) (by omega) E.out).mono ?_
          rintro e w2 ⟨rfl, r2, k2⟩
          have P2 : Hid (PtAt w2 p r x age col row v) := ⟨k2.row (w := wr.drewN _) G4.out.row (by omega), G4.out.ok⟩
          have O2 := hide (own_keep (w := wr.drewN _) (w' := w2) G5.out k2 (by intro g hg; omega))
          have K2 := hide ((G6.out.drewN _).trans (k2.mono (T := fun x => x = b ∨ x = p) (fun _ hx => Or.inl hx)))
          have R2 := hide r2
          clear k2 r2
          have st2 := P2.out.states
          go_wp2_with fail
          refine (run_any b s k r.states _ R2.out c0 c9 k' (some y) HRUN).mono ?_
          rintro e w4 ⟨⟨y', rfl, hy⟩, r4, k4⟩
          obtain rfl := hy y rfl
          clear hy
          have P4 := hide (P2.out.keep k4 (by omega))
          have O4 := hide (own_keep O2.out k4 (by intro g hg; omega))
          have K4 := hide (K2.out.trans (k4.mono (T := fun x => x = b ∨ x = p) (fun _ hx => Or.inl hx)))
          have R4 := hide r4
          clear k4 r4 st2
          have l4 := P4.out.lt
          have l5 := R4.out.lt
          have l6 := K4.out.size
          go_wp2_with (refine wpList_store_row_g rfl 115 _ _ rfl w4.heap.size (runv y') rfl rfl 115 (runv ⟨0, 0, false⟩) (heap_alloc_new _ _) info_run rfl (runv_one _) ?_
                       intro w5 hw5
                       have P5 : Hid (PtAt w5 p r x age col row v) := ⟨by rw [hw5]; exact (setRow_other _ _ _ _ (by omega)).trans (heap_new_keep P4.out.row), P4.out.ok⟩
                       have R5 : Hid (RdAt w5 b s k') := by rw [hw5]; exact (R4.out.alloc _).setRow (by omega) _
                       have K5 : Hid (Kp (fun x => x = b ∨ x = p) w w5) := by rw [hw5]; exact (K4.out.alloc _).setRowNew (by omega) _
                       have O5 : Hid (w5.ownsRow w.heap.size 115 3 v acc.length (runsv acc)) := by rw [hw5]; exact own_of O4.out fun g hg _ => (setRow_other _ _ _ _ (by omega)).trans (Below.heap_alloc _ _ _ hg)
                       have A5 : Hid (w5.heap[w4.heap.size]? = some (.cells (runv y') 115 (0, 0))) := by rw [hw5]; exact setRow_heap _ _ _ _ _ _ (heap_alloc_new _ _)
                       clear hw5)
          have a0 : w5.cell? ⟨w4.heap.size, 0, none⟩ = some (.int .i64 y'.count) := cell_of_row _ _ 0 _ _ _ A5.out
          have a1 : w5.cell? ⟨w4.heap.size, 1, none⟩ = some (.int .i64 y'.state) := cell_of_row _ _ 1 _ _ _ A5.out
          have a2 : w5.cell? ⟨w4.heap.size, 2, none⟩ = some (.bool y'.down) := cell_of_row _ _ 2 _ _ _ A5.out
          have p5 : w5.cell? ⟨p, 30, none⟩ = some v := P5.out.cell 3
          have l7 : w4.heap.size < w5.heap.size := (Array.getElem?_eq_some_iff.1 A5.out).1
          have l8 : p < w5.heap.size := P5.out.lt
          go_region_law (
            refine step_append_lies _ rfl _ _ 89 rfl w.heap.size 115 ti (.agg (runv ⟨0, 0, false⟩)) 3 24 Tryd.underlying89 TI1.out TI2.out TI3.out TI4.out rfl (by decide) v acc.length (runsv acc) rfl
              (own_of O5.out fun g hg _ => Below.heap_alloc _ _ _ hg) ⟨w5.heap.size, 0, none⟩ 1 1 (runv y').toList rfl rfl (World.news_of_block (heap_alloc_new w5 (.cells (runv y') 115)))
              (fun u hu => (Array.all_eq_true_iff_forall_mem.1 (runv_one y')) u (by simpa using hu)) (by decide) (by unfold maxLen; omega) (by omega) (by simp; omega) (w5.heap.size + 1) (by simp) ?_
            intro g cap w6 hown hgrow hat hg6
            have q1 : w6.cell? ⟨p, 30, none⟩ = some v := (hgrow.cell_far ⟨p, 30, none⟩ (by simp; omega) (own_far O5.out hpl)).trans ((World.cell?_of_block (Below.heap_alloc _ _ _ (by simp; omega))).trans (P5.out.cell 3))
            have q2 : w6.frozen? ⟨p, 30, none⟩ = false := (hgrow.frozen_far ⟨p, 30, none⟩ (by simp; omega) (own_far O5.out hpl)).trans ((World.frozen?_of_block (Below.heap_alloc _ _ _ (by simp; omega))).trans (P5.out.fro 30))
            have HO := hide hown
            have K6 : Hid (Kp (fun k => some k = v.ownBlock) w5 w6) := ⟨hgrow.os, hgrow.tape, hgrow.output, Nat.le_trans (Nat.le_succ _) (Nat.le_trans (by simp) hgrow.size), fun k hk hn => (hgrow.block k (by simp; omega) hn).trans (Below.heap_alloc _ _ _ hk)⟩
            clear hown hgrow hat)
          all_goals go_wp2_with fail
          all_goals
            go_roundg (gk - 1)
            case measure => omega
            case rel =>
              refine ⟨k', acc ++ [y'], _, by simp; omega, by omega, ?_, (P5.out.keep K6.out (fun hx => own_far O5.out hpl hx)).set 3 _ rfl, ?_, ?_, HB.out⟩
              · exact (R5.out.keep K6.out (fun hx => own_far O5.out hb hx)).setOther (p := ⟨p, 30, none⟩) hbp _
              · rw [runsv_append, runsv_one, List.length_append]
                exact own_of HO.out fun g hg hbase => heap_setCell_other _ _ _ _ (by simp only; omega)
              · exact (K5.out.tr K6.out (fun z hz hx => absurd hx (own_far O5.out hz))).setCell (p := ⟨p, 30, none⟩) (Or.inr rfl) _
    · have hq' := hq.out
      rw [G7.out.over hlt] at hq'
      obtain ⟨rfl, rfl⟩ := Prod.mk.inj hq'
      clear hq hq'
      go_wp2_with fail
      go_quiet (fail)
      go_wp2_with fail
      go_ret
      exact ⟨rfl, G3.out.drewN _, ⟨v, acc, ⟨G4.out.row, G4.out.ok⟩, G5.out, fun a ha => by simp at ha⟩, G6.out.drewN _⟩
end Go.Proofs.YtbdbkjngdhcjpaaDoor
