import Derived.Test.YtiimimclbkjcbaaWl
import Derived.Test.YtiimimclbkjcbaaWj
import Derived.Deep.AppendLies
import Derived.Deep.RegionLaw
import Derived.Deep.LoopGhost
namespace Go.Proofs.Ytiimimclbkjcbaa
open Go.RowKit
open Go.Proofs

theorem wpList_store_row_g {P : Program} {ops : Array Oper} {rest : List Oper} {o : Oper} {a : Act} {w : World} {Q : Exit → Act → World → Prop} (hgd : o.guard = none) (ty : TypeId) (x y : Operand) (ho : o.op = .store ty x y)
    (g : Nat) (cells : Array Value) (hx : a.eval x = .pointer (some ⟨g, 0, none⟩)) (hy : a.eval y = .agg cells)
    (t : TypeId) (old : Array Value) (hg : w.heap[g]? = some (.cells old t (0, 0))) (hi : (P.info? ty).map (·.size) = some cells.size)
    (hold : old.size = cells.size) (h1 : cells.all (·.oneCell') = true)
    (h : ∀ w', w' = w.setRow g cells → wpList P ops Q rest (a.put o.dst undef) w') : wpList P ops Q (o :: rest) a w :=
  wpList_store_row hgd ty x y ho g cells hx hy t old hg hi hold h1 (h _ rfl)

theorem rulev_states {r : Pu.Rule} (h : RuleOk r) : (rulev r)[19]? = some (.int .i64 r.states) := by
  unfold rulev
  rw [Array.getElem?_append_right (by simp [bv_size, h.1, h.2])]
  simp [bv_size, h.1, h.2]
theorem PtAt.states {w : World} {p : Nat} {r : Pu.Rule} {x : Pu.Shape} {age col row : Int} {v : Value} (h : PtAt w p r x age col row v) : w.cell? ⟨p, 19, none⟩ = some (.int .i64 r.states) := by
  rw [cell_of_row w p _ _ _ _ h.row, ptv_get h.ok, if_pos (by omega), rulev_states h.ok]

/-- The cells of some runs, one behind the other. -/
def runsv : List Pu.Run → List Value
  | [] => []
  | r :: rs => (runv r).toList ++ runsv rs
theorem runsv_append (a b : List Pu.Run) : runsv (a ++ b) = runsv a ++ runsv b := by
  induction a with
  | nil => rfl
  | cons r a ih => simp [runsv, ih]
theorem runsv_one (r : Pu.Run) : runsv [r] = (runv r).toList := by simp [runsv]

theorem run_pos {c : Int} {f : Pu.Src} {i j : Nat} {r : Pu.Run} (h : Pu.run c f i = (j, some r)) : i < j := by
  unfold Pu.run at h
  rcases hc : Pu.count f i with ⟨j1, _ | n⟩
  · rw [bnd_none hc] at h; simp at h
  · have h1 := Pu.good_count.mono f i
    rw [hc] at h1
    rw [bnd_some hc] at h
    rcases ho : Pu.opt 36 f j1 with ⟨j2, _ | t⟩
    · rw [bnd_none ho] at h; simp at h
    · rw [bnd_some ho] at h
      unfold Pu.opt at ho
      split at ho
      · have e1 := (Prod.mk.inj ho).1
        have e2 := Option.some.inj (Prod.mk.inj ho).2
        rw [← e2] at h
        simp [Pu.ret] at h
        simp at h1
        omega
      · have e1 := (Prod.mk.inj ho).1
        have e2 := Option.some.inj (Prod.mk.inj ho).2
        rw [← e2] at h
        simp only [Bool.false_eq_true, if_false] at h
        unfold Pu.state at h
        rcases hl : Pu.letter (Pu.letters c) f j2 with ⟨j3, _ | m⟩
        · rw [bnd_none (bnd_none hl)] at h; simp at h
        · rw [bnd_some (a := if m = 46 then 0 else m - 64) (j := j3) (by rw [bnd_some hl]; rfl)] at h
          have e3 := (Prod.mk.inj h).1
          unfold Pu.letter at hl
          split at hl
          · have e4 := (Prod.mk.inj hl).1
            simp at h1
            omega
          · simp at hl

/-- Where the body stands behind some runs. -/
def BodyRel (s : ByteArray) (c : Int) (i k : Nat) (acc : List Pu.Run) : Prop :=
  acc.length ≤ 401 ∧ Pu.body c 401 [] (src s) i = Pu.body c (401 - acc.length) acc (src s) k
theorem BodyRel.next {s : ByteArray} {c : Int} {i k k' : Nat} {acc : List Pu.Run} {r : Pu.Run} (h : BodyRel s c i k acc) (hl : acc.length < 401) (h1 : k < s.size) (h2 : ¬ src s k = 33) (hr : Pu.run c (src s) k = (k', some r)) : BodyRel s c i k' (acc ++ [r]) := by
  refine ⟨by simp; omega, ?_⟩
  rw [h.2]
  have e : 401 - acc.length = (401 - (acc ++ [r]).length) + 1 := by simp; omega
  rw [e]
  conv => lhs; unfold Pu.body
  rw [if_neg (by rw [src_lt h1]; omega), if_neg h2, hr]
theorem BodyRel.fail {s : ByteArray} {c : Int} {i k k' : Nat} {acc : List Pu.Run} (h : BodyRel s c i k acc) (hl : acc.length < 401) (h1 : k < s.size) (h2 : ¬ src s k = 33) (hr : Pu.run c (src s) k = (k', none)) : Pu.body c 401 [] (src s) i = (k', none) := by
  rw [h.2]
  have e : 401 - acc.length = (401 - acc.length - 1) + 1 := by omega
  rw [e]
  unfold Pu.body
  rw [if_neg (by rw [src_lt h1]; omega), if_neg h2, hr]
theorem BodyRel.stop {s : ByteArray} {c : Int} {i k : Nat} {acc : List Pu.Run} (h : BodyRel s c i k acc) (hl : acc.length < 401) (h2 : src s k = 33) : Pu.body c 401 [] (src s) i = (k + 1, if src s (k + 1) = -1 then some acc else none) := by
  rw [h.2]
  have e : 401 - acc.length = (401 - acc.length - 1) + 1 := by omega
  rw [e]
  unfold Pu.body
  rw [if_neg (by omega), if_pos h2]
theorem BodyRel.over {s : ByteArray} {c : Int} {i k : Nat} {acc : List Pu.Run} (h : BodyRel s c i k acc) (h1 : ¬ k < s.size) : Pu.body c 401 [] (src s) i = (k, none) := by
  rw [h.2, Pu.body_end c _ acc (src s) k (src_ge h1)]
theorem info_run1 : ∃ i, Try.prog.info? 94 = some i ∧ i.zero = some (.agg (runv ⟨0, 0, false⟩)) ∧ i.size = 3 ∧ i.bytes = 24 := by
  have h : (Try.prog.info? 94).map (fun i => (i.zero, i.size, i.bytes)) = some (some (.agg (runv ⟨0, 0, false⟩)), 3, 24) := by kernel_rfl
  cases hq : Try.prog.info? 94 with
  | none => simp [hq] at h
  | some i => simp [hq] at h; exact ⟨i, rfl, h.1, h.2.1, h.2.2⟩
theorem own_of {w w' : World} {base : Nat} {e : TypeId} {sz : Nat} {v : Value} {n : Nat} {xs : List Value} (h : w.ownsRow base e sz v n xs) (hk : ∀ g, g < w.heap.size → base ≤ g → w'.heap[g]? = w.heap[g]?) : w'.ownsRow base e sz v n xs := by
  refine ⟨h.1, ?_⟩
  rcases h.2 with h2 | ⟨g, cap, cur, hv, hb, hg, r⟩
  · exact Or.inl h2
  · exact Or.inr ⟨g, cap, cur, hv, hb, (hk g (Array.getElem?_eq_some_iff.1 hg).1 hb).trans hg, r⟩
theorem own_keep {S : Nat → Prop} {w w' : World} {base : Nat} {e : TypeId} {sz : Nat} {v : Value} {n : Nat} {xs : List Value} (h : w.ownsRow base e sz v n xs) (k : Kp S w w') (hS : ∀ g, base ≤ g → ¬ S g) : w'.ownsRow base e sz v n xs :=
  own_of h fun g hg hb => k.block g hg (hS g hb)
theorem own_far {w : World} {base : Nat} {e : TypeId} {sz : Nat} {v : Value} {n : Nat} {xs : List Value} (h : w.ownsRow base e sz v n xs) {k : Nat} (hk : k < base) : some k ≠ v.ownBlock := by
  rcases h.2 with ⟨rfl, _⟩ | ⟨g, cap, cur, rfl, hb, _⟩
  · simp [Value.ownBlock]
  · simp [Value.ownBlock]; omega

set_option maxRecDepth 100000 in
set_option maxHeartbeats 1000000 in
theorem body_any (b p : Nat) (s : ByteArray) (i : Nat) (r : Pu.Rule) (x : Pu.Shape) (age col row : Int) (w : World) (h : RdAt w b s i) (hp : PtAt w p r x age col row (.slice none 0 0)) (hbp : b ≠ p) (c0 : 0 ≤ r.states) (c9 : r.states ≤ 9)
    (j : Nat) (o : Option (List Pu.Run)) (hq : Hid (Pu.body r.states 401 [] (src s) i = (j, o))) :
    Calls Try.prog 58 #[.pointer (some ⟨b, 0, none⟩), .pointer (some ⟨p, 0, none⟩)] w fun e w' => e = .returned (.bool o.isSome) ∧ RdAt w' b s j ∧
      (∃ v acc, PtAt w' p r x age col row v ∧ w'.ownsRow w.heap.size 94 3 v acc.length (runsv acc) ∧ ∀ a, o = some a → a = acc) ∧ Kp (fun x => x = b ∨ x = p) w w' := by
  have H := hide h
  have HP := hide hp
  have hb := h.lt
  have hpl := hp.lt
  have hle := h.le
  have hs := h.few
  obtain ⟨ti, ti1, ti2, ti3, ti4⟩ := info_run1
  have TI1 := hide ti1
  have TI2 := hide ti2
  have TI3 := hide ti3
  have TI4 := hide ti4
  clear h hp ti1 ti2 ti3 ti4
  go_enter Try.func58, Try.ntmps58
  go_wp2
  go_loopg [6] (s.size - i) (fun gk u wr => ∃ (k : Nat) (acc : List Pu.Run) (v : Value), acc.length ≤ k ∧ s.size ≤ k + gk ∧ RdAt wr b s k ∧ PtAt wr p r x age col row v ∧ wr.ownsRow w.heap.size 94 3 v acc.length (runsv acc) ∧ Kp (fun x => x = b ∨ x = p) w wr ∧ BodyRel s r.states i k acc)
  case atStart => exact ⟨i, [], _, Nat.zero_le _, by omega, H.out, HP.out, World.ownsRow_nil _ _ _ _, Kp.refl _ _, ⟨by simp, rfl⟩⟩
  case round =>
    obtain ⟨k, acc, v, g1, g2, g3, g4, g5, g6, g7⟩ := hrel
    have c0' := g3.c0
    have c1' := g3.c1
    have hk := g3.le
    have G3 := hide g3
    have G4 := hide g4
    have G5 := hide g5
    have G6 := hide g6
    have G7 := hide g7
    clear g3 g4 g5 g6 g7
    by_cases hlt : k < s.size
    · by_cases e : src s k = 33
      · have hq' := hq.out
        rw [G7.out.stop (by omega) e] at hq'
        obtain ⟨rfl, hq2⟩ := Prod.mk.inj hq'
        have E := hide e
        have HQ := hide hq2
        clear e hq hq' hq2
        go_wp2_with fail
        go_quiet (fail)
        go_wp2_with fail
        refine (take_yes (G3.out.drewN _) (by omega) E.out).mono ?_
        rintro e w2 ⟨rfl, r2, k2⟩
        have d0 := r2.c0
        have d1 := r2.c1
        have e1 : ((k + 1 : Nat) : Int) = (k : Int) + 1 := by omega
        rw [e1] at d1
        clear e1
        have hfin : ∀ (n : Nat) (y : Bool), y = decide (k + 1 = s.size) → ∀ e : Ending, e = .returned (.bool y) → e = .returned (.bool o.isSome) ∧ RdAt (w2.drewN n) b s (k + 1) ∧
            (∃ v acc, PtAt (w2.drewN n) p r x age col row v ∧ (w2.drewN n).ownsRow w.heap.size 94 3 v acc.length (runsv acc) ∧ ∀ a, o = some a → a = acc) ∧ Kp (fun x => x = b ∨ x = p) w (w2.drewN n) := by
          rintro n y rfl e rfl
          refine ⟨?_, r2.drewN n, ⟨v, acc, ⟨k2.row (w := wr.drewN _) G4.out.row (by omega), G4.out.ok⟩, own_keep (w := wr.drewN _) (w' := w2) G5.out k2 (by intro g hg; omega), ?_⟩, (G6.out.drewN _).trans (k2.mono (fun _ hx => Or.inl hx)) |>.drewN n⟩
          · by_cases hz : k + 1 = s.size
            · rw [decide_eq_true hz, ← HQ.out, if_pos (src_ge (by omega))]; rfl
            · rw [decide_eq_false hz, ← HQ.out, if_neg (by rw [src_lt (show k + 1 < s.size by omega)]; omega)]; rfl
          · intro a ha
            rw [← HQ.out] at ha
            split at ha
            · exact (Option.some.inj ha).symm
            · simp at ha
        have HF := hide hfin
        clear hfin
        go_wp2_with fail
        go_quiet (fail)
        go_wp2_with fail
        go_ret
        exact HF.out _ _ (by rw [Bool.eq_iff_iff]; simp; omega) _ rfl
      · rcases hrun : Pu.run r.states (src s) k with ⟨k', _ | y⟩
        · have hq' := hq.out
          rw [G7.out.fail (by omega) hlt e hrun] at hq'
          obtain ⟨rfl, rfl⟩ := Prod.mk.inj hq'
          have E := hide e
          have HRUN := hide hrun
          clear e hq hq' hrun
          go_wp2_with fail
          go_quiet (fail)
          go_wp2_with fail
          refine (take_no (G3.out.drewN _) (by omega) E.out).mono ?_
          rintro e w2 ⟨rfl, r2, k2⟩
          have P2 : Hid (PtAt w2 p r x age col row v) := ⟨k2.row (w := wr.drewN _) G4.out.row (by omega), G4.out.ok⟩
          have O2 := hide (own_keep (w := wr.drewN _) (w' := w2) G5.out k2 (by intro g hg; omega))
          have K2 := hide ((G6.out.drewN _).trans (k2.mono (T := fun x => x = b ∨ x = p) (fun _ hx => Or.inl hx)))
          have R2 := hide r2
          clear k2 r2
          have st2 := P2.out.states
          go_wp2_with fail
          refine (run_any b s k r.states _ R2.out c0 c9 k' none HRUN).mono ?_
          rintro e w4 ⟨⟨y, rfl, hy⟩, r4, k4⟩
          clear hy
          have P4 := hide (P2.out.keep k4 (by omega))
          have O4 := hide (own_keep O2.out k4 (by intro g hg; omega))
          have K4 := hide (K2.out.trans (k4.mono (T := fun x => x = b ∨ x = p) (fun _ hx => Or.inl hx)))
          have R4 := hide r4
          clear k4 r4 st2
          have l4 := P4.out.lt
          have l5 := R4.out.lt
          have l6 := K4.out.size
          go_wp2_with (refine wpList_store_row_g rfl 94 _ _ rfl w4.heap.size (runv y) rfl rfl 94 (runv ⟨0, 0, false⟩) (heap_alloc_new _ _) info_run rfl (runv_one _) ?_
                       intro w5 hw5
                       have P5 : Hid (PtAt w5 p r x age col row v) := ⟨by rw [hw5]; exact (setRow_other _ _ _ _ (by omega)).trans (heap_new_keep P4.out.row), P4.out.ok⟩
                       have R5 : Hid (RdAt w5 b s k') := by rw [hw5]; exact (R4.out.alloc _).setRow (by omega) _
                       have K5 : Hid (Kp (fun x => x = b ∨ x = p) w w5) := by rw [hw5]; exact (K4.out.alloc _).setRowNew (by omega) _
                       have O5 : Hid (w5.ownsRow w.heap.size 94 3 v acc.length (runsv acc)) := by rw [hw5]; exact own_of O4.out fun g hg _ => (setRow_other _ _ _ _ (by omega)).trans (Below.heap_alloc _ _ _ hg)
                       clear hw5)
          go_ret
          exact ⟨rfl, R5.out, ⟨v, acc, P5.out, O5.out, fun a ha => by simp at ha⟩, K5.out⟩
        · have kpos := run_pos hrun
          have HB := hide (G7.out.next (by omega) hlt e hrun)
          have E := hide e
          have HRUN := hide hrun
          clear e hq hrun
          go_wp2_with fail
          go_quiet (fail)
          go_wp2_with fail
          refine (take_no (G3.out.drewN _) (by omega) E.out).mono ?_
          rintro e w2 ⟨rfl, r2, k2⟩
          have P2 : Hid (PtAt w2 p r x age col row v) := ⟨k2.row (w := wr.drewN _) G4.out.row (by omega), G4.out.ok⟩
          have O2 := hide (own_keep (w := wr.drewN _) (w' := w2) G5.out k2 (by intro g hg; omega))
          have K2 := hide ((G6.out.drewN _).trans (k2.mono (T := fun x => x = b ∨ x = p) (fun _ hx => Or.inl hx)))
          have R2 := hide r2
          clear k2 r2
          have st2 := P2.out.states
          go_wp2_with fail
          refine (run_any b s k r.states _ R2.out c0 c9 k' (some y) HRUN).mono ?_
          rintro e w4 ⟨⟨y', rfl, hy⟩, r4, k4⟩
          obtain rfl := hy y rfl
          clear hy
          have P4 := hide (P2.out.keep k4 (by omega))
          have O4 := hide (own_keep O2.out k4 (by intro g hg; omega))
          have K4 := hide (K2.out.trans (k4.mono (T := fun x => x = b ∨ x = p) (fun _ hx => Or.inl hx)))
          have R4 := hide r4
          clear k4 r4 st2
          have l4 := P4.out.lt
          have l5 := R4.out.lt
          have l6 := K4.out.size
          go_wp2_with (refine wpList_store_row_g rfl 94 _ _ rfl w4.heap.size (runv y') rfl rfl 94 (runv ⟨0, 0, false⟩) (heap_alloc_new _ _) info_run rfl (runv_one _) ?_
                       intro w5 hw5
                       have P5 : Hid (PtAt w5 p r x age col row v) := ⟨by rw [hw5]; exact (setRow_other _ _ _ _ (by omega)).trans (heap_new_keep P4.out.row), P4.out.ok⟩
                       have R5 : Hid (RdAt w5 b s k') := by rw [hw5]; exact (R4.out.alloc _).setRow (by omega) _
                       have K5 : Hid (Kp (fun x => x = b ∨ x = p) w w5) := by rw [hw5]; exact (K4.out.alloc _).setRowNew (by omega) _
                       have O5 : Hid (w5.ownsRow w.heap.size 94 3 v acc.length (runsv acc)) := by rw [hw5]; exact own_of O4.out fun g hg _ => (setRow_other _ _ _ _ (by omega)).trans (Below.heap_alloc _ _ _ hg)
                       have A5 : Hid (w5.heap[w4.heap.size]? = some (.cells (runv y') 94 (0, 0))) := by rw [hw5]; exact setRow_heap _ _ _ _ _ _ (heap_alloc_new _ _)
                       clear hw5)
          have a0 : w5.cell? ⟨w4.heap.size, 0, none⟩ = some (.int .i64 y'.count) := cell_of_row _ _ 0 _ _ _ A5.out
          have a1 : w5.cell? ⟨w4.heap.size, 1, none⟩ = some (.int .i64 y'.state) := cell_of_row _ _ 1 _ _ _ A5.out
          have a2 : w5.cell? ⟨w4.heap.size, 2, none⟩ = some (.bool y'.down) := cell_of_row _ _ 2 _ _ _ A5.out
          have p5 : w5.cell? ⟨p, 30, none⟩ = some v := P5.out.cell 3
          have l7 : w4.heap.size < w5.heap.size := (Array.getElem?_eq_some_iff.1 A5.out).1
          have l8 : p < w5.heap.size := P5.out.lt
          go_region_law (
            refine step_append_lies _ rfl _ _ 74 rfl w.heap.size 94 ti (.agg (runv ⟨0, 0, false⟩)) 3 24 Try.underlying74 TI1.out TI2.out TI3.out TI4.out rfl (by decide) v acc.length (runsv acc) rfl
              (own_of O5.out fun g hg _ => Below.heap_alloc _ _ _ hg) ⟨w5.heap.size, 0, none⟩ 1 1 (runv y').toList rfl rfl (World.news_of_block (heap_alloc_new w5 (.cells (runv y') 94)))
              (fun u hu => (Array.all_eq_true_iff_forall_mem.1 (runv_one y')) u (by simpa using hu)) (by decide) (by unfold maxLen; omega) (by omega) (by simp; omega) (w5.heap.size + 1) (by simp) ?_
            intro g cap w6 hown hgrow hat hg6
            have q1 : w6.cell? ⟨p, 30, none⟩ = some v := (hgrow.cell_far ⟨p, 30, none⟩ (by simp; omega) (own_far O5.out hpl)).trans ((World.cell?_of_block (Below.heap_alloc _ _ _ (by simp; omega))).trans (P5.out.cell 3))
            have q2 : w6.frozen? ⟨p, 30, none⟩ = false := (hgrow.frozen_far ⟨p, 30, none⟩ (by simp; omega) (own_far O5.out hpl)).trans ((World.frozen?_of_block (Below.heap_alloc _ _ _ (by simp; omega))).trans (P5.out.fro 30))
            have HO := hide hown
            have K6 : Hid (Kp (fun k => some k = v.ownBlock) w5 w6) := ⟨hgrow.os, hgrow.tape, hgrow.output, Nat.le_trans (Nat.le_succ _) (Nat.le_trans (by simp) hgrow.size), fun k hk hn => (hgrow.block k (by simp; omega) hn).trans (Below.heap_alloc _ _ _ hk)⟩
            clear hown hgrow hat)
          all_goals go_wp2_with fail
          all_goals
            go_roundg (gk - 1)
            case measure => omega
            case rel =>
              refine ⟨k', acc ++ [y'], _, by simp; omega, by omega, ?_, (P5.out.keep K6.out (fun hx => own_far O5.out hpl hx)).set 3 _ rfl, ?_, ?_, HB.out⟩
              · exact (R5.out.keep K6.out (fun hx => own_far O5.out hb hx)).setOther (p := ⟨p, 30, none⟩) hbp _
              · rw [runsv_append, runsv_one, List.length_append]
                exact own_of HO.out fun g hg hbase => heap_setCell_other _ _ _ _ (by simp only; omega)
              · exact (K5.out.tr K6.out (fun z hz hx => absurd hx (own_far O5.out hz))).setCell (p := ⟨p, 30, none⟩) (Or.inr rfl) _
    · have hq' := hq.out
      rw [G7.out.over hlt] at hq'
      obtain ⟨rfl, rfl⟩ := Prod.mk.inj hq'
      clear hq hq'
      go_wp2_with fail
      go_quiet (fail)
      go_wp2_with fail
      go_ret
      exact ⟨rfl, G3.out.drewN _, ⟨v, acc, ⟨G4.out.row, G4.out.ok⟩, G5.out, fun a ha => by simp at ha⟩, G6.out.drewN _⟩
end Go.Proofs.Ytiimimclbkjcbaa
