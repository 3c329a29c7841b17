import Derived.Test.YtiimimclbkjcbaaM2
namespace Go.Proofs.Ytiimimclbkjcbaa
open Go.RowKit
open Go.Proofs

/-- A list of bools as cells. -/
def bv (l : List Bool) : Array Value := (l.map Value.bool).toArray
theorem bv_size (l : List Bool) : (bv l).size = l.length := by simp [bv]
theorem bv_get (l : List Bool) (k : Nat) (h : k < l.length) : (bv l)[k]? = some (.bool l[k]) := by simp [bv, h]
theorem bv_set (l : List Bool) (k : Nat) (x : Bool) : (bv l).setIfInBounds k (.bool x) = bv (l.set k x) := by simp [bv, List.map_set]
theorem bv_one (l : List Bool) : (bv l).all (·.oneCell') = true := by
  rw [Array.all_eq_true_iff_forall_mem]
  intro v hv
  simp [bv] at hv
  rcases hv with ⟨_, rfl⟩ | ⟨_, rfl⟩ <;> rfl
theorem info_set : (Try.prog.info? 54).map (·.size) = some 9 := by kernel_rfl

/-- What set has done behind k digits. -/
def SetRel (s : ByteArray) (most : Int) (i k : Nat) (least : Int) (l : List Bool) : Prop :=
  Pu.many (Pu.setStep most) 401 (0, Pu.noSet) (src s) i = Pu.many (Pu.setStep most) (401 - k) (least, l) (src s) (i + k)
theorem SetRel.done {s : ByteArray} {most least : Int} {l : List Bool} {i k : Nat} (h : SetRel s most i k least l) {j : Nat} {o : List Bool} (hq : Pu.set most (src s) i = (j, some o))
    (hst : Pu.setStep most (least, l) (Pu.digit (src s) (i + k)) = none) : j = i + k ∧ o = l := by
  unfold SetRel at h
  rw [many_stop hst] at h
  unfold Pu.set Pu.bnd at hq
  rw [h] at hq
  simp [Pu.ret] at hq
  exact ⟨hq.1.symm, hq.2.symm⟩
theorem SetRel.next {s : ByteArray} {most least : Int} {l : List Bool} {i k q : Nat} (h : SetRel s most i k least l) (hk : k < 401) (hd : Pu.digit (src s) (i + k) = (q : Int)) (h2 : least ≤ q) (h3 : (q : Int) ≤ most) (h4 : q < 9) :
    SetRel s most i (k + 1) ((q : Int) + 1) (l.set q true) := by
  unfold SetRel at h ⊢
  rw [h]
  have e : 401 - k = (401 - (k + 1)) + 1 := by omega
  rw [e, many_go (v' := ((q : Int) + 1, l.set q true))]
  · rfl
  · unfold Pu.setStep
    rw [hd, if_neg (by simp only; omega)]
    rfl
theorem set_some (most : Int) (f : Pu.Src) (i : Nat) : ∃ j l, Pu.set most f i = (j, some l) ∧ l.length = 9 := by
  have h : ∀ n (v : Int × List Bool) i, v.2.length = 9 → ∃ j v', Pu.many (Pu.setStep most) n v f i = (j, some v') ∧ v'.2.length = 9 := by
    intro n
    induction n with
    | zero => intro v i hv; exact ⟨i, v, rfl, hv⟩
    | succ n ih =>
      intro v i hv
      unfold Pu.many
      rcases e : Pu.setStep most v (Pu.digit f i) with _ | v'
      · exact ⟨i, v, rfl, hv⟩
      · refine ih v' (i + 1) ?_
        unfold Pu.setStep at e
        split at e
        · simp at e
        · have := Option.some.inj e
          rw [← this]
          simpa using hv
  obtain ⟨j, v', e, hl⟩ := h 401 (0, Pu.noSet) i rfl
  exact ⟨j, v'.2, by simp [Pu.set, Pu.bnd, e, Pu.ret], hl⟩

theorem row_set {w : World} {g q : Nat} {l : List Bool} (h : w.heap[g]? = some (.cells (bv l) 54 (0, 0))) : (w.setCell ⟨g, q, none⟩ (.bool true)).heap[g]? = some (.cells (bv (l.set q true)) 54 (0, 0)) := by
  rw [heap_setCell_same w g q _ _ _ h, bv_set]

theorem Kp.alloc {S : Nat → Prop} {a w : World} (h : Kp S a w) (o : Obj) : Kp S a (w.alloc o) :=
  h.trans ⟨rfl, rfl, rfl, by simp, fun k hk _ => Below.heap_alloc _ _ _ hk⟩
/-- Writes into blocks that are new. -/
theorem Kp.setNew {S : Nat → Prop} {a w : World} (h : Kp S a w) {p : Addr} (hp : a.heap.size ≤ p.block) (u : Value) : Kp S a (w.setCell p u) :=
  ⟨h.os, h.tape, h.output, by have := h.size; simpa [World.setCell] using this, fun k hk hn => (Below.heap_setCell _ _ _ _ (by omega)).trans (h.block k hk hn)⟩
theorem Kp.setRowNew {S : Nat → Prop} {a w : World} (h : Kp S a w) {g : Nat} (hp : a.heap.size ≤ g) (cs : Array Value) : Kp S a (w.setRow g cs) :=
  ⟨h.os, h.tape, h.output, by have := h.size; simpa using this, fun k hk hn => (setRow_other _ _ _ _ (by omega)).trans (h.block k hk hn)⟩
theorem RdAt.of_row {w w' : World} {b : Nat} {s : ByteArray} {i : Nat} (h : RdAt w b s i) (e : w'.heap[b]? = w.heap[b]?) : RdAt w' b s i := ⟨e.trans h.row, h.le, h.few⟩
theorem RdAt.alloc {w : World} {b : Nat} {s : ByteArray} {i : Nat} (h : RdAt w b s i) (o : Obj) : RdAt (w.alloc o) b s i := h.of_row (Below.heap_alloc _ _ _ h.lt)
theorem RdAt.setOther {w : World} {b : Nat} {s : ByteArray} {i : Nat} (h : RdAt w b s i) {p : Addr} (hp : b ≠ p.block) (u : Value) : RdAt (w.setCell p u) b s i := h.of_row (Below.heap_setCell _ _ _ _ hp)
theorem RdAt.setRow {w : World} {b : Nat} {s : ByteArray} {i : Nat} (h : RdAt w b s i) {g : Nat} (hp : b ≠ g) (cs : Array Value) : RdAt (w.setRow g cs) b s i := h.of_row (setRow_other _ _ _ _ hp)

set_option maxRecDepth 100000 in
set_option maxHeartbeats 1000000 in
theorem set_any (b : Nat) (s : ByteArray) (i : Nat) (most : Int) (w : World) (h : RdAt w b s i) (m0 : 0 ≤ most) (m8 : most ≤ 8) (j : Nat) (o : List Bool) (hq : Hid (Pu.set most (src s) i = (j, some o))) :
    Calls Try.prog 79 #[.pointer (some ⟨b, 0, none⟩), .int .i64 most] w fun e w' => e = .returned (.agg (bv o)) ∧ RdAt w' b s j ∧ Kp (· = b) w w' := by
  have H0 := hide h
  have hle := h.le
  have hs := h.few
  have hb := h.lt
  clear h
  go_enter Try.func79, Try.ntmps79
  go_wp2
  go_loopg [6] (s.size - i) (fun gk v wr => ∃ (k : Nat) (least : Int) (l : List Bool), i + k ≤ s.size ∧ s.size ≤ i + k + gk ∧ v = .int .i64 least ∧ 0 ≤ least ∧ least ≤ 9 ∧ l.length = 9 ∧ RdAt wr b s (i + k) ∧ Kp (· = b) w wr ∧
    wr.heap[w.heap.size]? = some (.cells (bv Pu.noSet) 54 (0, 0)) ∧ wr.heap[w.heap.size + 1]? = some (.cells (bv l) 54 (0, 0)) ∧ SetRel s most i k least l)
  case atStart =>
    exact ⟨0, 0, Pu.noSet, hle, by omega, rfl, by omega, by omega, rfl, (H0.out.alloc _).alloc _, ((Kp.refl _ _).alloc _).alloc _, heap_alloc2_old _ _ _, heap_alloc2_new _ _ _, rfl⟩
  case round =>
    obtain ⟨k, least, l, g1, g2, rfl, g4, g5, g6, g7, g8, g9, g10, g11⟩ := hrel
    have G6 := hide g6
    have c0 := g7.c0
    have c1 := g7.c1
    have f1 := g7.f1
    have e1 : ((i + k : Nat) : Int) = (i : Int) + k := by omega
    rw [e1] at c1
    clear e1
    have G7 := hide g7
    have G8 := hide g8
    have G9 := hide g9
    have G10 := hide g10
    have G11 := hide g11
    clear g6 g7 g8 g9 g10 g11
    have GD : Hid (∀ n, RdAt (wr.drewN n) b s (i + k)) := fun n => G7.out.drewN n
    have hdb := Pu.digit_bd (src s) (i + k)
    by_cases hlt : i + k < s.size
    · by_cases hst : Pu.digit (src s) (i + k) < 0 ∨ Pu.digit (src s) (i + k) < least ∨ most < Pu.digit (src s) (i + k) ∨ 9 ≤ Pu.digit (src s) (i + k)
      · obtain ⟨rfl, rfl⟩ := G11.out.done hq.out (by unfold Pu.setStep; rw [if_pos hst])
        clear hq
        by_cases h1 : Pu.digit (src s) (i + k) < least
        · clear hst
          go_wp2_with fail
          go_quiet (fail)
          go_wp2_with fail
          refine (digit_any b s (i + k) _ (GD.out _)).mono ?_
          rintro e w' ⟨rfl, n, rfl⟩
          generalize Pu.digit (src s) (i + k) = d at *
          go_wp2_with (first
            | (refine wpList_load_row rfl 54 _ rfl (w.heap.size + 1) rfl 54 (bv o) (0, 0) _ G10.out Try.underlying54 rfl (by rw [info_set, bv_size, G6.out]) ?_)
            | (refine wpList_store_row rfl 54 _ _ rfl w.heap.size (bv o) rfl rfl 54 (bv Pu.noSet) G9.out (by rw [info_set, bv_size, G6.out]) (by rw [bv_size, bv_size, G6.out]; rfl) (bv_one _) ?_))
          exact bodyPost_ret (v := .agg (bv o)) (results_cell_row Try.results79 _ _ w.heap.size 54 (bv o) (0, 0) _ rfl (setRow_heap _ _ (bv Pu.noSet) _ _ _ G9.out) Try.underlying54 rfl (by rw [info_set, bv_size, G6.out])) rfl
            ⟨rfl, (GD.out _).setRow (by omega) _, (G8.out.drewN _).setRowNew (Nat.le_refl _) _⟩
        · have h2 : most < Pu.digit (src s) (i + k) := by omega
          clear hst
          go_wp2_with fail
          go_quiet (fail)
          go_wp2_with fail
          refine (digit_any b s (i + k) _ (GD.out _)).mono ?_
          rintro e w' ⟨rfl, n, rfl⟩
          generalize Pu.digit (src s) (i + k) = d at *
          go_wp2_with (first
            | (refine wpList_load_row rfl 54 _ rfl (w.heap.size + 1) rfl 54 (bv o) (0, 0) _ G10.out Try.underlying54 rfl (by rw [info_set, bv_size, G6.out]) ?_)
            | (refine wpList_store_row rfl 54 _ _ rfl w.heap.size (bv o) rfl rfl 54 (bv Pu.noSet) G9.out (by rw [info_set, bv_size, G6.out]) (by rw [bv_size, bv_size, G6.out]; rfl) (bv_one _) ?_))
          exact bodyPost_ret (v := .agg (bv o)) (results_cell_row Try.results79 _ _ w.heap.size 54 (bv o) (0, 0) _ rfl (setRow_heap _ _ (bv Pu.noSet) _ _ _ G9.out) Try.underlying54 rfl (by rw [info_set, bv_size, G6.out])) rfl
            ⟨rfl, (GD.out _).setRow (by omega) _, (G8.out.drewN _).setRowNew (Nat.le_refl _) _⟩
      · obtain ⟨q, hqq⟩ := Int.eq_ofNat_of_zero_le (show 0 ≤ Pu.digit (src s) (i + k) by omega)
        have HQ := hide hqq
        have q1 : least ≤ (q : Int) := by omega
        have q2 : (q : Int) ≤ most := by omega
        have q3 : q < 9 := by omega
        have HN := hide (G11.out.next (by omega) hqq q1 q2 q3)
        clear hst hdb hqq
        have hcell : wr.cell? ⟨w.heap.size + 1, q, none⟩ = some (.bool (l[q]'(by rw [G6.out]; exact q3))) := by
          rw [cell_of_row _ _ _ _ _ _ G10.out, bv_get l q (by rw [G6.out]; exact q3)]
        have hfro : wr.frozen? ⟨w.heap.size + 1, q, none⟩ = false := frozen_of_row _ _ _ _ _ G10.out
        go_wp2_with fail
        go_quiet (fail)
        go_wp2_with fail
        refine (digit_any b s (i + k) _ (GD.out _)).mono ?_
        rw [HQ.out]
        rintro e w' ⟨rfl, n, rfl⟩
        go_wp2_with fail
        go_roundg (gk - 1)
        case measure => omega
        case rel =>
          refine ⟨k + 1, (q : Int) + 1, l.set q true, by omega, by omega, rfl, by omega, by omega, by simpa using G6.out, ?_, ?_, ?_, ?_, HN.out⟩
          · exact ((GD.out _).setOther (p := ⟨w.heap.size + 1, q, none⟩) (by simp only; omega) _).up2 hlt (by omega) (by omega)
          · exact ((G8.out.drewN _).setNew (p := ⟨w.heap.size + 1, q, none⟩) (by simp only; omega) _).setCell rfl _
          · exact (heap_setCell_other _ _ _ _ (by simp only; omega)).trans ((heap_setCell_other _ _ _ _ (by simp only; omega)).trans G9.out)
          · exact (heap_setCell_other _ _ _ _ (by simp only; omega)).trans (row_set (w := wr.drewN _) G10.out)
    · obtain ⟨rfl, rfl⟩ := G11.out.done hq.out (by unfold Pu.setStep; rw [if_pos (Or.inl (by rw [Pu.digit_end (src_ge hlt)]; omega))])
      clear hq
      go_wp2_with fail
      go_quiet (fail)
      go_wp2_with (first
        | (refine wpList_load_row rfl 54 _ rfl (w.heap.size + 1) rfl 54 (bv o) (0, 0) _ G10.out Try.underlying54 rfl (by rw [info_set, bv_size, G6.out]) ?_)
        | (refine wpList_store_row rfl 54 _ _ rfl w.heap.size (bv o) rfl rfl 54 (bv Pu.noSet) G9.out (by rw [info_set, bv_size, G6.out]) (by rw [bv_size, bv_size, G6.out]; rfl) (bv_one _) ?_))
      exact bodyPost_ret (v := .agg (bv o)) (results_cell_row Try.results79 _ _ w.heap.size 54 (bv o) (0, 0) _ rfl (setRow_heap _ _ (bv Pu.noSet) _ _ _ G9.out) Try.underlying54 rfl (by rw [info_set, bv_size, G6.out])) rfl
        ⟨rfl, (GD.out _).setRow (by omega) _, (G8.out.drewN _).setRowNew (Nat.le_refl _) _⟩
end Go.Proofs.Ytiimimclbkjcbaa
