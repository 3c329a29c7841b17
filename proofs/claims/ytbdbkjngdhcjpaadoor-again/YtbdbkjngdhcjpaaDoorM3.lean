import Derived.Test.YtbdbkjngdhcjpaaDoorM2
import Derived.Laws.ResultCell
namespace Go.Proofs.YtbdbkjngdhcjpaaDoor
open Go.RowKit
open Go.Proofs

/-- A list of bools as cells. -/
def bv (l : List Bool) : Array Value := (l.map Value.bool).toArray
theorem bv_size (l : List Bool) : (bv l).size = l.length := by simp [bv]
theorem bv_get (l : List Bool) (k : Nat) (h : k < l.length) : (bv l)[k]? = some (.bool l[k]) := by simp [bv, h]
theorem bv_set (l : List Bool) (k : Nat) (x : Bool) : (bv l).setIfInBounds k (.bool x) = bv (l.set k x) := by simp [bv, List.map_set]
theorem bv_one (l : List Bool) : (bv l).all (·.oneCell') = true := by
  rw [Array.all_eq_true_iff_forall_mem]
  intro v hv
  simp [bv] at hv
  rcases hv with ⟨_, rfl⟩ | ⟨_, rfl⟩ <;> rfl
theorem info_set : (Tryd.prog.info? 46).map (·.size) = some 9 := by kernel_rfl

/-- What set has done behind k digits. -/
def SetRel (s : ByteArray) (most : Int) (i k : Nat) (least : Int) (l : List Bool) : Prop :=
  Pu.many (Pu.setStep most) 401 (0, Pu.noSet) (src s) i = Pu.many (Pu.setStep most) (401 - k) (least, l) (src s) (i + k)
theorem SetRel.done {s : ByteArray} {most least : Int} {l : List Bool} {i k : Nat} (h : SetRel s most i k least l) {j : Nat} {o : List Bool} (hq : Pu.set most (src s) i = (j, some o))
    (hst : Pu.setStep most (least, l) (Pu.digit (src s) (i + k)) = none) : j = i + k ∧ o = l := by
  unfold SetRel at h
  rw [many_stop hst] at h
  unfold Pu.set Pu.bnd at hq
  rw [h] at hq
  simp [Pu.ret] at hq
  exact ⟨hq.1.symm, hq.2.symm⟩
theorem SetRel.next {s : ByteArray} {most least : Int} {l : List Bool} {i k q : Nat} (h : SetRel s most i k least l) (hk : k < 401) (hd : Pu.digit (src s) (i + k) = (q : Int)) (h2 : least ≤ q) (h3 : (q : Int) ≤ most) (h4 : q < 9) :
    SetRel s most i (k + 1) ((q : Int) + 1) (l.set q true) := by
  unfold SetRel at h ⊢
  rw [h]
  have e : 401 - k = (401 - (k + 1)) + 1 := by omega
  rw [e, many_go (v' := ((q : Int) + 1, l.set q true))]
  · rfl
  · unfold Pu.setStep
    rw [hd, if_neg (by simp only; omega)]
    rfl
theorem set_some (most : Int) (f : Pu.Src) (i : Nat) : ∃ j l, Pu.set most f i = (j, some l) ∧ l.length = 9 := by
  have h : ∀ n (v : Int × List Bool) i, v.2.length = 9 → ∃ j v', Pu.many (Pu.setStep most) n v f i = (j, some v') ∧ v'.2.length = 9 := by
    intro n
    induction n with
    | zero => intro v i hv; exact ⟨i, v, rfl, hv⟩
    | succ n ih =>
      intro v i hv
      unfold Pu.many
      rcases e : Pu.setStep most v (Pu.digit f i) with _ | v'
      · exact ⟨i, v, rfl, hv⟩
      · refine ih v' (i + 1) ?_
        unfold Pu.setStep at e
        split at e
        · simp at e
        · have := Option.some.inj e
          rw [← this]
          simpa using hv
  obtain ⟨j, v', e, hl⟩ := h 401 (0, Pu.noSet) i rfl
  exact ⟨j, v'.2, by simp [Pu.set, Pu.bnd, e, Pu.ret], hl⟩

theorem row_set {w : World} {g q : Nat} {l : List Bool} (h : w.heap[g]? = some (.cells (bv l) 46 (0, 0))) : (w.setCell ⟨g, q, none⟩ (.bool true)).heap[g]? = some (.cells (bv (l.set q true)) 46 (0, 0)) := by
  rw [heap_setCell_same w g q _ _ _ h, bv_set]

theorem Kp.alloc {S : Nat → Prop} {a w : World} (h : Kp S a w) (o : Obj) : Kp S a (w.alloc o) :=
  h.trans ⟨rfl, rfl, rfl, by simp, fun k hk _ => Below.heap_alloc _ _ _ hk⟩
/-- Writes into blocks that are new. -/
theorem Kp.setNew {S : Nat → Prop} {a w : World} (h : Kp S a w) {p : Addr} (hp : a.heap.size ≤ p.block) (u : Value) : Kp S a (w.setCell p u) :=
  ⟨h.os, h.tape, h.output, by have := h.size; simpa [World.setCell] using this, fun k hk hn => (Below.heap_setCell _ _ _ _ (by omega)).trans (h.block k hk hn)⟩
theorem Kp.setRowNew {S : Nat → Prop} {a w : World} (h : Kp S a w) {g : Nat} (hp : a.heap.size ≤ g) (cs : Array Value) : Kp S a (w.setRow g cs) :=
  ⟨h.os, h.tape, h.output, by have := h.size; simpa using this, fun k hk hn => (setRow_other _ _ _ _ (by omega)).trans (h.block k hk hn)⟩
theorem RdAt.of_row {w w' : World} {b : Nat} {s : ByteArray} {i : Nat} (h : RdAt w b s i) (e : w'.heap[b]? = w.heap[b]?) : RdAt w' b s i := ⟨e.trans h.row, h.le, h.few⟩
theorem RdAt.alloc {w : World} {b : Nat} {s : ByteArray} {i : Nat} (h : RdAt w b s i) (o : Obj) : RdAt (w.alloc o) b s i := h.of_row (Below.heap_alloc _ _ _ h.lt)
theorem RdAt.setOther {w : World} {b : Nat} {s : ByteArray} {i : Nat} (h : RdAt w b s i) {p : Addr} (hp : b ≠ p.block) (u : Value) : RdAt (w.setCell p u) b s i := h.of_row (Below.heap_setCell _ _ _ _ hp)
theorem RdAt.setRow {w : World} {b : Nat} {s : ByteArray} {i : Nat} (h : RdAt w b s i) {g : Nat} (hp : b ≠ g) (cs : Array Value) : RdAt (w.setRow g cs) b s i := h.of_row (setRow_other _ _ _ _ hp)

set_option maxRecDepth 100000 in
set_option maxHeartbeats 1000000 in
theorem set_any (b : Nat) (s : ByteArray) (i : Nat) (most : Int) (w : World) (h : RdAt w b s i) (m0 : 0 ≤ most) (m8 : most ≤ 8) (j : Nat) (o : List Bool) (hq : Hid (Pu.set most (src s) i = (j, some o))) :
    Calls Tryd.prog 106 #[.pointer (some ⟨b, 0, none⟩), .int .i64 most] w fun e w' => e = .returned (.agg (bv o)) ∧ RdAt w' b s j ∧ Kp (· = b) w w' := by
  have H0 := hide h
  have hle := h.le
  have hs := h.few
  have hb := h.lt
  clear h
  go_enter Tryd.func106, Tryd.ntmps106
  go_wp2
  go_loopg [6] (s.size - i) (fun gk v wr => ∃ (k : Nat) (least : Int) (l : List Bool), i + k ≤ s.size ∧ s.size ≤ i + k + gk ∧ v = .int .i64 least ∧ 0 ≤ least ∧ least ≤ 9 ∧ l.length = 9 ∧ RdAt wr b s (i + k) ∧ Kp (· = b) w wr ∧
    wr.heap[w.heap.size]? = some (.cells (bv Pu.noSet) 46 (0, 0)) ∧ wr.heap[w.heap.size + 1]? = some (.cells (bv l) 46 (0, 0)) ∧ SetRel s most i k least l)
  case atStart =>
    exact ⟨0, 0, Pu.noSet, hle, by omega, rfl, by omega, by omega, rfl, (H0.out.alloc _).alloc _, ((Kp.refl _ _).alloc _).alloc _, heap_alloc2_old _ _ _, heap_alloc2_new _ _ _, rfl⟩
  case round =>
    obtain ⟨k, least, l, g1, g2, rfl, g4, g5, g6, g7, g8, g9, g10, g11⟩ := hrel
    have G6 := hide g6
    have c0 := g7.c0
    have c1 := g7.c1
    have f1 := g7.f1
    have e1 : ((i + k : Nat) : Int) = (i : Int) + k := by omega
    rw [e1] at c1
    clear e1
    have G7 := hide g7
    have G8 := hide g8
    have G9 := hide g9
    have G10 := hide g10
    have G11 := hide g11
    clear g6 g7 g8 g9 g10 g11
    have GD : Hid (∀ n, RdAt (wr.drewN n) b s (i + k)) := fun n => G7.out.drewN n
    have hdb := Pu.digit_bd (src s) (i + k)
    by_cases hlt : i + k < s.size
    · by_cases hst : Pu.digit (src s) (i + k) < 0 ∨ Pu.digit (src s) (i + k) < least ∨ most < Pu.digit (src s) (i + k) ∨ 9 ≤ Pu.digit (src s) (i + k)
      · obtain ⟨rfl, rfl⟩ := G11.out.done hq.out (by unfold Pu.setStep; rw [if_pos hst])
        clear hq
        by_cases h1 : Pu.digit (src s) (i + k) < least
        · clear hst
          go_wp2_with fail
          go_quiet (fail)
          go_wp2_with fail
          refine (digit_any b s (i + k) _ (GD.out _)).mono ?_
          rintro e w' ⟨rfl, n, rfl⟩
          generalize Pu.digit (src s) (i + k) = d at *
          go_wp2_with (first
            | (refine wpList_load_row rfl 46 _ rfl (w.heap.size + 1) rfl 46 (bv o) (0, 0) _ G10.out Tryd.underlying46 rfl (by rw [info_set, bv_size, G6.out]) ?_)
            | (refine wpList_store_row rfl 46 _ _ rfl w.heap.size (bv o) rfl rfl 46 (bv Pu.noSet) G9.out (by rw [info_set, bv_size, G6.out]) (by rw [bv_size, bv_size, G6.out]; rfl) (bv_one _) ?_))
          exact bodyPost_ret (v := .agg (bv o)) (results_cell_row Tryd.results106 _ _ w.heap.size 46 (bv o) (0, 0) _ rfl (setRow_heap _ _ (bv Pu.noSet) _ _ _ G9.out) Tryd.underlying46 rfl (by rw [info_set, bv_size, G6.out])) rfl
            ⟨rfl, (GD.out _).setRow (by omega) _, (G8.out.drewN _).setRowNew (Nat.le_refl _) _⟩
        · have h2 : most < Pu.digit (src s) (i + k) := by omega
          clear hst
          go_wp2_with fail
          go_quiet (fail)
          go_wp2_with fail
          refine (digit_any b s (i + k) _ (GD.out _)).mono ?_
          rintro e w' ⟨rfl, n, rfl⟩
          generalize Pu.digit (src s) (i + k) = d at *
          go_wp2_with (first
            | (refine wpList_load_row rfl 46 _ rfl (w.heap.size + 1) rfl 46 (bv o) (0, 0) _ G10.out Tryd.underlying46 rfl (by rw [info_set, bv_size, G6.out]) ?_)
            | (refine wpList_store_row rfl 46 _ _ rfl w.heap.size (bv o) rfl rfl 46 (bv Pu.noSet) G9.out (by rw [info_set, bv_size, G6.out]) (by rw [bv_size, bv_size, G6.out]; rfl) (bv_one _) ?_))
          exact bodyPost_ret (v := .agg (bv o)) (results_cell_row Tryd.results106 _ _ w.heap.size 46 (bv o) (0, 0) _ rfl (setRow_heap _ _ (bv Pu.noSet) _ _ _ G9.out) Tryd.underlying46 rfl (by rw [info_set, bv_size, G6.out])) rfl
            ⟨rfl, (GD.out _).setRow (by omega) _, (G8.out.drewN _).setRowNew (Nat.le_refl _) _⟩
      · obtain ⟨q, hqq⟩ := Int.eq_ofNat_of_zero_le (show 0 ≤ Pu.digit (src s) (i + k) by omega)
        have HQ := hide hqq
        have q1 : least ≤ (q : Int) := by omega
        have q2 : (q : Int) ≤ most := by omega
        have q3 : q < 9 := by omega
        have HN := hide (G11.out.next (by omega) hqq q1 q2 q3)
        clear hst hdb hqq
        have hcell : wr.cell? ⟨w.heap.size + 1, q, none⟩ = some (.bool (l[q]'(by rw [G6.out]; exact q3))) := by
          rw [cell_of_row _ _ _ _ _ _ G10.out, bv_get l q (by rw [G6.out]; exact q3)]
        have hfro : wr.frozen? ⟨w.heap.size + 1, q, none⟩ = false := frozen_of_row _ _ _ _ _ G10.out
        go_wp2_with fail
        go_quiet (fail)
        go_wp2_with fail
        refine (digit_any b s (i + k) _ (GD.out _)).mono ?_
        rw [HQ.out]
        rintro e w' ⟨rfl, n, rfl⟩
        go_wp2_with fail
        go_roundg (gk - 1)
        case measure => omega
        case rel =>
          refine ⟨k + 1, (q : Int) + 1, l.set q true, by omega, by omega, rfl, by omega, by omega, by simpa using G6.out, ?_, ?_, ?_, ?_, HN.out⟩
          · exact ((GD.out _).setOther (p := ⟨w.heap.size + 1, q, none⟩) (by simp only; omega) _).up2 hlt (by omega) (by omega)
          · exact ((G8.out.drewN _).setNew (p := ⟨w.heap.size + 1, q, none⟩) (by simp only; omega) _).setCell rfl _
          · exact (heap_setCell_other _ _ _ _ (by simp only; omega)).trans ((heap_setCell_other _ _ _ _ (by simp only; omega)).trans G9.out)
          · exact (heap_setCell_other _ _ _ _ (by simp only; omega)).trans (row_set (w := wr.drewN _) G10.out)
    · obtain ⟨rfl, rfl⟩ := G11.out.done hq.out (by unfold Pu.setStep; rw [if_pos (Or.inl (by rw [Pu.digit_end (src_ge hlt)]; omega))])
      clear hq
      go_wp2_with fail
      go_quiet (fail)
      go_wp2_with (first
        | (refine wpList_load_row rfl 46 _ rfl (w.heap.size + 1) rfl 46 (bv o) (0, 0) _ G10.out Tryd.underlying46 rfl (by rw [info_set, bv_size, G6.out]) ?_)
        | (refine wpList_store_row rfl 46 _ _ rfl w.heap.size (bv o) rfl rfl 46 (bv Pu.noSet) G9.out (by rw [info_set, bv_size, G6.out]) (by rw [bv_size, bv_size, G6.out]; rfl) (bv_one _) ?_))
      exact bodyPost_ret (v := .agg (bv o)) (results_cell_row Tryd.results106 _ _ w.heap.size 46 (bv o) (0, 0) _ rfl (setRow_heap _ _ (bv Pu.noSet) _ _ _ G9.out) Tryd.underlying46 rfl (by rw [info_set, bv_size, G6.out])) rfl
        ⟨rfl, (GD.out _).setRow (by omega) _, (G8.out.drewN _).setRowNew (Nat.le_refl _) _⟩
end Go.Proofs.YtbdbkjngdhcjpaaDoor
namespace Go.Proofs.YtbdbkjngdhcjpaaDoor
open Go.RowKit
open Go.Proofs

theorem results_row_tmp {P : Program} {fn : Func} {p u : Tmp} {ty : TypeId} (h : fn.results = #[.cell p ty, .tmp u]) (tmps : Array Value) (w : World) (g : Nat) (t : TypeId) (cs : Array Value) (fr : Nat × Nat) (d : TypeDesc)
    (hp : tmps.getD p undef = .pointer (some ⟨g, 0, none⟩)) (hg : w.heap[g]? = some (.cells cs t fr))
    (hu : P.underlying ty = some d) (hd : (match d with | .struct _ | .array _ _ => true | _ => false) = true) (hi : (P.info? ty).map (·.size) = some cs.size) :
    (results fn tmps).run P w = .ok (.tuple #[.agg cs, tmps.getD u undef]) w := by
  rw [results_cell_tmp h, hp]
  simp [asAddr, run_loadVar_row w g t ty cs fr d hg hu hd hi]

theorem Kp.row {S : Nat → Prop} {w w' : World} (h : Kp S w w') {g : Nat} {o : Obj} (hg : w.heap[g]? = some o) (hn : ¬ S g) : w'.heap[g]? = some o :=
  (h.block g (Array.getElem?_eq_some_iff.1 hg).1 hn).trans hg

/-- The cells of a shape. -/
def shv (x : Pu.Shape) : Array Value := #[.int .u8 x.kind, .int .i64 x.w, .int .i64 x.h, .int .i64 x.ws, .int .i64 x.hs, .bool x.wst, .bool x.hst]
def ShAt (w : World) (p : Nat) (x : Pu.Shape) : Prop := w.heap[p]? = some (.cells (shv x) 50 (0, 0))
theorem info_shape : (Tryd.prog.info? 50).map (·.size) = some 7 := by kernel_rfl
theorem shv_one (x : Pu.Shape) : (shv x).all (·.oneCell') = true := by
  rw [Array.all_eq_true_iff_forall_mem]
  intro v hv
  simp [shv] at hv
  rcases hv with rfl | rfl | rfl | rfl | rfl | rfl | rfl <;> rfl
theorem ShAt.cell {w : World} {p : Nat} {x : Pu.Shape} (h : ShAt w p x) (k : Nat) : w.cell? ⟨p, k, none⟩ = (shv x)[k]? := cell_of_row w p k _ _ _ h
theorem ShAt.fro {w : World} {p : Nat} {x : Pu.Shape} (h : ShAt w p x) (k : Nat) : w.frozen? ⟨p, k, none⟩ = false := frozen_of_row w p k _ _ h
theorem ShAt.lt {w : World} {p : Nat} {x : Pu.Shape} (h : ShAt w p x) : p < w.heap.size := (Array.getElem?_eq_some_iff.1 h).1
theorem ShAt.set {w : World} {p : Nat} {x y : Pu.Shape} (h : ShAt w p x) (k : Nat) (v : Value) (hy : (shv x).setIfInBounds k v = shv y) : ShAt (w.setCell ⟨p, k, none⟩ v) p y := by
  unfold ShAt at h ⊢
  rw [heap_setCell_same w p k _ _ _ h, hy]
theorem ShAt.drewN {w : World} {p : Nat} {x : Pu.Shape} (h : ShAt w p x) (n : Nat) : ShAt (w.drewN n) p x := h
theorem ShAt.keep {S : Nat → Prop} {w w' : World} {p : Nat} {x : Pu.Shape} (h : ShAt w p x) (k : Kp S w w') (hn : ¬ S p) : ShAt w' p x := k.row h hn
theorem RdAt.keep {S : Nat → Prop} {w w' : World} {b : Nat} {s : ByteArray} {i : Nat} (h : RdAt w b s i) (k : Kp S w w') (hn : ¬ S b) : RdAt w' b s i := ⟨k.row h.row hn, h.le, h.few⟩

set_option maxHeartbeats 400000 in
theorem rowBounds_any (x : Pu.Shape) (w : World) (h0 : 0 ≤ x.kind) (h1 : x.kind ≤ 255) :
    Calls Tryd.prog 122 #[.agg (shv x)] w fun e w' => e = .returned (.tuple #[.int .i64 (Pu.rowLow x.kind x.w x.ws), .int .i64 (Pu.rowHigh x.kind x.w)]) ∧ Kp (fun _ => False) w w' := by
  obtain ⟨kind, xw, xh, ws, hs, wst, hst⟩ := x
  simp only [shv] at *
  unfold Pu.rowLow Pu.rowHigh
  by_cases k1 : kind = 83
  · subst k1
    rw [if_pos rfl, if_pos rfl]
    go_enter Tryd.func122, Tryd.ntmps122
    go_wp2
    go_quiet (fail)
    go_wp2
    go_ret2
    exact ⟨rfl, ((Kp.refl _ _).alloc _).drewN _⟩
  · have b1 : (kind == 83) = false := by simpa using k1
    rw [if_neg k1, if_neg k1]
    clear k1
    by_cases k2 : xw = 0
    · subst k2
      rw [if_pos (Or.inl rfl)]
      go_enter Tryd.func122, Tryd.ntmps122
      go_wp2
      go_ret2
      exact ⟨rfl, (Kp.refl _ _).alloc _⟩
    · have b2 : (xw == 0) = false := by simpa using k2
      by_cases k3 : ws = 0
      · subst k3
        rw [if_neg (by omega)]
        clear k2
        go_enter Tryd.func122, Tryd.ntmps122
        go_wp2_with fail
        refine (leastSide_any _ _ h0 h1).mono ?_
        rintro e w1 ⟨rfl, rfl⟩
        go_wp2_with fail
        go_ret2
        exact ⟨rfl, (Kp.refl _ _).alloc _⟩
      · have b3 : (ws != 0) = true := by simpa using k3
        rw [if_pos (Or.inr k3)]
        clear k2 k3
        go_enter Tryd.func122, Tryd.ntmps122
        go_wp2
        go_ret2
        exact ⟨rfl, (Kp.refl _ _).alloc _⟩

theorem leastSide_bd (k : Int) : 0 ≤ Pu.leastSide k ∧ Pu.leastSide k ≤ 1 := by unfold Pu.leastSide; split <;> omega

/-- Where a reader fails, or gives a value, behind another. -/
theorem bnd_none {α β : Type} {p : Pu.Rd α} {q : α → Pu.Rd β} {f : Pu.Src} {i j : Nat} (h : p f i = (j, none)) : Pu.bnd p q f i = (j, none) := by unfold Pu.bnd; rw [h]
theorem bnd_some {α β : Type} {p : Pu.Rd α} {q : α → Pu.Rd β} {f : Pu.Src} {i j : Nat} {a : α} (h : p f i = (j, some a)) : Pu.bnd p q f i = q a f j := by unfold Pu.bnd; rw [h]

set_option maxHeartbeats 1000000 in
theorem width_any (b p : Nat) (s : ByteArray) (i : Nat) (k : Int) (w : World) (h : RdAt w b s i) (hp : ShAt w p ⟨k, 0, 0, 0, 0, false, false⟩) (hbp : b ≠ p) (h0 : 0 ≤ k) (h1 : k ≤ 255)
    (j : Nat) (o : Option (Int × Int × Bool)) (hq : Hid (Pu.width k (src s) i = (j, o))) :
    Calls Tryd.prog 109 #[.pointer (some ⟨b, 0, none⟩), .pointer (some ⟨p, 0, none⟩)] w fun e w' => e = .returned (.bool o.isSome) ∧ RdAt w' b s j ∧
      (∃ x, ShAt w' p x ∧ ∀ a, o = some a → x = ⟨k, a.1, 0, a.2.1, 0, a.2.2, false⟩ ∧ 0 ≤ a.1 ∧ a.1 ≤ 12) ∧ Kp (fun x => x = b ∨ x = p) w w' := by
  have hls := leastSide_bd k
  have c0 : w.cell? ⟨p, 0, none⟩ = some (.int .u8 k) := hp.cell 0
  have HP := hide hp
  have h' := hide hq.out
  clear hp hq
  rcases hn : Pu.number (Pu.leastSide k) 12 (src s) i with ⟨j1, _ | cols⟩
  · have hq' : j = j1 ∧ o = none := by
      have := h'.out
      unfold Pu.width at this
      rw [bnd_none hn] at this
      exact ⟨(Prod.mk.inj this).1.symm, (Prod.mk.inj this).2.symm⟩
    obtain ⟨rfl, rfl⟩ := hq'
    have HN := hide hn
    clear hn h'
    go_enter Tryd.func109, Tryd.ntmps109
    go_wp2_with fail
    refine (leastSide_any _ _ h0 h1).mono ?_
    rintro e w1 ⟨rfl, hw⟩
    subst w1
    go_wp2_with fail
    refine (number_any b s i (Pu.leastSide k) 12 _ h (by omega) (by omega) (by omega) (by omega) j none HN).mono ?_
    rintro e w2 ⟨⟨x, rfl, hx⟩, r2, k2⟩
    clear hx
    go_wp2_with fail
    go_ret
    exact ⟨rfl, r2, ⟨_, HP.out.keep k2 (by omega), fun a ha => by simp at ha⟩, k2.mono (fun _ hx => Or.inl hx)⟩
  · have hcb := number_bd hn
    have hq' := h'.out
    unfold Pu.width at hq'
    rw [bnd_some hn] at hq'
    have HQ := hide hq'
    have HN := hide hn
    clear hn h' hq'
    go_enter Tryd.func109, Tryd.ntmps109
    go_wp2_with fail
    refine (leastSide_any _ _ h0 h1).mono ?_
    rintro e w1 ⟨rfl, hw⟩
    subst w1
    go_wp2_with fail
    refine (number_any b s i (Pu.leastSide k) 12 _ h (by omega) (by omega) (by omega) (by omega) j1 (some cols) HN).mono ?_
    rintro e w2 ⟨⟨x, rfl, hx⟩, r2, k2⟩
    obtain rfl := hx cols rfl
    clear hx
    have P2 : Hid (ShAt w2 p ⟨k, 0, 0, 0, 0, false, false⟩) := HP.out.keep k2 (by omega)
    have d0 : w2.cell? ⟨p, 0, none⟩ = some (.int .u8 k) := P2.out.cell 0
    have d1 : w2.cell? ⟨p, 1, none⟩ = some (.int .i64 0) := P2.out.cell 1
    have f1 := P2.out.fro 1
    have P3 : Hid (ShAt (w2.setCell ⟨p, 1, none⟩ (.int .i64 x)) p ⟨k, x, 0, 0, 0, false, false⟩) := P2.out.set 1 _ rfl
    have R3 : Hid (RdAt (w2.setCell ⟨p, 1, none⟩ (.int .i64 x)) b s j1) := r2.setOther hbp _
    have K3 : Hid (Kp (fun x => x = b ∨ x = p) w (w2.setCell ⟨p, 1, none⟩ (.int .i64 x))) := (k2.mono (T := fun x => x = b ∨ x = p) (fun _ hx => Or.inl hx)).setCell (p := ⟨p, 1, none⟩) (Or.inr rfl) _
    by_cases q1 : k = 75
    · subst q1
      by_cases e : src s j1 = 42
      · have hq2 := HQ.out
        rw [if_pos rfl, bnd_some (opt_yes e)] at hq2
        obtain ⟨rfl, rfl⟩ := Prod.mk.inj hq2
        have E := hide e
        clear hq2 e HQ
        go_wp2_with fail
        refine (take_yes R3.out (by omega) E.out).mono ?_
        rintro e w4 ⟨rfl, r4, k4⟩
        have P4 : Hid (ShAt w4 p ⟨75, x, 0, 0, 0, false, false⟩) := P3.out.keep k4 (by omega)
        have g5 : w4.cell? ⟨p, 5, none⟩ = some (.bool false) := P4.out.cell 5
        have f5 := P4.out.fro 5
        go_wp2_with fail
        go_ret
        refine ⟨rfl, r4.setOther hbp _, ⟨_, P4.out.set 5 (.bool true) (y := ⟨75, x, 0, 0, 0, true, false⟩) rfl, ?_⟩, (K3.out.trans (k4.mono (fun _ hx => Or.inl hx))).setCell (p := ⟨p, 5, none⟩) (Or.inr rfl) _⟩
        intro a ha
        obtain rfl := Option.some.inj ha
        exact ⟨rfl, by omega, by omega⟩
      · have hq2 := HQ.out
        rw [if_pos rfl, bnd_some (opt_no e)] at hq2
        obtain ⟨rfl, rfl⟩ := Prod.mk.inj hq2
        have E := hide e
        clear hq2 e HQ
        go_wp2_with fail
        refine (take_no R3.out (by omega) E.out).mono ?_
        rintro e w4 ⟨rfl, r4, k4⟩
        have P4 : Hid (ShAt w4 p ⟨75, x, 0, 0, 0, false, false⟩) := P3.out.keep k4 (by omega)
        have g5 : w4.cell? ⟨p, 5, none⟩ = some (.bool false) := P4.out.cell 5
        have f5 := P4.out.fro 5
        go_wp2_with fail
        go_ret
        refine ⟨rfl, r4.setOther hbp _, ⟨_, P4.out.set 5 (.bool false) (y := ⟨75, x, 0, 0, 0, false, false⟩) rfl, ?_⟩, (K3.out.trans (k4.mono (fun _ hx => Or.inl hx))).setCell (p := ⟨p, 5, none⟩) (Or.inr rfl) _⟩
        intro a ha
        obtain rfl := Option.some.inj ha
        exact ⟨rfl, by omega, by omega⟩
    · have b1 : (k == 75) = false := by simpa using q1
      by_cases q2 : k = 84
      · subst q2
        rcases hsft : Pu.shift x (src s) j1 with ⟨j2, _ | sft⟩
        · have hq2 := HQ.out
          rw [if_neg q1, if_pos rfl, bnd_none hsft] at hq2
          obtain ⟨rfl, rfl⟩ := Prod.mk.inj hq2
          have E := hide hsft
          clear hq2 hsft HQ q1
          go_wp2_with fail
          refine (shift_any b s j1 x _ R3.out (by omega) (by omega) j2 none E).mono ?_
          rintro e w4 ⟨⟨y, rfl, hy⟩, r4, k4⟩
          clear hy
          have P4 : Hid (ShAt w4 p ⟨84, x, 0, 0, 0, false, false⟩) := P3.out.keep k4 (by omega)
          have g5 : w4.cell? ⟨p, 3, none⟩ = some (.int .i64 0) := P4.out.cell 3
          have f5 := P4.out.fro 3
          go_wp2_with fail
          go_ret
          exact ⟨rfl, r4.setOther hbp _, ⟨_, P4.out.set 3 (.int .i64 y) (y := ⟨84, x, 0, y, 0, false, false⟩) rfl, fun a ha => by simp at ha⟩, (K3.out.trans (k4.mono (fun _ hx => Or.inl hx))).setCell (p := ⟨p, 3, none⟩) (Or.inr rfl) _⟩
        · have hq2 := HQ.out
          rw [if_neg q1, if_pos rfl, bnd_some hsft] at hq2
          obtain ⟨rfl, rfl⟩ := Prod.mk.inj hq2
          have E := hide hsft
          clear hq2 hsft HQ q1
          go_wp2_with fail
          refine (shift_any b s j1 x _ R3.out (by omega) (by omega) j2 (some sft) E).mono ?_
          rintro e w4 ⟨⟨y, rfl, hy⟩, r4, k4⟩
          obtain rfl := hy sft rfl
          clear hy
          have P4 : Hid (ShAt w4 p ⟨84, x, 0, 0, 0, false, false⟩) := P3.out.keep k4 (by omega)
          have g5 : w4.cell? ⟨p, 3, none⟩ = some (.int .i64 0) := P4.out.cell 3
          have f5 := P4.out.fro 3
          go_wp2_with fail
          go_ret
          refine ⟨rfl, r4.setOther hbp _, ⟨_, P4.out.set 3 (.int .i64 y) (y := ⟨84, x, 0, y, 0, false, false⟩) rfl, ?_⟩, (K3.out.trans (k4.mono (fun _ hx => Or.inl hx))).setCell (p := ⟨p, 3, none⟩) (Or.inr rfl) _⟩
          intro a ha
          obtain rfl := Option.some.inj ha
          exact ⟨rfl, by omega, by omega⟩
      · have b2 : (k != 84) = true := by simpa using q2
        have hq2 := HQ.out
        rw [if_neg q1, if_neg q2] at hq2
        obtain ⟨rfl, rfl⟩ := Prod.mk.inj hq2
        clear hq2 HQ q1 q2
        go_wp2_with fail
        go_ret
        refine ⟨rfl, R3.out, ⟨_, P3.out, ?_⟩, K3.out⟩
        intro a ha
        obtain rfl := Option.some.inj ha
        exact ⟨rfl, by omega, by omega⟩
end Go.Proofs.YtbdbkjngdhcjpaaDoor
