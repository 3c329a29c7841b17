import Derived.Test.YthmhjjkmnnmjlaaGreatDoorM1
import Derived.Laws.ResultCell
namespace Go.Proofs.YthmhjjkmnnmjlaaGreatDoor
open Go.RowKit
open Go.Proofs

/-- A list of bools as cells. -/
def bv (l : List Bool) : Array Value := (l.map Value.bool).toArray
theorem bv_size (l : List Bool) : (bv l).size = l.length := by simp [bv]
theorem bv_get (l : List Bool) (k : Nat) (h : k < l.length) : (bv l)[k]? = some (.bool l[k]) := by simp [bv, h]
theorem bv_set (l : List Bool) (k : Nat) (x : Bool) : (bv l).setIfInBounds k (.bool x) = bv (l.set k x) := by simp [bv, List.map_set]
theorem bv_one (l : List Bool) : (bv l).all (·.oneCell') = true := by
  rw [Array.all_eq_true_iff_forall_mem]
  intro v hv
  simp [bv] at hv
  rcases hv with ⟨_, rfl⟩ | ⟨_, rfl⟩ <;> rfl
theorem info_set : (Tryz.prog.info? 61).map (·.size) = some 9 := by kernel_rfl

/-- What set has done behind k digits. -/
def SetRel (s : ByteArray) (most : Int) (i k : Nat) (least : Int) (l : List Bool) : Prop :=
  Pu.many (Pu.setStep most) 401 (0, Pu.noSet) (src s) i = Pu.many (Pu.setStep most) (401 - k) (least, l) (src s) (i + k)
theorem SetRel.done {s : ByteArray} {most least : Int} {l : List Bool} {i k : Nat} (h : SetRel s most i k least l) {j : Nat} {o : List Bool} (hq : Pu.set most (src s) i = (j, some o))
    (hst : Pu.setStep most (least, l) (Pu.digit (src s) (i + k)) = none) : j = i + k ∧ o = l := by
  unfold SetRel at h
  rw [many_stop hst] at h
  unfold Pu.set Pu.bnd at hq
  rw [h] at hq
  simp [Pu.ret] at hq
  exact ⟨hq.1.symm, hq.2.symm⟩
theorem SetRel.next {s : ByteArray} {most least : Int} {l : List Bool} {i k q : Nat} (h : SetRel s most i k least l) (hk : k < 401) (hd : Pu.digit (src s) (i + k) = (q : Int)) (h2 : least ≤ q) (h3 : (q : Int) ≤ most) (h4 : q < 9) :
    SetRel s most i (k + 1) ((q : Int) + 1) (l.set q true) := by
  unfold SetRel at h ⊢
  rw [h]
  have e : 401 - k = (401 - (k + 1)) + 1 := by omega
  rw [e, many_go (v' := ((q : Int) + 1, l.set q true))]
  · rfl
  · unfold Pu.setStep
    rw [hd, if_neg (by simp only; omega)]
    rfl
theorem set_some (most : Int) (f : Pu.Src) (i : Nat) : ∃ j l, Pu.set most f i = (j, some l) ∧ l.length = 9 := by
  have h : ∀ n (v : Int × List Bool) i, v.2.length = 9 → ∃ j v', Pu.many (Pu.setStep most) n v f i = (j, some v') ∧ v'.2.length = 9 := by
    intro n
    induction n with
    | zero => intro v i hv; exact ⟨i, v, rfl, hv⟩
    | succ n ih =>
      intro v i hv
      unfold Pu.many
      rcases e : Pu.setStep most v (Pu.digit f i) with _ | v'
      · exact ⟨i, v, rfl, hv⟩
      · refine ih v' (i + 1) ?_
        unfold Pu.setStep at e
        split at e
        · simp at e
        · have := Option.some.inj e
          rw [← this]
          simpa using hv
  obtain ⟨j, v', e, hl⟩ := h 401 (0, Pu.noSet) i rfl
  exact ⟨j, v'.2, by simp [Pu.set, Pu.bnd, e, Pu.ret], hl⟩

theorem row_set {w : World} {g q : Nat} {l : List Bool} (h : w.heap[g]? = some (.cells (bv l) 61 (0, 0))) : (w.setCell ⟨g, q, none⟩ (.bool true)).heap[g]? = some (.cells (bv (l.set q true)) 61 (0, 0)) := by
  rw [heap_setCell_same w g q _ _ _ h, bv_set]

theorem Kp.alloc {S : Nat → Prop} {a w : World} (h : Kp S a w) (o : Obj) : Kp S a (w.alloc o) :=
  h.trans ⟨rfl, rfl, rfl, by simp, fun k hk _ => Below.heap_alloc _ _ _ hk⟩
/-- Writes into blocks that are new. -/
theorem Kp.setNew {S : Nat → Prop} {a w : World} (h : Kp S a w) {p : Addr} (hp : a.heap.size ≤ p.block) (u : Value) : Kp S a (w.setCell p u) :=
  ⟨h.os, h.tape, h.output, by have := h.size; simpa [World.setCell] using this, fun k hk hn => (Below.heap_setCell _ _ _ _ (by omega)).trans (h.block k hk hn)⟩
theorem Kp.setRowNew {S : Nat → Prop} {a w : World} (h : Kp S a w) {g : Nat} (hp : a.heap.size ≤ g) (cs : Array Value) : Kp S a (w.setRow g cs) :=
  ⟨h.os, h.tape, h.output, by have := h.size; simpa using this, fun k hk hn => (setRow_other _ _ _ _ (by omega)).trans (h.block k hk hn)⟩
theorem RdAt.of_row {w w' : World} {b : Nat} {s : ByteArray} {i : Nat} (h : RdAt w b s i) (e : w'.heap[b]? = w.heap[b]?) : RdAt w' b s i := ⟨e.trans h.row, h.le, h.few⟩
theorem RdAt.alloc {w : World} {b : Nat} {s : ByteArray} {i : Nat} (h : RdAt w b s i) (o : Obj) : RdAt (w.alloc o) b s i := h.of_row (Below.heap_alloc _ _ _ h.lt)
theorem RdAt.setOther {w : World} {b : Nat} {s : ByteArray} {i : Nat} (h : RdAt w b s i) {p : Addr} (hp : b ≠ p.block) (u : Value) : RdAt (w.setCell p u) b s i := h.of_row (Below.heap_setCell _ _ _ _ hp)
theorem RdAt.setRow {w : World} {b : Nat} {s : ByteArray} {i : Nat} (h : RdAt w b s i) {g : Nat} (hp : b ≠ g) (cs : Array Value) : RdAt (w.setRow g cs) b s i := h.of_row (setRow_other _ _ _ _ hp)

set_option maxRecDepth 100000 in
set_option maxHeartbeats 1000000 in
theorem set_any (b : Nat) (s : ByteArray) (i : Nat) (most : Int) (w : World) (h : RdAt w b s i) (m0 : 0 ≤ most) (m8 : most ≤ 8) (j : Nat) (o : List Bool) (hq : Hid (Pu.set most (src s) i = (j, some o))) :
    Calls Tryz.prog 119 #[.pointer (some ⟨b, 0, none⟩), .int .i64 most] w fun e w' => e = .returned (.agg (bv o)) ∧ RdAt w' b s j ∧ Kp (· = b) w w' := by
  have H0 := hide h
  have hle := h.le
  have hs := h.few
  have hb := h.lt
  clear h
  go_enter Tryz.func119, Tryz.ntmps119
  go_wp2
  go_loopg [6] (s.size - i) (fun gk v wr => ∃ (k : Nat) (least : Int) (l : List Bool), i + k ≤ s.size ∧ s.size ≤ i + k + gk ∧ v = .int .i64 least ∧ 0 ≤ least ∧ least ≤ 9 ∧ l.length = 9 ∧ RdAt wr b s (i + k) ∧ Kp (· = b) w wr ∧
    wr.heap[w.heap.size]? = some (.cells (bv Pu.noSet) 61 (0, 0)) ∧ wr.heap[w.heap.size + 1]? = some (.cells (bv l) 61 (0, 0)) ∧ SetRel s most i k least l)
  case atStart =>
    exact ⟨0, 0, Pu.noSet, hle, by omega, rfl, by omega, by omega, rfl, (H0.out.alloc _).alloc _, ((Kp.refl _ _).alloc _).alloc _, heap_alloc2_old _ _ _, heap_alloc2_new _ _ _, rfl⟩
  case round =>
    obtain ⟨k, least, l, g1, g2, rfl, g4, g5, g6, g7, g8, g9, g10, g11⟩ := hrel
    have G6 := hide g6
    have c0 := g7.c0
    have c1 := g7.c1
    have f1 := g7.f1
    have e1 : ((i + k : Nat) : Int) = (i : Int) + k := by omega
    rw [e1] at c1
    clear e1
    have G7 := hide g7
    have G8 := hide g8
    have G9 := hide g9
    have G10 := hide g10
    have G11 := hide g11
    clear g6 g7 g8 g9 g10 g11
    have GD : Hid (∀ n, RdAt (wr.drewN n) b s (i + k)) := fun n => G7.out.drewN n
    have hdb := Pu.digit_bd (src s) (i + k)
    by_cases hlt : i + k < s.size
    · by_cases hst : Pu.digit (src s) (i + k) < 0 ∨ Pu.digit (src s) (i + k) < least ∨ most < Pu.digit (src s) (i + k) ∨ 9 ≤ Pu.digit (src s) (i + k)
      · obtain ⟨rfl, rfl⟩ := G11.out.done hq.out (by unfold Pu.setStep; rw [if_pos hst])
        clear hq
        by_cases h1 : Pu.digit (src s) (i + k) < least
        · clear hst
          go_wp2_with fail
          go_quiet (fail)
          go_wp2_with fail
          refine (digit_any b s (i + k) _ (GD.out _)).mono ?_
          rintro e w' ⟨rfl, n, rfl⟩
          generalize Pu.digit (src s) (i + k) = d at *
          go_wp2_with (first
            | (refine wpList_load_row rfl 61 _ rfl (w.heap.size + 1) rfl 61 (bv o) (0, 0) _ G10.out Tryz.underlying61 rfl (by rw [info_set, bv_size, G6.out]) ?_)
            | (refine wpList_store_row rfl 61 _ _ rfl w.heap.size (bv o) rfl rfl 61 (bv Pu.noSet) G9.out (by rw [info_set, bv_size, G6.out]) (by rw [bv_size, bv_size, G6.out]; rfl) (bv_one _) ?_))
          exact bodyPost_ret (v := .agg (bv o)) (results_cell_row Tryz.results119 _ _ w.heap.size 61 (bv o) (0, 0) _ rfl (setRow_heap _ _ (bv Pu.noSet) _ _ _ G9.out) Tryz.underlying61 rfl (by rw [info_set, bv_size, G6.out])) rfl
            ⟨rfl, (GD.out _).setRow (by omega) _, (G8.out.drewN _).setRowNew (Nat.le_refl _) _⟩
        · have h2 : most < Pu.digit (src s) (i + k) := by omega
          clear hst
          go_wp2_with fail
          go_quiet (fail)
          go_wp2_with fail
          refine (digit_any b s (i + k) _ (GD.out _)).mono ?_
          rintro e w' ⟨rfl, n, rfl⟩
          generalize Pu.digit (src s) (i + k) = d at *
          go_wp2_with (first
            | (refine wpList_load_row rfl 61 _ rfl (w.heap.size + 1) rfl 61 (bv o) (0, 0) _ G10.out Tryz.underlying61 rfl (by rw [info_set, bv_size, G6.out]) ?_)
            | (refine wpList_store_row rfl 61 _ _ rfl w.heap.size (bv o) rfl rfl 61 (bv Pu.noSet) G9.out (by rw [info_set, bv_size, G6.out]) (by rw [bv_size, bv_size, G6.out]; rfl) (bv_one _) ?_))
          exact bodyPost_ret (v := .agg (bv o)) (results_cell_row Tryz.results119 _ _ w.heap.size 61 (bv o) (0, 0) _ rfl (setRow_heap _ _ (bv Pu.noSet) _ _ _ G9.out) Tryz.underlying61 rfl (by rw [info_set, bv_size, G6.out])) rfl
            ⟨rfl, (GD.out _).setRow (by omega) _, (G8.out.drewN _).setRowNew (Nat.le_refl _) _⟩
      · obtain ⟨q, hqq⟩ := Int.eq_ofNat_of_zero_le (show 0 ≤ Pu.digit (src s) (i + k) by omega)
        have HQ := hide hqq
        have q1 : least ≤ (q : Int) := by omega
        have q2 : (q : Int) ≤ most := by omega
        have q3 : q < 9 := by omega
        have HN := hide (G11.out.next (by omega) hqq q1 q2 q3)
        clear hst hdb hqq
        have hcell : wr.cell? ⟨w.heap.size + 1, q, none⟩ = some (.bool (l[q]'(by rw [G6.out]; exact q3))) := by
          rw [cell_of_row _ _ _ _ _ _ G10.out, bv_get l q (by rw [G6.out]; exact q3)]
        have hfro : wr.frozen? ⟨w.heap.size + 1, q, none⟩ = false := frozen_of_row _ _ _ _ _ G10.out
        go_wp2_with fail
        go_quiet (fail)
        go_wp2_with fail
        refine (digit_any b s (i + k) _ (GD.out _)).mono ?_
        rw [HQ.out]
        rintro e w' ⟨rfl, n, rfl⟩
        go_wp2_with fail
        go_roundg (gk - 1)
        case measure => omega
        case rel =>
          refine ⟨k + 1, (q : Int) + 1, l.set q true, by omega, by omega, rfl, by omega, by omega, by simpa using G6.out, ?_, ?_, ?_, ?_, HN.out⟩
          · exact ((GD.out _).setOther (p := ⟨w.heap.size + 1, q, none⟩) (by simp only; omega) _).up2 hlt (by omega) (by omega)
          · exact ((G8.out.drewN _).setNew (p := ⟨w.heap.size + 1, q, none⟩) (by simp only; omega) _).setCell rfl _
          · exact (heap_setCell_other _ _ _ _ (by simp only; omega)).trans ((heap_setCell_other _ _ _ _ (by simp only; omega)).trans G9.out)
          · exact (heap_setCell_other _ _ _ _ (by simp only; omega)).trans (row_set (w := wr.drewN _) G10.out)
    · obtain ⟨rfl, rfl⟩ := G11.out.done hq.out (by unfold Pu.setStep; rw [if_pos (Or.inl (by rw [Pu.digit_end (src_ge hlt)]; omega))])
      clear hq
      go_wp2_with fail
      go_quiet (fail)
      go_wp2_with (first
        | (refine wpList_load_row rfl 61 _ rfl (w.heap.size + 1) rfl 61 (bv o) (0, 0) _ G10.out Tryz.underlying61 rfl (by rw [info_set, bv_size, G6.out]) ?_)
        | (refine wpList_store_row rfl 61 _ _ rfl w.heap.size (bv o) rfl rfl 61 (bv Pu.noSet) G9.out (by rw [info_set, bv_size, G6.out]) (by rw [bv_size, bv_size, G6.out]; rfl) (bv_one _) ?_))
      exact bodyPost_ret (v := .agg (bv o)) (results_cell_row Tryz.results119 _ _ w.heap.size 61 (bv o) (0, 0) _ rfl (setRow_heap _ _ (bv Pu.noSet) _ _ _ G9.out) Tryz.underlying61 rfl (by rw [info_set, bv_size, G6.out])) rfl
        ⟨rfl, (GD.out _).setRow (by omega) _, (G8.out.drewN _).setRowNew (Nat.le_refl _) _⟩
end Go.Proofs.YthmhjjkmnnmjlaaGreatDoor
namespace Go.Proofs.YthmhjjkmnnmjlaaGreatDoor
open Go.RowKit
open Go.Proofs

theorem results_row_tmp {P : Program} {fn : Func} {p u : Tmp} {ty : TypeId} (h : fn.results = #[.cell p ty, .tmp u]) (tmps : Array Value) (w : World) (g : Nat) (t : TypeId) (cs : Array Value) (fr : Nat × Nat) (d : TypeDesc)
    (hp : tmps.getD p undef = .pointer (some ⟨g, 0, none⟩)) (hg : w.heap[g]? = some (.cells cs t fr))
    (hu : P.underlying ty = some d) (hd : (match d with | .struct _ | .array _ _ => true | _ => false) = true) (hi : (P.info? ty).map (·.size) = some cs.size) :
    (results fn tmps).run P w = .ok (.tuple #[.agg cs, tmps.getD u undef]) w := by
  rw [results_cell_tmp h, hp]
  simp [asAddr, run_loadVar_row w g t ty cs fr d hg hu hd hi]

theorem Kp.row {S : Nat → Prop} {w w' : World} (h : Kp S w w') {g : Nat} {o : Obj} (hg : w.heap[g]? = some o) (hn : ¬ S g) : w'.heap[g]? = some o :=
  (h.block g (Array.getElem?_eq_some_iff.1 hg).1 hn).trans hg

/-- The cells of a shape. -/
def shv (x : Pu.Shape) : Array Value := #[.int .u8 x.kind, .int .i64 x.w, .int .i64 x.h, .int .i64 x.ws, .int .i64 x.hs, .bool x.wst, .bool x.hst]
def ShAt (w : World) (p : Nat) (x : Pu.Shape) : Prop := w.heap[p]? = some (.cells (shv x) 65 (0, 0))
theorem info_shape : (Tryz.prog.info? 65).map (·.size) = some 7 := by kernel_rfl
theorem shv_one (x : Pu.Shape) : (shv x).all (·.oneCell') = true := by
  rw [Array.all_eq_true_iff_forall_mem]
  intro v hv
  simp [shv] at hv
  rcases hv with rfl | rfl | rfl | rfl | rfl | rfl | rfl <;> rfl
theorem ShAt.cell {w : World} {p : Nat} {x : Pu.Shape} (h : ShAt w p x) (k : Nat) : w.cell? ⟨p, k, none⟩ = (shv x)[k]? := cell_of_row w p k _ _ _ h
theorem ShAt.fro {w : World} {p : Nat} {x : Pu.Shape} (h : ShAt w p x) (k : Nat) : w.frozen? ⟨p, k, none⟩ = false := frozen_of_row w p k _ _ h
theorem ShAt.lt {w : World} {p : Nat} {x : Pu.Shape} (h : ShAt w p x) : p < w.heap.size := (Array.getElem?_eq_some_iff.1 h).1
theorem ShAt.set {w : World} {p : Nat} {x y : Pu.Shape} (h : ShAt w p x) (k : Nat) (v : Value) (hy : (shv x).setIfInBounds k v = shv y) : ShAt (w.setCell ⟨p, k, none⟩ v) p y := by
  unfold ShAt at h ⊢
  rw [heap_setCell_same w p k _ _ _ h, hy]
theorem ShAt.drewN {w : World} {p : Nat} {x : Pu.Shape} (h : ShAt w p x) (n : Nat) : ShAt (w.drewN n) p x := h
theorem ShAt.keep {S : Nat → Prop} {w w' : World} {p : Nat} {x : Pu.Shape} (h : ShAt w p x) (k : Kp S w w') (hn : ¬ S p) : ShAt w' p x := k.row h hn
theorem RdAt.keep {S : Nat → Prop} {w w' : World} {b : Nat} {s : ByteArray} {i : Nat} (h : RdAt w b s i) (k : Kp S w w') (hn : ¬ S b) : RdAt w' b s i := ⟨k.row h.row hn, h.le, h.few⟩

set_option maxHeartbeats 400000 in
theorem rowBounds_any (x : Pu.Shape) (w : World) (h0 : 0 ≤ x.kind) (h1 : x.kind ≤ 255) :
    Calls Tryz.prog 134 #[.agg (shv x)] w fun e w' => e = .returned (.tuple #[.int .i64 (Pu.rowLow x.kind x.w x.ws), .int .i64 (Pu.rowHigh x.kind x.w)]) ∧ Kp (fun _ => False) w w' := by
  obtain ⟨kind, xw, xh, ws, hs, wst, hst⟩ := x
  simp only [shv] at *
  unfold Pu.rowLow Pu.rowHigh
  by_cases k1 : kind = 83
  · subst k1
    rw [if_pos rfl, if_pos rfl]
    go_enter Tryz.func134, Tryz.ntmps134
    go_wp2
    go_quiet (fail)
    go_wp2
    go_ret2
    exact ⟨rfl, ((Kp.refl _ _).alloc _).drewN _⟩
  · have b1 : (kind == 83) = false := by simpa using k1
    rw [if_neg k1, if_neg k1]
    clear k1
    by_cases k2 : xw = 0
    · subst k2
      rw [if_pos (Or.inl rfl)]
      go_enter Tryz.func134, Tryz.ntmps134
      go_wp2
      go_ret2
      exact ⟨rfl, (Kp.refl _ _).alloc _⟩
    · have b2 : (xw == 0) = false := by simpa using k2
      by_cases k3 : ws = 0
      · subst k3
        rw [if_neg (by omega)]
        clear k2
        go_enter Tryz.func134, Tryz.ntmps134
        go_wp2_with fail
        refine (leastSide_any _ _ h0 h1).mono ?_
        rintro e w1 ⟨rfl, rfl⟩
        go_wp2_with fail
        go_ret2
        exact ⟨rfl, (Kp.refl _ _).alloc _⟩
      · have b3 : (ws != 0) = true := by simpa using k3
        rw [if_pos (Or.inr k3)]
        clear k2 k3
        go_enter Tryz.func134, Tryz.ntmps134
        go_wp2
        go_ret2
        exact ⟨rfl, (Kp.refl _ _).alloc _⟩

theorem leastSide_bd (k : Int) : 0 ≤ Pu.leastSide k ∧ Pu.leastSide k ≤ 1 := by unfold Pu.leastSide; split <;> omega

/-- Where a reader fails, or gives a value, behind another. -/
theorem bnd_none {α β : Type} {p : Pu.Rd α} {q : α → Pu.Rd β} {f : Pu.Src} {i j : Nat} (h : p f i = (j, none)) : Pu.bnd p q f i = (j, none) := by unfold Pu.bnd; rw [h]
theorem bnd_some {α β : Type} {p : Pu.Rd α} {q : α → Pu.Rd β} {f : Pu.Src} {i j : Nat} {a : α} (h : p f i = (j, some a)) : Pu.bnd p q f i = q a f j := by unfold Pu.bnd; rw [h]

set_option maxHeartbeats 1000000 in
theorem width_any (b p : Nat) (s : ByteArray) (i : Nat) (k : Int) (w : World) (h : RdAt w b s i) (hp : ShAt w p ⟨k, 0, 0, 0, 0, false, false⟩) (hbp : b ≠ p) (h0 : 0 ≤ k) (h1 : k ≤ 255)
    (j : Nat) (o : Option (Int × Int × Bool)) (hq : Hid (Pu.width k (src s) i = (j, o))) :
    Calls Tryz.prog 122 #[.pointer (some ⟨b, 0, none⟩), .pointer (some ⟨p, 0, none⟩)] w fun e w' => e = .returned (.bool o.isSome) ∧ RdAt w' b s j ∧
      (∃ x, ShAt w' p x ∧ ∀ a, o = some a → x = ⟨k, a.1, 0, a.2.1, 0, a.2.2, false⟩ ∧ 0 ≤ a.1 ∧ a.1 ≤ 12) ∧ Kp (fun x => x = b ∨ x = p) w w' := by
  have hls := leastSide_bd k
  have c0 : w.cell? ⟨p, 0, none⟩ = some (.int .u8 k) := hp.cell 0
  have HP := hide hp
  have h' := hide hq.out
  clear hp hq
  rcases hn : Pu.number (Pu.leastSide k) 12 (src s) i with ⟨j1, _ | cols⟩
  · have hq' : j = j1 ∧ o = none := by
      have := h'.out
      unfold Pu.width at this
      rw [bnd_none hn] at this
      exact ⟨(Prod.mk.inj this).1.symm, (Prod.mk.inj this).2.symm⟩
    obtain ⟨rfl, rfl⟩ := hq'
    have HN := hide hn
    clear hn h'
    go_enter Tryz.func122, Tryz.ntmps122
    go_wp2_with fail
    refine (leastSide_any _ _ h0 h1).mono ?_
    rintro e w1 ⟨rfl, hw⟩
    subst w1
    go_wp2_with fail
    refine (number_any b s i (Pu.leastSide k) 12 _ h (by omega) (by omega) (by omega) (by omega) j none HN).mono ?_
    rintro e w2 ⟨⟨x, rfl, hx⟩, r2, k2⟩
    clear hx
    go_wp2_with fail
    go_ret
    exact ⟨rfl, r2, ⟨_, HP.out.keep k2 (by omega), fun a ha => by simp at ha⟩, k2.mono (fun _ hx => Or.inl hx)⟩
  · have hcb := number_bd hn
    have hq' := h'.out
    unfold Pu.width at hq'
    rw [bnd_some hn] at hq'
    have HQ := hide hq'
    have HN := hide hn
    clear hn h' hq'
    go_enter Tryz.func122, Tryz.ntmps122
    go_wp2_with fail
    refine (leastSide_any _ _ h0 h1).mono ?_
    rintro e w1 ⟨rfl, hw⟩
    subst w1
    go_wp2_with fail
    refine (number_any b s i (Pu.leastSide k) 12 _ h (by omega) (by omega) (by omega) (by omega) j1 (some cols) HN).mono ?_
    rintro e w2 ⟨⟨x, rfl, hx⟩, r2, k2⟩
    obtain rfl := hx cols rfl
    clear hx
    have P2 : Hid (ShAt w2 p ⟨k, 0, 0, 0, 0, false, false⟩) := HP.out.keep k2 (by omega)
    have d0 : w2.cell? ⟨p, 0, none⟩ = some (.int .u8 k) := P2.out.cell 0
    have d1 : w2.cell? ⟨p, 1, none⟩ = some (.int .i64 0) := P2.out.cell 1
    have f1 := P2.out.fro 1
    have P3 : Hid (ShAt (w2.setCell ⟨p, 1, none⟩ (.int .i64 x)) p ⟨k, x, 0, 0, 0, false, false⟩) := P2.out.set 1 _ rfl
    have R3 : Hid (RdAt (w2.setCell ⟨p, 1, none⟩ (.int .i64 x)) b s j1) := r2.setOther hbp _
    have K3 : Hid (Kp (fun x => x = b ∨ x = p) w (w2.setCell ⟨p, 1, none⟩ (.int .i64 x))) := (k2.mono (T := fun x => x = b ∨ x = p) (fun _ hx => Or.inl hx)).setCell (p := ⟨p, 1, none⟩) (Or.inr rfl) _
    by_cases q1 : k = 75
    · subst q1
      by_cases e : src s j1 = 42
      · have hq2 := HQ.out
        rw [if_pos rfl, bnd_some (opt_yes e)] at hq2
        obtain ⟨rfl, rfl⟩ := Prod.mk.inj hq2
        have E := hide e
        clear hq2 e HQ
        go_wp2_with fail
        refine (take_yes R3.out (by omega) E.out).mono ?_
        rintro e w4 ⟨rfl, r4, k4⟩
        have P4 : Hid (ShAt w4 p ⟨75, x, 0, 0, 0, false, false⟩) := P3.out.keep k4 (by omega)
        have g5 : w4.cell? ⟨p, 5, none⟩ = some (.bool false) := P4.out.cell 5
        have f5 := P4.out.fro 5
        go_wp2_with fail
        go_ret
        refine ⟨rfl, r4.setOther hbp _, ⟨_, P4.out.set 5 (.bool true) (y := ⟨75, x, 0, 0, 0, true, false⟩) rfl, ?_⟩, (K3.out.trans (k4.mono (fun _ hx => Or.inl hx))).setCell (p := ⟨p, 5, none⟩) (Or.inr rfl) _⟩
        intro a ha
        obtain rfl := Option.some.inj ha
        exact ⟨rfl, by omega, by omega⟩
      · have hq2 := HQ.out
        rw [if_pos rfl, bnd_some (opt_no e)] at hq2
        obtain ⟨rfl, rfl⟩ := Prod.mk.inj hq2
        have E := hide e
        clear hq2 e HQ
        go_wp2_with fail
        refine (take_no R3.out (by omega) E.out).mono ?_
        rintro e w4 ⟨rfl, r4, k4⟩
        have P4 : Hid (ShAt w4 p ⟨75, x, 0, 0, 0, false, false⟩) := P3.out.keep k4 (by omega)
        have g5 : w4.cell? ⟨p, 5, none⟩ = some (.bool false) := P4.out.cell 5
        have f5 := P4.out.fro 5
        go_wp2_with fail
        go_ret
        refine ⟨rfl, r4.setOther hbp _, ⟨_, P4.out.set 5 (.bool false) (y := ⟨75, x, 0, 0, 0, false, false⟩) rfl, ?_⟩, (K3.out.trans (k4.mono (fun _ hx => Or.inl hx))).setCell (p := ⟨p, 5, none⟩) (Or.inr rfl) _⟩
        intro a ha
        obtain rfl := Option.some.inj ha
        exact ⟨rfl, by omega, by omega⟩
    · have b1 : (k == 75) = false := by simpa using q1
      by_cases q2 : k = 84
      · subst q2
        rcases hsft : Pu.shift x (src s) j1 with ⟨j2, _ | sft⟩
        · have hq2 := HQ.out
          rw [if_neg q1, if_pos rfl, bnd_none hsft] at hq2
          obtain ⟨rfl, rfl⟩ := Prod.mk.inj hq2
          have E := hide hsft
          clear hq2 hsft HQ q1
          go_wp2_with fail
          refine (shift_any b s j1 x _ R3.out (by omega) (by omega) j2 none E).mono ?_
          rintro e w4 ⟨⟨y, rfl, hy⟩, r4, k4⟩
          clear hy
          have P4 : Hid (ShAt w4 p ⟨84, x, 0, 0, 0, false, false⟩) := P3.out.keep k4 (by omega)
          have g5 : w4.cell? ⟨p, 3, none⟩ = some (.int .i64 0) := P4.out.cell 3
          have f5 := P4.out.fro 3
          go_wp2_with fail
          go_ret
          exact ⟨rfl, r4.setOther hbp _, ⟨_, P4.out.set 3 (.int .i64 y) (y := ⟨84, x, 0, y, 0, false, false⟩) rfl, fun a ha => by simp at ha⟩, (K3.out.trans (k4.mono (fun _ hx => Or.inl hx))).setCell (p := ⟨p, 3, none⟩) (Or.inr rfl) _⟩
        · have hq2 := HQ.out
          rw [if_neg q1, if_pos rfl, bnd_some hsft] at hq2
          obtain ⟨rfl, rfl⟩ := Prod.mk.inj hq2
          have E := hide hsft
          clear hq2 hsft HQ q1
          go_wp2_with fail
          refine (shift_any b s j1 x _ R3.out (by omega) (by omega) j2 (some sft) E).mono ?_
          rintro e w4 ⟨⟨y, rfl, hy⟩, r4, k4⟩
          obtain rfl := hy sft rfl
          clear hy
          have P4 : Hid (ShAt w4 p ⟨84, x, 0, 0, 0, false, false⟩) := P3.out.keep k4 (by omega)
          have g5 : w4.cell? ⟨p, 3, none⟩ = some (.int .i64 0) := P4.out.cell 3
          have f5 := P4.out.fro 3
          go_wp2_with fail
          go_ret
          refine ⟨rfl, r4.setOther hbp _, ⟨_, P4.out.set 3 (.int .i64 y) (y := ⟨84, x, 0, y, 0, false, false⟩) rfl, ?_⟩, (K3.out.trans (k4.mono (fun _ hx => Or.inl hx))).setCell (p := ⟨p, 3, none⟩) (Or.inr rfl) _⟩
          intro a ha
          obtain rfl := Option.some.inj ha
          exact ⟨rfl, by omega, by omega⟩
      · have b2 : (k != 84) = true := by simpa using q2
        have hq2 := HQ.out
        rw [if_neg q1, if_neg q2] at hq2
        obtain ⟨rfl, rfl⟩ := Prod.mk.inj hq2
        clear hq2 HQ q1 q2
        go_wp2_with fail
        go_ret
        refine ⟨rfl, R3.out, ⟨_, P3.out, ?_⟩, K3.out⟩
        intro a ha
        obtain rfl := Option.some.inj ha
        exact ⟨rfl, by omega, by omega⟩
end Go.Proofs.YthmhjjkmnnmjlaaGreatDoor
namespace Go.Proofs.YthmhjjkmnnmjlaaGreatDoor
open Go.RowKit
open Go.Proofs

/-- The document's reader at block b. -/
structure RxAt (w : World) (b : Nat) (s : ByteArray) (i : Nat) : Prop where
  row : w.heap[b]? = some (.cells #[.string s, .int .i64 i] 52 (0, 0))
  le : i ≤ s.size
  few : s.size ≤ 400
section
variable {w w' : World} {b : Nat} {s : ByteArray} {i : Nat}
theorem RxAt.c0 (h : RxAt w b s i) : w.cell? ⟨b, 0, none⟩ = some (.string s) := by
  rw [cell_of_row w b 0 _ _ _ h.row]; rfl
theorem RxAt.c1 (h : RxAt w b s i) : w.cell? ⟨b, 1, none⟩ = some (.int .i64 i) := by
  rw [cell_of_row w b 1 _ _ _ h.row]; rfl
theorem RxAt.f1 (h : RxAt w b s i) : w.frozen? ⟨b, 1, none⟩ = false := frozen_of_row w b 1 _ _ h.row
theorem RxAt.lt (h : RxAt w b s i) : b < w.heap.size := block_lt_of_cell h.c0
theorem RxAt.set (h : RxAt w b s i) (j : Nat) (hj : j ≤ s.size) : RxAt (w.setCell ⟨b, 1, none⟩ (.int .i64 j)) b s j := by
  refine ⟨?_, hj, h.few⟩
  rw [heap_setCell_same w b 1 _ _ _ h.row]
  rfl
theorem RxAt.up (h : RxAt w b s i) (hj : i < s.size) : RxAt (w.setCell ⟨b, 1, none⟩ (.int .i64 ((i : Int) + 1))) b s (i + 1) := h.set (i + 1) hj
theorem RxAt.up2 (h : RxAt w b s i) (hj : i < s.size) {z : Int} (hz : z = (i : Int) + 1) {k : Nat} (hk : k = i + 1) : RxAt (w.setCell ⟨b, 1, none⟩ (.int .i64 z)) b s k := by
  subst hz; subst hk; exact h.up hj
theorem RxAt.drewN (h : RxAt w b s i) (n : Nat) : RxAt (w.drewN n) b s i := ⟨h.row, h.le, h.few⟩
theorem RxAt.keep {T : Nat → Prop} (h : RxAt w b s i) (k : Kp T w w') (hn : ¬ T b) : RxAt w' b s i := ⟨k.row h.row hn, h.le, h.few⟩
end

set_option maxHeartbeats 400000 in
theorem xis_any (b : Nat) (s : ByteArray) (i : Nat) (m : Int) (w : World) (h : RxAt w b s i) (hm : 0 ≤ m) :
    Calls Tryz.prog 90 #[.pointer (some ⟨b, 0, none⟩), .int .u8 m] w fun e w' => e = .returned (.bool (decide (src s i = m))) ∧ ∃ n, w' = w.drewN n := by
  have c0 := h.c0
  have c1 := h.c1
  have hs := h.few
  clear h
  by_cases hi : i < s.size
  · rw [src_lt hi]
    go_enter Tryz.func90, Tryz.ntmps90
    go_wp2
    go_quiet (fail)
    go_wp2
    go_ret
    exact ⟨ret_bool (by rw [Bool.eq_iff_iff]; simp), _, rfl⟩
  · rw [src_ge hi]
    go_enter Tryz.func90, Tryz.ntmps90
    go_wp2
    go_quiet (fail)
    go_wp2
    go_ret
    exact ⟨ret_bool (by symm; simp; omega), _, rfl⟩
/-- Where the reader is behind one byte that it may take. -/
def upIf (s : ByteArray) (i : Nat) (m : Int) : Nat := if src s i = m then i + 1 else i

set_option maxHeartbeats 400000 in
theorem xone_any (b : Nat) (s : ByteArray) (i : Nat) (m : Int) (w : World) (h : RxAt w b s i) (hm : 0 ≤ m) :
    Calls Tryz.prog 57 #[.pointer (some ⟨b, 0, none⟩), .int .u8 m] w fun e w' => e = .returned (.bool (decide (src s i = m))) ∧ RxAt w' b s (upIf s i m) ∧ Kp (· = b) w w' := by
  have c1 := h.c1
  have hs := h.few
  have f1 := h.f1
  have HR : Hid (RxAt w b s i) := h
  have hc := xis_any b s i m w h hm
  unfold upIf
  by_cases hi : src s i = m
  · have hlt : i < s.size := by
      by_cases hlt : i < s.size
      · exact hlt
      · rw [src_ge hlt] at hi; omega
    rw [if_pos hi]
    rw [decide_eq_true hi] at hc ⊢
    clear h hi
    go_enter Tryz.func57, Tryz.ntmps57
    go_wp2_with fail
    refine hc.mono ?_
    clear hc
    rintro e w' ⟨rfl, n, rfl⟩
    go_wp2_with fail
    go_ret
    exact ⟨rfl, (HR.out.drewN n).up hlt, ((Kp.refl (· = b) w).drewN n).setCell (p := ⟨b, 1, none⟩) rfl _⟩
  · rw [if_neg hi]
    rw [decide_eq_false hi] at hc ⊢
    clear h hi
    go_enter Tryz.func57, Tryz.ntmps57
    go_wp2_with fail
    refine hc.mono ?_
    clear hc
    rintro e w' ⟨rfl, n, rfl⟩
    go_wp2_with fail
    go_ret
    exact ⟨rfl, HR.out.drewN n, (Kp.refl _ _).drewN _⟩

set_option maxHeartbeats 400000 in
theorem isDigit_any (c : Int) (w : World) : Calls Tryz.prog 88 #[.int .u8 c] w fun e w' => e = .returned (.bool (decide (48 ≤ c ∧ c ≤ 57))) ∧ w' = w := by
  by_cases h1 : 48 ≤ c
  · go_enter Tryz.func88, Tryz.ntmps88
    go_wp2
    go_ret
    exact ⟨ret_bool (by rw [Bool.eq_iff_iff]; simp; omega), rfl⟩
  · go_enter Tryz.func88, Tryz.ntmps88
    go_wp2
    go_ret
    exact ⟨ret_bool (by symm; simp; omega), rfl⟩

set_option maxHeartbeats 400000 in
theorem may_any (v lo hi : Int) (w : World) (h0 : 0 ≤ v) (h1 : v ≤ 9999999) (h2 : 0 ≤ lo) (h3 : lo ≤ 999999) (h4 : 0 ≤ hi) (h5 : hi ≤ 999999) :
    Calls Tryz.prog 89 #[.int .i64 v, .int .i64 lo, .int .i64 hi] w fun e w' => e = .returned (.bool (Pu.begins v lo hi)) ∧ w' = w := by
  by_cases hv : v = 0
  · subst hv
    have HE : Hid (Pu.begins 0 lo hi = decide (lo = 0)) := by unfold Hid Pu.begins; rw [if_pos rfl]
    rw [HE.out]
    clear HE
    go_enter Tryz.func89, Tryz.ntmps89
    go_wp2
    go_loopg [7, 8] 1 (fun gk a l wr => a = .int .i64 0 ∧ l = .int .i64 0 ∧ wr = w)
    case atStart => exact ⟨rfl, rfl, rfl⟩
    case round =>
      obtain ⟨rfl, rfl, hw⟩ := hrel
      subst hw
      by_cases e : lo = 0
      · subst e
        go_wp2
        go_ret
        exact ⟨rfl, rfl⟩
      · have e2 : ¬ lo ≤ 0 := by omega
        go_wp2
        go_ret
        exact ⟨rfl, rfl⟩
  · have hb : (v == 0) = false := by simpa using hv
    have HE : Hid (Pu.begins v lo hi = Pu.bgS lo hi v v) := by unfold Hid Pu.begins; rw [if_neg hv]
    rw [HE.out]
    clear HE
    go_enter Tryz.func89, Tryz.ntmps89
    go_wp2
    go_loop [7, 8] (fun a l => ∃ x y : Int, l = .int .i64 x ∧ a = .int .i64 y ∧ 1 ≤ y ∧ y ≤ 9999999 ∧ 0 ≤ x ∧ x ≤ 10000000 ∧ Pu.bgS lo hi y x = Pu.bgS lo hi v v) (fun a _ => (hi + 1 - intOf a).toNat)
    case atStart => exact ⟨v, v, rfl, rfl, by omega, by omega, by omega, by omega, rfl⟩
    case round =>
      obtain ⟨x, y, rfl, rfl, g1, g2, g3, g4, g5⟩ := hrel
      have G : Hid (Pu.bgS lo hi y x = Pu.bgS lo hi v v) := g5
      have E : Hid (Pu.bgS lo hi y x = if y ≤ hi then (if lo ≤ x then true else Pu.bgS lo hi (y * 10) (x * 10 + 9)) else false) := Pu.bgS_eq lo hi y x g1
      clear g5
      by_cases k1 : y ≤ hi
      · by_cases k2 : lo ≤ x
        · go_wp2
          go_ret
          refine ⟨ret_bool ?_, rfl⟩
          rw [← G.out, E.out, if_pos k1, if_pos k2]
        · go_wp2
          go_round
          case rel => exact ⟨x * 10 + 9, y * 10, rfl, rfl, by omega, by omega, by omega, by omega, by rw [← G.out, E.out, if_pos k1, if_neg k2]⟩
          case measure => simp [intOf]; omega
      · go_wp2
        go_ret
        refine ⟨ret_bool ?_, rfl⟩
        rw [← G.out, E.out, if_neg (by omega)]
end Go.Proofs.YthmhjjkmnnmjlaaGreatDoor
namespace Go.Proofs.YthmhjjkmnnmjlaaGreatDoor
open Go.RowKit
open Go.Proofs

theorem digit_of {s : ByteArray} {i : Nat} (hi : i < s.size) : Pu.digit (src s) i = if 48 ≤ (s[i].toNat : Int) ∧ (s[i].toNat : Int) ≤ 57 then (s[i].toNat : Int) - 48 else -1 := by unfold Pu.digit; rw [src_lt hi]

theorem val_i {k : IntKind} {a b : Int} (h : a = b) : Value.int k a = Value.int k b := by rw [h]

set_option maxRecDepth 100000 in
set_option maxHeartbeats 8000000 in
theorem xnumber_any (b : Nat) (s : ByteArray) (i : Nat) (lo hi : Int) (w : World) (h : RxAt w b s i) (h2 : 0 ≤ lo) (h3 : lo ≤ 999999) (h4 : 0 ≤ hi) (h5 : hi ≤ 999999) (j : Nat) (o : Option Int) (hq : Hid (Pu.number lo hi (src s) i = (j, o))) :
    Calls Tryz.prog 56 #[.pointer (some ⟨b, 0, none⟩), .int .i64 lo, .int .i64 hi] w fun e w' => NumRet e o ∧ RxAt w' b s j ∧ Kp (· = b) w w' := by
  have H0 : Hid (RxAt w b s i) := h
  have hs := h.few
  have hle := h.le
  clear h
  go_enter Tryz.func56, Tryz.ntmps56
  go_wp2
  go_loopg [8, 9] (s.size - i) (fun gk v n wr => ∃ (k : Nat) (x : Int), i + k ≤ s.size ∧ s.size ≤ i + k + gk ∧ v = .int .i64 x ∧ n = .int .i64 k ∧ 0 ≤ x ∧ x ≤ hi ∧ RxAt wr b s (i + k) ∧ Kp (· = b) w wr ∧ NumRel s lo hi i k x ∧ (x = 0 → 0 < k → k = 1))
  case atStart => exact ⟨0, 0, hle, by omega, rfl, rfl, by omega, h4, H0.out, Kp.refl _ _, rfl, fun _ h => by omega⟩
  case round =>
    obtain ⟨k, x, g1, g1', rfl, rfl, g2, g3, g4, g5, g6, g7⟩ := hrel
    have c0 := g4.c0
    have c1 := g4.c1
    have f1 := g4.f1
    have G4 : Hid (RxAt wr b s (i + k)) := g4
    have G5 : Hid (Kp (· = b) w wr) := g5
    have G6 : Hid (NumRel s lo hi i k x) := g6
    have HK1 := hide g7
    clear g4 g5 g6 g7
    have hfin : ∀ a : World, RxAt a b s (i + k) → Kp (· = b) w a → Pu.numStep lo hi (decide (0 < k), x) (Pu.digit (src s) (i + k)) = none → ∀ e : Ending, (∃ y : Bool, e = .returned (.tuple #[.int .i64 x, .bool y]) ∧ y = decide (0 < k ∧ lo ≤ x ∧ x ≤ hi)) → NumRet e o ∧ RxAt a b s j ∧ Kp (· = b) w a := by
      rintro a ha hka hst e ⟨y, rfl, rfl⟩
      obtain ⟨rfl, rfl⟩ := G6.out.done hq.out hst
      refine ⟨⟨x, ?_, ?_⟩, ha, hka⟩
      · by_cases hc : 0 < k ∧ lo ≤ x ∧ x ≤ hi
        · rw [if_pos hc, decide_eq_true hc]; rfl
        · rw [if_neg hc, decide_eq_false hc]; rfl
      · intro a ha
        by_cases hc : 0 < k ∧ lo ≤ x ∧ x ≤ hi
        · rw [if_pos hc] at ha; exact Option.some.inj ha
        · rw [if_neg hc] at ha; simp at ha
    have HF := hide hfin
    clear hfin
    have GD : Hid (∀ n, RxAt (wr.drewN n) b s (i + k)) := fun n => G4.out.drewN n
    have NX := hide (fun (h0 : 0 ≤ Pu.digit (src s) (i + k)) (h1 : i + k < s.size) (h2 : ¬ (x = 0 ∧ 0 < k)) (h3 : Pu.begins (x * 10 + Pu.digit (src s) (i + k)) lo hi = true) => G6.out.next (by omega) h0 h2 h3)
    obtain ⟨p, hp⟩ : ∃ p, i + k = p := ⟨_, rfl⟩
    have HP := hide hp
    rw [hp] at c1 GD HF NX g1 g1'
    have kb : k ≤ 400 := by omega
    clear hp G4 G6
    by_cases hlt : p < s.size
    · have hb : (s[p].toNat : Int) < 256 := by have := s[p].toNat_lt; omega
      have hb0 : 0 ≤ (s[p].toNat : Int) := by omega
      have hdg := digit_of hlt
      by_cases d0 : 48 ≤ (s[p].toNat : Int) ∧ (s[p].toNat : Int) ≤ 57
      · rw [if_pos d0] at hdg
        have LD := hide (fun wx => isDigit_any (s[p].toNat : Int) wx)
        rw [decide_eq_true d0] at LD
        rw [hdg] at NX HF
        clear hdg
        obtain ⟨d, hd⟩ : ∃ d, (s[p].toNat : Int) - 48 = d := ⟨_, rfl⟩
        rw [hd] at NX HF
        have HD := hide hd
        have dl : 0 ≤ d := by omega
        have dh : d ≤ 9 := by omega
        clear hd
        have LM := hide (fun wx => may_any (x * 10 + d) lo hi wx (by omega) (by omega) h2 h3 h4 h5)
        have UP : Hid (∀ n, RxAt ((wr.drewN n).setCell ⟨b, 1, none⟩ (.int .i64 ((p : Int) + 1))) b s (p + 1)) := fun n => (GD.out n).up hlt
        obtain ⟨K, hK⟩ : ∃ K : Int, (k : Int) = K := ⟨_, rfl⟩
        rw [hK]
        have HKK := hide hK
        have kB1 : 0 ≤ K := by omega
        have kB2 : K ≤ 400 := by omega
        clear hK
        cases hbg : Pu.begins (x * 10 + d) lo hi with
        | false =>
          have ST : Hid (Pu.numStep lo hi (decide (0 < k), x) d = none) := num_stop3 hbg
          rw [hbg] at LM
          clear hbg NX
          cases hb1 : (K == 1)
          · go_wp2_with fail
            go_quiet ((go_at_call 88; exact Calls.quiet_of_same (LD.out _)))
            go_wp2_with fail
            go_quiet (fail)
            rw [HD.out]
            go_wp2_with fail
            refine (LM.out _).mono ?_
            rintro e w' ⟨rfl, hw'⟩
            subst w'
            go_wp2_with fail
            all_goals
              go_ret2
              refine HF.out _ (GD.out _) (G5.out.drewN _) ST.out _ ⟨_, rfl, ?_⟩
              symm
              have hkk := HKK.out
              first | (apply decide_eq_true; omega) | (apply decide_eq_false; omega) | (rw [Bool.eq_iff_iff, decide_eq_true_eq, decide_eq_true_eq]; omega)
          · cases hb2 : (x == 0)
            · go_wp2_with fail
              go_quiet ((go_at_call 88; exact Calls.quiet_of_same (LD.out _)))
              go_wp2_with fail
              go_quiet (fail)
              rw [HD.out]
              go_wp2_with fail
              refine (LM.out _).mono ?_
              rintro e w' ⟨rfl, hw'⟩
              subst w'
              go_wp2_with fail
              all_goals
                go_ret2
                refine HF.out _ (GD.out _) (G5.out.drewN _) ST.out _ ⟨_, rfl, ?_⟩
                symm
                have hkk := HKK.out
                first | (apply decide_eq_true; omega) | (apply decide_eq_false; omega) | (rw [Bool.eq_iff_iff, decide_eq_true_eq, decide_eq_true_eq]; omega)
            · go_wp2_with fail
              go_quiet ((go_at_call 88; exact Calls.quiet_of_same (LD.out _)))
              go_wp2_with fail
              go_quiet (fail)
              rw [HD.out]
              go_wp2_with fail
              refine (LM.out _).mono ?_
              rintro e w' ⟨rfl, hw'⟩
              subst w'
              go_wp2_with fail
              all_goals
                go_ret2
                refine HF.out _ (GD.out _) (G5.out.drewN _) ST.out _ ⟨_, rfl, ?_⟩
                symm
                have hkk := HKK.out
                first | (apply decide_eq_true; omega) | (apply decide_eq_false; omega) | (rw [Bool.eq_iff_iff, decide_eq_true_eq, decide_eq_true_eq]; omega)
        | true =>
          rw [hbg] at LM
          have HB := hide (Pu.begins_le hbg (by omega) h4)
          by_cases hz : x = 0 ∧ 0 < k
          · have ST : Hid (Pu.numStep lo hi (decide (0 < k), x) d = none) := num_stop2 hz.1 hz.2
            have k1 : k = 1 := HK1.out hz.1 hz.2
            have hb1 : (K == 1) = true := by have := HKK.out; simp; omega
            have hb2 : (x == 0) = true := by simpa using hz.1
            have HZ := hide hz
            clear hbg NX k1 hz
            go_wp2_with fail
            go_quiet ((go_at_call 88; exact Calls.quiet_of_same (LD.out _)))
            go_wp2_with fail
            go_quiet (fail)
            rw [HD.out]
            go_wp2_with fail
            refine (LM.out _).mono ?_
            rintro e w' ⟨rfl, hw'⟩
            subst w'
            go_wp2_with fail
            all_goals
              go_ret2
              refine HF.out _ (GD.out _) (G5.out.drewN _) ST.out _ ⟨_, rfl, ?_⟩
              symm
              have hkk := HKK.out
              have hzz := HZ.out
              first | (apply decide_eq_true; omega) | (apply decide_eq_false; omega) | (rw [Bool.eq_iff_iff, decide_eq_true_eq, decide_eq_true_eq]; omega)
          · have NX2 := hide (NX.out dl hlt hz hbg)
            have HX1 : Hid (x * 10 + d = 0 → 0 < k + 1 → k + 1 = 1) := fun h0 _ => by omega
            have ng : (K == 1) = false ∨ ((K == 1) = true ∧ (x == 0) = false) := by
              have := HKK.out
              by_cases e : K = 1
              · right
                exact ⟨by simpa using e, by simp; omega⟩
              · left
                simpa using e
            clear hbg NX hz
            rcases ng with hb1 | ⟨hb1, hb2⟩
            all_goals
              go_wp2_with fail
              go_quiet ((go_at_call 88; exact Calls.quiet_of_same (LD.out _)))
              go_wp2_with fail
              go_quiet (fail)
              rw [HD.out]
              go_wp2_with fail
              refine (LM.out _).mono ?_
              rintro e w' ⟨rfl, hw'⟩
              subst w'
              go_wp2_with fail
              go_roundg (gk - 1)
              case measure => omega
              case rel => exact ⟨k + 1, x * 10 + d, by have := HP.out; omega, by have := HP.out; omega, rfl, val_i (by have := HKK.out; omega), by omega, HB.out, (GD.out _).up2 hlt (by omega) (by have := HP.out; omega), (G5.out.drewN _).setCell rfl _, NX2.out, HX1.out⟩
      · rw [if_neg d0] at hdg
        have LD := hide (fun wx => isDigit_any (s[p].toNat : Int) wx)
        rw [decide_eq_false d0] at LD
        have ST : Hid (Pu.numStep lo hi (decide (0 < k), x) (Pu.digit (src s) p) = none) := num_stop1 (by omega)
        clear hdg d0
        go_wp2_with fail
        go_quiet ((go_at_call 88; exact Calls.quiet_of_same (LD.out _)))
        go_wp2_with fail
        all_goals
          go_ret2
          refine HF.out _ (GD.out _) (G5.out.drewN _) ST.out _ ⟨_, rfl, ?_⟩
          symm
          first | (apply decide_eq_true; omega) | (apply decide_eq_false; omega) | (rw [Bool.eq_iff_iff, decide_eq_true_eq, decide_eq_true_eq]; omega)
    · have ST : Hid (Pu.numStep lo hi (decide (0 < k), x) (Pu.digit (src s) p) = none) := num_stop1 (by rw [Pu.digit_end (src_ge hlt)]; omega)
      go_wp2_with fail
      go_quiet (fail)
      go_wp2_with fail
      all_goals
        go_ret2
        refine HF.out _ (GD.out _) (G5.out.drewN _) ST.out _ ⟨_, rfl, ?_⟩
        symm
        first | (apply decide_eq_true; omega) | (apply decide_eq_false; omega) | (rw [Bool.eq_iff_iff, decide_eq_true_eq, decide_eq_true_eq]; omega)
end Go.Proofs.YthmhjjkmnnmjlaaGreatDoor
