import Derived.Test.YtiimimclbkjcbaaWe
import Derived.Laws.ResultCell
namespace Go.Proofs.Ytiimimclbkjcbaa
open Go.RowKit
open Go.Proofs

theorem results_row_tmp {P : Program} {fn : Func} {p u : Tmp} {ty : TypeId} (h : fn.results = #[.cell p ty, .tmp u]) (tmps : Array Value) (w : World) (g : Nat) (t : TypeId) (cs : Array Value) (fr : Nat × Nat) (d : TypeDesc)
    (hp : tmps.getD p undef = .pointer (some ⟨g, 0, none⟩)) (hg : w.heap[g]? = some (.cells cs t fr))
    (hu : P.underlying ty = some d) (hd : (match d with | .struct _ | .array _ _ => true | _ => false) = true) (hi : (P.info? ty).map (·.size) = some cs.size) :
    (results fn tmps).run P w = .ok (.tuple #[.agg cs, tmps.getD u undef]) w := by
  rw [results_cell_tmp h, hp]
  simp [asAddr, run_loadVar_row w g t ty cs fr d hg hu hd hi]

theorem Kp.row {S : Nat → Prop} {w w' : World} (h : Kp S w w') {g : Nat} {o : Obj} (hg : w.heap[g]? = some o) (hn : ¬ S g) : w'.heap[g]? = some o :=
  (h.block g (Array.getElem?_eq_some_iff.1 hg).1 hn).trans hg

/-- The cells of a shape. -/
def shv (x : Pu.Shape) : Array Value := #[.int .u8 x.kind, .int .i64 x.w, .int .i64 x.h, .int .i64 x.ws, .int .i64 x.hs, .bool x.wst, .bool x.hst]
def ShAt (w : World) (p : Nat) (x : Pu.Shape) : Prop := w.heap[p]? = some (.cells (shv x) 58 (0, 0))
theorem info_shape : (Try.prog.info? 58).map (·.size) = some 7 := by kernel_rfl
theorem shv_one (x : Pu.Shape) : (shv x).all (·.oneCell') = true := by
  rw [Array.all_eq_true_iff_forall_mem]
  intro v hv
  simp [shv] at hv
  rcases hv with rfl | rfl | rfl | rfl | rfl | rfl | rfl <;> rfl
theorem ShAt.cell {w : World} {p : Nat} {x : Pu.Shape} (h : ShAt w p x) (k : Nat) : w.cell? ⟨p, k, none⟩ = (shv x)[k]? := cell_of_row w p k _ _ _ h
theorem ShAt.fro {w : World} {p : Nat} {x : Pu.Shape} (h : ShAt w p x) (k : Nat) : w.frozen? ⟨p, k, none⟩ = false := frozen_of_row w p k _ _ h
theorem ShAt.lt {w : World} {p : Nat} {x : Pu.Shape} (h : ShAt w p x) : p < w.heap.size := (Array.getElem?_eq_some_iff.1 h).1
theorem ShAt.set {w : World} {p : Nat} {x y : Pu.Shape} (h : ShAt w p x) (k : Nat) (v : Value) (hy : (shv x).setIfInBounds k v = shv y) : ShAt (w.setCell ⟨p, k, none⟩ v) p y := by
  unfold ShAt at h ⊢
  rw [heap_setCell_same w p k _ _ _ h, hy]
theorem ShAt.drewN {w : World} {p : Nat} {x : Pu.Shape} (h : ShAt w p x) (n : Nat) : ShAt (w.drewN n) p x := h
theorem ShAt.keep {S : Nat → Prop} {w w' : World} {p : Nat} {x : Pu.Shape} (h : ShAt w p x) (k : Kp S w w') (hn : ¬ S p) : ShAt w' p x := k.row h hn
theorem RdAt.keep {S : Nat → Prop} {w w' : World} {b : Nat} {s : ByteArray} {i : Nat} (h : RdAt w b s i) (k : Kp S w w') (hn : ¬ S b) : RdAt w' b s i := ⟨k.row h.row hn, h.le, h.few⟩

set_option maxHeartbeats 400000 in
theorem rowBounds_any (x : Pu.Shape) (w : World) (h0 : 0 ≤ x.kind) (h1 : x.kind ≤ 255) :
    Calls Try.prog 90 #[.agg (shv x)] w fun e w' => e = .returned (.tuple #[.int .i64 (Pu.rowLow x.kind x.w x.ws), .int .i64 (Pu.rowHigh x.kind x.w)]) ∧ Kp (fun _ => False) w w' := by
  obtain ⟨kind, xw, xh, ws, hs, wst, hst⟩ := x
  simp only [shv] at *
  unfold Pu.rowLow Pu.rowHigh
  by_cases k1 : kind = 83
  · subst k1
    rw [if_pos rfl, if_pos rfl]
    go_enter Try.func90, Try.ntmps90
    go_wp2
    go_quiet (fail)
    go_wp2
    go_ret2
    exact ⟨rfl, ((Kp.refl _ _).alloc _).drewN _⟩
  · have b1 : (kind == 83) = false := by simpa using k1
    rw [if_neg k1, if_neg k1]
    clear k1
    by_cases k2 : xw = 0
    · subst k2
      rw [if_pos (Or.inl rfl)]
      go_enter Try.func90, Try.ntmps90
      go_wp2
      go_ret2
      exact ⟨rfl, (Kp.refl _ _).alloc _⟩
    · have b2 : (xw == 0) = false := by simpa using k2
      by_cases k3 : ws = 0
      · subst k3
        rw [if_neg (by omega)]
        clear k2
        go_enter Try.func90, Try.ntmps90
        go_wp2_with fail
        refine (leastSide_any _ _ h0 h1).mono ?_
        rintro e w1 ⟨rfl, rfl⟩
        go_wp2_with fail
        go_ret2
        exact ⟨rfl, (Kp.refl _ _).alloc _⟩
      · have b3 : (ws != 0) = true := by simpa using k3
        rw [if_pos (Or.inr k3)]
        clear k2 k3
        go_enter Try.func90, Try.ntmps90
        go_wp2
        go_ret2
        exact ⟨rfl, (Kp.refl _ _).alloc _⟩

theorem leastSide_bd (k : Int) : 0 ≤ Pu.leastSide k ∧ Pu.leastSide k ≤ 1 := by unfold Pu.leastSide; split <;> omega

/-- Where a reader fails, or gives a value, behind another. -/
theorem bnd_none {α β : Type} {p : Pu.Rd α} {q : α → Pu.Rd β} {f : Pu.Src} {i j : Nat} (h : p f i = (j, none)) : Pu.bnd p q f i = (j, none) := by unfold Pu.bnd; rw [h]
theorem bnd_some {α β : Type} {p : Pu.Rd α} {q : α → Pu.Rd β} {f : Pu.Src} {i j : Nat} {a : α} (h : p f i = (j, some a)) : Pu.bnd p q f i = q a f j := by unfold Pu.bnd; rw [h]

set_option maxHeartbeats 1000000 in
theorem width_any (b p : Nat) (s : ByteArray) (i : Nat) (k : Int) (w : World) (h : RdAt w b s i) (hp : ShAt w p ⟨k, 0, 0, 0, 0, false, false⟩) (hbp : b ≠ p) (h0 : 0 ≤ k) (h1 : k ≤ 255)
    (j : Nat) (o : Option (Int × Int × Bool)) (hq : Hid (Pu.width k (src s) i = (j, o))) :
    Calls Try.prog 82 #[.pointer (some ⟨b, 0, none⟩), .pointer (some ⟨p, 0, none⟩)] w fun e w' => e = .returned (.bool o.isSome) ∧ RdAt w' b s j ∧
      (∃ x, ShAt w' p x ∧ ∀ a, o = some a → x = ⟨k, a.1, 0, a.2.1, 0, a.2.2, false⟩ ∧ 0 ≤ a.1 ∧ a.1 ≤ 12) ∧ Kp (fun x => x = b ∨ x = p) w w' := by
  have hls := leastSide_bd k
  have c0 : w.cell? ⟨p, 0, none⟩ = some (.int .u8 k) := hp.cell 0
  have HP := hide hp
  have h' := hide hq.out
  clear hp hq
  rcases hn : Pu.number (Pu.leastSide k) 12 (src s) i with ⟨j1, _ | cols⟩
  · have hq' : j = j1 ∧ o = none := by
      have := h'.out
      unfold Pu.width at this
      rw [bnd_none hn] at this
      exact ⟨(Prod.mk.inj this).1.symm, (Prod.mk.inj this).2.symm⟩
    obtain ⟨rfl, rfl⟩ := hq'
    have HN := hide hn
    clear hn h'
    go_enter Try.func82, Try.ntmps82
    go_wp2_with fail
    refine (leastSide_any _ _ h0 h1).mono ?_
    rintro e w1 ⟨rfl, hw⟩
    subst w1
    go_wp2_with fail
    refine (number_any b s i (Pu.leastSide k) 12 _ h (by omega) (by omega) (by omega) (by omega) j none HN).mono ?_
    rintro e w2 ⟨⟨x, rfl, hx⟩, r2, k2⟩
    clear hx
    go_wp2_with fail
    go_ret
    exact ⟨rfl, r2, ⟨_, HP.out.keep k2 (by omega), fun a ha => by simp at ha⟩, k2.mono (fun _ hx => Or.inl hx)⟩
  · have hcb := number_bd hn
    have hq' := h'.out
    unfold Pu.width at hq'
    rw [bnd_some hn] at hq'
    have HQ := hide hq'
    have HN := hide hn
    clear hn h' hq'
    go_enter Try.func82, Try.ntmps82
    go_wp2_with fail
    refine (leastSide_any _ _ h0 h1).mono ?_
    rintro e w1 ⟨rfl, hw⟩
    subst w1
    go_wp2_with fail
    refine (number_any b s i (Pu.leastSide k) 12 _ h (by omega) (by omega) (by omega) (by omega) j1 (some cols) HN).mono ?_
    rintro e w2 ⟨⟨x, rfl, hx⟩, r2, k2⟩
    obtain rfl := hx cols rfl
    clear hx
    have P2 : Hid (ShAt w2 p ⟨k, 0, 0, 0, 0, false, false⟩) := HP.out.keep k2 (by omega)
    have d0 : w2.cell? ⟨p, 0, none⟩ = some (.int .u8 k) := P2.out.cell 0
    have d1 : w2.cell? ⟨p, 1, none⟩ = some (.int .i64 0) := P2.out.cell 1
    have f1 := P2.out.fro 1
    have P3 : Hid (ShAt (w2.setCell ⟨p, 1, none⟩ (.int .i64 x)) p ⟨k, x, 0, 0, 0, false, false⟩) := P2.out.set 1 _ rfl
    have R3 : Hid (RdAt (w2.setCell ⟨p, 1, none⟩ (.int .i64 x)) b s j1) := r2.setOther hbp _
    have K3 : Hid (Kp (fun x => x = b ∨ x = p) w (w2.setCell ⟨p, 1, none⟩ (.int .i64 x))) := (k2.mono (T := fun x => x = b ∨ x = p) (fun _ hx => Or.inl hx)).setCell (p := ⟨p, 1, none⟩) (Or.inr rfl) _
    by_cases q1 : k = 75
    · subst q1
      by_cases e : src s j1 = 42
      · have hq2 := HQ.out
        rw [if_pos rfl, bnd_some (opt_yes e)] at hq2
        obtain ⟨rfl, rfl⟩ := Prod.mk.inj hq2
        have E := hide e
        clear hq2 e HQ
        go_wp2_with fail
        refine (take_yes R3.out (by omega) E.out).mono ?_
        rintro e w4 ⟨rfl, r4, k4⟩
        have P4 : Hid (ShAt w4 p ⟨75, x, 0, 0, 0, false, false⟩) := P3.out.keep k4 (by omega)
        have g5 : w4.cell? ⟨p, 5, none⟩ = some (.bool false) := P4.out.cell 5
        have f5 := P4.out.fro 5
        go_wp2_with fail
        go_ret
        refine ⟨rfl, r4.setOther hbp _, ⟨_, P4.out.set 5 (.bool true) (y := ⟨75, x, 0, 0, 0, true, false⟩) rfl, ?_⟩, (K3.out.trans (k4.mono (fun _ hx => Or.inl hx))).setCell (p := ⟨p, 5, none⟩) (Or.inr rfl) _⟩
        intro a ha
        obtain rfl := Option.some.inj ha
        exact ⟨rfl, by omega, by omega⟩
      · have hq2 := HQ.out
        rw [if_pos rfl, bnd_some (opt_no e)] at hq2
        obtain ⟨rfl, rfl⟩ := Prod.mk.inj hq2
        have E := hide e
        clear hq2 e HQ
        go_wp2_with fail
        refine (take_no R3.out (by omega) E.out).mono ?_
        rintro e w4 ⟨rfl, r4, k4⟩
        have P4 : Hid (ShAt w4 p ⟨75, x, 0, 0, 0, false, false⟩) := P3.out.keep k4 (by omega)
        have g5 : w4.cell? ⟨p, 5, none⟩ = some (.bool false) := P4.out.cell 5
        have f5 := P4.out.fro 5
        go_wp2_with fail
        go_ret
        refine ⟨rfl, r4.setOther hbp _, ⟨_, P4.out.set 5 (.bool false) (y := ⟨75, x, 0, 0, 0, false, false⟩) rfl, ?_⟩, (K3.out.trans (k4.mono (fun _ hx => Or.inl hx))).setCell (p := ⟨p, 5, none⟩) (Or.inr rfl) _⟩
        intro a ha
        obtain rfl := Option.some.inj ha
        exact ⟨rfl, by omega, by omega⟩
    · have b1 : (k == 75) = false := by simpa using q1
      by_cases q2 : k = 84
      · subst q2
        rcases hsft : Pu.shift x (src s) j1 with ⟨j2, _ | sft⟩
        · have hq2 := HQ.out
          rw [if_neg q1, if_pos rfl, bnd_none hsft] at hq2
          obtain ⟨rfl, rfl⟩ := Prod.mk.inj hq2
          have E := hide hsft
          clear hq2 hsft HQ q1
          go_wp2_with fail
          refine (shift_any b s j1 x _ R3.out (by omega) (by omega) j2 none E).mono ?_
          rintro e w4 ⟨⟨y, rfl, hy⟩, r4, k4⟩
          clear hy
          have P4 : Hid (ShAt w4 p ⟨84, x, 0, 0, 0, false, false⟩) := P3.out.keep k4 (by omega)
          have g5 : w4.cell? ⟨p, 3, none⟩ = some (.int .i64 0) := P4.out.cell 3
          have f5 := P4.out.fro 3
          go_wp2_with fail
          go_ret
          exact ⟨rfl, r4.setOther hbp _, ⟨_, P4.out.set 3 (.int .i64 y) (y := ⟨84, x, 0, y, 0, false, false⟩) rfl, fun a ha => by simp at ha⟩, (K3.out.trans (k4.mono (fun _ hx => Or.inl hx))).setCell (p := ⟨p, 3, none⟩) (Or.inr rfl) _⟩
        · have hq2 := HQ.out
          rw [if_neg q1, if_pos rfl, bnd_some hsft] at hq2
          obtain ⟨rfl, rfl⟩ := Prod.mk.inj hq2
          have E := hide hsft
          clear hq2 hsft HQ q1
          go_wp2_with fail
          refine (shift_any b s j1 x _ R3.out (by omega) (by omega) j2 (some sft) E).mono ?_
          rintro e w4 ⟨⟨y, rfl, hy⟩, r4, k4⟩
          obtain rfl := hy sft rfl
          clear hy
          have P4 : Hid (ShAt w4 p ⟨84, x, 0, 0, 0, false, false⟩) := P3.out.keep k4 (by omega)
          have g5 : w4.cell? ⟨p, 3, none⟩ = some (.int .i64 0) := P4.out.cell 3
          have f5 := P4.out.fro 3
          go_wp2_with fail
          go_ret
          refine ⟨rfl, r4.setOther hbp _, ⟨_, P4.out.set 3 (.int .i64 y) (y := ⟨84, x, 0, y, 0, false, false⟩) rfl, ?_⟩, (K3.out.trans (k4.mono (fun _ hx => Or.inl hx))).setCell (p := ⟨p, 3, none⟩) (Or.inr rfl) _⟩
          intro a ha
          obtain rfl := Option.some.inj ha
          exact ⟨rfl, by omega, by omega⟩
      · have b2 : (k != 84) = true := by simpa using q2
        have hq2 := HQ.out
        rw [if_neg q1, if_neg q2] at hq2
        obtain ⟨rfl, rfl⟩ := Prod.mk.inj hq2
        clear hq2 HQ q1 q2
        go_wp2_with fail
        go_ret
        refine ⟨rfl, R3.out, ⟨_, P3.out, ?_⟩, K3.out⟩
        intro a ha
        obtain rfl := Option.some.inj ha
        exact ⟨rfl, by omega, by omega⟩
end Go.Proofs.Ytiimimclbkjcbaa
