import Derived.Test.YtbdbkjngdhcjpaaDoorM4
import Derived.Test.YtbdbkjngdhcjpaaDoorM5
import Derived.Test.YtbdbkjngdhcjpaaDoorM7
namespace Go.Proofs.YtbdbkjngdhcjpaaDoor
open Go.RowKit
open Go.Proofs

/-- A box at block p, no edge of it beyond M. -/
def bxv (e : Bool) (L T R B : Int) : Array Value := #[.bool e, .int .i64 L, .int .i64 T, .int .i64 R, .int .i64 B]
def BxW (w : World) (p : Nat) (M : Int) : Prop := ∃ e L T R B, w.heap[p]? = some (.cells (bxv e L T R B) 81 (0, 0)) ∧ (-M ≤ L ∧ L ≤ M) ∧ (-M ≤ T ∧ T ≤ M) ∧ (-M ≤ R ∧ R ≤ M) ∧ (-M ≤ B ∧ B ≤ M)
section
variable {w : World} {p : Nat} {M u : Int}
theorem BxW.s0 (h : BxW w p M) (e : Bool) : BxW (w.setCell ⟨p, 0, none⟩ (.bool e)) p M := by
  obtain ⟨e0, L, T, R, B, hr, h1, h2, h3, h4⟩ := h
  exact ⟨e, L, T, R, B, by rw [heap_setCell_same w p _ _ _ _ hr]; rfl, h1, h2, h3, h4⟩
theorem BxW.s1 (h : BxW w p M) (hu : -M ≤ u ∧ u ≤ M) : BxW (w.setCell ⟨p, 1, none⟩ (.int .i64 u)) p M := by
  obtain ⟨e0, L, T, R, B, hr, h1, h2, h3, h4⟩ := h
  exact ⟨e0, u, T, R, B, by rw [heap_setCell_same w p _ _ _ _ hr]; rfl, hu, h2, h3, h4⟩
theorem BxW.s2 (h : BxW w p M) (hu : -M ≤ u ∧ u ≤ M) : BxW (w.setCell ⟨p, 2, none⟩ (.int .i64 u)) p M := by
  obtain ⟨e0, L, T, R, B, hr, h1, h2, h3, h4⟩ := h
  exact ⟨e0, L, u, R, B, by rw [heap_setCell_same w p _ _ _ _ hr]; rfl, h1, hu, h3, h4⟩
theorem BxW.s3 (h : BxW w p M) (hu : -M ≤ u ∧ u ≤ M) : BxW (w.setCell ⟨p, 3, none⟩ (.int .i64 u)) p M := by
  obtain ⟨e0, L, T, R, B, hr, h1, h2, h3, h4⟩ := h
  exact ⟨e0, L, T, u, B, by rw [heap_setCell_same w p _ _ _ _ hr]; rfl, h1, h2, hu, h4⟩
theorem BxW.s4 (h : BxW w p M) (hu : -M ≤ u ∧ u ≤ M) : BxW (w.setCell ⟨p, 4, none⟩ (.int .i64 u)) p M := by
  obtain ⟨e0, L, T, R, B, hr, h1, h2, h3, h4⟩ := h
  exact ⟨e0, L, T, R, u, by rw [heap_setCell_same w p _ _ _ _ hr]; rfl, h1, h2, h3, hu⟩
end

theorem Kp.setB {a w : World} {p k : Nat} {u : Value} (h : Kp (· = p) a w) : Kp (· = p) a (w.setCell ⟨p, k, none⟩ u) := h.setCell rfl u

set_option maxHeartbeats 1000000 in
theorem add_any (p : Nat) (M x y : Int) (w : World) (h : BxW w p M) (hx : -M ≤ x ∧ x ≤ M) (hy : -M ≤ y ∧ y ≤ M) :
    Calls Tryd.prog 69 #[.pointer (some ⟨p, 0, none⟩), .int .i64 x, .int .i64 y] w fun e w' => (∃ v, e = .returned v) ∧ BxW w' p M ∧ Kp (· = p) w w' := by
  have H := hide h
  obtain ⟨e0, L, T, R, B, hr, h1, h2, h3, h4⟩ := h
  have c0 : w.cell? ⟨p, 0, none⟩ = some (.bool e0) := cell_of_row w p 0 _ _ _ hr
  have c1 : w.cell? ⟨p, 1, none⟩ = some (.int .i64 L) := cell_of_row w p 1 _ _ _ hr
  have c2 : w.cell? ⟨p, 2, none⟩ = some (.int .i64 T) := cell_of_row w p 2 _ _ _ hr
  have c3 : w.cell? ⟨p, 3, none⟩ = some (.int .i64 R) := cell_of_row w p 3 _ _ _ hr
  have c4 : w.cell? ⟨p, 4, none⟩ = some (.int .i64 B) := cell_of_row w p 4 _ _ _ hr
  have f0 := frozen_of_row w p 0 _ _ hr
  have f1 := frozen_of_row w p 1 _ _ hr
  have f2 := frozen_of_row w p 2 _ _ hr
  have f3 := frozen_of_row w p 3 _ _ hr
  have f4 := frozen_of_row w p 4 _ _ hr
  clear hr
  cases e0
  · go_enter Tryd.func69, Tryd.ntmps69
    go_wp2
    all_goals
      go_end0
      refine ⟨⟨_, rfl⟩, ?_, ?_⟩
      · repeat (first | (with_reducible exact H.out) | (with_reducible refine BxW.s1 ?_ hx) | (with_reducible refine BxW.s3 ?_ hx) | (with_reducible refine BxW.s2 ?_ hy) | (with_reducible refine BxW.s4 ?_ hy) | (with_reducible refine BxW.s0 ?_ _))
      · repeat (first | (with_reducible exact Kp.refl _ _) | (with_reducible refine Kp.setB ?_))
  · go_enter Tryd.func69, Tryd.ntmps69
    go_wp2
    all_goals
      go_end0
      refine ⟨⟨_, rfl⟩, ?_, ?_⟩
      · repeat (first | (with_reducible exact H.out) | (with_reducible refine BxW.s1 ?_ hx) | (with_reducible refine BxW.s3 ?_ hx) | (with_reducible refine BxW.s2 ?_ hy) | (with_reducible refine BxW.s4 ?_ hy) | (with_reducible refine BxW.s0 ?_ _))
      · repeat (first | (with_reducible exact Kp.refl _ _) | (with_reducible refine Kp.setB ?_))
end Go.Proofs.YtbdbkjngdhcjpaaDoor
namespace Go.Proofs.YtbdbkjngdhcjpaaDoor
open Go.RowKit
open Go.Proofs

theorem build_box (w : World) : (Instr.build 81 #[(0, .bool true)]).run Tryd.prog w = .ok (.agg (bxv true 0 0 0 0)) w := by kernel_rfl
theorem info_box : (Tryd.prog.info? 81).map (·.size) = some 5 := by kernel_rfl
theorem bxv_one (e : Bool) (L T R B : Int) : (bxv e L T R B).all (·.oneCell') = true := by
  rw [Array.all_eq_true_iff_forall_mem]
  intro v hv
  simp [bxv] at hv
  rcases hv with rfl | rfl | rfl | rfl | rfl <;> rfl
theorem BxW.keep {T : Nat → Prop} {w w' : World} {p : Nat} {M : Int} (h : BxW w p M) (k : Kp T w w') (hn : ¬ T p) : BxW w' p M := by
  obtain ⟨e0, L, Tp, R, B, hr, h1, h2, h3, h4⟩ := h
  exact ⟨e0, L, Tp, R, B, k.row hr hn, h1, h2, h3, h4⟩
theorem BxW.drewN {w : World} {p : Nat} {M : Int} (h : BxW w p M) (n : Nat) : BxW (w.drewN n) p M := h
theorem Kp.drewNl {S : Nat → Prop} {a w : World} {n : Nat} (h : Kp S (a.drewN n) w) : Kp S a w := ⟨h.os, h.tape, h.output, h.size, h.block⟩

set_option maxRecDepth 100000 in
set_option maxHeartbeats 1000000 in
theorem live_any (q : Nat) (pre : Array Value) (gw gh l t : Int) (S : List Int) (M : Int) (w : World) (h : GrAt w q pre gw gh l t S) (w0 : 0 ≤ gw) (w1 : gw ≤ 12) (h0 : 0 ≤ gh) (h1 : gh ≤ 12)
    (l0 : -M ≤ l) (l1 : l + 64 ≤ M) (t0 : -M ≤ t) (t1 : t + 64 ≤ M) (hM : M ≤ 50000000) (hM0 : 0 ≤ M) :
    Calls Tryd.prog 41 #[.pointer (some ⟨q, 28, none⟩)] w fun e w' => (∃ b L T R B, e = .returned (.agg (bxv b L T R B)) ∧ (-M ≤ L ∧ L ≤ M) ∧ (-M ≤ T ∧ T ≤ M) ∧ (-M ≤ R ∧ R ≤ M) ∧ (-M ≤ B ∧ B ≤ M)) ∧ Kp (fun _ => False) w w' := by
  have sw := spanP_bd w0 w1
  have sh := spanP_bd h0 h1
  have hq := h.lt
  have bu := build_box
  have c3 : w.cell? ⟨q, 31, none⟩ = some (.int .i64 t) := h.fld 3 (by omega)
  have H := hide h
  clear h
  go_enter Tryd.func41, Tryd.ntmps41
  go_wp2_with (refine wpList_store_row_g rfl 81 _ _ rfl (w.heap.size + 1) (bxv true 0 0 0 0) rfl rfl 81 (bxv false 0 0 0 0) (heap_alloc2_new _ _ _) info_box rfl (bxv_one _ _ _ _ _) ?_
               intro wz hwz
               have GZ : Hid (GrAt wz q pre gw gh l t S) := by rw [hwz]; exact ((H.out.alloc _).alloc _).other (setRow_other _ _ _ _ (by omega))
               have BZ : Hid (BxW wz (w.heap.size + 1) M) := by rw [hwz]; exact ⟨true, 0, 0, 0, 0, setRow_heap _ _ _ _ _ _ (heap_alloc2_new _ _ _), by omega, by omega, by omega, by omega⟩
               have AZ : Hid (wz.heap[w.heap.size]? = some (.cells (bxv false 0 0 0 0) 81 (0, 0))) := by rw [hwz]; exact (setRow_other _ _ _ _ (by omega)).trans (heap_alloc2_old _ _ _)
               have KZ : Hid (Kp (fun _ => False) w wz) := by rw [hwz]; exact (((Kp.refl _ _).alloc _).alloc _).setRowNew (by omega) _
               have cz : wz.cell? ⟨q, 31, none⟩ = some (.int .i64 t) := GZ.out.fld 3 (by omega)
               clear hwz)
  go_loopg [4] (spanP gh).toNat (fun gk v wr => ∃ k : Nat, (k : Int) ≤ spanP gh ∧ spanP gh ≤ k + gk ∧ v = .int .i64 (t + k) ∧ GrAt wr q pre gw gh l t S ∧ BxW wr (w.heap.size + 1) M ∧ wr.heap[w.heap.size]? = some (.cells (bxv false 0 0 0 0) 81 (0, 0)) ∧ Kp (fun _ => False) w wr)
  case atStart => exact ⟨0, by omega, by omega, by simp, GZ.out, BZ.out, AZ.out, KZ.out⟩
  case round =>
    obtain ⟨k, g1, g2, rfl, g3, g4, g5, g6⟩ := hrel
    have d0 : wr.cell? ⟨q, 28, none⟩ = some (.int .i64 gw) := g3.fld 0 (by omega)
    have d1 : wr.cell? ⟨q, 29, none⟩ = some (.int .i64 gh) := g3.fld 1 (by omega)
    have d2 : wr.cell? ⟨q, 30, none⟩ = some (.int .i64 l) := g3.fld 2 (by omega)
    have d3 : wr.cell? ⟨q, 31, none⟩ = some (.int .i64 t) := g3.fld 3 (by omega)
    have G3 := hide g3
    have G4 := hide g4
    have G5 := hide g5
    have G6 := hide g6
    clear g3 g4 g5 g6 cz c3
    by_cases hlt : (k : Int) < spanP gh
    · obtain ⟨Go, hGo⟩ : ∃ Go, Go = gk := ⟨gk, rfl⟩
      have HGo := hide hGo
      clear hGo
      go_wp2_with fail
      go_quiet ((go_at_call 68; exact Calls.quiet_of_same (span_any _ _)))
      go_wp2_with fail
      go_loopg [5] (spanP gw).toNat (fun gm v wi => ∃ m : Nat, (m : Int) ≤ spanP gw ∧ spanP gw ≤ m + gm ∧ v = .int .i64 (l + m) ∧ GrAt wi q pre gw gh l t S ∧ BxW wi (w.heap.size + 1) M ∧ wi.heap[w.heap.size]? = some (.cells (bxv false 0 0 0 0) 81 (0, 0)) ∧ Kp (fun _ => False) w wi)
      case atStart => exact ⟨0, by omega, by omega, by simp, G3.out.drewN _, G4.out, G5.out, G6.out.drewN _⟩
      case round =>
        obtain ⟨m, m1, m2, rfl, m3, m4, m5, m6⟩ := hrel
        clear d0 d1 d2 d3 G3 G4 G5 G6
        have d0 : wr.cell? ⟨q, 28, none⟩ = some (.int .i64 gw) := m3.fld 0 (by omega)
        have d1 : wr.cell? ⟨q, 29, none⟩ = some (.int .i64 gh) := m3.fld 1 (by omega)
        have d2 : wr.cell? ⟨q, 30, none⟩ = some (.int .i64 l) := m3.fld 2 (by omega)
        have d3 : wr.cell? ⟨q, 31, none⟩ = some (.int .i64 t) := m3.fld 3 (by omega)
        have G3 := hide m3
        have G4 := hide m4
        have G5 := hide m5
        have G6 := hide m6
        clear m3 m4 m5 m6
        by_cases hlm : (m : Int) < spanP gw
        · have HG := hide (fun (wx : World) (hx : GrAt wx q pre gw gh l t S) => gget_any q pre gw gh l t S (l + m) (t + k) wx hx w0 w1 h0 h1 (by omega) (by omega) (by omega) (by omega))
          generalize getP gw gh l t S (l + m) (t + k) = z at *
          by_cases hz : z = 0
          · subst hz
            go_wp2_with fail
            go_quiet ((go_at_call 68; exact Calls.quiet_of_same (span_any _ _)))
            go_wp2_with fail
            refine (HG.out _ (G3.out.drewN _)).mono ?_
            rintro e w1 ⟨rfl, hw⟩
            subst w1
            go_wp2_with fail
            go_roundg (gk - 1)
            case measure => omega
            case rel => exact ⟨m + 1, by omega, by omega, by go_num, G3.out.drewN _, G4.out, G5.out, G6.out.drewN _⟩
          · have bz : (z != 0) = true := by simpa using hz
            clear hz
            go_wp2_with fail
            go_quiet ((go_at_call 68; exact Calls.quiet_of_same (span_any _ _)))
            go_wp2_with fail
            refine (HG.out _ (G3.out.drewN _)).mono ?_
            rintro e w1 ⟨rfl, hw⟩
            subst w1
            go_wp2_with fail
            refine (add_any (w.heap.size + 1) M (l + m) (t + k) _ (G4.out.drewN _) (by omega) (by omega)).mono ?_
            rintro e w2 ⟨⟨vv, rfl⟩, b2, k2⟩
            have B2 := hide b2
            have K2 := hide k2
            clear b2 k2
            go_wp2_with fail
            go_roundg (gk - 1)
            case measure => omega
            case rel => exact ⟨m + 1, by omega, by omega, by go_num, (G3.out.drewN _).keep K2.out (by omega), B2.out, K2.out.row (w := wr.drewN _) G5.out (by omega), (G6.out.drewN _).tr K2.out (by intro z hz1 hz2; omega)⟩
        · go_wp2_with fail
          go_quiet ((go_at_call 68; exact Calls.quiet_of_same (span_any _ _)))
          go_wp2_with fail
          go_roundg (Go - 1)
          case measure => have := HGo.out; omega
          case rel => exact ⟨k + 1, by omega, by have := HGo.out; omega, by go_num, G3.out.drewN _, G4.out, G5.out, G6.out.drewN _⟩
    · go_wp2_with fail
      go_quiet ((go_at_call 68; exact Calls.quiet_of_same (span_any _ _)))
      obtain ⟨b, L, T, R, B, hr, e1, e2, e3, e4⟩ := G4.out
      have HR := hide hr
      clear hr
      go_wp2_with (first
        | (refine wpList_load_row rfl 81 _ rfl (w.heap.size + 1) rfl 81 (bxv b L T R B) (0, 0) _ HR.out Tryd.underlying81 rfl info_box ?_)
        | (refine wpList_store_row rfl 81 _ _ rfl w.heap.size (bxv b L T R B) rfl rfl 81 (bxv false 0 0 0 0) G5.out info_box rfl (bxv_one _ _ _ _ _) ?_))
      exact bodyPost_ret (v := .agg (bxv b L T R B)) (results_cell_row Tryd.results41 _ _ w.heap.size 81 (bxv b L T R B) (0, 0) _ rfl (setRow_heap _ _ _ _ _ _ G5.out) Tryd.underlying81 rfl info_box) rfl
        ⟨⟨b, L, T, R, B, rfl, e1, e2, e3, e4⟩, (G6.out.drewN _).setRowNew (Nat.le_refl _) _⟩
end Go.Proofs.YtbdbkjngdhcjpaaDoor
