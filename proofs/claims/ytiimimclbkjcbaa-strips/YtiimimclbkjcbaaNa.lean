import Derived.Test.YtiimimclbkjcbaaM13
import Derived.Test.YtiimimclbkjcbaaSa
namespace Go.Proofs.Ytiimimclbkjcbaa
open Go.RowKit
open Go.Proofs

section
variable {w w' : World} {q : Nat} {gw gh l t : Int} {S : List Int}
theorem GnAt.drewN (h : GnAt w q gw gh l t S) (n : Nat) : GnAt (w.drewN n) q gw gh l t S := ⟨h.row, h.len⟩
theorem GnAt.alloc (h : GnAt w q gw gh l t S) (o : Obj) : GnAt (w.alloc o) q gw gh l t S := ⟨(Below.heap_alloc _ _ _ h.lt).trans h.row, h.len⟩
theorem GnAt.other (h : GnAt w q gw gh l t S) (e : w'.heap[q]? = w.heap[q]?) : GnAt w' q gw gh l t S := ⟨e.trans h.row, h.len⟩
theorem GnAt.left (h : GnAt w q gw gh l t S) (u : Int) : GnAt (w.setCell ⟨q, 2, none⟩ (.int .i64 u)) q gw gh u t S := by
  refine ⟨?_, h.len⟩
  rw [heap_setCell_same w q _ _ _ _ h.row]
  congr 2
  apply Array.ext_getElem?
  intro m
  rw [Array.getElem?_setIfInBounds, gnv_get, gnv_get, gnv_size _ _ _ _ h.len]
  by_cases e : 2 = m
  · subst e; simp
  · rw [if_neg e]
    by_cases h1 : m < 4
    · rw [if_pos h1, if_pos h1]
      have : m = 0 ∨ m = 1 ∨ m = 3 := by omega
      rcases this with rfl | rfl | rfl <;> rfl
    · simp [h1]
theorem GnAt.top (h : GnAt w q gw gh l t S) (u : Int) : GnAt (w.setCell ⟨q, 3, none⟩ (.int .i64 u)) q gw gh l u S := by
  refine ⟨?_, h.len⟩
  rw [heap_setCell_same w q _ _ _ _ h.row]
  congr 2
  apply Array.ext_getElem?
  intro m
  rw [Array.getElem?_setIfInBounds, gnv_get, gnv_get, gnv_size _ _ _ _ h.len]
  by_cases e : 3 = m
  · subst e; simp
  · rw [if_neg e]
    by_cases h1 : m < 4
    · rw [if_pos h1, if_pos h1]
      have : m = 0 ∨ m = 1 ∨ m = 2 := by omega
      rcases this with rfl | rfl | rfl <;> rfl
    · simp [h1]
end
set_option maxHeartbeats 400000 in
theorem nget_any (q : Nat) (gw gh l t : Int) (S : List Int) (x y : Int) (w : World) (h : GnAt w q gw gh l t S) (w0 : 0 ≤ gw) (w1 : gw ≤ 12) (h0 : 0 ≤ gh) (h1 : gh ≤ 12)
    (l0 : -50000000 ≤ l) (l1 : l ≤ 50000000) (t0 : -50000000 ≤ t) (t1 : t ≤ 50000000) :
    Calls Try.prog 34 #[.pointer (some ⟨q, 0, none⟩), .int .i64 x, .int .i64 y] w fun e w' => e = .returned (.int .i64 (getP gw gh l t S x y)) ∧ w' = w := by
  have hb := slotP_bd gw gh l t x y w0 w1 h0 h1
  have HS := hide (fun wx hx => nslot_any q gw gh l t S x y wx hx w0 w1 h0 h1 l0 l1 t0 t1)
  unfold getP
  generalize slotP gw gh l t x y = z at *
  by_cases hz : z < 0
  · rw [if_pos hz]
    go_enter Try.func34, Try.ntmps34
    go_wp2_with fail
    refine (HS.out _ h).mono ?_
    rintro e w1 ⟨rfl, hw⟩
    subst w1
    go_wp2_with fail
    go_ret
    exact ⟨rfl, rfl⟩
  · rw [if_neg hz]
    obtain ⟨k, rfl⟩ := Int.eq_ofNat_of_zero_le (show 0 ≤ z by omega)
    have hk : k < 768 := by omega
    have hc := h.cell k hk
    have hl := h.len
    have HL := hide hl
    clear hl
    go_enter Try.func34, Try.ntmps34
    go_wp2_with fail
    refine (HS.out _ h).mono ?_
    rintro e w1 ⟨rfl, hw⟩
    subst w1
    go_wp2_with fail
    go_ret
    refine ⟨ret_int ?_, rfl⟩
    simp [List.getD, HL.out, hk]

set_option maxRecDepth 100000 in
set_option maxHeartbeats 1000000 in
theorem nlive_exact (q : Nat) (gw gh l t : Int) (S : List Int) (w : World) (h : GnAt w q gw gh l t S) (w0 : 0 ≤ gw) (w1 : gw ≤ 12) (h0 : 0 ≤ gh) (h1 : gh ≤ 12)
    (l0 : -40000000 ≤ l) (l1 : l ≤ 40000000) (t0 : -40000000 ≤ t) (t1 : t ≤ 40000000) :
    Calls Try.prog 62 #[.pointer (some ⟨q, 0, none⟩)] w fun e w' => e = .returned (.agg (bxV (liveP gw gh l t S))) ∧ Kp (fun _ => False) w w' := by
  have sw := spanP_bd w0 w1
  have sh := spanP_bd h0 h1
  have hq := h.lt
  have bu := build_box
  have c3 : w.cell? ⟨q, 3, none⟩ = some (.int .i64 t) := h.fld 3 (by omega)
  have H := hide h
  obtain ⟨G, hG⟩ : ∃ G, G = getP gw gh l t S := ⟨_, rfl⟩
  have HG := hide (fun (wx : World) (hx : GnAt wx q gw gh l t S) (X Y : Int) => nget_any q gw gh l t S X Y wx hx w0 w1 h0 h1 (by omega) (by omega) (by omega) (by omega))
  unfold liveP
  rw [← hG] at HG ⊢
  clear h hG
  have HR1 : Hid (∀ (y : Int) (b : Bx) (m : Nat), G (l + m) y = 0 → liveRow G l y b m = liveRow G l y b (m + 1)) := fun y b m hz => by
    show _ = if G (l + m) y = 0 then _ else _
    rw [if_pos hz]
  have HR2 : Hid (∀ (y : Int) (b : Bx) (m : Nat), G (l + m) y ≠ 0 → addB (liveRow G l y b m) (l + m) y = liveRow G l y b (m + 1)) := fun y b m hz => by
    show _ = if G (l + m) y = 0 then _ else _
    rw [if_neg hz]
  have HA : Hid (∀ (n k : Nat), liveRow G l (t + k) (liveAll G l t n k) n = liveAll G l t n (k + 1)) := fun _ _ => rfl
  have HA0 : Hid (∀ n, liveAll G l t n 0 = ⟨true, 0, 0, 0, 0⟩) := fun _ => rfl
  have HR0 : Hid (∀ y b, liveRow G l y b 0 = b) := fun _ _ => rfl
  generalize liveAll G l t = LA at *
  generalize liveRow G l = LR at *
  go_enter Try.func62, Try.ntmps62
  go_wp2_with (refine wpList_store_row_g rfl 86 _ _ rfl (w.heap.size + 1) (bxv true 0 0 0 0) rfl rfl 86 (bxv false 0 0 0 0) (heap_alloc2_new _ _ _) info_box rfl (bxv_one _ _ _ _ _) ?_
               intro wz hwz
               have GZ : Hid (GnAt wz q gw gh l t S) := by rw [hwz]; exact ((H.out.alloc _).alloc _).other (setRow_other _ _ _ _ (by omega))
               have BZ : Hid (BxA wz (w.heap.size + 1) (LA (spanP gw).toNat 0)) := by rw [hwz, HA0.out]; exact setRow_heap _ _ _ _ _ _ (heap_alloc2_new _ _ _)
               have AZ : Hid (wz.heap[w.heap.size]? = some (.cells (bxv false 0 0 0 0) 86 (0, 0))) := by rw [hwz]; exact (setRow_other _ _ _ _ (by omega)).trans (heap_alloc2_old _ _ _)
               have KZ : Hid (Kp (fun _ => False) w wz) := by rw [hwz]; exact (((Kp.refl _ _).alloc _).alloc _).setRowNew (by omega) _
               have cz : wz.cell? ⟨q, 3, none⟩ = some (.int .i64 t) := GZ.out.fld 3 (by omega)
               clear hwz)
  go_loopg [4] (spanP gh).toNat (fun gk v wr => ∃ k : Nat, (k : Int) ≤ spanP gh ∧ spanP gh ≤ k + gk ∧ v = .int .i64 (t + k) ∧ GnAt wr q gw gh l t S ∧ BxA wr (w.heap.size + 1) (LA (spanP gw).toNat k) ∧ wr.heap[w.heap.size]? = some (.cells (bxv false 0 0 0 0) 86 (0, 0)) ∧ Kp (fun _ => False) w wr)
  case atStart => exact ⟨0, by omega, by omega, by simp, GZ.out, BZ.out, AZ.out, KZ.out⟩
  case round =>
    obtain ⟨k, g1, g2, rfl, g3, g4, g5, g6⟩ := hrel
    have d0 : wr.cell? ⟨q, 0, none⟩ = some (.int .i64 gw) := g3.fld 0 (by omega)
    have d1 : wr.cell? ⟨q, 1, none⟩ = some (.int .i64 gh) := g3.fld 1 (by omega)
    have d2 : wr.cell? ⟨q, 2, none⟩ = some (.int .i64 l) := g3.fld 2 (by omega)
    have d3 : wr.cell? ⟨q, 3, none⟩ = some (.int .i64 t) := g3.fld 3 (by omega)
    have G3 := hide g3
    have G4 := hide g4
    have G5 := hide g5
    have G6 := hide g6
    clear g3 g4 g5 g6 cz c3
    by_cases hlt : (k : Int) < spanP gh
    · obtain ⟨Go, hGo⟩ : ∃ Go, Go = gk := ⟨gk, rfl⟩
      have HGo := hide hGo
      clear hGo
      go_wp2_with fail
      go_quiet ((go_at_call 60; exact Calls.quiet_of_same (span_any _ _)))
      go_wp2_with fail
      go_loopg [5] (spanP gw).toNat (fun gm v wi => ∃ m : Nat, (m : Int) ≤ spanP gw ∧ spanP gw ≤ m + gm ∧ v = .int .i64 (l + m) ∧ GnAt wi q gw gh l t S ∧ BxA wi (w.heap.size + 1) (LR (t + k) (LA (spanP gw).toNat k) m) ∧ wi.heap[w.heap.size]? = some (.cells (bxv false 0 0 0 0) 86 (0, 0)) ∧ Kp (fun _ => False) w wi)
      case atStart => exact ⟨0, by omega, by omega, by simp, G3.out.drewN _, by rw [HR0.out]; exact G4.out, G5.out, G6.out.drewN _⟩
      case round =>
        obtain ⟨m, m1, m2, rfl, m3, m4, m5, m6⟩ := hrel
        clear d0 d1 d2 d3 G3 G4 G5 G6
        have d0 : wr.cell? ⟨q, 0, none⟩ = some (.int .i64 gw) := m3.fld 0 (by omega)
        have d1 : wr.cell? ⟨q, 1, none⟩ = some (.int .i64 gh) := m3.fld 1 (by omega)
        have d2 : wr.cell? ⟨q, 2, none⟩ = some (.int .i64 l) := m3.fld 2 (by omega)
        have d3 : wr.cell? ⟨q, 3, none⟩ = some (.int .i64 t) := m3.fld 3 (by omega)
        have G3 := hide m3
        have G4 := hide m4
        have G5 := hide m5
        have G6 := hide m6
        clear m3 m4 m5 m6
        by_cases hlm : (m : Int) < spanP gw
        · have HGk := hide (fun (wx : World) (hx : GnAt wx q gw gh l t S) => HG.out wx hx (l + m) (t + k))
          have E1 := hide (HR1.out (t + k) (LA (spanP gw).toNat k) m)
          have E2 := hide (HR2.out (t + k) (LA (spanP gw).toNat k) m)
          generalize G (l + m) (t + k) = z at *
          by_cases hz : z = 0
          · have E3 := hide (E1.out hz)
            subst hz
            rw [E3.out] at G4
            clear E3
            go_wp2_with fail
            go_quiet ((go_at_call 60; exact Calls.quiet_of_same (span_any _ _)))
            go_wp2_with fail
            refine (HGk.out _ (G3.out.drewN _)).mono ?_
            rintro e w1 ⟨rfl, hw⟩
            subst w1
            go_wp2_with fail
            go_roundg (gk - 1)
            case measure => omega
            case rel => exact ⟨m + 1, by omega, by omega, by go_num, G3.out.drewN _, G4.out, G5.out, G6.out.drewN _⟩
          · have E3 := hide (E2.out hz)
            have bz : (z != 0) = true := by simpa using hz
            clear hz
            go_wp2_with fail
            go_quiet ((go_at_call 60; exact Calls.quiet_of_same (span_any _ _)))
            go_wp2_with fail
            refine (HGk.out _ (G3.out.drewN _)).mono ?_
            rintro e w1 ⟨rfl, hw⟩
            subst w1
            go_wp2_with fail
            refine (add_exact (w.heap.size + 1) _ (l + m) (t + k) _ (G4.out.drewN _)).mono ?_
            rintro e w2 ⟨⟨vv, rfl⟩, b2, k2⟩
            rw [E3.out] at b2
            have B2 := hide b2
            have K2 := hide k2
            clear b2 k2
            go_wp2_with fail
            go_roundg (gk - 1)
            case measure => omega
            case rel => exact ⟨m + 1, by omega, by omega, by go_num, (G3.out.drewN _).keep K2.out (by omega), B2.out, K2.out.row (w := wr.drewN _) G5.out (by omega), (G6.out.drewN _).tr K2.out (by intro z hz1 hz2; omega)⟩
        · have em : m = (spanP gw).toNat := by omega
          rw [em, HA.out] at G4
          clear em
          go_wp2_with fail
          go_quiet ((go_at_call 60; exact Calls.quiet_of_same (span_any _ _)))
          go_wp2_with fail
          go_roundg (Go - 1)
          case measure => have := HGo.out; omega
          case rel => exact ⟨k + 1, by omega, by have := HGo.out; omega, by go_num, G3.out.drewN _, G4.out, G5.out, G6.out.drewN _⟩
    · have ek : k = (spanP gh).toNat := by omega
      rw [ek] at G4
      have HR : Hid (wr.heap[w.heap.size + 1]? = some (.cells (bxV (LA (spanP gw).toNat (spanP gh).toNat)) 86 (0, 0))) := G4.out
      clear ek G4
      obtain ⟨bb, hbb⟩ : ∃ bb, bb = LA (spanP gw).toNat (spanP gh).toNat := ⟨_, rfl⟩
      rw [← hbb] at HR
      have HBB := hide hbb
      clear hbb
      go_wp2_with fail
      go_quiet ((go_at_call 60; exact Calls.quiet_of_same (span_any _ _)))
      go_wp2_with (first
        | (refine wpList_load_row rfl 86 _ rfl (w.heap.size + 1) rfl 86 (bxV bb) (0, 0) _ HR.out Try.underlying86 rfl info_box ?_)
        | (refine wpList_store_row rfl 86 _ _ rfl w.heap.size (bxV bb) rfl rfl 86 (bxv false 0 0 0 0) G5.out info_box rfl (bxv_one _ _ _ _ _) ?_))
      exact bodyPost_ret (v := .agg (bxV bb)) (results_cell_row Try.results62 _ _ w.heap.size 86 (bxV bb) (0, 0) _ rfl (setRow_heap _ _ _ _ _ _ G5.out) Try.underlying86 rfl info_box) rfl
        ⟨by rw [HBB.out], (G6.out.drewN _).setRowNew (Nat.le_refl _) _⟩
end Go.Proofs.Ytiimimclbkjcbaa
