import Derived.Test.YtbdbkjngdhcjpaaDoorM27
import Derived.Test.YtbdbkjngdhcjpaaDoorM9
import Derived.Test.YtbdbkjngdhcjpaaDoorM11
import Derived.Test.YtbdbkjngdhcjpaaDoorM28
import Derived.Test.YtbdbkjngdhcjpaaDoorM14
import Derived.Deep.CutRange
namespace Go.Proofs.YtbdbkjngdhcjpaaDoor
open Go.RowKit
open Go.Proofs

section
variable {w w' : World} {q : Nat} {gw gh l t : Int} {S : List Int}
theorem GnAt.drewN (h : GnAt w q gw gh l t S) (n : Nat) : GnAt (w.drewN n) q gw gh l t S := ⟨h.row, h.len⟩
theorem GnAt.alloc (h : GnAt w q gw gh l t S) (o : Obj) : GnAt (w.alloc o) q gw gh l t S := ⟨(Below.heap_alloc _ _ _ h.lt).trans h.row, h.len⟩
theorem GnAt.other (h : GnAt w q gw gh l t S) (e : w'.heap[q]? = w.heap[q]?) : GnAt w' q gw gh l t S := ⟨e.trans h.row, h.len⟩
theorem GnAt.left (h : GnAt w q gw gh l t S) (u : Int) : GnAt (w.setCell ⟨q, 2, none⟩ (.int .i64 u)) q gw gh u t S := by
  refine ⟨?_, h.len⟩
  rw [heap_setCell_same w q _ _ _ _ h.row]
  congr 2
  apply Array.ext_getElem?
  intro m
  rw [Array.getElem?_setIfInBounds, gnv_get, gnv_get, gnv_size _ _ _ _ h.len]
  by_cases e : 2 = m
  · subst e; simp
  · rw [if_neg e]
    by_cases h1 : m < 4
    · rw [if_pos h1, if_pos h1]
      have : m = 0 ∨ m = 1 ∨ m = 3 := by omega
      rcases this with rfl | rfl | rfl <;> rfl
    · simp [h1]
theorem GnAt.top (h : GnAt w q gw gh l t S) (u : Int) : GnAt (w.setCell ⟨q, 3, none⟩ (.int .i64 u)) q gw gh l u S := by
  refine ⟨?_, h.len⟩
  rw [heap_setCell_same w q _ _ _ _ h.row]
  congr 2
  apply Array.ext_getElem?
  intro m
  rw [Array.getElem?_setIfInBounds, gnv_get, gnv_get, gnv_size _ _ _ _ h.len]
  by_cases e : 3 = m
  · subst e; simp
  · rw [if_neg e]
    by_cases h1 : m < 4
    · rw [if_pos h1, if_pos h1]
      have : m = 0 ∨ m = 1 ∨ m = 2 := by omega
      rcases this with rfl | rfl | rfl <;> rfl
    · simp [h1]
end
set_option maxHeartbeats 400000 in
theorem nget_any (q : Nat) (gw gh l t : Int) (S : List Int) (x y : Int) (w : World) (h : GnAt w q gw gh l t S) (w0 : 0 ≤ gw) (w1 : gw ≤ 12) (h0 : 0 ≤ gh) (h1 : gh ≤ 12)
    (l0 : -50000000 ≤ l) (l1 : l ≤ 50000000) (t0 : -50000000 ≤ t) (t1 : t ≤ 50000000) :
    Calls Tryd.prog 30 #[.pointer (some ⟨q, 0, none⟩), .int .i64 x, .int .i64 y] w fun e w' => e = .returned (.int .i64 (getP gw gh l t S x y)) ∧ w' = w := by
  have hb := slotP_bd gw gh l t x y w0 w1 h0 h1
  have HS := hide (fun wx hx => nslot_any q gw gh l t S x y wx hx w0 w1 h0 h1 l0 l1 t0 t1)
  unfold getP
  generalize slotP gw gh l t x y = z at *
  by_cases hz : z < 0
  · rw [if_pos hz]
    go_enter Tryd.func30, Tryd.ntmps30
    go_wp2_with fail
    refine (HS.out _ h).mono ?_
    rintro e w1 ⟨rfl, hw⟩
    subst w1
    go_wp2_with fail
    go_ret
    exact ⟨rfl, rfl⟩
  · rw [if_neg hz]
    obtain ⟨k, rfl⟩ := Int.eq_ofNat_of_zero_le (show 0 ≤ z by omega)
    have hk : k < 768 := by omega
    have hc := h.cell k hk
    have hl := h.len
    have HL := hide hl
    clear hl
    go_enter Tryd.func30, Tryd.ntmps30
    go_wp2_with fail
    refine (HS.out _ h).mono ?_
    rintro e w1 ⟨rfl, hw⟩
    subst w1
    go_wp2_with fail
    go_ret
    refine ⟨ret_int ?_, rfl⟩
    simp [List.getD, HL.out, hk]

set_option maxRecDepth 100000 in
set_option maxHeartbeats 1000000 in
theorem nlive_exact (q : Nat) (gw gh l t : Int) (S : List Int) (w : World) (h : GnAt w q gw gh l t S) (w0 : 0 ≤ gw) (w1 : gw ≤ 12) (h0 : 0 ≤ gh) (h1 : gh ≤ 12)
    (l0 : -40000000 ≤ l) (l1 : l ≤ 40000000) (t0 : -40000000 ≤ t) (t1 : t ≤ 40000000) :
    Calls Tryd.prog 41 #[.pointer (some ⟨q, 0, none⟩)] w fun e w' => e = .returned (.agg (bxV (liveP gw gh l t S))) ∧ Kp (fun _ => False) w w' := by
  have sw := spanP_bd w0 w1
  have sh := spanP_bd h0 h1
  have hq := h.lt
  have bu := build_box
  have c3 : w.cell? ⟨q, 3, none⟩ = some (.int .i64 t) := h.fld 3 (by omega)
  have H := hide h
  obtain ⟨G, hG⟩ : ∃ G, G = getP gw gh l t S := ⟨_, rfl⟩
  have HG := hide (fun (wx : World) (hx : GnAt wx q gw gh l t S) (X Y : Int) => nget_any q gw gh l t S X Y wx hx w0 w1 h0 h1 (by omega) (by omega) (by omega) (by omega))
  unfold liveP
  rw [← hG] at HG ⊢
  clear h hG
  have HR1 : Hid (∀ (y : Int) (b : Bx) (m : Nat), G (l + m) y = 0 → liveRow G l y b m = liveRow G l y b (m + 1)) := fun y b m hz => by
    show _ = if G (l + m) y = 0 then _ else _
    rw [if_pos hz]
  have HR2 : Hid (∀ (y : Int) (b : Bx) (m : Nat), G (l + m) y ≠ 0 → addB (liveRow G l y b m) (l + m) y = liveRow G l y b (m + 1)) := fun y b m hz => by
    show _ = if G (l + m) y = 0 then _ else _
    rw [if_neg hz]
  have HA : Hid (∀ (n k : Nat), liveRow G l (t + k) (liveAll G l t n k) n = liveAll G l t n (k + 1)) := fun _ _ => rfl
  have HA0 : Hid (∀ n, liveAll G l t n 0 = ⟨true, 0, 0, 0, 0⟩) := fun _ => rfl
  have HR0 : Hid (∀ y b, liveRow G l y b 0 = b) := fun _ _ => rfl
  generalize liveAll G l t = LA at *
  generalize liveRow G l = LR at *
  go_enter Tryd.func41, Tryd.ntmps41
  go_wp2_with (refine wpList_store_row_g rfl 81 _ _ rfl (w.heap.size + 1) (bxv true 0 0 0 0) rfl rfl 81 (bxv false 0 0 0 0) (heap_alloc2_new _ _ _) info_box rfl (bxv_one _ _ _ _ _) ?_
               intro wz hwz
               have GZ : Hid (GnAt wz q gw gh l t S) := by rw [hwz]; exact ((H.out.alloc _).alloc _).other (setRow_other _ _ _ _ (by omega))
               have BZ : Hid (BxA wz (w.heap.size + 1) (LA (spanP gw).toNat 0)) := by rw [hwz, HA0.out]; exact setRow_heap _ _ _ _ _ _ (heap_alloc2_new _ _ _)
               have AZ : Hid (wz.heap[w.heap.size]? = some (.cells (bxv false 0 0 0 0) 81 (0, 0))) := by rw [hwz]; exact (setRow_other _ _ _ _ (by omega)).trans (heap_alloc2_old _ _ _)
               have KZ : Hid (Kp (fun _ => False) w wz) := by rw [hwz]; exact (((Kp.refl _ _).alloc _).alloc _).setRowNew (by omega) _
               have cz : wz.cell? ⟨q, 3, none⟩ = some (.int .i64 t) := GZ.out.fld 3 (by omega)
               clear hwz)
  go_loopg [4] (spanP gh).toNat (fun gk v wr => ∃ k : Nat, (k : Int) ≤ spanP gh ∧ spanP gh ≤ k + gk ∧ v = .int .i64 (t + k) ∧ GnAt wr q gw gh l t S ∧ BxA wr (w.heap.size + 1) (LA (spanP gw).toNat k) ∧ wr.heap[w.heap.size]? = some (.cells (bxv false 0 0 0 0) 81 (0, 0)) ∧ Kp (fun _ => False) w wr)
  case atStart => exact ⟨0, by omega, by omega, by simp, GZ.out, BZ.out, AZ.out, KZ.out⟩
  case round =>
    obtain ⟨k, g1, g2, rfl, g3, g4, g5, g6⟩ := hrel
    have d0 : wr.cell? ⟨q, 0, none⟩ = some (.int .i64 gw) := g3.fld 0 (by omega)
    have d1 : wr.cell? ⟨q, 1, none⟩ = some (.int .i64 gh) := g3.fld 1 (by omega)
    have d2 : wr.cell? ⟨q, 2, none⟩ = some (.int .i64 l) := g3.fld 2 (by omega)
    have d3 : wr.cell? ⟨q, 3, none⟩ = some (.int .i64 t) := g3.fld 3 (by omega)
    have G3 := hide g3
    have G4 := hide g4
    have G5 := hide g5
    have G6 := hide g6
    clear g3 g4 g5 g6 cz c3
    by_cases hlt : (k : Int) < spanP gh
    · obtain ⟨Go, hGo⟩ : ∃ Go, Go = gk := ⟨gk, rfl⟩
      have HGo := hide hGo
      clear hGo
      go_wp2_with fail
      go_quiet ((go_at_call 68; exact Calls.quiet_of_same (span_any _ _)))
      go_wp2_with fail
      go_loopg [5] (spanP gw).toNat (fun gm v wi => ∃ m : Nat, (m : Int) ≤ spanP gw ∧ spanP gw ≤ m + gm ∧ v = .int .i64 (l + m) ∧ GnAt wi q gw gh l t S ∧ BxA wi (w.heap.size + 1) (LR (t + k) (LA (spanP gw).toNat k) m) ∧ wi.heap[w.heap.size]? = some (.cells (bxv false 0 0 0 0) 81 (0, 0)) ∧ Kp (fun _ => False) w wi)
      case atStart => exact ⟨0, by omega, by omega, by simp, G3.out.drewN _, by rw [HR0.out]; exact G4.out, G5.out, G6.out.drewN _⟩
      case round =>
        obtain ⟨m, m1, m2, rfl, m3, m4, m5, m6⟩ := hrel
        clear d0 d1 d2 d3 G3 G4 G5 G6
        have d0 : wr.cell? ⟨q, 0, none⟩ = some (.int .i64 gw) := m3.fld 0 (by omega)
        have d1 : wr.cell? ⟨q, 1, none⟩ = some (.int .i64 gh) := m3.fld 1 (by omega)
        have d2 : wr.cell? ⟨q, 2, none⟩ = some (.int .i64 l) := m3.fld 2 (by omega)
        have d3 : wr.cell? ⟨q, 3, none⟩ = some (.int .i64 t) := m3.fld 3 (by omega)
        have G3 := hide m3
        have G4 := hide m4
        have G5 := hide m5
        have G6 := hide m6
        clear m3 m4 m5 m6
        by_cases hlm : (m : Int) < spanP gw
        · have HGk := hide (fun (wx : World) (hx : GnAt wx q gw gh l t S) => HG.out wx hx (l + m) (t + k))
          have E1 := hide (HR1.out (t + k) (LA (spanP gw).toNat k) m)
          have E2 := hide (HR2.out (t + k) (LA (spanP gw).toNat k) m)
          generalize G (l + m) (t + k) = z at *
          by_cases hz : z = 0
          · have E3 := hide (E1.out hz)
            subst hz
            rw [E3.out] at G4
            clear E3
            go_wp2_with fail
            go_quiet ((go_at_call 68; exact Calls.quiet_of_same (span_any _ _)))
            go_wp2_with fail
            refine (HGk.out _ (G3.out.drewN _)).mono ?_
            rintro e w1 ⟨rfl, hw⟩
            subst w1
            go_wp2_with fail
            go_roundg (gk - 1)
            case measure => omega
            case rel => exact ⟨m + 1, by omega, by omega, by go_num, G3.out.drewN _, G4.out, G5.out, G6.out.drewN _⟩
          · have E3 := hide (E2.out hz)
            have bz : (z != 0) = true := by simpa using hz
            clear hz
            go_wp2_with fail
            go_quiet ((go_at_call 68; exact Calls.quiet_of_same (span_any _ _)))
            go_wp2_with fail
            refine (HGk.out _ (G3.out.drewN _)).mono ?_
            rintro e w1 ⟨rfl, hw⟩
            subst w1
            go_wp2_with fail
            refine (add_exact (w.heap.size + 1) _ (l + m) (t + k) _ (G4.out.drewN _)).mono ?_
            rintro e w2 ⟨⟨vv, rfl⟩, b2, k2⟩
            rw [E3.out] at b2
            have B2 := hide b2
            have K2 := hide k2
            clear b2 k2
            go_wp2_with fail
            go_roundg (gk - 1)
            case measure => omega
            case rel => exact ⟨m + 1, by omega, by omega, by go_num, (G3.out.drewN _).keep K2.out (by omega), B2.out, K2.out.row (w := wr.drewN _) G5.out (by omega), (G6.out.drewN _).tr K2.out (by intro z hz1 hz2; omega)⟩
        · have em : m = (spanP gw).toNat := by omega
          rw [em, HA.out] at G4
          clear em
          go_wp2_with fail
          go_quiet ((go_at_call 68; exact Calls.quiet_of_same (span_any _ _)))
          go_wp2_with fail
          go_roundg (Go - 1)
          case measure => have := HGo.out; omega
          case rel => exact ⟨k + 1, by omega, by have := HGo.out; omega, by go_num, G3.out.drewN _, G4.out, G5.out, G6.out.drewN _⟩
    · have ek : k = (spanP gh).toNat := by omega
      rw [ek] at G4
      have HR : Hid (wr.heap[w.heap.size + 1]? = some (.cells (bxV (LA (spanP gw).toNat (spanP gh).toNat)) 81 (0, 0))) := G4.out
      clear ek G4
      obtain ⟨bb, hbb⟩ : ∃ bb, bb = LA (spanP gw).toNat (spanP gh).toNat := ⟨_, rfl⟩
      rw [← hbb] at HR
      have HBB := hide hbb
      clear hbb
      go_wp2_with fail
      go_quiet ((go_at_call 68; exact Calls.quiet_of_same (span_any _ _)))
      go_wp2_with (first
        | (refine wpList_load_row rfl 81 _ rfl (w.heap.size + 1) rfl 81 (bxV bb) (0, 0) _ HR.out Tryd.underlying81 rfl info_box ?_)
        | (refine wpList_store_row rfl 81 _ _ rfl w.heap.size (bxV bb) rfl rfl 81 (bxv false 0 0 0 0) G5.out info_box rfl (bxv_one _ _ _ _ _) ?_))
      exact bodyPost_ret (v := .agg (bxV bb)) (results_cell_row Tryd.results41 _ _ w.heap.size 81 (bxV bb) (0, 0) _ rfl (setRow_heap _ _ _ _ _ _ G5.out) Tryd.underlying81 rfl info_box) rfl
        ⟨by rw [HBB.out], (G6.out.drewN _).setRowNew (Nat.le_refl _) _⟩
end Go.Proofs.YtbdbkjngdhcjpaaDoor
namespace Go.Proofs.YtbdbkjngdhcjpaaDoor
open Go.RowKit
open Go.Proofs

/-- A grid that lies alone. -/
def GmAt (w : World) (q : Nat) (gw gh : Int) (g : Gs) : Prop := GnAt w q gw gh g.l g.t g.S
theorem gm_fin {w : World} {q : Nat} {gw gh a b a' b' : Int} {S : List Int} (h1 : a = a') (h2 : b = b') (h : GnAt w q gw gh a' b' S) : GmAt w q gw gh ⟨a, b, S⟩ := by
  subst h1 h2
  exact h

set_option maxRecDepth 100000 in
set_option maxHeartbeats 1000000 in
theorem nreach_exact (q : Nat) (gw gh : Int) (g : Gs) (x y : Int) (w : World) (h : GmAt w q gw gh g) (w0 : 0 ≤ gw) (w1 : gw ≤ 12) (h0 : 0 ≤ gh) (h1 : gh ≤ 12)
    (l0 : -40000000 ≤ g.l) (l1 : g.l ≤ 40000000) (t0 : -40000000 ≤ g.t) (t1 : g.t ≤ 40000000) (hx : -40000000 ≤ x ∧ x ≤ 40000000) (hy : -40000000 ≤ y ∧ y ≤ 40000000) :
    Calls Tryd.prog 54 #[.pointer (some ⟨q, 0, none⟩), .int .i64 x, .int .i64 y] w fun e w' => (∃ v, e = .returned v) ∧ GmAt w' q gw gh (reachG gw gh g x y) ∧ Kp (· = q) w w' := by
  obtain ⟨l, t, S⟩ := g
  have hlb := live_bd gw gh l t S w0 w1 h0 h1
  have LV := hide (fun (wx : World) (hx : GnAt wx q gw gh l t S) => nlive_exact q gw gh l t S wx hx w0 w1 h0 h1 l0 l1 t0 t1)
  unfold reachG
  simp only at l0 l1 t0 t1 ⊢
  generalize liveP gw gh l t S = b at *
  have hab := add_bd b x y (-40000100) (40000100) (by rcases hlb with h | h; exact Or.inl h; right; omega) (by rcases hlb with h | h; exact Or.inl h; right; omega) (by omega) (by omega)
  have AD := hide (fun (p : Nat) (wx : World) (hb : BxA wx p b) => add_exact p b x y wx hb)
  generalize addB b x y = c at *
  obtain ⟨ce, L', T', R', B'⟩ := c
  simp only at hab ⊢
  obtain ⟨e1, e3, e2, e4⟩ := hab
  obtain ⟨l2, hl2⟩ : ∃ l2, l2 = if gw = 0 ∧ R' - L' < 64 then L' else l := ⟨_, rfl⟩
  obtain ⟨t2, ht2⟩ : ∃ t2, t2 = if gh = 0 ∧ B' - T' < 64 then T' else t := ⟨_, rfl⟩
  rw [← hl2, ← ht2]
  have HL2 := hide hl2
  have HT2 := hide ht2
  clear hl2 ht2
  have hq := GnAt.lt h
  have H : Hid (GnAt w q gw gh l t S) := h
  clear h hlb
  go_enter Tryd.func54, Tryd.ntmps54
  go_wp2_with fail
  refine (LV.out _ H.out).mono ?_
  rintro e w1 ⟨rfl, k1⟩
  have G1 := hide (H.out.keep k1 (fun hx => hx))
  have hq1 := G1.out.lt
  have s1 := k1.size
  have K1 := hide (k1.mono (T := (· = q)) (fun _ hx => hx.elim))
  clear k1
  go_wp2_with (refine wpList_store_row_g rfl 81 _ _ rfl w1.heap.size (bxV b) rfl rfl 81 (bxv false 0 0 0 0) (heap_alloc_new _ _) info_box rfl (bxv_one _ _ _ _ _) ?_
               intro w2 hw2
               have G2 : Hid (GnAt w2 q gw gh l t S) := by rw [hw2]; exact (G1.out.alloc _).other (setRow_other _ _ _ _ (by omega))
               have B2 : Hid (BxA w2 w1.heap.size b) := by rw [hw2]; exact setRow_heap _ _ _ _ _ _ (heap_alloc_new _ _)
               have K2 : Hid (Kp (· = q) w w2) := by rw [hw2]; exact (K1.out.alloc _).setRowNew (by omega) _
               clear hw2)
  refine (AD.out w1.heap.size _ B2.out).mono ?_
  rintro e w3 ⟨⟨vv, rfl⟩, b3, k3⟩
  have hr : w3.heap[w1.heap.size]? = some (.cells (bxv ce L' T' R' B') 81 (0, 0)) := b3
  have G3 := hide (G2.out.keep k3 (by omega))
  have K3 := hide (K2.out.tr k3 (by intro z hz1 hz2; omega))
  clear k3 b3
  have c0 : w3.cell? ⟨q, 0, none⟩ = some (.int .i64 gw) := G3.out.fld 0 (by omega)
  have c1 : w3.cell? ⟨q, 1, none⟩ = some (.int .i64 gh) := G3.out.fld 1 (by omega)
  have c2 : w3.cell? ⟨q, 2, none⟩ = some (.int .i64 l) := G3.out.fld 2 (by omega)
  have c3 : w3.cell? ⟨q, 3, none⟩ = some (.int .i64 t) := G3.out.fld 3 (by omega)
  have f2 := G3.out.fro 2
  have f3 := G3.out.fro 3
  have d1 : w3.cell? ⟨w1.heap.size, 1, none⟩ = some (.int .i64 L') := cell_of_row _ _ 1 _ _ _ hr
  have d2 : w3.cell? ⟨w1.heap.size, 2, none⟩ = some (.int .i64 T') := cell_of_row _ _ 2 _ _ _ hr
  have d3 : w3.cell? ⟨w1.heap.size, 3, none⟩ = some (.int .i64 R') := cell_of_row _ _ 3 _ _ _ hr
  have d4 : w3.cell? ⟨w1.heap.size, 4, none⟩ = some (.int .i64 B') := cell_of_row _ _ 4 _ _ _ hr
  have hne : w1.heap.size ≠ q := by omega
  clear hr
  by_cases z1 : gw = 0 ∧ R' - L' < 64
  · have E1 : Hid (l2 = L') := HL2.out.trans (if_pos z1)
    obtain ⟨rfl, z1⟩ := z1
    by_cases z2 : gh = 0 ∧ B' - T' < 64
    · have E2 : Hid (t2 = T') := HT2.out.trans (if_pos z2)
      obtain ⟨rfl, z2⟩ := z2
      go_wp2_with fail
      go_end0
      exact ⟨⟨_, rfl⟩, gm_fin E1.out E2.out ((G3.out.left L').top T'), (K3.out.setCell (p := ⟨q, 2, none⟩) rfl _).setCell (p := ⟨q, 3, none⟩) rfl _⟩
    · have E2 : Hid (t2 = t) := HT2.out.trans (if_neg z2)
      by_cases z3 : gh = 0
      · subst z3
        have z4 : ¬ B' - T' < 64 := by omega
        clear z2
        go_wp2_with fail
        go_end0
        exact ⟨⟨_, rfl⟩, gm_fin E1.out E2.out (G3.out.left L'), K3.out.setCell (p := ⟨q, 2, none⟩) rfl _⟩
      · have b3 : (gh == 0) = false := by simpa using z3
        clear z2 z3
        go_wp2_with fail
        go_end0
        exact ⟨⟨_, rfl⟩, gm_fin E1.out E2.out (G3.out.left L'), K3.out.setCell (p := ⟨q, 2, none⟩) rfl _⟩
  · have E1 : Hid (l2 = l) := HL2.out.trans (if_neg z1)
    have z1' : (gw == 0) = false ∨ (gw = 0 ∧ ¬ R' - L' < 64) := by
      by_cases z : gw = 0
      · right; exact ⟨z, by omega⟩
      · left; simpa using z
    clear z1
    by_cases z2 : gh = 0 ∧ B' - T' < 64
    · have E2 : Hid (t2 = T') := HT2.out.trans (if_pos z2)
      obtain ⟨rfl, z2⟩ := z2
      rcases z1' with z1 | ⟨rfl, z1⟩
      all_goals
        go_wp2_with fail
        go_end0
        exact ⟨⟨_, rfl⟩, gm_fin E1.out E2.out (G3.out.top T'), K3.out.setCell (p := ⟨q, 3, none⟩) rfl _⟩
    · have E2 : Hid (t2 = t) := HT2.out.trans (if_neg z2)
      by_cases z3 : gh = 0
      · subst z3
        have z4 : ¬ B' - T' < 64 := by omega
        clear z2
        rcases z1' with z1 | ⟨rfl, z1⟩
        all_goals
          go_wp2_with fail
          go_end0
          exact ⟨⟨_, rfl⟩, gm_fin E1.out E2.out G3.out, K3.out⟩
      · have b3 : (gh == 0) = false := by simpa using z3
        clear z2 z3
        rcases z1' with z1 | ⟨rfl, z1⟩
        all_goals
          go_wp2_with fail
          go_end0
          exact ⟨⟨_, rfl⟩, gm_fin E1.out E2.out G3.out, K3.out⟩
set_option maxRecDepth 100000 in
set_option maxHeartbeats 1000000 in
theorem nput_exact (q : Nat) (gw gh : Int) (g : Gs) (x y u : Int) (w : World) (h : GmAt w q gw gh g) (w0 : 0 ≤ gw) (w1 : gw ≤ 12) (h0 : 0 ≤ gh) (h1 : gh ≤ 12)
    (l0 : -40000000 ≤ g.l) (l1 : g.l ≤ 40000000) (t0 : -40000000 ≤ g.t) (t1 : g.t ≤ 40000000) (hx : -40000000 ≤ x ∧ x ≤ 40000000) (hy : -40000000 ≤ y ∧ y ≤ 40000000) :
    Calls Tryd.prog 34 #[.pointer (some ⟨q, 0, none⟩), .int .i64 x, .int .i64 y, .int .i64 u] w fun e w' => e = .returned (.bool (putG gw gh g x y u).1) ∧ GmAt w' q gw gh (putG gw gh g x y u).2 ∧ Kp (· = q) w w' := by
  unfold putG
  by_cases hz : 0 ≤ slotP gw gh g.l g.t x y
  · rw [if_pos hz]
    exact nput_in q gw gh g.l g.t g.S x y u w h w0 w1 h0 h1 (by omega) (by omega) (by omega) (by omega) hz
  · rw [if_neg hz]
    have hb := slotP_bd gw gh g.l g.t x y w0 w1 h0 h1
    have HS := hide (fun wx hx => nslot_any q gw gh g.l g.t g.S x y wx hx w0 w1 h0 h1 (by omega) (by omega) (by omega) (by omega))
    generalize slotP gw gh g.l g.t x y = z at *
    have H : Hid (GnAt w q gw gh g.l g.t g.S) := h
    by_cases hu : u = 0
    · rw [if_pos hu]
      subst hu
      clear h
      go_enter Tryd.func34, Tryd.ntmps34
      go_wp2_with fail
      refine (HS.out _ H.out).mono ?_
      rintro e w1 ⟨rfl, hw⟩
      subst w1
      go_wp2_with fail
      go_ret
      exact ⟨rfl, H.out, Kp.refl _ _⟩
    · rw [if_neg hu]
      have bu : (u == 0) = false := by simpa using hu
      have RE := hide (nreach_exact q gw gh g x y w h w0 w1 h0 h1 l0 l1 t0 t1 hx hy)
      have rb := reach_bd gw gh g x y w0 w1 h0 h1 l0 l1 t0 t1 hx hy
      generalize reachG gw gh g x y = g2 at *
      have hb2 := slotP_bd gw gh g2.l g2.t x y w0 w1 h0 h1
      have HS2 := hide (fun wx hx => nslot_any q gw gh g2.l g2.t g2.S x y wx hx w0 w1 h0 h1 (by omega) (by omega) (by omega) (by omega))
      unfold setG
      generalize slotP gw gh g2.l g2.t x y = z2 at *
      obtain ⟨R, hR⟩ : ∃ R : Bool × Gs, R = if 0 ≤ z2 then (true, ⟨g2.l, g2.t, g2.S.set z2.toNat u⟩) else (false, g2) := ⟨_, rfl⟩
      rw [← hR]
      have HR := hide hR
      clear h hR
      go_enter Tryd.func34, Tryd.ntmps34
      go_wp2_with fail
      refine (HS.out _ H.out).mono ?_
      rintro e w1 ⟨rfl, hw⟩
      subst w1
      clear hu
      go_wp2_with fail
      refine RE.out.mono ?_
      rintro e w2 ⟨⟨vv, rfl⟩, g2', k2⟩
      have G2 : Hid (GnAt w2 q gw gh g2.l g2.t g2.S) := g2'
      have K2 := hide k2
      clear k2 HS H g2' RE
      go_wp2_with fail
      refine (HS2.out _ G2.out).mono ?_
      rintro e w3 ⟨rfl, hw⟩
      subst w3
      by_cases hz2 : z2 < 0
      · have E : Hid (R = (false, g2)) := HR.out.trans (if_neg (by omega))
        clear HR
        go_wp2_with fail
        go_ret
        exact ⟨by rw [E.out]; rfl, by rw [E.out]; exact G2.out, K2.out⟩
      · have E : Hid (R = (true, ⟨g2.l, g2.t, g2.S.set z2.toNat u⟩)) := HR.out.trans (if_pos (by omega))
        clear HR
        obtain ⟨k, rfl⟩ := Int.eq_ofNat_of_zero_le (show 0 ≤ z2 by omega)
        have hk : k < 768 := by omega
        have hc := G2.out.cell k hk
        have hf := G2.out.fro (4 + k)
        clear HS2
        go_wp2_with fail
        go_ret
        exact ⟨by rw [E.out]; rfl, by rw [E.out]; exact G2.out.put k hk u, K2.out.setCell (p := ⟨q, 4 + k, none⟩) rfl _⟩
end Go.Proofs.YtbdbkjngdhcjpaaDoor
namespace Go.Proofs.YtbdbkjngdhcjpaaDoor
open Go.RowKit
open Go.Proofs
section
variable {P : Program} {md : Region.Mode} {ops : Array Oper} {Q : Exit → Act → World → Prop} {fuel : Nat} {listed : Array Bool} {a : Act} {w : World} {i : Nat} {o : Oper} {rs : List Nat}
theorem ready_alloc_row (hi : ops[i]? = some o) (hgd : o.guard = none) (ty : TypeId) (ho : o.op = .alloc ty) (z : Array Value) (hz : (P.info? ty).map (·.zero) = some (some (.agg z)))
    (h : wpAny P md ops Q fuel (listed.setIfInBounds i true) (a.put o.dst (.pointer (some ⟨w.heap.size, 0, none⟩))) (w.alloc (.cells z ty))) (hs : AllReady P md ops Q fuel listed a w rs) : AllReady P md ops Q fuel listed a w (i :: rs) :=
  AllReady.cons hi (fun K hK => by
    rw [if_pos (by simp [Region.wanted, hgd])]
    cases hq : P.info? ty with
    | none => simp [hq] at hz
    | some t =>
      have ht : t.zero = some (.agg z) := by simpa [hq] using hz
      unfold Oper.wp execOp
      simp [ho, Instr.alloc, zeroValue, typeInfo, hq, ht, newVar, newRow, Value.cells]
      exact hK _ _ h) hs
end
theorem ready_new {md : Region.Mode} {ops : Array Oper} {Q : Exit → Act → World → Prop} {fuel : Nat} {listed : Array Bool} {a : Act} {w : World} {i : Nat} {o : Oper} {rs : List Nat} (hi : ops[i]? = some o) (hgd : o.guard = none) (x y : Tmp) (ho : o.op = .call { callee := .value (.func 47), args := #[.tmp x, .tmp y], argTypes := #[3, 3] }) (u v : Value) (hu : a.eval (.tmp x) = u) (hv : a.eval (.tmp y) = v)
    (R : Value → World → Prop) (hc : Calls Tryd.prog 47 #[u, v] w fun e w' => ∃ r, e = .returned r ∧ R r w')
    (h : ∀ r w', R r w' → wpAny Tryd.prog md ops Q fuel (listed.setIfInBounds i true) (a.put o.dst r) w') (hs : AllReady Tryd.prog md ops Q fuel listed a w rs) : AllReady Tryd.prog md ops Q fuel listed a w (i :: rs) :=
  AllReady.cons hi (fun K hK => by
    rw [if_pos (by simp [Region.wanted, hgd])]
    unfold Oper.wp execOp
    rw [ho]
    go_simp
    have hu' : a.tmps[x]?.getD undef = u := by simpa [Act.eval] using hu
    have hv' : a.tmps[y]?.getD undef = v := by simpa [Act.eval] using hv
    rw [hu', hv']
    refine hc.mono ?_
    rintro e w' ⟨r, rfl, hr⟩
    exact hK _ _ (h r w' hr)) hs
end Go.Proofs.YtbdbkjngdhcjpaaDoor
namespace Go.Proofs.YtbdbkjngdhcjpaaDoor
open Go.RowKit
open Go.Proofs

def fillG (val : Nat → Int) (k : Nat) : List Int := (List.range 768).map fun m => if m < k then val m else 0
theorem fillGN_zero (N : Nat) (val : Nat → Int) : ((List.range N).map fun m => if m < 0 then val m else 0) = List.replicate N 0 := by
  apply List.ext_getElem
  · simp
  · intro i h1 h2
    simp
theorem fillG_zero (val : Nat → Int) : fillG val 0 = noS := fillGN_zero 768 val
theorem fillG_len (val : Nat → Int) (k : Nat) : (fillG val k).length = 768 := by unfold fillG; rw [List.length_map, List.length_range]
theorem fillG_succ (val : Nat → Int) (k : Nat) (_h : k < 768) : (fillG val k).set k (val k) = fillG val (k + 1) := by
  unfold fillG
  apply List.ext_getElem
  · simp
  · intro i h1 h2
    rw [List.getElem_set]
    simp only [List.getElem_map, List.getElem_range]
    by_cases e : k = i
    · subst e; simp
    · rw [if_neg e]
      by_cases l : i < k
      · rw [if_pos l, if_pos (by omega)]
      · rw [if_neg l, if_neg (by omega)]
theorem fillG_get (val : Nat → Int) (k m : Nat) (h : m < k) (h2 : m < 768) : (fillG val k).getD m 0 = val m := by
  unfold fillG
  simp [List.getD, h, h2]

/-- What follows at the m-th cell, where G tells of all cells. -/
def nxv (r : Pu.Rule) (G : Int → Int → Int) (S : List Int) (W : Nat) (m : Nat) : Int := nextR r (S.getD m 0) (ones9 (onesW r.around fun a b => G (((m % W : Nat) : Int) + ((a : Int) - 1)) (((m / W : Nat) : Int) + ((b : Int) - 1))) 9)
theorem nxv_at (r : Pu.Rule) (G : Int → Int → Int) (S : List Int) (W i j : Nat) (hi : i < W) : nxv r G S W (j * W + i) = nextR r (S.getD (j * W + i) 0) (ones9 (onesW r.around fun a b => G ((i : Int) + ((a : Int) - 1)) ((j : Int) + ((b : Int) - 1))) 9) := by
  unfold nxv
  rw [Nat.mul_comm j W, Nat.mul_add_mod, Nat.mod_eq_of_lt hi, Nat.mul_add_div (by omega), Nat.div_eq_of_lt hi, Nat.add_zero]
theorem onesW_mid (a : Int) (g : Nat → Nat → Int) (ha : a = 77 ∨ a = 86 ∨ a = 72) : onesW a g 1 1 = false := by
  unfold onesW
  rcases ha with rfl | rfl | rfl <;> simp [nearR]
end Go.Proofs.YtbdbkjngdhcjpaaDoor
