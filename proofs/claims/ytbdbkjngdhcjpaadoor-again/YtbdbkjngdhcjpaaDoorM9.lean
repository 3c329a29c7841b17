import Derived.Test.YtbdbkjngdhcjpaaDoorM8
import Derived.Test.YtbdbkjngdhcjpaaDoorM2
import Derived.Lib.ItoaNum
namespace Go.Proofs.YtbdbkjngdhcjpaaDoor
open Go.RowKit
open Go.Proofs

/-- A box, exactly. -/
structure Bx where
  e : Bool
  L : Int
  T : Int
  R : Int
  B : Int
def BxE (w : World) (p : Nat) (e : Bool) (L T R B : Int) : Prop := w.heap[p]? = some (.cells (bxv e L T R B) 81 (0, 0))
section
variable {w : World} {p : Nat} {e0 e : Bool} {L T R B u v : Int}
theorem BxE.s0 (h : BxE w p e0 L T R B) : BxE (w.setCell ⟨p, 0, none⟩ (.bool e)) p e L T R B := by
  unfold BxE at *
  rw [heap_setCell_same w p _ _ _ _ h]; rfl
theorem BxE.s1 (h : BxE w p e v T R B) : BxE (w.setCell ⟨p, 1, none⟩ (.int .i64 u)) p e u T R B := by
  unfold BxE at *
  rw [heap_setCell_same w p _ _ _ _ h]; rfl
theorem BxE.s2 (h : BxE w p e L v R B) : BxE (w.setCell ⟨p, 2, none⟩ (.int .i64 u)) p e L u R B := by
  unfold BxE at *
  rw [heap_setCell_same w p _ _ _ _ h]; rfl
theorem BxE.s3 (h : BxE w p e L T v B) : BxE (w.setCell ⟨p, 3, none⟩ (.int .i64 u)) p e L T u B := by
  unfold BxE at *
  rw [heap_setCell_same w p _ _ _ _ h]; rfl
theorem BxE.s4 (h : BxE w p e L T R v) : BxE (w.setCell ⟨p, 4, none⟩ (.int .i64 u)) p e L T R u := by
  unfold BxE at *
  rw [heap_setCell_same w p _ _ _ _ h]; rfl
theorem BxE.keep {S : Nat → Prop} {w' : World} (h : BxE w p e L T R B) (k : Kp S w w') (hn : ¬ S p) : BxE w' p e L T R B := k.row h hn
theorem BxE.drewN (h : BxE w p e L T R B) (n : Nat) : BxE (w.drewN n) p e L T R B := h
end
def addB (b : Bx) (x y : Int) : Bx := if b.e = true then ⟨false, x, y, x, y⟩ else ⟨false, if x < b.L then x else b.L, if y < b.T then y else b.T, if b.R < x then x else b.R, if b.B < y then y else b.B⟩
def BxA (w : World) (p : Nat) (b : Bx) : Prop := BxE w p b.e b.L b.T b.R b.B
theorem BxA.keep {S : Nat → Prop} {w w' : World} {p : Nat} {b : Bx} (h : BxA w p b) (k : Kp S w w') (hn : ¬ S p) : BxA w' p b := BxE.keep h k hn
theorem BxA.drewN {w : World} {p : Nat} {b : Bx} (h : BxA w p b) (n : Nat) : BxA (w.drewN n) p b := h

set_option maxHeartbeats 1000000 in
theorem add_exact (p : Nat) (b : Bx) (x y : Int) (w : World) (h : BxA w p b) :
    Calls Tryd.prog 69 #[.pointer (some ⟨p, 0, none⟩), .int .i64 x, .int .i64 y] w fun e w' => (∃ v, e = .returned v) ∧ BxA w' p (addB b x y) ∧ Kp (· = p) w w' := by
  obtain ⟨e0, L, T, R, B⟩ := b
  have hr : w.heap[p]? = some (.cells (bxv e0 L T R B) 81 (0, 0)) := h
  have H : Hid (BxE w p e0 L T R B) := h
  have c0 : w.cell? ⟨p, 0, none⟩ = some (.bool e0) := cell_of_row w p 0 _ _ _ hr
  have c1 : w.cell? ⟨p, 1, none⟩ = some (.int .i64 L) := cell_of_row w p 1 _ _ _ hr
  have c2 : w.cell? ⟨p, 2, none⟩ = some (.int .i64 T) := cell_of_row w p 2 _ _ _ hr
  have c3 : w.cell? ⟨p, 3, none⟩ = some (.int .i64 R) := cell_of_row w p 3 _ _ _ hr
  have c4 : w.cell? ⟨p, 4, none⟩ = some (.int .i64 B) := cell_of_row w p 4 _ _ _ hr
  have f0 := frozen_of_row w p 0 _ _ hr
  have f1 := frozen_of_row w p 1 _ _ hr
  have f2 := frozen_of_row w p 2 _ _ hr
  have f3 := frozen_of_row w p 3 _ _ hr
  have f4 := frozen_of_row w p 4 _ _ hr
  clear hr h
  unfold BxA addB
  cases e0
  · rw [if_neg (by simp)]
    simp only
    go_enter Tryd.func69, Tryd.ntmps69
    go_wp2
    all_goals
      go_end0
      refine ⟨⟨_, rfl⟩, ?_, ?_⟩
      · repeat (first | (with_reducible exact H.out) | (with_reducible apply BxE.s1) | (with_reducible apply BxE.s3) | (with_reducible apply BxE.s2) | (with_reducible apply BxE.s4) | (with_reducible apply BxE.s0))
      · repeat (first | (with_reducible exact Kp.refl _ _) | (with_reducible refine Kp.setB ?_))
  · rw [if_pos rfl]
    go_enter Tryd.func69, Tryd.ntmps69
    go_wp2
    all_goals
      go_end0
      refine ⟨⟨_, rfl⟩, ?_, ?_⟩
      · repeat (first | (with_reducible exact H.out) | (with_reducible apply BxE.s1) | (with_reducible apply BxE.s3) | (with_reducible apply BxE.s2) | (with_reducible apply BxE.s4) | (with_reducible apply BxE.s0))
      · repeat (first | (with_reducible exact Kp.refl _ _) | (with_reducible refine Kp.setB ?_))

/-- The box of the live cells, row by row. -/
def liveRow (G : Int → Int → Int) (l y : Int) (b : Bx) : Nat → Bx
  | 0 => b
  | m + 1 => if G (l + m) y = 0 then liveRow G l y b m else addB (liveRow G l y b m) (l + m) y
def liveAll (G : Int → Int → Int) (l t : Int) (n : Nat) : Nat → Bx
  | 0 => ⟨true, 0, 0, 0, 0⟩
  | k + 1 => liveRow G l (t + k) (liveAll G l t n k) n
/-- What Live tells of a grid. -/
def liveP (gw gh l t : Int) (S : List Int) : Bx := liveAll (getP gw gh l t S) l t (spanP gw).toNat (spanP gh).toNat
def bxV (b : Bx) : Array Value := bxv b.e b.L b.T b.R b.B

set_option maxRecDepth 100000 in
set_option maxHeartbeats 1000000 in
theorem live_exact (q : Nat) (pre : Array Value) (gw gh l t : Int) (S : List Int) (w : World) (h : GrAt w q pre gw gh l t S) (w0 : 0 ≤ gw) (w1 : gw ≤ 12) (h0 : 0 ≤ gh) (h1 : gh ≤ 12)
    (l0 : -40000000 ≤ l) (l1 : l ≤ 40000000) (t0 : -40000000 ≤ t) (t1 : t ≤ 40000000) :
    Calls Tryd.prog 41 #[.pointer (some ⟨q, 28, none⟩)] w fun e w' => e = .returned (.agg (bxV (liveP gw gh l t S))) ∧ Kp (fun _ => False) w w' := by
  have sw := spanP_bd w0 w1
  have sh := spanP_bd h0 h1
  have hq := h.lt
  have bu := build_box
  have c3 : w.cell? ⟨q, 31, none⟩ = some (.int .i64 t) := h.fld 3 (by omega)
  have H := hide h
  obtain ⟨G, hG⟩ : ∃ G, G = getP gw gh l t S := ⟨_, rfl⟩
  have HG := hide (fun (wx : World) (hx : GrAt wx q pre gw gh l t S) (X Y : Int) => gget_any q pre gw gh l t S X Y wx hx w0 w1 h0 h1 (by omega) (by omega) (by omega) (by omega))
  unfold liveP
  rw [← hG] at HG ⊢
  clear h hG
  have HR1 : Hid (∀ (y : Int) (b : Bx) (m : Nat), G (l + m) y = 0 → liveRow G l y b m = liveRow G l y b (m + 1)) := fun y b m hz => by
    show _ = if G (l + m) y = 0 then _ else _
    rw [if_pos hz]
  have HR2 : Hid (∀ (y : Int) (b : Bx) (m : Nat), G (l + m) y ≠ 0 → addB (liveRow G l y b m) (l + m) y = liveRow G l y b (m + 1)) := fun y b m hz => by
    show _ = if G (l + m) y = 0 then _ else _
    rw [if_neg hz]
  have HA : Hid (∀ (n k : Nat), liveRow G l (t + k) (liveAll G l t n k) n = liveAll G l t n (k + 1)) := fun _ _ => rfl
  have HA0 : Hid (∀ n, liveAll G l t n 0 = ⟨true, 0, 0, 0, 0⟩) := fun _ => rfl
  have HR0 : Hid (∀ y b, liveRow G l y b 0 = b) := fun _ _ => rfl
  generalize liveAll G l t = LA at *
  generalize liveRow G l = LR at *
  go_enter Tryd.func41, Tryd.ntmps41
  go_wp2_with (refine wpList_store_row_g rfl 81 _ _ rfl (w.heap.size + 1) (bxv true 0 0 0 0) rfl rfl 81 (bxv false 0 0 0 0) (heap_alloc2_new _ _ _) info_box rfl (bxv_one _ _ _ _ _) ?_
               intro wz hwz
               have GZ : Hid (GrAt wz q pre gw gh l t S) := by rw [hwz]; exact ((H.out.alloc _).alloc _).other (setRow_other _ _ _ _ (by omega))
               have BZ : Hid (BxA wz (w.heap.size + 1) (LA (spanP gw).toNat 0)) := by rw [hwz, HA0.out]; exact setRow_heap _ _ _ _ _ _ (heap_alloc2_new _ _ _)
               have AZ : Hid (wz.heap[w.heap.size]? = some (.cells (bxv false 0 0 0 0) 81 (0, 0))) := by rw [hwz]; exact (setRow_other _ _ _ _ (by omega)).trans (heap_alloc2_old _ _ _)
               have KZ : Hid (Kp (fun _ => False) w wz) := by rw [hwz]; exact (((Kp.refl _ _).alloc _).alloc _).setRowNew (by omega) _
               have cz : wz.cell? ⟨q, 31, none⟩ = some (.int .i64 t) := GZ.out.fld 3 (by omega)
               clear hwz)
  go_loopg [4] (spanP gh).toNat (fun gk v wr => ∃ k : Nat, (k : Int) ≤ spanP gh ∧ spanP gh ≤ k + gk ∧ v = .int .i64 (t + k) ∧ GrAt wr q pre gw gh l t S ∧ BxA wr (w.heap.size + 1) (LA (spanP gw).toNat k) ∧ wr.heap[w.heap.size]? = some (.cells (bxv false 0 0 0 0) 81 (0, 0)) ∧ Kp (fun _ => False) w wr)
  case atStart => exact ⟨0, by omega, by omega, by simp, GZ.out, BZ.out, AZ.out, KZ.out⟩
  case round =>
    obtain ⟨k, g1, g2, rfl, g3, g4, g5, g6⟩ := hrel
    have d0 : wr.cell? ⟨q, 28, none⟩ = some (.int .i64 gw) := g3.fld 0 (by omega)
    have d1 : wr.cell? ⟨q, 29, none⟩ = some (.int .i64 gh) := g3.fld 1 (by omega)
    have d2 : wr.cell? ⟨q, 30, none⟩ = some (.int .i64 l) := g3.fld 2 (by omega)
    have d3 : wr.cell? ⟨q, 31, none⟩ = some (.int .i64 t) := g3.fld 3 (by omega)
    have G3 := hide g3
    have G4 := hide g4
    have G5 := hide g5
    have G6 := hide g6
    clear g3 g4 g5 g6 cz c3
    by_cases hlt : (k : Int) < spanP gh
    · obtain ⟨Go, hGo⟩ : ∃ Go, Go = gk := ⟨gk, rfl⟩
      have HGo := hide hGo
      clear hGo
      go_wp2_with fail
      go_quiet ((go_at_call 68; exact Calls.quiet_of_same (span_any _ _)))
      go_wp2_with fail
      go_loopg [5] (spanP gw).toNat (fun gm v wi => ∃ m : Nat, (m : Int) ≤ spanP gw ∧ spanP gw ≤ m + gm ∧ v = .int .i64 (l + m) ∧ GrAt wi q pre gw gh l t S ∧ BxA wi (w.heap.size + 1) (LR (t + k) (LA (spanP gw).toNat k) m) ∧ wi.heap[w.heap.size]? = some (.cells (bxv false 0 0 0 0) 81 (0, 0)) ∧ Kp (fun _ => False) w wi)
      case atStart => exact ⟨0, by omega, by omega, by simp, G3.out.drewN _, by rw [HR0.out]; exact G4.out, G5.out, G6.out.drewN _⟩
      case round =>
        obtain ⟨m, m1, m2, rfl, m3, m4, m5, m6⟩ := hrel
        clear d0 d1 d2 d3 G3 G4 G5 G6
        have d0 : wr.cell? ⟨q, 28, none⟩ = some (.int .i64 gw) := m3.fld 0 (by omega)
        have d1 : wr.cell? ⟨q, 29, none⟩ = some (.int .i64 gh) := m3.fld 1 (by omega)
        have d2 : wr.cell? ⟨q, 30, none⟩ = some (.int .i64 l) := m3.fld 2 (by omega)
        have d3 : wr.cell? ⟨q, 31, none⟩ = some (.int .i64 t) := m3.fld 3 (by omega)
        have G3 := hide m3
        have G4 := hide m4
        have G5 := hide m5
        have G6 := hide m6
        clear m3 m4 m5 m6
        by_cases hlm : (m : Int) < spanP gw
        · have HGk := hide (fun (wx : World) (hx : GrAt wx q pre gw gh l t S) => HG.out wx hx (l + m) (t + k))
          have E1 := hide (HR1.out (t + k) (LA (spanP gw).toNat k) m)
          have E2 := hide (HR2.out (t + k) (LA (spanP gw).toNat k) m)
          generalize G (l + m) (t + k) = z at *
          by_cases hz : z = 0
          · have E3 := hide (E1.out hz)
            subst hz
            rw [E3.out] at G4
            clear E3
            go_wp2_with fail
            go_quiet ((go_at_call 68; exact Calls.quiet_of_same (span_any _ _)))
            go_wp2_with fail
            refine (HGk.out _ (G3.out.drewN _)).mono ?_
            rintro e w1 ⟨rfl, hw⟩
            subst w1
            go_wp2_with fail
            go_roundg (gk - 1)
            case measure => omega
            case rel => exact ⟨m + 1, by omega, by omega, by go_num, G3.out.drewN _, G4.out, G5.out, G6.out.drewN _⟩
          · have E3 := hide (E2.out hz)
            have bz : (z != 0) = true := by simpa using hz
            clear hz
            go_wp2_with fail
            go_quiet ((go_at_call 68; exact Calls.quiet_of_same (span_any _ _)))
            go_wp2_with fail
            refine (HGk.out _ (G3.out.drewN _)).mono ?_
            rintro e w1 ⟨rfl, hw⟩
            subst w1
            go_wp2_with fail
            refine (add_exact (w.heap.size + 1) _ (l + m) (t + k) _ (G4.out.drewN _)).mono ?_
            rintro e w2 ⟨⟨vv, rfl⟩, b2, k2⟩
            rw [E3.out] at b2
            have B2 := hide b2
            have K2 := hide k2
            clear b2 k2
            go_wp2_with fail
            go_roundg (gk - 1)
            case measure => omega
            case rel => exact ⟨m + 1, by omega, by omega, by go_num, (G3.out.drewN _).keep K2.out (by omega), B2.out, K2.out.row (w := wr.drewN _) G5.out (by omega), (G6.out.drewN _).tr K2.out (by intro z hz1 hz2; omega)⟩
        · have em : m = (spanP gw).toNat := by omega
          rw [em, HA.out] at G4
          clear em
          go_wp2_with fail
          go_quiet ((go_at_call 68; exact Calls.quiet_of_same (span_any _ _)))
          go_wp2_with fail
          go_roundg (Go - 1)
          case measure => have := HGo.out; omega
          case rel => exact ⟨k + 1, by omega, by have := HGo.out; omega, by go_num, G3.out.drewN _, G4.out, G5.out, G6.out.drewN _⟩
    · have ek : k = (spanP gh).toNat := by omega
      rw [ek] at G4
      have HR : Hid (wr.heap[w.heap.size + 1]? = some (.cells (bxV (LA (spanP gw).toNat (spanP gh).toNat)) 81 (0, 0))) := G4.out
      clear ek G4
      obtain ⟨bb, hbb⟩ : ∃ bb, bb = LA (spanP gw).toNat (spanP gh).toNat := ⟨_, rfl⟩
      rw [← hbb] at HR
      have HBB := hide hbb
      clear hbb
      go_wp2_with fail
      go_quiet ((go_at_call 68; exact Calls.quiet_of_same (span_any _ _)))
      go_wp2_with (first
        | (refine wpList_load_row rfl 81 _ rfl (w.heap.size + 1) rfl 81 (bxV bb) (0, 0) _ HR.out Tryd.underlying81 rfl info_box ?_)
        | (refine wpList_store_row rfl 81 _ _ rfl w.heap.size (bxV bb) rfl rfl 81 (bxv false 0 0 0 0) G5.out info_box rfl (bxv_one _ _ _ _ _) ?_))
      exact bodyPost_ret (v := .agg (bxV bb)) (results_cell_row Tryd.results41 _ _ w.heap.size 81 (bxV bb) (0, 0) _ rfl (setRow_heap _ _ _ _ _ _ G5.out) Tryd.underlying81 rfl info_box) rfl
        ⟨by rw [HBB.out], (G6.out.drewN _).setRowNew (Nat.le_refl _) _⟩
/-- The box of the live cells lies in the window. -/
theorem liveRow_bd (G : Int → Int → Int) (l y l0 t0 : Int) (n k : Nat) (hy : t0 ≤ y ∧ y < t0 + k) (hl : l = l0) (b : Bx) (hb : b.e = true ∨ ((l0 ≤ b.L ∧ b.L ≤ b.R ∧ b.R < l0 + n) ∧ (t0 ≤ b.T ∧ b.T ≤ b.B ∧ b.B < t0 + k))) :
    ∀ m : Nat, m ≤ n → (liveRow G l y b m).e = true ∨ ((l0 ≤ (liveRow G l y b m).L ∧ (liveRow G l y b m).L ≤ (liveRow G l y b m).R ∧ (liveRow G l y b m).R < l0 + n) ∧ (t0 ≤ (liveRow G l y b m).T ∧ (liveRow G l y b m).T ≤ (liveRow G l y b m).B ∧ (liveRow G l y b m).B < t0 + k)) := by
  intro m
  induction m with
  | zero => intro _; exact hb
  | succ m ih =>
    intro hm
    have h := ih (by omega)
    unfold liveRow
    split
    · exact h
    · right
      generalize liveRow G l y b m = c at *
      unfold addB
      split
      · simp only
        omega
      · simp only
        have hc : c.e ≠ true := by assumption
        rcases h with h | h
        · exact absurd h hc
        · refine ⟨⟨?_, ?_, ?_⟩, ?_, ?_, ?_⟩ <;> (repeat' split) <;> omega
theorem liveAll_bd (G : Int → Int → Int) (l t : Int) (n N : Nat) : ∀ k : Nat, k ≤ N → (liveAll G l t n k).e = true ∨ ((l ≤ (liveAll G l t n k).L ∧ (liveAll G l t n k).L ≤ (liveAll G l t n k).R ∧ (liveAll G l t n k).R < l + n) ∧ (t ≤ (liveAll G l t n k).T ∧ (liveAll G l t n k).T ≤ (liveAll G l t n k).B ∧ (liveAll G l t n k).B < t + N)) := by
  intro k
  induction k with
  | zero => intro _; left; rfl
  | succ k ih =>
    intro hk
    exact liveRow_bd G l (t + k) l t n N (by omega) rfl _ (ih (by omega)) n (Nat.le_refl _)
end Go.Proofs.YtbdbkjngdhcjpaaDoor
namespace Go.Proofs.YtbdbkjngdhcjpaaDoor
open Go.RowKit
open Go.Proofs

/-- A text of these bytes. -/
def ustr (L : List UInt8) : ByteArray := ⟨L.toArray⟩
theorem ustr_app (L M : List UInt8) : ustr L ++ ustr M = ustr (L ++ M) := by
  apply ByteArray.ext
  simp [ustr, ByteArray.data_append]
theorem ustr_size (L : List UInt8) : (ustr L).size = L.length := by simp [ustr, ByteArray.size]
theorem ustr_inj {L M : List UInt8} (h : ustr L = ustr M) : L = M := by
  have h2 : L.toArray = M.toArray := congrArg ByteArray.data h
  simpa using h2
def b8 (n : Int) : UInt8 := UInt8.ofNat n.toNat
theorem dec_len : ∀ u : Nat, (Lib.decDigits u).length ≤ u + 1 := by
  intro u
  induction u using Nat.strongRecOn with
  | _ u ih =>
    rw [Lib.decDigits]
    by_cases h : u < 10
    · rw [dif_pos h]; simp
    · rw [dif_neg h, List.length_append]
      have := ih (u / 10) (by omega)
      simp
      omega
theorem itoa_len (n : Int) : (Lib.itoa n).length ≤ n.natAbs + 2 := by
  unfold Lib.itoa
  split
  · have := dec_len n.natAbs
    simp
    omega
  · have := dec_len n.toNat
    omega
namespace Sv
/-- The sign of a state. -/
def letter (s : Int) : Int := Pu.stateLetter s
/-- A run. -/
def run (k m : Int) : List UInt8 := if k = 0 then [] else if k = 1 then [b8 m] else Lib.itoa k ++ [b8 m]
theorem run_len (k m : Int) : (run k m).length ≤ k.natAbs + 3 := by
  unfold run
  split
  · simp
  · split
    · simp
    · have := itoa_len k
      simp
      omega
structure Rw where
  text : List UInt8
  state : Int
  count : Int
def rowStep (r : Rw) (here : Int) : Rw := if here = r.state then ⟨r.text, r.state, r.count + 1⟩ else ⟨r.text ++ run r.count (letter r.state), here, 1⟩
def rowN (G : Int → Int) (l : Int) : Nat → Rw
  | 0 => ⟨[], 0, 0⟩
  | n + 1 => rowStep (rowN G l n) (G (l + n))
def rowEnd (r : Rw) : List UInt8 := if r.state = 0 then r.text else r.text ++ run r.count (letter r.state)
def row (G : Int → Int) (l : Int) (n : Nat) : List UInt8 := rowEnd (rowN G l n)
theorem rowN_len (G : Int → Int) (l : Int) : ∀ n : Nat, 0 ≤ (rowN G l n).count ∧ (rowN G l n).count ≤ n ∧ ((rowN G l n).text.length : Int) + (rowN G l n).count ≤ 5 * n := by
  intro n
  induction n with
  | zero => simp [rowN]
  | succ n ih =>
    unfold rowN rowStep
    split
    · simp only
      omega
    · have := run_len (rowN G l n).count (letter (rowN G l n).state)
      simp only [List.length_append]
      omega
theorem row_len (G : Int → Int) (l : Int) (n : Nat) : (row G l n).length ≤ 5 * n + 3 := by
  have h := rowN_len G l n
  unfold row rowEnd
  split
  · omega
  · have := run_len (rowN G l n).count (letter (rowN G l n).state)
    rw [List.length_append]
    omega
structure Bd where
  text : List UInt8
  breaks : Int
def bodyStep (b : Bd) (row : List UInt8) : Bd := if row = [] then ⟨b.text, b.breaks + 1⟩ else ⟨b.text ++ (run b.breaks 36 ++ row), 1⟩
def bodyN (G : Int → Int → Int) (l t : Int) (n : Nat) : Nat → Bd
  | 0 => ⟨[], 0⟩
  | k + 1 => bodyStep (bodyN G l t n k) (row (fun x => G x (t + k)) l n)
def body (G : Int → Int → Int) (l t : Int) (n k : Nat) : List UInt8 := (bodyN G l t n k).text
theorem bodyN_len (G : Int → Int → Int) (l t : Int) (n : Nat) (hn : n ≤ 64) : ∀ k : Nat, 0 ≤ (bodyN G l t n k).breaks ∧ (bodyN G l t n k).breaks ≤ k ∧ ((bodyN G l t n k).text.length : Int) + (bodyN G l t n k).breaks ≤ 400 * k := by
  intro k
  induction k with
  | zero => simp [bodyN]
  | succ k ih =>
    unfold bodyN bodyStep
    split
    · simp only
      omega
    · have h1 := run_len (bodyN G l t n k).breaks 36
      have h2 := row_len (fun x => G x (t + k)) l n
      simp only [List.length_append]
      omega
/-- The digits of a set. -/
def setN (f : List Bool) : Nat → List UInt8
  | 0 => []
  | n + 1 => if f.getD n false = true then setN f n ++ Lib.itoa n else setN f n
theorem setN_len (f : List Bool) : ∀ n : Nat, (setN f n).length ≤ n * (n + 2) := by
  intro n
  induction n with
  | zero => simp [setN]
  | succ n ih =>
    have e : (n + 1) * (n + 1 + 2) = n * (n + 2) + n + (n + 2) + 1 := by
      rw [Nat.add_mul, Nat.one_mul, show n + 1 + 2 = n + 2 + 1 by omega, Nat.mul_add n (n + 2) 1, Nat.mul_one]
      omega
    unfold setN
    split
    · have := itoa_len n
      rw [List.length_append]
      omega
    · omega
def set (f : List Bool) : List UInt8 := setN f 9
def behind (s : Int) (st : Bool) : List UInt8 := if st = true then [42] else if s = 0 then [] else [43] ++ Lib.itoa s
theorem behind_len (s : Int) (st : Bool) : (behind s st).length ≤ s.natAbs + 3 := by
  unfold behind
  split
  · simp
  · split
    · simp
    · have := itoa_len s
      simp
      omega
def ruleT (r : Pu.Rule) : List UInt8 := [b8 r.around] ++ [66] ++ set r.births ++ [47, 83] ++ set r.survivals ++ (if 2 < r.states then [47] ++ Lib.itoa r.states else [])
def shapeT (x : Pu.Shape) : List UInt8 := [b8 x.kind] ++ (Lib.itoa x.w ++ behind x.ws x.wst) ++ [44] ++ (Lib.itoa x.h ++ behind x.hs x.hst)
def headT (r : Pu.Rule) (x : Pu.Shape) (age : Int) : List UInt8 := ruleT r ++ [32] ++ shapeT x ++ [32] ++ Lib.itoa age
def placeT (L T : Int) : List UInt8 := Lib.itoa L ++ [44] ++ Lib.itoa T
/-- What a world is saved as. -/
def writeT (r : Pu.Rule) (x : Pu.Shape) (age : Int) (G : Int → Int → Int) (b : Bx) : List UInt8 :=
  if b.e = true then headT r x age ++ [32, 48, 44, 48, 32, 33]
  else headT r x age ++ [32] ++ placeT b.L b.T ++ [32] ++ body G b.L b.T (b.R - b.L + 1).toNat (b.B - b.T + 1).toNat ++ [33]
end Sv
end Go.Proofs.YtbdbkjngdhcjpaaDoor
