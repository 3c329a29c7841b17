import Derived.Test.YthmhjjkmnnmjlaaGreatDoorM2
import Derived.Test.YthmhjjkmnnmjlaaGreatDoorM6
import Derived.Test.YthmhjjkmnnmjlaaGreatDoorM3
namespace Go.Proofs.YthmhjjkmnnmjlaaGreatDoor
open Go.RowKit
open Go.Proofs

theorem bool_dec {p : Prop} [Decidable p] {y : Bool} (h : y = true ↔ p) : y = decide p := by
  rw [Bool.eq_iff_iff, h]; simp

def onSideB (a side : Int) : Bool := decide (side = 0 ∨ (0 ≤ a ∧ a < side))
def nearOnB (a side : Int) : Bool := decide (side ≠ 0 ∨ (-9999 ≤ a ∧ a ≤ 9999))

set_option maxHeartbeats 400000 in
theorem onSide_any (a side : Int) (w : World) : Calls Tryz.prog 65 #[.int .i64 a, .int .i64 side] w fun e w' => e = .returned (.bool (onSideB a side)) ∧ w' = w := by
  unfold onSideB
  by_cases h1 : side = 0
  · subst h1
    go_enter Tryz.func65, Tryz.ntmps65
    go_wp2
    go_ret
    exact ⟨ret_bool (by simp), rfl⟩
  · have b1 : (side == 0) = false := by simpa using h1
    by_cases h2 : 0 ≤ a
    · by_cases h3 : a < side
      · go_enter Tryz.func65, Tryz.ntmps65
        go_wp2
        go_ret
        exact ⟨ret_bool (by symm; apply decide_eq_true; omega), rfl⟩
      · go_enter Tryz.func65, Tryz.ntmps65
        go_wp2
        go_ret
        exact ⟨ret_bool (by symm; apply decide_eq_false; omega), rfl⟩
    · go_enter Tryz.func65, Tryz.ntmps65
      go_wp2
      go_ret
      exact ⟨ret_bool (by symm; simp; omega), rfl⟩

set_option maxHeartbeats 400000 in
theorem nearOn_any (a side : Int) (w : World) : Calls Tryz.prog 66 #[.int .i64 a, .int .i64 side] w fun e w' => e = .returned (.bool (nearOnB a side)) ∧ w' = w := by
  unfold nearOnB
  by_cases h1 : side = 0
  · subst h1
    by_cases h2 : -9999 ≤ a
    · by_cases h3 : a ≤ 9999
      · go_enter Tryz.func66, Tryz.ntmps66
        go_wp2
        go_ret
        exact ⟨ret_bool (by symm; apply decide_eq_true; omega), rfl⟩
      · go_enter Tryz.func66, Tryz.ntmps66
        go_wp2
        go_ret
        exact ⟨ret_bool (by symm; apply decide_eq_false; omega), rfl⟩
    · go_enter Tryz.func66, Tryz.ntmps66
      go_wp2
      go_ret
      exact ⟨ret_bool (by symm; simp; omega), rfl⟩
  · have b1 : (side != 0) = true := by simpa using h1
    go_enter Tryz.func66, Tryz.ntmps66
    go_wp2
    go_ret
    exact ⟨ret_bool (by symm; apply decide_eq_true; omega), rfl⟩

def hasB (s : Pu.Shape) (x y : Int) : Bool := onSideB x s.w && onSideB y s.h
def nearB (s : Pu.Shape) (x y : Int) : Bool := nearOnB x s.w && nearOnB y s.h

set_option maxHeartbeats 400000 in
theorem has_any (s : Pu.Shape) (x y : Int) (w : World) : Calls Tryz.prog 36 #[.agg (shv s), .int .i64 x, .int .i64 y] w fun e w' => e = .returned (.bool (hasB s x y)) ∧ Kp (fun _ => False) w w' := by
  obtain ⟨kind, xw, xh, ws, hs, wst, hst⟩ := s
  simp only [shv, hasB]
  cases h1 : onSideB x xw with
  | true =>
    have H1 := hide (fun wx => by have := onSide_any x xw wx; rw [h1] at this; exact this)
    clear h1
    go_enter Tryz.func36, Tryz.ntmps36
    go_wp2_with fail
    refine (H1.out _).mono ?_
    rintro e w1 ⟨rfl, hw⟩
    subst w1
    go_wp2_with fail
    refine (onSide_any y xh _).mono ?_
    rintro e w1 ⟨rfl, hw⟩
    subst w1
    go_wp2_with fail
    go_ret
    exact ⟨ret_bool (by simp), (Kp.refl _ _).alloc _⟩
  | false =>
    have H1 := hide (fun wx => by have := onSide_any x xw wx; rw [h1] at this; exact this)
    clear h1
    go_enter Tryz.func36, Tryz.ntmps36
    go_wp2_with fail
    refine (H1.out _).mono ?_
    rintro e w1 ⟨rfl, hw⟩
    subst w1
    go_wp2_with fail
    go_ret
    exact ⟨ret_bool (by simp), (Kp.refl _ _).alloc _⟩

set_option maxHeartbeats 400000 in
theorem near_any (s : Pu.Shape) (x y : Int) (w : World) : Calls Tryz.prog 37 #[.agg (shv s), .int .i64 x, .int .i64 y] w fun e w' => e = .returned (.bool (nearB s x y)) ∧ Kp (fun _ => False) w w' := by
  obtain ⟨kind, xw, xh, ws, hs, wst, hst⟩ := s
  simp only [shv, nearB]
  cases h1 : nearOnB x xw with
  | true =>
    have H1 := hide (fun wx => by have := nearOn_any x xw wx; rw [h1] at this; exact this)
    clear h1
    go_enter Tryz.func37, Tryz.ntmps37
    go_wp2_with fail
    refine (H1.out _).mono ?_
    rintro e w1 ⟨rfl, hw⟩
    subst w1
    go_wp2_with fail
    refine (nearOn_any y xh _).mono ?_
    rintro e w1 ⟨rfl, hw⟩
    subst w1
    go_wp2_with fail
    go_ret
    exact ⟨ret_bool (by simp), (Kp.refl _ _).alloc _⟩
  | false =>
    have H1 := hide (fun wx => by have := nearOn_any x xw wx; rw [h1] at this; exact this)
    clear h1
    go_enter Tryz.func37, Tryz.ntmps37
    go_wp2_with fail
    refine (H1.out _).mono ?_
    rintro e w1 ⟨rfl, hw⟩
    subst w1
    go_wp2_with fail
    go_ret
    exact ⟨ret_bool (by simp), (Kp.refl _ _).alloc _⟩

set_option maxHeartbeats 400000 in
theorem endless_any (s : Pu.Shape) (w : World) : Calls Tryz.prog 51 #[.agg (shv s)] w fun e w' => e = .returned (.bool (decide (s.w = 0 ∨ s.h = 0))) ∧ Kp (fun _ => False) w w' := by
  obtain ⟨kind, xw, xh, ws, hs, wst, hst⟩ := s
  simp only [shv]
  by_cases h1 : xw = 0
  · subst h1
    go_enter Tryz.func51, Tryz.ntmps51
    go_wp2
    go_ret
    exact ⟨ret_bool (by simp), (Kp.refl _ _).alloc _⟩
  · have b1 : (xw == 0) = false := by simpa using h1
    by_cases h2 : xh = 0
    · subst h2
      go_enter Tryz.func51, Tryz.ntmps51
      go_wp2
      go_ret
      exact ⟨ret_bool (by simp), (Kp.refl _ _).alloc _⟩
    · have b2 : (xh == 0) = false := by simpa using h2
      go_enter Tryz.func51, Tryz.ntmps51
      go_wp2
      go_ret
      exact ⟨ret_bool (by symm; apply decide_eq_false; omega), (Kp.refl _ _).alloc _⟩

def spanP (g : Int) : Int := if g = 0 then 64 else g
set_option maxHeartbeats 400000 in
theorem span_any (g : Int) (w : World) : Calls Tryz.prog 93 #[.int .i64 g] w fun e w' => e = .returned (.int .i64 (spanP g)) ∧ w' = w := by
  unfold spanP
  by_cases h1 : g = 0
  · subst h1
    go_enter Tryz.func93, Tryz.ntmps93
    go_wp2
    go_ret
    exact ⟨rfl, rfl⟩
  · have b1 : (g == 0) = false := by simpa using h1
    rw [if_neg h1]
    go_enter Tryz.func93, Tryz.ntmps93
    go_wp2
    go_ret
    exact ⟨rfl, rfl⟩

set_option maxHeartbeats 400000 in
theorem mod_any (a n : Int) (w : World) (h0 : 0 < n) (h1 : n ≤ 64) (h2 : -100000000 ≤ a) (h3 : a ≤ 100000000) : Calls Tryz.prog 94 #[.int .i64 a, .int .i64 n] w fun e w' => e = .returned (.int .i64 (a % n)) ∧ w' = w := by
  have e1 := Int.tmod_eq_emod (a := a) (b := n)
  have b1 := Int.emod_nonneg a (show n ≠ 0 by omega)
  have b2 := Int.emod_lt_of_pos a h0
  have b3 : a.tmod n = a % n ∨ a.tmod n = a % n - n ∧ a.tmod n < 0 := by
    by_cases c : 0 ≤ a ∨ n ∣ a
    · rw [if_pos c] at e1; left; omega
    · rw [if_neg c] at e1
      right
      have : (n.natAbs : Int) = n := by omega
      constructor <;> omega
  have b4 : -64 ≤ a.tmod n ∧ a.tmod n ≤ 64 := by omega
  clear e1
  by_cases ha : 0 ≤ a
  · clear b3 b4
    go_enter Tryz.func94, Tryz.ntmps94
    go_wp2
    go_ret
    exact ⟨rfl, rfl⟩
  · go_enter Tryz.func94, Tryz.ntmps94
    go_wp2
    all_goals
      go_ret
      exact ⟨ret_int (by omega), rfl⟩
end Go.Proofs.YthmhjjkmnnmjlaaGreatDoor
namespace Go.Proofs.YthmhjjkmnnmjlaaGreatDoor
open Go.RowKit
open Go.Proofs

theorem onSide_zero (a : Int) : onSideB a 0 = true := by unfold onSideB; simp
theorem onSide_in {a s : Int} (h0 : 0 ≤ a) (h1 : a < s) : onSideB a s = true := by unfold onSideB; simp; omega
theorem onSide_low {a s : Int} (hs : ¬ s = 0) (h0 : ¬ 0 ≤ a) : onSideB a s = false := by unfold onSideB; simp; omega
theorem onSide_high {a s : Int} (hs : ¬ s = 0) (h1 : ¬ a < s) : onSideB a s = false := by unfold onSideB; simp; omega

set_option maxRecDepth 100000 in
set_option maxHeartbeats 2000000 in
theorem xhas_any (q : Nat) (a : Array Value) (W H X Y : Int) (w : World) (h : VAt w q a) (hW : a[5]? = some (.int .i64 W)) (hH : a[6]? = some (.int .i64 H)) :
    Calls Tryz.prog 40 #[.pointer (some ⟨q, 0, none⟩), .int .i64 X, .int .i64 Y] w fun e w' => e = .returned (.bool (onSideB X W && onSideB Y H)) ∧ ∃ n, w' = w.drewN n := by
  have c5 : w.cell? ⟨q, 5, none⟩ = some (.int .i64 W) := (h.cell 5).trans hW
  have c6 : w.cell? ⟨q, 6, none⟩ = some (.int .i64 H) := (h.cell 6).trans hH
  clear h hW hH
  have cx : ((W == 0) = true ∧ onSideB X W = true) ∨ ((W == 0) = false ∧ ¬ 0 ≤ X ∧ onSideB X W = false) ∨ ((W == 0) = false ∧ 0 ≤ X ∧ X < W ∧ onSideB X W = true) ∨ ((W == 0) = false ∧ 0 ≤ X ∧ ¬ X < W ∧ onSideB X W = false) := by
    by_cases e : W = 0
    · left; exact ⟨by simpa using e, by rw [e]; exact onSide_zero X⟩
    · right
      by_cases e2 : 0 ≤ X
      · right
        by_cases e3 : X < W
        · left; exact ⟨by simpa using e, e2, e3, onSide_in e2 e3⟩
        · right; exact ⟨by simpa using e, e2, e3, onSide_high e e3⟩
      · left; exact ⟨by simpa using e, e2, onSide_low e e2⟩
  have cy : ((H == 0) = true ∧ onSideB Y H = true) ∨ ((H == 0) = false ∧ ¬ 0 ≤ Y ∧ onSideB Y H = false) ∨ ((H == 0) = false ∧ 0 ≤ Y ∧ Y < H ∧ onSideB Y H = true) ∨ ((H == 0) = false ∧ 0 ≤ Y ∧ ¬ Y < H ∧ onSideB Y H = false) := by
    by_cases e : H = 0
    · left; exact ⟨by simpa using e, by rw [e]; exact onSide_zero Y⟩
    · right
      by_cases e2 : 0 ≤ Y
      · right
        by_cases e3 : Y < H
        · left; exact ⟨by simpa using e, e2, e3, onSide_in e2 e3⟩
        · right; exact ⟨by simpa using e, e2, e3, onSide_high e e3⟩
      · left; exact ⟨by simpa using e, e2, onSide_low e e2⟩
  generalize onSideB X W = bx at *
  generalize onSideB Y H = by' at *
  rcases cx with ⟨x1, rfl⟩ | ⟨x1, x2, rfl⟩ | ⟨x1, x2, x3, rfl⟩ | ⟨x1, x2, x3, rfl⟩
  all_goals
    rcases cy with ⟨y1, rfl⟩ | ⟨y1, y2, rfl⟩ | ⟨y1, y2, y3, rfl⟩ | ⟨y1, y2, y3, rfl⟩
    all_goals
      go_enter Tryz.func40, Tryz.ntmps40
      go_wp2
      first
        | (go_quiet (fail)
           go_wp2
           go_ret
           exact ⟨rfl, _, rfl⟩)
        | (go_ret
           exact ⟨rfl, 0, rfl⟩)
end Go.Proofs.YthmhjjkmnnmjlaaGreatDoor
namespace Go.Proofs.YthmhjjkmnnmjlaaGreatDoor
open Go.RowKit
open Go.Proofs

/-- What a call that reads a shape hands back. -/
def ShRet (e : Ending) (o : Option Pu.Shape) : Prop := ∃ x : Pu.Shape, e = .returned (.tuple #[.agg (shv x), .bool o.isSome]) ∧ ∀ a, o = some a → x = a
theorem lets_shape : lets ⟨#[80, 84, 75, 67, 83]⟩ = [80, 84, 75, 67, 83] := by decide
theorem shv_size (x : Pu.Shape) : (shv x).size = 7 := rfl

set_option maxHeartbeats 1000000 in
theorem shape_any (b : Nat) (s : ByteArray) (i : Nat) (w : World) (h : RdAt w b s i) (j : Nat) (o : Option Pu.Shape) (hq : Hid (Pu.shape (src s) i = (j, o))) :
    Calls Tryz.prog 108 #[.pointer (some ⟨b, 0, none⟩)] w fun e w' => ShRet e o ∧ RdAt w' b s j ∧ Kp (· = b) w w' := by
  have hb := h.lt
  have H := hide ((h.alloc (.cells (shv ⟨0, 0, 0, 0, 0, false, false⟩) 65)).alloc (.cells (shv ⟨0, 0, 0, 0, 0, false, false⟩) 65))
  clear h
  rcases hl : Pu.letter [80, 84, 75, 67, 83] (src s) i with ⟨j1, _ | k⟩
  · have hq' := hq.out
    unfold Pu.shape at hq'
    rw [bnd_none hl] at hq'
    obtain ⟨rfl, rfl⟩ := Prod.mk.inj hq'
    rw [← lets_shape] at hl
    have HL := hide hl
    clear hq hq' hl
    go_enter Tryz.func108, Tryz.ntmps108
    go_wp2_with fail
    refine (letter_any b s i ⟨#[80, 84, 75, 67, 83]⟩ _ H.out (by decide) j1 none HL).mono ?_
    rintro e w1 ⟨⟨x, rfl, hx⟩, r1, k1⟩
    clear hx
    have A0 := hide (k1.row (heap_alloc2_old w (.cells (shv ⟨0, 0, 0, 0, 0, false, false⟩) 65) (.cells (shv ⟨0, 0, 0, 0, 0, false, false⟩) 65)) (by omega))
    have A1 := hide (k1.row (heap_alloc2_new w (.cells (shv ⟨0, 0, 0, 0, 0, false, false⟩) 65) (.cells (shv ⟨0, 0, 0, 0, 0, false, false⟩) 65)) (by omega))
    have K1 := hide ((((Kp.refl (· = b) w).alloc _).alloc _).trans k1)
    have R1 := hide r1
    clear k1 r1
    go_wp2_with (first
      | (refine wpList_load_row rfl 65 _ rfl (w.heap.size + 1) rfl 65 (shv ⟨0, 0, 0, 0, 0, false, false⟩) (0, 0) _ A1.out Tryz.underlying65 rfl info_shape ?_)
      | (refine wpList_store_row rfl 65 _ _ rfl w.heap.size (shv ⟨0, 0, 0, 0, 0, false, false⟩) rfl rfl 65 (shv ⟨0, 0, 0, 0, 0, false, false⟩) A0.out info_shape rfl (shv_one _) ?_))
    exact bodyPost_ret (v := .tuple #[.agg (shv ⟨0, 0, 0, 0, 0, false, false⟩), .bool false]) (results_row_tmp Tryz.results108 _ _ w.heap.size 65 _ (0, 0) _ rfl (setRow_heap _ _ _ _ _ _ A0.out) Tryz.underlying65 rfl info_shape) rfl
      ⟨⟨_, rfl, fun a ha => by simp at ha⟩, R1.out.setRow (by omega) _, K1.out.setRowNew (Nat.le_refl _) _⟩
  · have hkm : k ∈ [(80 : Int), 84, 75, 67, 83] := by
      unfold Pu.letter at hl
      split at hl
      · rename_i hm
        have := Option.some.inj (Prod.mk.inj hl).2
        rwa [this] at hm
      · simp at hl
    have hkb : 0 ≤ k ∧ k ≤ 255 := by simp at hkm; omega
    have hq' := hq.out
    unfold Pu.shape at hq'
    rw [bnd_some hl] at hq'
    have HQ := hide hq'
    rw [← lets_shape] at hl
    have HL := hide hl
    clear hq hq' hl hkm
    go_enter Tryz.func108, Tryz.ntmps108
    go_wp2_with fail
    refine (letter_any b s i ⟨#[80, 84, 75, 67, 83]⟩ _ H.out (by decide) j1 (some k) HL).mono ?_
    rintro e w1 ⟨⟨x, rfl, hx⟩, r1, k1⟩
    obtain rfl := hx k rfl
    clear hx
    have A0 := hide (k1.row (heap_alloc2_old w (.cells (shv ⟨0, 0, 0, 0, 0, false, false⟩) 65) (.cells (shv ⟨0, 0, 0, 0, 0, false, false⟩) 65)) (by omega))
    have A1 : Hid (ShAt w1 (w.heap.size + 1) ⟨0, 0, 0, 0, 0, false, false⟩) := (k1.row (heap_alloc2_new w (.cells (shv ⟨0, 0, 0, 0, 0, false, false⟩) 65) (.cells (shv ⟨0, 0, 0, 0, 0, false, false⟩) 65)) (by omega))
    have K1 := hide ((((Kp.refl (· = b) w).alloc _).alloc _).trans k1)
    have R1 := hide r1
    clear k1 r1
    have z0 : w1.cell? ⟨w.heap.size + 1, 0, none⟩ = some (.int .u8 0) := A1.out.cell 0
    have z1 := A1.out.fro 0
    have P2 : Hid (ShAt (w1.setCell ⟨w.heap.size + 1, 0, none⟩ (.int .u8 x)) (w.heap.size + 1) ⟨x, 0, 0, 0, 0, false, false⟩) := A1.out.set 0 _ rfl
    have R2 : Hid (RdAt (w1.setCell ⟨w.heap.size + 1, 0, none⟩ (.int .u8 x)) b s j1) := R1.out.setOther (by simp only; omega) _
    have K2 : Hid (Kp (· = b) w (w1.setCell ⟨w.heap.size + 1, 0, none⟩ (.int .u8 x))) := K1.out.setNew (by simp only; omega) _
    have B2 := hide ((heap_setCell_other w1 ⟨w.heap.size + 1, 0, none⟩ w.heap.size (.int .u8 x) (by simp only; omega)).trans A0.out)
    go_wp2_with fail
    rcases hw : Pu.width x (src s) j1 with ⟨j2, _ | a⟩
    · have hq2 := HQ.out
      rw [bnd_none hw] at hq2
      obtain ⟨rfl, rfl⟩ := Prod.mk.inj hq2
      have HW := hide hw
      clear hw hq2 HQ
      refine (width_any b (w.heap.size + 1) s j1 x _ R2.out P2.out (by omega) hkb.1 hkb.2 j2 none HW).mono ?_
      rintro e w3 ⟨rfl, r3, ⟨y, p3, hy⟩, k3⟩
      clear hy
      have A3 := hide (k3.row B2.out (by omega))
      have P3 := hide p3
      have R3 := hide r3
      have K3 := hide (K2.out.tr k3 (by intro x hx; omega))
      clear p3 r3 k3
      go_wp2_with (first
        | (refine wpList_load_row rfl 65 _ rfl (w.heap.size + 1) rfl 65 (shv y) (0, 0) _ P3.out Tryz.underlying65 rfl info_shape ?_)
        | (refine wpList_store_row rfl 65 _ _ rfl w.heap.size (shv y) rfl rfl 65 (shv ⟨0, 0, 0, 0, 0, false, false⟩) A3.out info_shape rfl (shv_one _) ?_))
      exact bodyPost_ret (v := .tuple #[.agg (shv y), .bool false]) (results_row_tmp Tryz.results108 _ _ w.heap.size 65 _ (0, 0) _ rfl (setRow_heap _ _ _ _ _ _ A3.out) Tryz.underlying65 rfl info_shape) rfl
        ⟨⟨_, rfl, fun a ha => by simp at ha⟩, R3.out.setRow (by omega) _, K3.out.setRowNew (Nat.le_refl _) _⟩
    · have hq2 := HQ.out
      rw [bnd_some hw] at hq2
      have HQ2 := hide hq2
      have HW := hide hw
      clear hw hq2 HQ
      refine (width_any b (w.heap.size + 1) s j1 x _ R2.out P2.out (by omega) hkb.1 hkb.2 j2 (some a) HW).mono ?_
      rintro e w3 ⟨rfl, r3, ⟨y, p3, hy⟩, k3⟩
      obtain ⟨rfl, ha0, ha1⟩ := hy a rfl
      clear hy
      have A3 := hide (k3.row B2.out (by omega))
      have P3 := hide p3
      have R3 := hide r3
      have K3 := hide (K2.out.tr k3 (by intro x hx; omega))
      clear p3 r3 k3
      by_cases e : src s j2 = 44
      · have hq3 := HQ2.out
        rw [bnd_some (show Pu.take 44 (src s) j2 = (j2 + 1, some ()) by unfold Pu.take; rw [if_pos e])] at hq3
        have E := hide e
        have HQ3 := hide hq3
        clear e hq3 HQ2
        go_wp2_with fail
        refine (take_yes R3.out (by omega) E.out).mono ?_
        rintro e w4 ⟨rfl, r4, k4⟩
        have A4 := hide (k4.row A3.out (by omega))
        have P4 := hide (P3.out.keep k4 (by omega))
        have R4 := hide r4
        have K4 := hide (K3.out.trans k4)
        clear r4 k4
        go_wp2_with fail
        rcases hh : Pu.height x a.1 a.2.1 a.2.2 (src s) (j2 + 1) with ⟨j3, o3⟩
        have HH := hide hh
        have HO : Hid (j = j3 ∧ o.isSome = o3.isSome ∧ ∀ c, o = some c → ∃ d, o3 = some d ∧ c = ⟨x, a.1, d.1, a.2.1, d.2.1, a.2.2, d.2.2⟩) := by
          have hq4 := HQ3.out
          cases o3 with
          | none =>
            rw [bnd_none hh] at hq4
            obtain ⟨rfl, rfl⟩ := Prod.mk.inj hq4
            exact ⟨rfl, rfl, fun c hc => by simp at hc⟩
          | some d =>
            rw [bnd_some hh] at hq4
            obtain ⟨rfl, rfl⟩ := Prod.mk.inj hq4
            exact ⟨rfl, rfl, fun c hc => ⟨d, rfl, (Option.some.inj hc).symm⟩⟩
        clear HQ3
        refine (height_any b (w.heap.size + 1) s (j2 + 1) x a.1 a.2.1 a.2.2 _ R4.out P4.out (by omega) hkb.1 hkb.2 ha0 ha1 j3 o3 HH).mono ?_
        rintro e w5 ⟨rfl, r5, ⟨y, p5, hy⟩, k5⟩
        have A5 := hide (k5.row A4.out (by omega))
        have P5 := hide p5
        have R5 := hide r5
        have K5 := hide (K4.out.tr k5 (by intro x hx; omega))
        have HY := hide hy
        clear p5 r5 k5 hy hh HH
        go_wp2_with (first
          | (refine wpList_load_row rfl 65 _ rfl (w.heap.size + 1) rfl 65 (shv y) (0, 0) _ P5.out Tryz.underlying65 rfl info_shape ?_)
          | (refine wpList_store_row rfl 65 _ _ rfl w.heap.size (shv y) rfl rfl 65 (shv ⟨0, 0, 0, 0, 0, false, false⟩) A5.out info_shape rfl (shv_one _) ?_))
        obtain ⟨rfl, ho1, ho2⟩ := HO.out
        refine bodyPost_ret (v := .tuple #[.agg (shv y), .bool o3.isSome]) (results_row_tmp Tryz.results108 _ _ w.heap.size 65 _ (0, 0) _ rfl (setRow_heap _ _ _ _ _ _ A5.out) Tryz.underlying65 rfl info_shape) rfl
          ⟨⟨y, by rw [ho1], ?_⟩, R5.out.setRow (by omega) _, K5.out.setRowNew (Nat.le_refl _) _⟩
        intro c hc
        obtain ⟨d, hd, rfl⟩ := ho2 c hc
        exact (HY.out d hd).1
      · have hq3 := HQ2.out
        rw [bnd_none (show Pu.take 44 (src s) j2 = (j2, none) by unfold Pu.take; rw [if_neg e])] at hq3
        obtain ⟨rfl, rfl⟩ := Prod.mk.inj hq3
        have E := hide e
        clear e hq3 HQ2
        go_wp2_with fail
        refine (take_no R3.out (by omega) E.out).mono ?_
        rintro e w4 ⟨rfl, r4, k4⟩
        have A4 := hide (k4.row A3.out (by omega))
        have P4 := hide (P3.out.keep k4 (by omega))
        have R4 := hide r4
        have K4 := hide (K3.out.trans k4)
        clear r4 k4
        go_wp2_with (first
          | (refine wpList_load_row rfl 65 _ rfl (w.heap.size + 1) rfl 65 (shv ⟨x, a.1, 0, a.2.1, 0, a.2.2, false⟩) (0, 0) _ P4.out Tryz.underlying65 rfl info_shape ?_)
          | (refine wpList_store_row rfl 65 _ _ rfl w.heap.size (shv ⟨x, a.1, 0, a.2.1, 0, a.2.2, false⟩) rfl rfl 65 (shv ⟨0, 0, 0, 0, 0, false, false⟩) A4.out info_shape rfl (shv_one _) ?_))
        exact bodyPost_ret (v := .tuple #[.agg (shv ⟨x, a.1, 0, a.2.1, 0, a.2.2, false⟩), .bool false]) (results_row_tmp Tryz.results108 _ _ w.heap.size 65 _ (0, 0) _ rfl (setRow_heap _ _ _ _ _ _ A4.out) Tryz.underlying65 rfl info_shape) rfl
          ⟨⟨_, rfl, fun a ha => by simp at ha⟩, R4.out.setRow (by omega) _, K4.out.setRowNew (Nat.le_refl _) _⟩
end Go.Proofs.YthmhjjkmnnmjlaaGreatDoor
