import Derived.Test.YtbdbkjngdhcjpaaDoorM3
import Derived.Test.YtbdbkjngdhcjpaaDoorInv
namespace Go.Proofs.YtbdbkjngdhcjpaaDoor
open Go.RowKit
open Go.Proofs

theorem bool_dec {p : Prop} [Decidable p] {y : Bool} (h : y = true ↔ p) : y = decide p := by
  rw [Bool.eq_iff_iff, h]; simp

def onSideB (a side : Int) : Bool := decide (side = 0 ∨ (0 ≤ a ∧ a < side))
def nearOnB (a side : Int) : Bool := decide (side ≠ 0 ∨ (-9999 ≤ a ∧ a ≤ 9999))

set_option maxHeartbeats 400000 in
theorem onSide_any (a side : Int) (w : World) : Calls Tryd.prog 52 #[.int .i64 a, .int .i64 side] w fun e w' => e = .returned (.bool (onSideB a side)) ∧ w' = w := by
  unfold onSideB
  by_cases h1 : side = 0
  · subst h1
    go_enter Tryd.func52, Tryd.ntmps52
    go_wp2
    go_ret
    exact ⟨ret_bool (by simp), rfl⟩
  · have b1 : (side == 0) = false := by simpa using h1
    by_cases h2 : 0 ≤ a
    · by_cases h3 : a < side
      · go_enter Tryd.func52, Tryd.ntmps52
        go_wp2
        go_ret
        exact ⟨ret_bool (by symm; apply decide_eq_true; omega), rfl⟩
      · go_enter Tryd.func52, Tryd.ntmps52
        go_wp2
        go_ret
        exact ⟨ret_bool (by symm; apply decide_eq_false; omega), rfl⟩
    · go_enter Tryd.func52, Tryd.ntmps52
      go_wp2
      go_ret
      exact ⟨ret_bool (by symm; simp; omega), rfl⟩

set_option maxHeartbeats 400000 in
theorem nearOn_any (a side : Int) (w : World) : Calls Tryd.prog 53 #[.int .i64 a, .int .i64 side] w fun e w' => e = .returned (.bool (nearOnB a side)) ∧ w' = w := by
  unfold nearOnB
  by_cases h1 : side = 0
  · subst h1
    by_cases h2 : -9999 ≤ a
    · by_cases h3 : a ≤ 9999
      · go_enter Tryd.func53, Tryd.ntmps53
        go_wp2
        go_ret
        exact ⟨ret_bool (by symm; apply decide_eq_true; omega), rfl⟩
      · go_enter Tryd.func53, Tryd.ntmps53
        go_wp2
        go_ret
        exact ⟨ret_bool (by symm; apply decide_eq_false; omega), rfl⟩
    · go_enter Tryd.func53, Tryd.ntmps53
      go_wp2
      go_ret
      exact ⟨ret_bool (by symm; simp; omega), rfl⟩
  · have b1 : (side != 0) = true := by simpa using h1
    go_enter Tryd.func53, Tryd.ntmps53
    go_wp2
    go_ret
    exact ⟨ret_bool (by symm; apply decide_eq_true; omega), rfl⟩

def hasB (s : Pu.Shape) (x y : Int) : Bool := onSideB x s.w && onSideB y s.h
def nearB (s : Pu.Shape) (x y : Int) : Bool := nearOnB x s.w && nearOnB y s.h

set_option maxHeartbeats 400000 in
theorem has_any (s : Pu.Shape) (x y : Int) (w : World) : Calls Tryd.prog 31 #[.agg (shv s), .int .i64 x, .int .i64 y] w fun e w' => e = .returned (.bool (hasB s x y)) ∧ Kp (fun _ => False) w w' := by
  obtain ⟨kind, xw, xh, ws, hs, wst, hst⟩ := s
  simp only [shv, hasB]
  cases h1 : onSideB x xw with
  | true =>
    have H1 := hide (fun wx => by have := onSide_any x xw wx; rw [h1] at this; exact this)
    clear h1
    go_enter Tryd.func31, Tryd.ntmps31
    go_wp2_with fail
    refine (H1.out _).mono ?_
    rintro e w1 ⟨rfl, hw⟩
    subst w1
    go_wp2_with fail
    refine (onSide_any y xh _).mono ?_
    rintro e w1 ⟨rfl, hw⟩
    subst w1
    go_wp2_with fail
    go_ret
    exact ⟨ret_bool (by simp), (Kp.refl _ _).alloc _⟩
  | false =>
    have H1 := hide (fun wx => by have := onSide_any x xw wx; rw [h1] at this; exact this)
    clear h1
    go_enter Tryd.func31, Tryd.ntmps31
    go_wp2_with fail
    refine (H1.out _).mono ?_
    rintro e w1 ⟨rfl, hw⟩
    subst w1
    go_wp2_with fail
    go_ret
    exact ⟨ret_bool (by simp), (Kp.refl _ _).alloc _⟩

set_option maxHeartbeats 400000 in
theorem near_any (s : Pu.Shape) (x y : Int) (w : World) : Calls Tryd.prog 32 #[.agg (shv s), .int .i64 x, .int .i64 y] w fun e w' => e = .returned (.bool (nearB s x y)) ∧ Kp (fun _ => False) w w' := by
  obtain ⟨kind, xw, xh, ws, hs, wst, hst⟩ := s
  simp only [shv, nearB]
  cases h1 : nearOnB x xw with
  | true =>
    have H1 := hide (fun wx => by have := nearOn_any x xw wx; rw [h1] at this; exact this)
    clear h1
    go_enter Tryd.func32, Tryd.ntmps32
    go_wp2_with fail
    refine (H1.out _).mono ?_
    rintro e w1 ⟨rfl, hw⟩
    subst w1
    go_wp2_with fail
    refine (nearOn_any y xh _).mono ?_
    rintro e w1 ⟨rfl, hw⟩
    subst w1
    go_wp2_with fail
    go_ret
    exact ⟨ret_bool (by simp), (Kp.refl _ _).alloc _⟩
  | false =>
    have H1 := hide (fun wx => by have := nearOn_any x xw wx; rw [h1] at this; exact this)
    clear h1
    go_enter Tryd.func32, Tryd.ntmps32
    go_wp2_with fail
    refine (H1.out _).mono ?_
    rintro e w1 ⟨rfl, hw⟩
    subst w1
    go_wp2_with fail
    go_ret
    exact ⟨ret_bool (by simp), (Kp.refl _ _).alloc _⟩

set_option maxHeartbeats 400000 in
theorem endless_any (s : Pu.Shape) (w : World) : Calls Tryd.prog 46 #[.agg (shv s)] w fun e w' => e = .returned (.bool (decide (s.w = 0 ∨ s.h = 0))) ∧ Kp (fun _ => False) w w' := by
  obtain ⟨kind, xw, xh, ws, hs, wst, hst⟩ := s
  simp only [shv]
  by_cases h1 : xw = 0
  · subst h1
    go_enter Tryd.func46, Tryd.ntmps46
    go_wp2
    go_ret
    exact ⟨ret_bool (by simp), (Kp.refl _ _).alloc _⟩
  · have b1 : (xw == 0) = false := by simpa using h1
    by_cases h2 : xh = 0
    · subst h2
      go_enter Tryd.func46, Tryd.ntmps46
      go_wp2
      go_ret
      exact ⟨ret_bool (by simp), (Kp.refl _ _).alloc _⟩
    · have b2 : (xh == 0) = false := by simpa using h2
      go_enter Tryd.func46, Tryd.ntmps46
      go_wp2
      go_ret
      exact ⟨ret_bool (by symm; apply decide_eq_false; omega), (Kp.refl _ _).alloc _⟩

def spanP (g : Int) : Int := if g = 0 then 64 else g
set_option maxHeartbeats 400000 in
theorem span_any (g : Int) (w : World) : Calls Tryd.prog 68 #[.int .i64 g] w fun e w' => e = .returned (.int .i64 (spanP g)) ∧ w' = w := by
  unfold spanP
  by_cases h1 : g = 0
  · subst h1
    go_enter Tryd.func68, Tryd.ntmps68
    go_wp2
    go_ret
    exact ⟨rfl, rfl⟩
  · have b1 : (g == 0) = false := by simpa using h1
    rw [if_neg h1]
    go_enter Tryd.func68, Tryd.ntmps68
    go_wp2
    go_ret
    exact ⟨rfl, rfl⟩

set_option maxHeartbeats 400000 in
theorem mod_any (a n : Int) (w : World) (h0 : 0 < n) (h1 : n ≤ 64) (h2 : -100000000 ≤ a) (h3 : a ≤ 100000000) : Calls Tryd.prog 78 #[.int .i64 a, .int .i64 n] w fun e w' => e = .returned (.int .i64 (a % n)) ∧ w' = w := by
  have e1 := Int.tmod_eq_emod (a := a) (b := n)
  have b1 := Int.emod_nonneg a (show n ≠ 0 by omega)
  have b2 := Int.emod_lt_of_pos a h0
  have b3 : a.tmod n = a % n ∨ a.tmod n = a % n - n ∧ a.tmod n < 0 := by
    by_cases c : 0 ≤ a ∨ n ∣ a
    · rw [if_pos c] at e1; left; omega
    · rw [if_neg c] at e1
      right
      have : (n.natAbs : Int) = n := by omega
      constructor <;> omega
  have b4 : -64 ≤ a.tmod n ∧ a.tmod n ≤ 64 := by omega
  clear e1
  by_cases ha : 0 ≤ a
  · clear b3 b4
    go_enter Tryd.func78, Tryd.ntmps78
    go_wp2
    go_ret
    exact ⟨rfl, rfl⟩
  · go_enter Tryd.func78, Tryd.ntmps78
    go_wp2
    all_goals
      go_ret
      exact ⟨ret_int (by omega), rfl⟩
end Go.Proofs.YtbdbkjngdhcjpaaDoor
namespace Go.Proofs.YtbdbkjngdhcjpaaDoor
open Go.RowKit
open Go.Proofs

/-- The cells of a grid, behind what stands ahead of it in its world. -/
def intsv (S : List Int) : Array Value := (S.map (Value.int .i64)).toArray
def grv (pre : Array Value) (gw gh l t : Int) (S : List Int) : Array Value := pre ++ #[.int .i64 gw, .int .i64 gh, .int .i64 l, .int .i64 t] ++ intsv S
structure GrAt (w : World) (q : Nat) (pre : Array Value) (gw gh l t : Int) (S : List Int) : Prop where
  row : w.heap[q]? = some (.cells (grv pre gw gh l t S) 55 (0, 0))
  psz : pre.size = 28
  len : S.length = 768
theorem grv_get {pre : Array Value} (h : pre.size = 28) (gw gh l t : Int) (S : List Int) (m : Nat) : (grv pre gw gh l t S)[m]? = if m < 28 then pre[m]? else if m < 32 then #[Value.int .i64 gw, .int .i64 gh, .int .i64 l, .int .i64 t][m - 28]? else (intsv S)[m - 32]? := by
  unfold grv
  rw [Array.getElem?_append, Array.getElem?_append, Array.size_append, h]
  simp only [List.size_toArray, List.length_cons, List.length_nil]
  by_cases h1 : m < 28
  · rw [if_pos (by omega), if_pos h1, if_pos h1]
  · by_cases h2 : m < 32
    · rw [if_pos (by omega), if_neg h1, if_neg h1, if_pos h2]
    · rw [if_neg (by omega), if_neg h1, if_neg h2]
theorem intsv_get (S : List Int) (k : Nat) (h : k < S.length) : (intsv S)[k]? = some (.int .i64 S[k]) := by simp [intsv, h]
section
variable {w w' : World} {q : Nat} {pre : Array Value} {gw gh l t : Int} {S : List Int}
theorem GrAt.fld (h : GrAt w q pre gw gh l t S) (m : Nat) (hm : m < 4) : w.cell? ⟨q, 28 + m, none⟩ = #[Value.int .i64 gw, .int .i64 gh, .int .i64 l, .int .i64 t][m]? := by
  rw [cell_of_row w q _ _ _ _ h.row, grv_get h.psz, if_neg (by omega), if_pos (by omega)]
  congr 1
  omega
theorem GrAt.cell (h : GrAt w q pre gw gh l t S) (k : Nat) (hk : k < 768) : w.cell? ⟨q, 32 + k, none⟩ = some (.int .i64 (S[k]'(by rw [h.len]; exact hk))) := by
  rw [cell_of_row w q _ _ _ _ h.row, grv_get h.psz, if_neg (by omega), if_neg (by omega), show 32 + k - 32 = k by omega, intsv_get S k (by rw [h.len]; exact hk)]
theorem GrAt.fro (h : GrAt w q pre gw gh l t S) (m : Nat) : w.frozen? ⟨q, m, none⟩ = false := frozen_of_row w q _ _ _ h.row
theorem GrAt.lt (h : GrAt w q pre gw gh l t S) : q < w.heap.size := (Array.getElem?_eq_some_iff.1 h.row).1
theorem GrAt.keep {T : Nat → Prop} (h : GrAt w q pre gw gh l t S) (k : Kp T w w') (hn : ¬ T q) : GrAt w' q pre gw gh l t S := ⟨k.row h.row hn, h.psz, h.len⟩
theorem GrAt.drewN (h : GrAt w q pre gw gh l t S) (n : Nat) : GrAt (w.drewN n) q pre gw gh l t S := ⟨h.row, h.psz, h.len⟩
theorem GrAt.alloc (h : GrAt w q pre gw gh l t S) (o : Obj) : GrAt (w.alloc o) q pre gw gh l t S := ⟨(Below.heap_alloc _ _ _ h.lt).trans h.row, h.psz, h.len⟩
theorem GrAt.other (h : GrAt w q pre gw gh l t S) (e : w'.heap[q]? = w.heap[q]?) : GrAt w' q pre gw gh l t S := ⟨e.trans h.row, h.psz, h.len⟩
theorem grv_size {pre : Array Value} (h : pre.size = 28) (gw gh l t : Int) (S : List Int) (hS : S.length = 768) : (grv pre gw gh l t S).size = 800 := by simp [grv, h, intsv, hS]
theorem GrAt.left (h : GrAt w q pre gw gh l t S) (u : Int) : GrAt (w.setCell ⟨q, 30, none⟩ (.int .i64 u)) q pre gw gh u t S := by
  refine ⟨?_, h.psz, h.len⟩
  rw [heap_setCell_same w q _ _ _ _ h.row]
  congr 2
  apply Array.ext_getElem?
  intro m
  rw [Array.getElem?_setIfInBounds, grv_get h.psz, grv_get h.psz, grv_size h.psz _ _ _ _ _ h.len]
  by_cases e : 30 = m
  · subst e; simp
  · rw [if_neg e]
    by_cases h1 : m < 28
    · simp [h1]
    · by_cases h2 : m < 32
      · rw [if_neg h1, if_neg h1, if_pos h2, if_pos h2]
        have : m = 28 ∨ m = 29 ∨ m = 31 := by omega
        rcases this with rfl | rfl | rfl <;> rfl
      · simp [h1, h2]
theorem GrAt.top (h : GrAt w q pre gw gh l t S) (u : Int) : GrAt (w.setCell ⟨q, 31, none⟩ (.int .i64 u)) q pre gw gh l u S := by
  refine ⟨?_, h.psz, h.len⟩
  rw [heap_setCell_same w q _ _ _ _ h.row]
  congr 2
  apply Array.ext_getElem?
  intro m
  rw [Array.getElem?_setIfInBounds, grv_get h.psz, grv_get h.psz, grv_size h.psz _ _ _ _ _ h.len]
  by_cases e : 31 = m
  · subst e; simp
  · rw [if_neg e]
    by_cases h1 : m < 28
    · simp [h1]
    · by_cases h2 : m < 32
      · rw [if_neg h1, if_neg h1, if_pos h2, if_pos h2]
        have : m = 28 ∨ m = 29 ∨ m = 30 := by omega
        rcases this with rfl | rfl | rfl <;> rfl
      · simp [h1, h2]
theorem GrAt.put (h : GrAt w q pre gw gh l t S) (k : Nat) (hk : k < 768) (u : Int) : GrAt (w.setCell ⟨q, 32 + k, none⟩ (.int .i64 u)) q pre gw gh l t (S.set k u) := by
  refine ⟨?_, h.psz, by simpa using h.len⟩
  rw [heap_setCell_same w q _ _ _ _ h.row]
  congr 2
  apply Array.ext_getElem?
  intro m
  rw [Array.getElem?_setIfInBounds, grv_get h.psz, grv_get h.psz, grv_size h.psz _ _ _ _ _ h.len]
  by_cases e : 32 + k = m
  · subst e
    rw [if_pos rfl, if_pos (by omega), if_neg (by omega), if_neg (by omega), show 32 + k - 32 = k by omega, intsv_get _ k (by simp [h.len]; omega)]
    simp
  · rw [if_neg e]
    by_cases h1 : m < 28
    · simp [h1]
    · by_cases h2 : m < 32
      · simp [h1, h2]
      · rw [if_neg h1, if_neg h1, if_neg h2, if_neg h2]
        simp only [intsv, List.getElem?_toArray, List.getElem?_map]
        rw [List.getElem?_set_ne (by omega)]
end

def slotP (gw gh l t x y : Int) : Int :=
  if x < l ∨ l + spanP gw ≤ x ∨ y < t ∨ t + spanP gh ≤ y then -1 else if 768 ≤ y % spanP gh * spanP gw + x % spanP gw then -1 else y % spanP gh * spanP gw + x % spanP gw
theorem spanP_bd {g : Int} (h0 : 0 ≤ g) (h1 : g ≤ 12) : 0 < spanP g ∧ spanP g ≤ 64 := by unfold spanP; split <;> omega

set_option maxRecDepth 100000 in
set_option maxHeartbeats 1000000 in
theorem slot_any (q : Nat) (pre : Array Value) (gw gh l t : Int) (S : List Int) (x y : Int) (w : World) (h : GrAt w q pre gw gh l t S) (w0 : 0 ≤ gw) (w1 : gw ≤ 12) (h0 : 0 ≤ gh) (h1 : gh ≤ 12)
    (l0 : -50000000 ≤ l) (l1 : l ≤ 50000000) (t0 : -50000000 ≤ t) (t1 : t ≤ 50000000) :
    Calls Tryd.prog 51 #[.pointer (some ⟨q, 28, none⟩), .int .i64 x, .int .i64 y] w fun e w' => e = .returned (.int .i64 (slotP gw gh l t x y)) ∧ w' = w := by
  have c0 : w.cell? ⟨q, 28, none⟩ = some (.int .i64 gw) := h.fld 0 (by omega)
  have c1 : w.cell? ⟨q, 29, none⟩ = some (.int .i64 gh) := h.fld 1 (by omega)
  have c2 : w.cell? ⟨q, 30, none⟩ = some (.int .i64 l) := h.fld 2 (by omega)
  have c3 : w.cell? ⟨q, 31, none⟩ = some (.int .i64 t) := h.fld 3 (by omega)
  clear h
  have sw := spanP_bd w0 w1
  have sh := spanP_bd h0 h1
  unfold slotP
  by_cases k1 : x < l
  · rw [if_pos (Or.inl k1)]
    go_enter Tryd.func51, Tryd.ntmps51
    go_wp2_with fail
    refine (span_any gw _).mono ?_
    rintro e w1 ⟨rfl, hw⟩
    subst w1
    go_wp2_with fail
    refine (span_any gh _).mono ?_
    rintro e w1 ⟨rfl, hw⟩
    subst w1
    go_wp2_with fail
    go_ret
    exact ⟨rfl, rfl⟩
  · by_cases k2 : l + spanP gw ≤ x
    · rw [if_pos (Or.inr (Or.inl k2))]
      go_enter Tryd.func51, Tryd.ntmps51
      go_wp2_with fail
      refine (span_any gw _).mono ?_
      rintro e w1 ⟨rfl, hw⟩
      subst w1
      go_wp2_with fail
      refine (span_any gh _).mono ?_
      rintro e w1 ⟨rfl, hw⟩
      subst w1
      generalize spanP gw = cols at *
      generalize spanP gh = rows at *
      go_wp2_with fail
      go_ret
      exact ⟨rfl, rfl⟩
    · by_cases k3 : y < t
      · rw [if_pos (Or.inr (Or.inr (Or.inl k3)))]
        go_enter Tryd.func51, Tryd.ntmps51
        go_wp2_with fail
        refine (span_any gw _).mono ?_
        rintro e w1 ⟨rfl, hw⟩
        subst w1
        go_wp2_with fail
        refine (span_any gh _).mono ?_
        rintro e w1 ⟨rfl, hw⟩
        subst w1
        generalize spanP gw = cols at *
        generalize spanP gh = rows at *
        go_wp2_with fail
        go_ret
        exact ⟨rfl, rfl⟩
      · by_cases k4 : t + spanP gh ≤ y
        · rw [if_pos (Or.inr (Or.inr (Or.inr k4)))]
          go_enter Tryd.func51, Tryd.ntmps51
          go_wp2_with fail
          refine (span_any gw _).mono ?_
          rintro e w1 ⟨rfl, hw⟩
          subst w1
          go_wp2_with fail
          refine (span_any gh _).mono ?_
          rintro e w1 ⟨rfl, hw⟩
          subst w1
          generalize spanP gw = cols at *
          generalize spanP gh = rows at *
          go_wp2_with fail
          go_ret
          exact ⟨rfl, rfl⟩
        · rw [if_neg (by omega)]
          have m1 := Int.emod_nonneg y (show spanP gh ≠ 0 by omega)
          have m2 := Int.emod_lt_of_pos y sh.1
          have m3 := Int.emod_nonneg x (show spanP gw ≠ 0 by omega)
          have m4 := Int.emod_lt_of_pos x sw.1
          have p1 : 0 ≤ y % spanP gh * spanP gw := Int.mul_nonneg m1 (by omega)
          have p2 : y % spanP gh * spanP gw ≤ 4096 := by
            have a1 : y % spanP gh * spanP gw ≤ 64 * spanP gw := Int.mul_le_mul_of_nonneg_right (by omega) (by omega)
            omega
          by_cases k5 : 768 ≤ y % spanP gh * spanP gw + x % spanP gw
          · rw [if_pos k5]
            go_enter Tryd.func51, Tryd.ntmps51
            go_wp2_with fail
            refine (span_any gw _).mono ?_
            rintro e w1 ⟨rfl, hw⟩
            subst w1
            go_wp2_with fail
            refine (span_any gh _).mono ?_
            rintro e w1 ⟨rfl, hw⟩
            subst w1
            go_wp2_with fail
            refine (mod_any y (spanP gh) _ (by omega) (by omega) (by omega) (by omega)).mono ?_
            rintro e w1 ⟨rfl, hw⟩
            subst w1
            go_wp2_with fail
            refine (mod_any x (spanP gw) _ (by omega) (by omega) (by omega) (by omega)).mono ?_
            rintro e w1 ⟨rfl, hw⟩
            subst w1
            go_wp2_with fail
            go_ret
            exact ⟨rfl, rfl⟩
          · rw [if_neg k5]
            go_enter Tryd.func51, Tryd.ntmps51
            go_wp2_with fail
            refine (span_any gw _).mono ?_
            rintro e w1 ⟨rfl, hw⟩
            subst w1
            go_wp2_with fail
            refine (span_any gh _).mono ?_
            rintro e w1 ⟨rfl, hw⟩
            subst w1
            go_wp2_with fail
            refine (mod_any y (spanP gh) _ (by omega) (by omega) (by omega) (by omega)).mono ?_
            rintro e w1 ⟨rfl, hw⟩
            subst w1
            go_wp2_with fail
            refine (mod_any x (spanP gw) _ (by omega) (by omega) (by omega) (by omega)).mono ?_
            rintro e w1 ⟨rfl, hw⟩
            subst w1
            go_wp2_with fail
            go_ret
            exact ⟨rfl, rfl⟩
end Go.Proofs.YtbdbkjngdhcjpaaDoor
