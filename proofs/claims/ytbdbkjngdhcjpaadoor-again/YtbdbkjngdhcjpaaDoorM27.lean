import Derived.Test.YtbdbkjngdhcjpaaDoorM13
import Derived.Test.YtbdbkjngdhcjpaaDoorM14
import Derived.Test.YtbdbkjngdhcjpaaDoorM26
import Derived.Test.YtbdbkjngdhcjpaaDoorPx
import Derived.Test.YtbdbkjngdhcjpaaDoorWn
namespace Go.Proofs.YtbdbkjngdhcjpaaDoor
open Go.RowKit
open Go.Proofs

/-- A grid that lies alone in its block. -/
def gnv (gw gh l t : Int) (S : List Int) : Array Value := #[.int .i64 gw, .int .i64 gh, .int .i64 l, .int .i64 t] ++ intsv S
structure GnAt (w : World) (q : Nat) (gw gh l t : Int) (S : List Int) : Prop where
  row : w.heap[q]? = some (.cells (gnv gw gh l t S) 53 (0, 0))
  len : S.length = 768
theorem gnv_get (gw gh l t : Int) (S : List Int) (m : Nat) : (gnv gw gh l t S)[m]? = if m < 4 then #[Value.int .i64 gw, .int .i64 gh, .int .i64 l, .int .i64 t][m]? else (intsv S)[m - 4]? := by
  unfold gnv
  rw [Array.getElem?_append]
  rfl
theorem gnv_size (gw gh l t : Int) {S : List Int} (h : S.length = 768) : (gnv gw gh l t S).size = 772 := by
  unfold gnv intsv
  rw [Array.size_append]
  simp only [List.size_toArray, List.length_map, h]
  rfl
section
variable {w w' : World} {q : Nat} {gw gh l t : Int} {S : List Int}
theorem GnAt.fld (h : GnAt w q gw gh l t S) (m : Nat) (hm : m < 4) : w.cell? ⟨q, m, none⟩ = #[Value.int .i64 gw, .int .i64 gh, .int .i64 l, .int .i64 t][m]? := by
  rw [cell_of_row w q _ _ _ _ h.row, gnv_get, if_pos hm]
theorem GnAt.cell (h : GnAt w q gw gh l t S) (k : Nat) (hk : k < 768) : w.cell? ⟨q, 4 + k, none⟩ = some (.int .i64 (S[k]'(by rw [h.len]; exact hk))) := by
  rw [cell_of_row w q _ _ _ _ h.row, gnv_get, if_neg (by omega), show 4 + k - 4 = k by omega, intsv_get S k (by rw [h.len]; exact hk)]
theorem GnAt.fro (h : GnAt w q gw gh l t S) (m : Nat) : w.frozen? ⟨q, m, none⟩ = false := frozen_of_row w q _ _ _ h.row
theorem GnAt.lt (h : GnAt w q gw gh l t S) : q < w.heap.size := (Array.getElem?_eq_some_iff.1 h.row).1
theorem GnAt.keep {T : Nat → Prop} (h : GnAt w q gw gh l t S) (k : Kp T w w') (hn : ¬ T q) : GnAt w' q gw gh l t S := ⟨k.row h.row hn, h.len⟩
theorem GnAt.put (h : GnAt w q gw gh l t S) (k : Nat) (hk : k < 768) (u : Int) : GnAt (w.setCell ⟨q, 4 + k, none⟩ (.int .i64 u)) q gw gh l t (S.set k u) := by
  refine ⟨?_, by simpa using h.len⟩
  rw [heap_setCell_same w q _ _ _ _ h.row]
  congr 2
  apply Array.ext_getElem?
  intro m
  rw [Array.getElem?_setIfInBounds, gnv_get, gnv_get, gnv_size _ _ _ _ h.len]
  by_cases e : 4 + k = m
  · subst e
    rw [if_pos rfl, if_pos (by omega), if_neg (by omega), show 4 + k - 4 = k by omega, intsv_get _ k (by simp [h.len]; omega)]
    simp
  · rw [if_neg e]
    by_cases h1 : m < 4
    · simp [h1]
    · rw [if_neg h1, if_neg h1]
      simp only [intsv, List.getElem?_toArray, List.getElem?_map]
      rw [List.getElem?_set_ne (by omega)]
end

set_option maxRecDepth 100000 in
set_option maxHeartbeats 1000000 in
theorem nslot_any (q : Nat) (gw gh l t : Int) (S : List Int) (x y : Int) (w : World) (h : GnAt w q gw gh l t S) (w0 : 0 ≤ gw) (w1 : gw ≤ 12) (h0 : 0 ≤ gh) (h1 : gh ≤ 12)
    (l0 : -50000000 ≤ l) (l1 : l ≤ 50000000) (t0 : -50000000 ≤ t) (t1 : t ≤ 50000000) :
    Calls Tryd.prog 51 #[.pointer (some ⟨q, 0, none⟩), .int .i64 x, .int .i64 y] w fun e w' => e = .returned (.int .i64 (slotP gw gh l t x y)) ∧ w' = w := by
  have c0 : w.cell? ⟨q, 0, none⟩ = some (.int .i64 gw) := h.fld 0 (by omega)
  have c1 : w.cell? ⟨q, 1, none⟩ = some (.int .i64 gh) := h.fld 1 (by omega)
  have c2 : w.cell? ⟨q, 2, none⟩ = some (.int .i64 l) := h.fld 2 (by omega)
  have c3 : w.cell? ⟨q, 3, none⟩ = some (.int .i64 t) := h.fld 3 (by omega)
  clear h
  have sw := spanP_bd w0 w1
  have sh := spanP_bd h0 h1
  unfold slotP
  by_cases k1 : x < l
  · rw [if_pos (Or.inl k1)]
    go_enter Tryd.func51, Tryd.ntmps51
    go_wp2_with fail
    refine (span_any gw _).mono ?_
    rintro e w1 ⟨rfl, hw⟩
    subst w1
    go_wp2_with fail
    refine (span_any gh _).mono ?_
    rintro e w1 ⟨rfl, hw⟩
    subst w1
    go_wp2_with fail
    go_ret
    exact ⟨rfl, rfl⟩
  · by_cases k2 : l + spanP gw ≤ x
    · rw [if_pos (Or.inr (Or.inl k2))]
      go_enter Tryd.func51, Tryd.ntmps51
      go_wp2_with fail
      refine (span_any gw _).mono ?_
      rintro e w1 ⟨rfl, hw⟩
      subst w1
      go_wp2_with fail
      refine (span_any gh _).mono ?_
      rintro e w1 ⟨rfl, hw⟩
      subst w1
      generalize spanP gw = cols at *
      generalize spanP gh = rows at *
      go_wp2_with fail
      go_ret
      exact ⟨rfl, rfl⟩
    · by_cases k3 : y < t
      · rw [if_pos (Or.inr (Or.inr (Or.inl k3)))]
        go_enter Tryd.func51, Tryd.ntmps51
        go_wp2_with fail
        refine (span_any gw _).mono ?_
        rintro e w1 ⟨rfl, hw⟩
        subst w1
        go_wp2_with fail
        refine (span_any gh _).mono ?_
        rintro e w1 ⟨rfl, hw⟩
        subst w1
        generalize spanP gw = cols at *
        generalize spanP gh = rows at *
        go_wp2_with fail
        go_ret
        exact ⟨rfl, rfl⟩
      · by_cases k4 : t + spanP gh ≤ y
        · rw [if_pos (Or.inr (Or.inr (Or.inr k4)))]
          go_enter Tryd.func51, Tryd.ntmps51
          go_wp2_with fail
          refine (span_any gw _).mono ?_
          rintro e w1 ⟨rfl, hw⟩
          subst w1
          go_wp2_with fail
          refine (span_any gh _).mono ?_
          rintro e w1 ⟨rfl, hw⟩
          subst w1
          generalize spanP gw = cols at *
          generalize spanP gh = rows at *
          go_wp2_with fail
          go_ret
          exact ⟨rfl, rfl⟩
        · rw [if_neg (by omega)]
          have m1 := Int.emod_nonneg y (show spanP gh ≠ 0 by omega)
          have m2 := Int.emod_lt_of_pos y sh.1
          have m3 := Int.emod_nonneg x (show spanP gw ≠ 0 by omega)
          have m4 := Int.emod_lt_of_pos x sw.1
          have p1 : 0 ≤ y % spanP gh * spanP gw := Int.mul_nonneg m1 (by omega)
          have p2 : y % spanP gh * spanP gw ≤ 4096 := by
            have a1 : y % spanP gh * spanP gw ≤ 64 * spanP gw := Int.mul_le_mul_of_nonneg_right (by omega) (by omega)
            omega
          by_cases k5 : 768 ≤ y % spanP gh * spanP gw + x % spanP gw
          · rw [if_pos k5]
            go_enter Tryd.func51, Tryd.ntmps51
            go_wp2_with fail
            refine (span_any gw _).mono ?_
            rintro e w1 ⟨rfl, hw⟩
            subst w1
            go_wp2_with fail
            refine (span_any gh _).mono ?_
            rintro e w1 ⟨rfl, hw⟩
            subst w1
            go_wp2_with fail
            refine (mod_any y (spanP gh) _ (by omega) (by omega) (by omega) (by omega)).mono ?_
            rintro e w1 ⟨rfl, hw⟩
            subst w1
            go_wp2_with fail
            refine (mod_any x (spanP gw) _ (by omega) (by omega) (by omega) (by omega)).mono ?_
            rintro e w1 ⟨rfl, hw⟩
            subst w1
            go_wp2_with fail
            go_ret
            exact ⟨rfl, rfl⟩
          · rw [if_neg k5]
            go_enter Tryd.func51, Tryd.ntmps51
            go_wp2_with fail
            refine (span_any gw _).mono ?_
            rintro e w1 ⟨rfl, hw⟩
            subst w1
            go_wp2_with fail
            refine (span_any gh _).mono ?_
            rintro e w1 ⟨rfl, hw⟩
            subst w1
            go_wp2_with fail
            refine (mod_any y (spanP gh) _ (by omega) (by omega) (by omega) (by omega)).mono ?_
            rintro e w1 ⟨rfl, hw⟩
            subst w1
            go_wp2_with fail
            refine (mod_any x (spanP gw) _ (by omega) (by omega) (by omega) (by omega)).mono ?_
            rintro e w1 ⟨rfl, hw⟩
            subst w1
            go_wp2_with fail
            go_ret
            exact ⟨rfl, rfl⟩
set_option maxRecDepth 100000 in
set_option maxHeartbeats 1000000 in
theorem nput_in (q : Nat) (gw gh l t : Int) (S : List Int) (x y u : Int) (w : World) (h : GnAt w q gw gh l t S) (w0 : 0 ≤ gw) (w1 : gw ≤ 12) (h0 : 0 ≤ gh) (h1 : gh ≤ 12)
    (l0 : -50000000 ≤ l) (l1 : l ≤ 50000000) (t0 : -50000000 ≤ t) (t1 : t ≤ 50000000) (hz : 0 ≤ slotP gw gh l t x y) :
    Calls Tryd.prog 34 #[.pointer (some ⟨q, 0, none⟩), .int .i64 x, .int .i64 y, .int .i64 u] w fun e w' => e = .returned (.bool true) ∧ GnAt w' q gw gh l t (S.set (slotP gw gh l t x y).toNat u) ∧ Kp (· = q) w w' := by
  have hb := slotP_bd gw gh l t x y w0 w1 h0 h1
  have HS := hide (fun wx hx => nslot_any q gw gh l t S x y wx hx w0 w1 h0 h1 l0 l1 t0 t1)
  generalize slotP gw gh l t x y = z at *
  obtain ⟨k, rfl⟩ := Int.eq_ofNat_of_zero_le hz
  have hk : k < 768 := by omega
  have hc := h.cell k hk
  have hf := h.fro (4 + k)
  rw [Int.toNat_natCast]
  have H := hide h
  go_enter Tryd.func34, Tryd.ntmps34
  go_wp2_with fail
  refine (HS.out _ h).mono ?_
  rintro e w1 ⟨rfl, hw⟩
  subst w1
  go_wp2_with fail
  go_ret
  exact ⟨rfl, H.out.put k hk u, (Kp.refl (· = q) w).setCell (p := ⟨q, 4 + k, none⟩) rfl _⟩

end Go.Proofs.YtbdbkjngdhcjpaaDoor
namespace Go.Proofs.YtbdbkjngdhcjpaaDoor
open Go.RowKit
open Go.Proofs

/-- Does the neighbour at dx, dy count? By the law's words, and by the program's. -/
def countsP (near dx dy : Int) : Bool := if dx = 0 ∧ dy = 0 then false else if near = 86 then decide (dx * dy = 0) else if near = 72 then decide (0 ≤ dx * dy) else true
def nearR (a dx dy : Int) : Bool := if a = 77 then decide (dx ≠ 0 ∨ dy ≠ 0) else if a = 86 then ((dx == 0) != (dy == 0)) else if a = 72 then dx != -dy else false
theorem near_counts {a dx dy : Int} (ha : a = 77 ∨ a = 86 ∨ a = 72) (hx : -1 ≤ dx ∧ dx ≤ 1) (hy : -1 ≤ dy ∧ dy ≤ 1) : nearR a dx dy = countsP a dx dy := by
  have h1 : dx = -1 ∨ dx = 0 ∨ dx = 1 := by omega
  have h2 : dy = -1 ∨ dy = 0 ∨ dy = 1 := by omega
  rcases ha with rfl | rfl | rfl <;> rcases h1 with rfl | rfl | rfl <;> rcases h2 with rfl | rfl | rfl <;> decide
/-- The next state, by the law's words, and by the program's. -/
def nextP (p : Pu.Plan) (s : Int) (k : Nat) : Int := if s = 0 then ((p.births / 2 ^ k % 2 : Nat) : Int) else if s = 1 ∧ p.lives / 2 ^ k % 2 = 1 then 1 else (s + 1) % p.c
def nextR (r : Pu.Rule) (s : Int) (k : Nat) : Int := if s = 0 then (if r.births.getD k false = true then 1 else 0) else if s = 1 ∧ r.survivals.getD k false = true then 1 else if r.states ≤ s + 1 then 0 else s + 1
theorem bitB_get (b k : Nat) (h : k < 9) : (Pu.bitB b).getD k false = (b / 2 ^ k % 2 == 1) := by
  unfold Pu.bitB
  simp [List.getD, h]
theorem next_next {p : Pu.Plan} {s : Int} {k : Nat} (hs : 0 ≤ s ∧ s < p.c) (hk : k < 9) : nextR (Pu.ruleOf p) s k = nextP p s k := by
  unfold nextR nextP Pu.ruleOf
  simp only
  rw [bitB_get _ k hk, bitB_get _ k hk]
  by_cases h0 : s = 0
  · rw [if_pos h0, if_pos h0]
    rcases Nat.mod_two_eq_zero_or_one (p.births / 2 ^ k) with e | e <;> rw [e] <;> simp
  · rw [if_neg h0, if_neg h0]
    by_cases h1 : s = 1 ∧ p.lives / 2 ^ k % 2 = 1
    · rw [if_pos h1, if_pos ⟨h1.1, by simp [h1.2]⟩]
    · rw [if_neg h1, if_neg (by intro h; exact h1 ⟨h.1, by simpa using h.2⟩)]
      by_cases h2 : p.c ≤ s + 1
      · rw [if_pos h2, show s + 1 = p.c by omega, Int.emod_self]
      · rw [if_neg h2, Int.emod_eq_of_lt (by omega) (by omega)]

set_option maxRecDepth 100000 in
set_option maxHeartbeats 400000 in
theorem rnear_any (r : Pu.Rule) (dx dy : Int) (w : World) (ha : r.around = 77 ∨ r.around = 86 ∨ r.around = 72) (hx : -1 ≤ dx ∧ dx ≤ 1) (hy : -1 ≤ dy ∧ dy ≤ 1) :
    Calls Tryd.prog 79 #[.agg (rulev r), .int .i64 dx, .int .i64 dy] w fun e w' => e = .returned (.bool (nearR r.around dx dy)) ∧ Kp (fun _ => False) w w' := by
  have HA := hide (rulev_around (r := r))
  unfold nearR
  rcases ha with h | h | h
  · rw [h] at HA ⊢
    rw [if_pos rfl]
    by_cases e : dx = 0
    · subst e
      go_enter Tryd.func79, Tryd.ntmps79
      go_wp2_with (refine wpList_box_row rfl 48 _ rfl (rulev r) rfl ?_
                   intro w1 hw1
                   have K1 : Hid (Kp (fun _ => False) w w1) := by rw [hw1]; exact (Kp.refl _ _).alloc _
                   have c0 : w1.cell? ⟨w.heap.size, 0, none⟩ = some (.int .u8 77) := by rw [hw1, cell_of_row _ _ 0 _ _ _ (heap_alloc_new _ _)]; exact HA.out
                   clear hw1)
      go_ret
      exact ⟨ret_bool (by first | rfl | (rw [Bool.eq_iff_iff]; simp)), K1.out⟩
    · have b1 : (dx != 0) = true := by simpa using e
      have E := hide e
      clear e
      go_enter Tryd.func79, Tryd.ntmps79
      go_wp2_with (refine wpList_box_row rfl 48 _ rfl (rulev r) rfl ?_
                   intro w1 hw1
                   have K1 : Hid (Kp (fun _ => False) w w1) := by rw [hw1]; exact (Kp.refl _ _).alloc _
                   have c0 : w1.cell? ⟨w.heap.size, 0, none⟩ = some (.int .u8 77) := by rw [hw1, cell_of_row _ _ 0 _ _ _ (heap_alloc_new _ _)]; exact HA.out
                   clear hw1)
      go_ret
      exact ⟨ret_bool (by symm; exact decide_eq_true (Or.inl E.out)), K1.out⟩
  · rw [h] at HA ⊢
    rw [if_neg (by omega), if_pos rfl]
    go_enter Tryd.func79, Tryd.ntmps79
    go_wp2_with (refine wpList_box_row rfl 48 _ rfl (rulev r) rfl ?_
                 intro w1 hw1
                 have K1 : Hid (Kp (fun _ => False) w w1) := by rw [hw1]; exact (Kp.refl _ _).alloc _
                 have c0 : w1.cell? ⟨w.heap.size, 0, none⟩ = some (.int .u8 86) := by rw [hw1, cell_of_row _ _ 0 _ _ _ (heap_alloc_new _ _)]; exact HA.out
                 clear hw1)
    go_ret
    exact ⟨rfl, K1.out⟩
  · rw [h] at HA ⊢
    rw [if_neg (by omega), if_neg (by omega), if_pos rfl]
    go_enter Tryd.func79, Tryd.ntmps79
    go_wp2_with (refine wpList_box_row rfl 48 _ rfl (rulev r) rfl ?_
                 intro w1 hw1
                 have K1 : Hid (Kp (fun _ => False) w w1) := by rw [hw1]; exact (Kp.refl _ _).alloc _
                 have c0 : w1.cell? ⟨w.heap.size, 0, none⟩ = some (.int .u8 72) := by rw [hw1, cell_of_row _ _ 0 _ _ _ (heap_alloc_new _ _)]; exact HA.out
                 clear hw1)
    go_ret
    exact ⟨rfl, K1.out⟩
end Go.Proofs.YtbdbkjngdhcjpaaDoor
namespace Go.Proofs.YtbdbkjngdhcjpaaDoor
open Go.RowKit
open Go.Proofs

/-- How many of the first n of nine count. -/
def ones9 (f : Nat → Nat → Bool) (n : Nat) : Nat := ((List.range n).filter fun m => f (m % 3) (m / 3)).length
theorem ones9_succ (f : Nat → Nat → Bool) (n : Nat) : ones9 f (n + 1) = ones9 f n + if f (n % 3) (n / 3) = true then 1 else 0 := by
  unfold ones9
  rw [List.range_succ, List.filter_append, List.length_append]
  by_cases h : f (n % 3) (n / 3) = true <;> simp [h]
theorem ones9_le (f : Nat → Nat → Bool) (n : Nat) : ones9 f n ≤ n := by
  unfold ones9
  refine Nat.le_trans (List.length_filter_le _ _) (by simp)
theorem ones9_8 (f : Nat → Nat → Bool) (h : f 1 1 = false) : ones9 f 9 ≤ 8 := by
  have h4 := ones9_le f 4
  have e6 := ones9_succ f 5
  have e7 := ones9_succ f 6
  have e8 := ones9_succ f 7
  have e9 := ones9_succ f 8
  have e5 : ones9 f 5 = ones9 f 4 + if f 1 1 = true then 1 else 0 := ones9_succ f 4
  rw [h, if_neg (by simp), Nat.add_zero] at e5
  have : ones9 f 6 ≤ ones9 f 5 + 1 := by rw [e6]; split <;> omega
  have : ones9 f 7 ≤ ones9 f 6 + 1 := by rw [e7]; split <;> omega
  have : ones9 f 8 ≤ ones9 f 7 + 1 := by rw [e8]; split <;> omega
  have : ones9 f 9 ≤ ones9 f 8 + 1 := by rw [e9]; split <;> omega
  omega
theorem ones9_at (f : Nat → Nat → Bool) (a b : Nat) (ha : a < 3) : ones9 f (3 * b + a + 1) = ones9 f (3 * b + a) + if f a b = true then 1 else 0 := by
  rw [ones9_succ, Nat.mul_add_mod, Nat.mod_eq_of_lt ha, Nat.mul_add_div (by omega), Nat.div_eq_of_lt ha, Nat.add_zero]
theorem ones9_congr {f g : Nat → Nat → Bool} (n : Nat) (h : ∀ a b, a < 3 → 3 * b + a < n → f a b = g a b) : ones9 f n = ones9 g n := by
  unfold ones9
  congr 1
  apply List.filter_congr
  intro m hm
  have hm' := List.mem_range.1 hm
  exact h _ _ (Nat.mod_lt _ (by omega)) (by omega)
end Go.Proofs.YtbdbkjngdhcjpaaDoor
