import Derived.Test.YtbdbkjngdhcjpaaDoorM5
namespace Go.Proofs.YtbdbkjngdhcjpaaDoor
open Go.RowKit
open Go.Proofs

/-- A grid that lies alone in its block. -/
def gnv (gw gh l t : Int) (S : List Int) : Array Value := #[.int .i64 gw, .int .i64 gh, .int .i64 l, .int .i64 t] ++ intsv S
structure GnAt (w : World) (q : Nat) (gw gh l t : Int) (S : List Int) : Prop where
  row : w.heap[q]? = some (.cells (gnv gw gh l t S) 53 (0, 0))
  len : S.length = 768
theorem gnv_get (gw gh l t : Int) (S : List Int) (m : Nat) : (gnv gw gh l t S)[m]? = if m < 4 then #[Value.int .i64 gw, .int .i64 gh, .int .i64 l, .int .i64 t][m]? else (intsv S)[m - 4]? := by
  unfold gnv
  rw [Array.getElem?_append]
  rfl
theorem gnv_size (gw gh l t : Int) {S : List Int} (h : S.length = 768) : (gnv gw gh l t S).size = 772 := by
  unfold gnv intsv
  rw [Array.size_append]
  simp only [List.size_toArray, List.length_map, h]
  rfl
section
variable {w w' : World} {q : Nat} {gw gh l t : Int} {S : List Int}
theorem GnAt.fld (h : GnAt w q gw gh l t S) (m : Nat) (hm : m < 4) : w.cell? ⟨q, m, none⟩ = #[Value.int .i64 gw, .int .i64 gh, .int .i64 l, .int .i64 t][m]? := by
  rw [cell_of_row w q _ _ _ _ h.row, gnv_get, if_pos hm]
theorem GnAt.cell (h : GnAt w q gw gh l t S) (k : Nat) (hk : k < 768) : w.cell? ⟨q, 4 + k, none⟩ = some (.int .i64 (S[k]'(by rw [h.len]; exact hk))) := by
  rw [cell_of_row w q _ _ _ _ h.row, gnv_get, if_neg (by omega), show 4 + k - 4 = k by omega, intsv_get S k (by rw [h.len]; exact hk)]
theorem GnAt.fro (h : GnAt w q gw gh l t S) (m : Nat) : w.frozen? ⟨q, m, none⟩ = false := frozen_of_row w q _ _ _ h.row
theorem GnAt.lt (h : GnAt w q gw gh l t S) : q < w.heap.size := (Array.getElem?_eq_some_iff.1 h.row).1
theorem GnAt.keep {T : Nat → Prop} (h : GnAt w q gw gh l t S) (k : Kp T w w') (hn : ¬ T q) : GnAt w' q gw gh l t S := ⟨k.row h.row hn, h.len⟩
theorem GnAt.put (h : GnAt w q gw gh l t S) (k : Nat) (hk : k < 768) (u : Int) : GnAt (w.setCell ⟨q, 4 + k, none⟩ (.int .i64 u)) q gw gh l t (S.set k u) := by
  refine ⟨?_, by simpa using h.len⟩
  rw [heap_setCell_same w q _ _ _ _ h.row]
  congr 2
  apply Array.ext_getElem?
  intro m
  rw [Array.getElem?_setIfInBounds, gnv_get, gnv_get, gnv_size _ _ _ _ h.len]
  by_cases e : 4 + k = m
  · subst e
    rw [if_pos rfl, if_pos (by omega), if_neg (by omega), show 4 + k - 4 = k by omega, intsv_get _ k (by simp [h.len]; omega)]
    simp
  · rw [if_neg e]
    by_cases h1 : m < 4
    · simp [h1]
    · rw [if_neg h1, if_neg h1]
      simp only [intsv, List.getElem?_toArray, List.getElem?_map]
      rw [List.getElem?_set_ne (by omega)]
end

set_option maxRecDepth 100000 in
set_option maxHeartbeats 1000000 in
theorem nslot_any (q : Nat) (gw gh l t : Int) (S : List Int) (x y : Int) (w : World) (h : GnAt w q gw gh l t S) (w0 : 0 ≤ gw) (w1 : gw ≤ 12) (h0 : 0 ≤ gh) (h1 : gh ≤ 12)
    (l0 : -50000000 ≤ l) (l1 : l ≤ 50000000) (t0 : -50000000 ≤ t) (t1 : t ≤ 50000000) :
    Calls Tryd.prog 51 #[.pointer (some ⟨q, 0, none⟩), .int .i64 x, .int .i64 y] w fun e w' => e = .returned (.int .i64 (slotP gw gh l t x y)) ∧ w' = w := by
  have c0 : w.cell? ⟨q, 0, none⟩ = some (.int .i64 gw) := h.fld 0 (by omega)
  have c1 : w.cell? ⟨q, 1, none⟩ = some (.int .i64 gh) := h.fld 1 (by omega)
  have c2 : w.cell? ⟨q, 2, none⟩ = some (.int .i64 l) := h.fld 2 (by omega)
  have c3 : w.cell? ⟨q, 3, none⟩ = some (.int .i64 t) := h.fld 3 (by omega)
  clear h
  have sw := spanP_bd w0 w1
  have sh := spanP_bd h0 h1
  unfold slotP
  by_cases k1 : x < l
  · rw [if_pos (Or.inl k1)]
    go_enter Tryd.func51, Tryd.ntmps51
    go_wp2_with fail
    refine (span_any gw _).mono ?_
    rintro e w1 ⟨rfl, hw⟩
    subst w1
    go_wp2_with fail
    refine (span_any gh _).mono ?_
    rintro e w1 ⟨rfl, hw⟩
    subst w1
    go_wp2_with fail
    go_ret
    exact ⟨rfl, rfl⟩
  · by_cases k2 : l + spanP gw ≤ x
    · rw [if_pos (Or.inr (Or.inl k2))]
      go_enter Tryd.func51, Tryd.ntmps51
      go_wp2_with fail
      refine (span_any gw _).mono ?_
      rintro e w1 ⟨rfl, hw⟩
      subst w1
      go_wp2_with fail
      refine (span_any gh _).mono ?_
      rintro e w1 ⟨rfl, hw⟩
      subst w1
      generalize spanP gw = cols at *
      generalize spanP gh = rows at *
      go_wp2_with fail
      go_ret
      exact ⟨rfl, rfl⟩
    · by_cases k3 : y < t
      · rw [if_pos (Or.inr (Or.inr (Or.inl k3)))]
        go_enter Tryd.func51, Tryd.ntmps51
        go_wp2_with fail
        refine (span_any gw _).mono ?_
        rintro e w1 ⟨rfl, hw⟩
        subst w1
        go_wp2_with fail
        refine (span_any gh _).mono ?_
        rintro e w1 ⟨rfl, hw⟩
        subst w1
        generalize spanP gw = cols at *
        generalize spanP gh = rows at *
        go_wp2_with fail
        go_ret
        exact ⟨rfl, rfl⟩
      · by_cases k4 : t + spanP gh ≤ y
        · rw [if_pos (Or.inr (Or.inr (Or.inr k4)))]
          go_enter Tryd.func51, Tryd.ntmps51
          go_wp2_with fail
          refine (span_any gw _).mono ?_
          rintro e w1 ⟨rfl, hw⟩
          subst w1
          go_wp2_with fail
          refine (span_any gh _).mono ?_
          rintro e w1 ⟨rfl, hw⟩
          subst w1
          generalize spanP gw = cols at *
          generalize spanP gh = rows at *
          go_wp2_with fail
          go_ret
          exact ⟨rfl, rfl⟩
        · rw [if_neg (by omega)]
          have m1 := Int.emod_nonneg y (show spanP gh ≠ 0 by omega)
          have m2 := Int.emod_lt_of_pos y sh.1
          have m3 := Int.emod_nonneg x (show spanP gw ≠ 0 by omega)
          have m4 := Int.emod_lt_of_pos x sw.1
          have p1 : 0 ≤ y % spanP gh * spanP gw := Int.mul_nonneg m1 (by omega)
          have p2 : y % spanP gh * spanP gw ≤ 4096 := by
            have a1 : y % spanP gh * spanP gw ≤ 64 * spanP gw := Int.mul_le_mul_of_nonneg_right (by omega) (by omega)
            omega
          by_cases k5 : 768 ≤ y % spanP gh * spanP gw + x % spanP gw
          · rw [if_pos k5]
            go_enter Tryd.func51, Tryd.ntmps51
            go_wp2_with fail
            refine (span_any gw _).mono ?_
            rintro e w1 ⟨rfl, hw⟩
            subst w1
            go_wp2_with fail
            refine (span_any gh _).mono ?_
            rintro e w1 ⟨rfl, hw⟩
            subst w1
            go_wp2_with fail
            refine (mod_any y (spanP gh) _ (by omega) (by omega) (by omega) (by omega)).mono ?_
            rintro e w1 ⟨rfl, hw⟩
            subst w1
            go_wp2_with fail
            refine (mod_any x (spanP gw) _ (by omega) (by omega) (by omega) (by omega)).mono ?_
            rintro e w1 ⟨rfl, hw⟩
            subst w1
            go_wp2_with fail
            go_ret
            exact ⟨rfl, rfl⟩
          · rw [if_neg k5]
            go_enter Tryd.func51, Tryd.ntmps51
            go_wp2_with fail
            refine (span_any gw _).mono ?_
            rintro e w1 ⟨rfl, hw⟩
            subst w1
            go_wp2_with fail
            refine (span_any gh _).mono ?_
            rintro e w1 ⟨rfl, hw⟩
            subst w1
            go_wp2_with fail
            refine (mod_any y (spanP gh) _ (by omega) (by omega) (by omega) (by omega)).mono ?_
            rintro e w1 ⟨rfl, hw⟩
            subst w1
            go_wp2_with fail
            refine (mod_any x (spanP gw) _ (by omega) (by omega) (by omega) (by omega)).mono ?_
            rintro e w1 ⟨rfl, hw⟩
            subst w1
            go_wp2_with fail
            go_ret
            exact ⟨rfl, rfl⟩
set_option maxRecDepth 100000 in
set_option maxHeartbeats 1000000 in
theorem nput_in (q : Nat) (gw gh l t : Int) (S : List Int) (x y u : Int) (w : World) (h : GnAt w q gw gh l t S) (w0 : 0 ≤ gw) (w1 : gw ≤ 12) (h0 : 0 ≤ gh) (h1 : gh ≤ 12)
    (l0 : -50000000 ≤ l) (l1 : l ≤ 50000000) (t0 : -50000000 ≤ t) (t1 : t ≤ 50000000) (hz : 0 ≤ slotP gw gh l t x y) :
    Calls Tryd.prog 34 #[.pointer (some ⟨q, 0, none⟩), .int .i64 x, .int .i64 y, .int .i64 u] w fun e w' => e = .returned (.bool true) ∧ GnAt w' q gw gh l t (S.set (slotP gw gh l t x y).toNat u) ∧ Kp (· = q) w w' := by
  have hb := slotP_bd gw gh l t x y w0 w1 h0 h1
  have HS := hide (fun wx hx => nslot_any q gw gh l t S x y wx hx w0 w1 h0 h1 l0 l1 t0 t1)
  generalize slotP gw gh l t x y = z at *
  obtain ⟨k, rfl⟩ := Int.eq_ofNat_of_zero_le hz
  have hk : k < 768 := by omega
  have hc := h.cell k hk
  have hf := h.fro (4 + k)
  rw [Int.toNat_natCast]
  have H := hide h
  go_enter Tryd.func34, Tryd.ntmps34
  go_wp2_with fail
  refine (HS.out _ h).mono ?_
  rintro e w1 ⟨rfl, hw⟩
  subst w1
  go_wp2_with fail
  go_ret
  exact ⟨rfl, H.out.put k hk u, (Kp.refl (· = q) w).setCell (p := ⟨q, 4 + k, none⟩) rfl _⟩

end Go.Proofs.YtbdbkjngdhcjpaaDoor
