import Derived.Test.YtiimimclbkjcbaaIh
import Derived.Test.YtiimimclbkjcbaaHbc
namespace Go.Proofs.Ytiimimclbkjcbaa
open Go.RowKit
open Go.Proofs

theorem countP_app (A B : List Int) : countP (A ++ B) = countP A + countP B := by unfold countP; rw [List.filter_append, List.length_append]
theorem countP_zero : ∀ (A : List Int), (∀ x, x ∈ A → x = 0) → countP A = 0 := by
  intro A h
  unfold countP
  rw [List.length_eq_zero_iff, List.filter_eq_nil_iff]
  intro x hx
  simp [h x hx]
theorem countP_front (S : List Int) (n : Nat) (h : ∀ k (hk : k < S.length), n ≤ k → S[k] = 0) : countP (S.take n) = countP S := by
  conv => rhs; rw [← List.take_append_drop n S]
  rw [countP_app, countP_zero (S.drop n), Nat.add_zero]
  intro x hx
  obtain ⟨k, hk, rfl⟩ := List.getElem_of_mem hx
  rw [List.getElem_drop]
  exact h _ _ (by omega)
/-- The cells behind the Put. -/
def heldS (v : Wish) (c : Int) (n m : Nat) (s : Int) : List Int := (fillS v c n).set m s
theorem fillS_len (v : Wish) (c : Int) (k : Nat) : (fillS v c k).length = 768 := by unfold fillS; rw [List.length_map, List.length_range]
theorem heldS_len (v : Wish) (c : Int) (n m : Nat) (s : Int) : (heldS v c n m s).length = 768 := by unfold heldS; rw [List.length_set, fillS_len]
theorem getD_at (S : List Int) (k : Nat) (h : k < S.length) : S.getD k 0 = S[k] := by simp [List.getD, h]
theorem fillS_at (v : Wish) (c : Int) (n k : Nat) (hk : k < 768) : (fillS v c n)[k]? = some (if k < n then stP v c k else 0) := by
  unfold fillS
  simp [hk]
theorem heldS_get (v : Wish) (c : Int) (n m : Nat) (s : Int) (k : Nat) (hk : k < 768) (hn : k < n) : (heldS v c n m s).getD k 0 = if m = k then s else stP v c k := by
  unfold heldS
  unfold List.getD
  rw [List.getElem?_set, fillS_len, fillS_at v c n k hk, if_pos hn]
  by_cases e : m = k
  · rw [if_pos e, if_pos e, if_pos (by omega)]
    rfl
  · rw [if_neg e, if_neg e]
    rfl
theorem heldS_far (v : Wish) (c : Int) (n m : Nat) (s : Int) (hm : m < n) (k : Nat) (hk : k < (heldS v c n m s).length) (hn : n ≤ k) : (heldS v c n m s)[k] = 0 := by
  rw [← getD_at _ _ hk]
  have hk8 : k < 768 := by rw [heldS_len] at hk; exact hk
  unfold heldS
  unfold List.getD
  rw [List.getElem?_set, fillS_at v c n k hk8, if_neg (show ¬ k < n by omega), if_neg (by omega)]
  rfl
theorem countP_snocD (S : List Int) (k : Nat) (h : k < S.length) : countP (S.take (k + 1)) = countP (S.take k) + if S.getD k 0 = 0 then 0 else 1 := by
  rw [countP_snoc S k h, getD_at S k h]
theorem flat_inj {W i j a b : Nat} (hi : i < W) (ha : a < W) (h : b * W + a = j * W + i) : a = i ∧ b = j := by
  have h1 : (b * W + a) % W = (j * W + i) % W := by rw [h]
  rw [Nat.mul_comm b W, Nat.mul_comm j W, Nat.mul_add_mod, Nat.mul_add_mod, Nat.mod_eq_of_lt ha, Nat.mod_eq_of_lt hi] at h1
  subst h1
  refine ⟨rfl, ?_⟩
  have h2 : b * W = j * W := by omega
  exact Nat.eq_of_mul_eq_mul_right (by omega) h2

/-- What 'Held' keeps in its loops. -/
structure Hst (w wr : World) (g2 q : Nat) (p : Pu.Plan) (v : Wish) (S : List Int) : Prop where
  wish : WsAt wr w.heap.size v
  plan : PlAt wr g2 p
  grid : GrAt wr q (preOf (Pu.ruleOf p) (Pu.shapeOf p) 0) p.w p.h 0 0 S
  keep : Kp (fun _ => False) w wr
theorem Hst.kp {w wr w' : World} {g2 q : Nat} {p : Pu.Plan} {v : Wish} {S : List Int} (h : Hst w wr g2 q p v S) (k : Kp (fun _ => False) wr w') : Hst w w' g2 q p v S :=
  ⟨h.wish.keep k (fun hx => hx), h.plan.keep k (fun hx => hx), h.grid.keep k (fun hx => hx), h.keep.trans k⟩

theorem kinds5 : ∀ k (h : k < ({ data := #[80, 84, 75, 67, 83] } : ByteArray).size), ((({ data := #[80, 84, 75, 67, 83] } : ByteArray)[k]).toNat : Int) ∈ [(80 : Int), 84, 75, 67, 83] := by
  intro k h
  have h5 : k < 5 := h
  have : k = 0 ∨ k = 1 ∨ k = 2 ∨ k = 3 ∨ k = 4 := by omega
  rcases this with rfl | rfl | rfl | rfl | rfl <;> (clear h5; revert h; decide)

set_option maxRecDepth 100000 in
set_option maxHeartbeats 1000000 in
theorem held_walk (v : Wish) (hv : WishOk v) (x y s : Int) (hx : i64 x) (hy : i64 y) (hs : i64 s) (w : World) :
    Calls Try.prog 5 #[.agg (wishv v), .int .i64 x, .int .i64 y, .int .i64 s] w fun e w' => e = .returned (.bool true) ∧ Kp (fun _ => False) w w' := by
  have LPL := hide (fun wx => planned_any v hv { data := #[80, 84, 75, 67, 83] } 12 (by decide) (by decide) kinds5 (by omega) wx)
  go_enter Try.func5, Try.ntmps5
  go_wp2_with (first
    | (refine wpList_box_row rfl 32 _ rfl (wishv v) rfl ?_
       intro w1 hw1
       have W1 : Hid (WsAt w1 w.heap.size v) := ⟨by rw [hw1]; exact heap_alloc_new _ _⟩
       have K1 : Hid (Kp (fun _ => False) w w1) := by rw [hw1]; exact (Kp.refl _ _).alloc _
       clear hw1)
    | (refine wpList_load_row rfl 32 _ rfl w.heap.size rfl 32 (wishv v) (0, 0) _ W1.out.row Try.underlying32 rfl info_wish ?_))
  refine (LPL.out _).mono ?_
  rintro e w2 ⟨⟨p, rfl, hp, _, _, _⟩, k2⟩
  have W2 := hide (W1.out.keep k2 (fun hx => hx))
  have K2 := hide (K1.out.trans k2)
  clear k2
  have LMA := hide (fun wx => pmade_any p hp v hv.cells wx)
  go_wp2_with (first
    | (refine wpList_alloc_row rfl 34 rfl (planv zp) zero_plan ?_
       intro w3 hw3
       have W3 : Hid (WsAt w3 w.heap.size v) := by rw [hw3]; exact W2.out.keep ((Kp.refl (fun _ => False) _).alloc _) (fun hx => hx)
       have P3 : Hid (PlAt w3 w2.heap.size zp) := ⟨by rw [hw3]; exact heap_alloc_new _ _⟩
       have K3 : Hid (Kp (fun _ => False) w w3) := by rw [hw3]; exact K2.out.alloc _
       clear hw3)
    | (refine wpList_store_row_g rfl 34 _ _ rfl w2.heap.size (planv p) rfl rfl 34 (planv zp) P3.out.row info_plan rfl (planv_one _) ?_
       intro w4 hw4
       have n1 : w.heap.size ≠ w2.heap.size := by
         have := W2.out.row
         have h1 := (Array.getElem?_eq_some_iff.1 this).1
         omega
       have W4 : Hid (WsAt w4 w.heap.size v) := ⟨by rw [hw4]; exact (setRow_other _ _ _ _ n1).trans W3.out.row⟩
       have P4 : Hid (PlAt w4 w2.heap.size p) := ⟨by rw [hw4]; exact setRow_heap _ _ _ _ _ _ P3.out.row⟩
       have K4 : Hid (Kp (fun _ => False) w w4) := by rw [hw4]; exact K3.out.setRowNew K2.out.size _
       clear hw4)
    | (refine wpList_load_row rfl 34 _ rfl w2.heap.size rfl 34 (planv p) (0, 0) _ P4.out.row Try.underlying34 rfl info_plan ?_)
    | (refine wpList_load_row rfl 32 _ rfl w.heap.size rfl 32 (wishv v) (0, 0) _ W4.out.row Try.underlying32 rfl info_wish ?_))
  refine (LMA.out _).mono ?_
  rintro e w5 ⟨⟨q, rfl, hq0, rk, g5⟩, k5⟩
  have sz4 := K4.out.size
  have RK := hide rk
  have hql : w.heap.size ≤ q := by omega
  have H5 : Hid (Hst w w5 w2.heap.size q p v (fillS v p.c (p.h * p.w).toNat)) := ⟨W4.out.keep k5 (fun hx => hx), P4.out.keep k5 (fun hx => hx), g5, K4.out.trans k5⟩
  clear g5 k5 rk hq0 LMA LPL sz4
  have gne1 : w.heap.size ≠ q := by
    intro e
    have h1 := H5.out.wish.row
    have h2 := H5.out.grid.row
    rw [e, h2] at h1
    simp at h1
  have gne2 : w2.heap.size ≠ q := by
    intro e
    have h1 := H5.out.plan.row
    have h2 := H5.out.grid.row
    rw [e, h2] at h1
    simp at h1
  have hw := hp.w
  have hh := hp.h
  have hc := hp.c
  obtain ⟨W, hW⟩ := Int.eq_ofNat_of_zero_le (show 0 ≤ p.w by omega)
  obtain ⟨H, hH⟩ := Int.eq_ofNat_of_zero_le (show 0 ≤ p.h by omega)
  have EW := hide hW
  have EH := hide hH
  have W12 : W ≤ 12 := by omega
  have H12 : H ≤ 12 := by omega
  have LX := hide (fun wx => pick_any x p.w wx (by omega) (by omega) hx.1 hx.2)
  have bX := pickP_bd x p.w (by omega)
  have LY := hide (fun wx => pick_any y p.h wx (by omega) (by omega) hy.1 hy.2)
  have bY := pickP_bd y p.h (by omega)
  have LZ := hide (fun wx => pick_any s p.c wx (by omega) (by omega) hs.1 hs.2)
  have bZ := pickP_bd s p.c (by omega)
  generalize pickP x p.w = a at *
  generalize pickP y p.h = b at *
  generalize pickP s p.c = st at *
  obtain ⟨a, rfl⟩ := Int.eq_ofNat_of_zero_le bX.1
  obtain ⟨b, rfl⟩ := Int.eq_ofNat_of_zero_le bY.1
  have ha : a < W := by omega
  have hb : b < H := by omega
  clear hW hH
  have c5 : w5.cell? ⟨w2.heap.size, 5, none⟩ = some (.int .i64 p.w) := H5.out.plan.cell 5
  have c6 : w5.cell? ⟨w2.heap.size, 6, none⟩ = some (.int .i64 p.h) := H5.out.plan.cell 6
  have c3 : w5.cell? ⟨w2.heap.size, 3, none⟩ = some (.int .i64 p.c) := H5.out.plan.cell 3
  go_wp2_with fail
  refine (LX.out _).mono ?_
  rintro e w6 ⟨rfl, hw6⟩
  subst w6
  go_wp2_with fail
  refine (LY.out _).mono ?_
  rintro e w6 ⟨rfl, hw6⟩
  subst w6
  go_wp2_with fail
  refine (LZ.out _).mono ?_
  rintro e w6 ⟨rfl, hw6⟩
  subst w6
  go_wp2_with fail
  refine (wput_two q (Pu.ruleOf p) (Pu.shapeOf p) 0 _ a b st _ H5.out.grid RK.out (two_plan hp) bX bY bZ).mono ?_
  rintro e w6 ⟨rfl, g6, k6⟩
  have H6 : Hid (Hst w w6 w2.heap.size q p v (heldS v p.c (H * W) (b * W + a) st)) := by
    refine ⟨H5.out.wish.keep k6 gne1, H5.out.plan.keep k6 gne2, ?_, H5.out.keep.tr k6 (by intro z hz1 hz2; omega)⟩
    have e1 : (p.h * p.w).toNat = H * W := by rw [EW.out, EH.out, ← Int.natCast_mul]; rfl
    have e2 : ((b : Int) * (Pu.shapeOf p).w + a).toNat = b * W + a := by
      show ((b : Int) * p.w + a).toNat = _
      rw [EW.out, ← Int.natCast_mul, ← Int.natCast_add]; rfl
    rw [e1, e2] at g6
    exact g6
  clear g6 k6 c5 c6 c3 LX LY LZ H5 W4 P4 K4 W3 P3 K3 W2 K2 W1 K1
  have hbW : b * W + a < H * W := by
    have h1 : (b + 1) * W ≤ H * W := Nat.mul_le_mul_right W hb
    rw [Nat.add_mul] at h1
    omega
  have hHW : H * W ≤ 144 := Nat.mul_le_mul H12 W12
  have LS := hide (fun (wx : World) (x y k : Nat) (h1 : x ≤ 12) (h2 : y ≤ 12) (h3 : (y : Int) * p.w + x = k) => pstate_any p hp v hv.cells x y k h1 h2 h3 wx)
  have LG := hide (fun (wx : World) (h : GrAt wx q (preOf (Pu.ruleOf p) (Pu.shapeOf p) 0) p.w p.h 0 0 (heldS v p.c (H * W) (b * W + a) st)) (i j : Int) (hi : 0 ≤ i ∧ i < p.w) (hj : 0 ≤ j ∧ j < p.h) => wget_two q (Pu.ruleOf p) (Pu.shapeOf p) 0 _ i j wx h RK.out (two_plan hp) hp.kind (by show 0 ≤ p.sw ∧ p.sw ≤ 64; have := hp.torus; omega) (by show 0 ≤ p.sh ∧ p.sh ≤ 64; have := hp.torus; omega) hi hj)
  have HLEN := hide (heldS_len v p.c (H * W) (b * W + a) st)
  have HGET := hide (fun k hk hn => heldS_get v p.c (H * W) (b * W + a) st k hk hn)
  have HFAR := hide (countP_front _ (H * W) (fun k hk hn => heldS_far v p.c (H * W) (b * W + a) st hbW k hk hn))
  generalize heldS v p.c (H * W) (b * W + a) st = S' at *
  go_wp2_with fail
  go_loopg [13, 14] H (fun gk ll jj wr => ∃ j : Nat, j ≤ H ∧ H ≤ j + gk ∧ ll = .int .i64 (countP (S'.take (j * W))) ∧ jj = .int .i64 j ∧ Hst w wr w2.heap.size q p v S')
  case atStart => exact ⟨0, by omega, by omega, by rw [Nat.zero_mul]; rfl, rfl, H6.out⟩
  case round =>
    obtain ⟨j, g1, g2, rfl, rfl, m5⟩ := hrel
    have M5 := hide m5
    have c6 : wr.cell? ⟨w2.heap.size, 6, none⟩ = some (.int .i64 H) := by rw [← EH.out]; exact m5.plan.cell 6
    clear m5
    by_cases hj : j < H
    · go_wp2_with fail
      obtain ⟨gO, hgO⟩ : ∃ g, g = gk := ⟨gk, rfl⟩
      have HGO := hide hgO
      clear hgO
      go_loopg [13, 15] W (fun gi ll ii ws => ∃ i : Nat, i ≤ W ∧ W ≤ i + gi ∧ ll = .int .i64 (countP (S'.take (j * W + i))) ∧ ii = .int .i64 i ∧ Hst w ws w2.heap.size q p v S')
      case atStart => exact ⟨0, by omega, by omega, rfl, rfl, M5.out⟩
      case round =>
        obtain ⟨i, r1, r2, rfl, rfl, m6⟩ := hrel
        have M6 := hide m6
        have c5 : wr.cell? ⟨w2.heap.size, 5, none⟩ = some (.int .i64 W) := by rw [← EW.out]; exact m6.plan.cell 5
        clear m6 c6
        have cl : countP (S'.take (j * W + i)) ≤ 768 := by have h1 := countP_le (S'.take (j * W + i)); have h2 := List.length_take_le (j * W + i) S'; have h3 := List.length_take_le' (j * W + i) S'; have := HLEN.out; omega
        by_cases hi : i < W
        · have HK : Hid ((j : Int) * p.w + i = ((j * W + i : Nat) : Int)) := by show _ = _; rw [EW.out]; simp
          have kHW : j * W + i < H * W := by
            have h1 : (j + 1) * W ≤ H * W := Nat.mul_le_mul_right W hj
            rw [Nat.add_mul] at h1
            omega
          have klt : j * W + i < 768 := by omega
          have e2 : Hid (((j : Int) * (Pu.shapeOf p).w + i).toNat = j * W + i) := by
            show ((j : Int) * p.w + i).toNat = _
            rw [HK.out]; rfl
          have HSN := hide (countP_snocD S' (j * W + i) (by rw [HLEN.out]; exact klt))
          have LSk := hide (fun wx => LS.out wx i j (j * W + i) (by omega) (by omega) HK.out)
          by_cases ia : i = a
          · by_cases jb : j = b
            · have bi : ((i : Int) == (a : Int)) = true := by simp [ia]
              have bj : ((j : Int) == (b : Int)) = true := by simp [jb]
              have HSV : Hid (S'.getD (j * W + i) 0 = st) := by
                show _ = _
                rw [HGET.out (j * W + i) klt kHW]
                rw [if_pos (by rw [ia, jb])]
              have GET : Hid (∀ wx, GrAt wx q (preOf (Pu.ruleOf p) (Pu.shapeOf p) 0) p.w p.h 0 0 S' → Calls Try.prog 20 #[.pointer (some ⟨q, 0, none⟩), .int .i64 i, .int .i64 j] wx fun e w' => e = .returned (.int .i64 (st)) ∧ Kp (fun _ => False) wx w') := by
                intro wx hx
                have := LG.out wx hx i j (by have := EW.out; omega) (by have := EH.out; omega)
                rw [e2.out, HSV.out] at this
                exact this
              rw [HSV.out] at HSN
              clear HSV
              clear ia jb
              generalize stP v p.c (j * W + i) = s0 at LSk
              go_wp2_with (first
                | (refine wpList_load_row rfl 34 _ rfl w2.heap.size rfl 34 (planv p) (0, 0) _ M6.out.plan.row Try.underlying34 rfl info_plan ?_)
                | (refine wpList_load_row rfl 32 _ rfl w.heap.size rfl 32 (wishv v) (0, 0) _ M6.out.wish.row Try.underlying32 rfl info_wish ?_))
              refine (LSk.out _).mono ?_
              rintro e w8 ⟨rfl, k8⟩
              have M8 := hide (M6.out.kp k8)
              clear k8
              go_wp2_with fail
              refine (GET.out _ M8.out.grid).mono ?_
              rintro e w9 ⟨rfl, k9⟩
              have M9 := hide (M8.out.kp k9)
              clear k9
              by_cases hz : st = 0
              · have nz : (st == 0) = true := by simpa using hz
                have nz2 : (st != 0) = false := by simpa using hz
                rw [if_pos hz] at HSN
                clear hz
                go_wp2_with fail
                go_roundg (gk - 1)
                case measure => omega
                case rel => exact ⟨i + 1, by omega, by omega, by rw [show j * W + (i + 1) = j * W + i + 1 from rfl, HSN.out]; rfl, by go_num, M9.out⟩
              · have nz : (st == 0) = false := by simpa using hz
                have nz2 : (st != 0) = true := by simpa using hz
                rw [if_neg hz] at HSN
                clear hz
                go_wp2_with fail
                go_roundg (gk - 1)
                case measure => omega
                case rel => exact ⟨i + 1, by omega, by omega, by rw [show j * W + (i + 1) = j * W + i + 1 from rfl, HSN.out]; go_num, by go_num, M9.out⟩
            · have bi : ((i : Int) == (a : Int)) = true := by simp [ia]
              have bj : ((j : Int) == (b : Int)) = false := by simp; omega
              have HSV : Hid (S'.getD (j * W + i) 0 = stP v p.c (j * W + i)) := by
                show _ = _
                rw [HGET.out (j * W + i) klt kHW]
                rw [if_neg (by intro e; exact jb (flat_inj hi ha e).2.symm)]
              have GET : Hid (∀ wx, GrAt wx q (preOf (Pu.ruleOf p) (Pu.shapeOf p) 0) p.w p.h 0 0 S' → Calls Try.prog 20 #[.pointer (some ⟨q, 0, none⟩), .int .i64 i, .int .i64 j] wx fun e w' => e = .returned (.int .i64 (stP v p.c (j * W + i))) ∧ Kp (fun _ => False) wx w') := by
                intro wx hx
                have := LG.out wx hx i j (by have := EW.out; omega) (by have := EH.out; omega)
                rw [e2.out, HSV.out] at this
                exact this
              rw [HSV.out] at HSN
              clear HSV
              clear ia jb
              generalize stP v p.c (j * W + i) = sv at LSk GET HSN
              go_wp2_with (first
                | (refine wpList_load_row rfl 34 _ rfl w2.heap.size rfl 34 (planv p) (0, 0) _ M6.out.plan.row Try.underlying34 rfl info_plan ?_)
                | (refine wpList_load_row rfl 32 _ rfl w.heap.size rfl 32 (wishv v) (0, 0) _ M6.out.wish.row Try.underlying32 rfl info_wish ?_))
              refine (LSk.out _).mono ?_
              rintro e w8 ⟨rfl, k8⟩
              have M8 := hide (M6.out.kp k8)
              clear k8
              go_wp2_with fail
              refine (GET.out _ M8.out.grid).mono ?_
              rintro e w9 ⟨rfl, k9⟩
              have M9 := hide (M8.out.kp k9)
              clear k9
              by_cases hz : sv = 0
              · have nz : (sv == 0) = true := by simpa using hz
                have nz2 : (sv != 0) = false := by simpa using hz
                rw [if_pos hz] at HSN
                clear hz
                go_wp2_with fail
                go_roundg (gk - 1)
                case measure => omega
                case rel => exact ⟨i + 1, by omega, by omega, by rw [show j * W + (i + 1) = j * W + i + 1 from rfl, HSN.out]; rfl, by go_num, M9.out⟩
              · have nz : (sv == 0) = false := by simpa using hz
                have nz2 : (sv != 0) = true := by simpa using hz
                rw [if_neg hz] at HSN
                clear hz
                go_wp2_with fail
                go_roundg (gk - 1)
                case measure => omega
                case rel => exact ⟨i + 1, by omega, by omega, by rw [show j * W + (i + 1) = j * W + i + 1 from rfl, HSN.out]; go_num, by go_num, M9.out⟩
          · have bi : ((i : Int) == (a : Int)) = false := by simp; omega
            have HSV : Hid (S'.getD (j * W + i) 0 = stP v p.c (j * W + i)) := by
              show _ = _
              rw [HGET.out (j * W + i) klt kHW]
              rw [if_neg (by intro e; exact ia (flat_inj hi ha e).1.symm)]
            have GET : Hid (∀ wx, GrAt wx q (preOf (Pu.ruleOf p) (Pu.shapeOf p) 0) p.w p.h 0 0 S' → Calls Try.prog 20 #[.pointer (some ⟨q, 0, none⟩), .int .i64 i, .int .i64 j] wx fun e w' => e = .returned (.int .i64 (stP v p.c (j * W + i))) ∧ Kp (fun _ => False) wx w') := by
              intro wx hx
              have := LG.out wx hx i j (by have := EW.out; omega) (by have := EH.out; omega)
              rw [e2.out, HSV.out] at this
              exact this
            rw [HSV.out] at HSN
            clear HSV
            clear ia
            generalize stP v p.c (j * W + i) = sv at LSk GET HSN
            go_wp2_with (first
              | (refine wpList_load_row rfl 34 _ rfl w2.heap.size rfl 34 (planv p) (0, 0) _ M6.out.plan.row Try.underlying34 rfl info_plan ?_)
              | (refine wpList_load_row rfl 32 _ rfl w.heap.size rfl 32 (wishv v) (0, 0) _ M6.out.wish.row Try.underlying32 rfl info_wish ?_))
            refine (LSk.out _).mono ?_
            rintro e w8 ⟨rfl, k8⟩
            have M8 := hide (M6.out.kp k8)
            clear k8
            go_wp2_with fail
            refine (GET.out _ M8.out.grid).mono ?_
            rintro e w9 ⟨rfl, k9⟩
            have M9 := hide (M8.out.kp k9)
            clear k9
            by_cases hz : sv = 0
            · have nz : (sv == 0) = true := by simpa using hz
              have nz2 : (sv != 0) = false := by simpa using hz
              rw [if_pos hz] at HSN
              clear hz
              go_wp2_with fail
              go_roundg (gk - 1)
              case measure => omega
              case rel => exact ⟨i + 1, by omega, by omega, by rw [show j * W + (i + 1) = j * W + i + 1 from rfl, HSN.out]; rfl, by go_num, M9.out⟩
            · have nz : (sv == 0) = false := by simpa using hz
              have nz2 : (sv != 0) = true := by simpa using hz
              rw [if_neg hz] at HSN
              clear hz
              go_wp2_with fail
              go_roundg (gk - 1)
              case measure => omega
              case rel => exact ⟨i + 1, by omega, by omega, by rw [show j * W + (i + 1) = j * W + i + 1 from rfl, HSN.out]; go_num, by go_num, M9.out⟩
        · have ei : i = W := by omega
          subst ei
          have e1 : j * i + i = (j + 1) * i := by rw [Nat.add_mul]; omega
          rw [e1]
          clear e1
          go_wp2_with fail
          go_roundg (gO - 1)
          case measure => have := HGO.out; omega
          case rel => exact ⟨j + 1, by omega, by have := HGO.out; omega, rfl, by go_num, M6.out⟩
    · have ej : j = H := by omega
      subst ej
      rw [HFAR.out]
      go_wp2_with fail
      refine (wcount_any q _ _ _ _ _ S' _ M5.out.grid).mono ?_
      rintro e w7 ⟨rfl, hw7⟩
      subst w7
      go_wp2_with fail
      go_ret
      exact ⟨rfl, M5.out.keep⟩
end Go.Proofs.Ytiimimclbkjcbaa
