import Derived.Test.YtiimimclbkjcbaaKc
import Derived.Test.YtiimimclbkjcbaaM14
import Derived.Test.YtiimimclbkjcbaaIk
namespace Go.Proofs.Ytiimimclbkjcbaa
open Go.RowKit
open Go.Proofs

theorem planOk_square {p : Pu.Plan} (h : Pu.PlanOk p) (hk : p.kind = 80 ∨ p.kind = 83) : Pu.PlanOk { p with h := p.w } := by
  have hf := h.flat (by omega)
  have hw := h.w
  exact ⟨h.near, h.births, h.lives, h.c, h.kind, h.w, h.w, fun _ => rfl, Or.inl ⟨by show 0 ≤ p.sw; omega, by show p.sw < p.w; omega, hf.2⟩, h.flat, h.klein, h.plain⟩
theorem kinds2 : ∀ k (h : k < ({ data := #[83, 80] } : ByteArray).size), ((({ data := #[83, 80] } : ByteArray)[k]).toNat : Int) ∈ [(80 : Int), 84, 75, 67, 83] := by
  intro k h
  have h5 : k < 2 := h
  have : k = 0 ∨ k = 1 := by omega
  rcases this with rfl | rfl <;> (clear h5; revert h; decide)
theorem kinds2_at {x : Int} (h : ∃ k, ∃ h : k < ({ data := #[83, 80] } : ByteArray).size, x = ((({ data := #[83, 80] } : ByteArray)[k]).toNat : Int)) : x = 80 ∨ x = 83 := by
  obtain ⟨k, hk, rfl⟩ := h
  have h5 : k < 2 := hk
  have : k = 0 ∨ k = 1 := by omega
  rcases this with rfl | rfl
  · right; rfl
  · left; rfl

set_option maxRecDepth 100000 in
set_option maxHeartbeats 2000000 in
theorem turned_walk (hall : ∀ p : Pu.Plan, Pu.PlanOk p → (p.kind = 80 ∨ p.kind = 83) → ∀ W : Nat, p.w = W → p.h = W → RuleOk (Pu.ruleOf p) → ∃ NX, StepsBy p true W W NX)
    (v : Wish) (hv : WishOk v) (n : Int) (hn : i64 n) (w : World) :
    Calls Try.prog 10 #[.agg (wishv v), .int .i64 n] w fun e w' => e = .returned (.bool true) ∧ Kp (fun _ => False) w w' := by
  have HALL := hide hall
  have LPL := hide (fun wx => planned_any v hv { data := #[83, 80] } 8 (by decide) (by decide) kinds2 (by omega) wx)
  have LPK := hide (fun wx => pick_any n 5 wx (by omega) (by omega) hn.1 hn.2)
  have bN := pickP_bd n 5 (by omega)
  generalize pickP n 5 = pn at *
  obtain ⟨pn, rfl⟩ := Int.eq_ofNat_of_zero_le bN.1
  clear hall
  go_enter Try.func10, Try.ntmps10
  go_wp2_with (first
    | (refine wpList_box_row rfl 32 _ rfl (wishv v) rfl ?_
       intro w1 hw1
       have W1 : Hid (WsAt w1 w.heap.size v) := ⟨by rw [hw1]; exact heap_alloc_new _ _⟩
       have K1 : Hid (Kp (fun _ => False) w w1) := by rw [hw1]; exact (Kp.refl _ _).alloc _
       clear hw1)
    | (refine wpList_load_row rfl 32 _ rfl w.heap.size rfl 32 (wishv v) (0, 0) _ W1.out.row Try.underlying32 rfl info_wish ?_))
  refine (LPL.out _).mono ?_
  rintro e w2 ⟨⟨p, rfl, hp, _, _, hkd⟩, k2⟩
  have hk83 := kinds2_at hkd
  have W2 := hide (W1.out.keep k2 (fun hx => hx))
  have K2 := hide (K1.out.trans k2)
  have l2 : w.heap.size < w2.heap.size := (Array.getElem?_eq_some_iff.1 W2.out.row).1
  clear k2 hkd LPL
  go_upto_region 2 with (first
    | (refine wpList_alloc_row rfl 34 rfl (planv zp) zero_plan ?_
       intro w3 hw3
       have W3 : Hid (WsAt w3 w.heap.size v) := by rw [hw3]; exact W2.out.keep ((Kp.refl (fun _ => False) _).alloc _) (fun hx => hx)
       have P3 : Hid (PlAt w3 w2.heap.size zp) := ⟨by rw [hw3]; exact heap_alloc_new _ _⟩
       have K3 : Hid (Kp (fun _ => False) w w3) := by rw [hw3]; exact K2.out.alloc _
       clear hw3)
    | (refine wpList_store_row_g rfl 34 _ _ rfl w2.heap.size (planv p) rfl rfl 34 (planv zp) P3.out.row info_plan rfl (planv_one _) ?_
       intro w4 hw4
       have W4 : Hid (WsAt w4 w.heap.size v) := ⟨by rw [hw4]; exact (setRow_other _ _ _ _ (by omega)).trans W3.out.row⟩
       have P4 : Hid (PlAt w4 w2.heap.size p) := ⟨by rw [hw4]; exact setRow_heap _ _ _ _ _ _ P3.out.row⟩
       have K4 : Hid (Kp (fun _ => False) w w4) := by rw [hw4]; exact K3.out.setRowNew K2.out.size _
       clear hw4))
  clear W3 P3 K3 W2 W1 K1
  have c5 : w4.cell? ⟨w2.heap.size, 5, none⟩ = some (.int .i64 p.w) := P4.out.cell 5
  have c6 : w4.cell? ⟨w2.heap.size, 6, none⟩ = some (.int .i64 p.h) := P4.out.cell 6
  have f6 : w4.frozen? ⟨w2.heap.size, 6, none⟩ = false := frozen_of_row _ _ _ _ _ P4.out.row
  go_upto_region 3 with fail
  have PQ : Hid (PlAt (w4.setCell ⟨w2.heap.size, 6, none⟩ (.int .i64 p.w)) w2.heap.size { p with h := p.w }) := P4.out.set 6 _ { p with h := p.w } rfl
  have WQ : Hid (WsAt (w4.setCell ⟨w2.heap.size, 6, none⟩ (.int .i64 p.w)) w.heap.size v) := ⟨(heap_setCell_other _ _ _ _ (by simp only; omega)).trans W4.out.row⟩
  have KQ : Hid (Kp (fun _ => False) w (w4.setCell ⟨w2.heap.size, 6, none⟩ (.int .i64 p.w))) := K4.out.setNew (by simp only; omega) _
  generalize w4.setCell ⟨w2.heap.size, 6, none⟩ (.int .i64 p.w) = w5 at *
  have hp' := planOk_square hp hk83
  have HNE := hide hk83
  clear c5 c6 f6 P4 W4 K4 hk83
  obtain ⟨z, hz⟩ : ∃ z : Pu.Plan, z = { p with h := p.w } := ⟨_, rfl⟩
  rw [← hz] at PQ hp'
  have HZ := hide hz
  have hzk : z.kind = 80 ∨ z.kind = 83 := by rw [hz]; exact HNE.out
  have hz1 : z.h = z.w := by rw [hz]
  have HZK := hide hzk
  have HZ1 := hide hz1
  clear hz hzk hz1
  have LM1 := hide (fun wx => pmade_any z hp' v hv.cells wx)
  have LM2 := hide (fun wx => pmade_any z hp' zw (by decide) wx)
  go_wp2_with (first
    | (refine wpList_load_row rfl 34 _ rfl w2.heap.size rfl 34 (planv z) (0, 0) _ PQ.out.row Try.underlying34 rfl info_plan ?_)
    | (refine wpList_load_row rfl 32 _ rfl w.heap.size rfl 32 (wishv v) (0, 0) _ WQ.out.row Try.underlying32 rfl info_wish ?_))
  refine (LM1.out _).mono ?_
  rintro e w6 ⟨⟨qu, rfl, hqu, rk, gu⟩, k6⟩
  have P6 := hide (PQ.out.keep k6 (fun hx => hx))
  have K6 := hide (KQ.out.trans k6)
  have GU := hide gu
  have RK := hide rk
  have qul := gu.lt
  have s5 := KQ.out.size
  clear k6 gu rk
  go_wp2_with (first
    | (refine wpList_load_row rfl 34 _ rfl w2.heap.size rfl 34 (planv z) (0, 0) _ P6.out.row Try.underlying34 rfl info_plan ?_)
    | (refine wpList_build0 rfl 32 rfl (wishv zw) build_zw ?_))
  refine (LM2.out _).mono ?_
  rintro e w7 ⟨⟨qw, rfl, hqw, _, gw⟩, k7⟩
  have P7 := hide (P6.out.keep k7 (fun hx => hx))
  have K7 := hide (K6.out.trans k7)
  have GU7 := hide (GU.out.keep k7 (fun hx => hx))
  have GW7 := hide gw
  clear k7 gw
  obtain ⟨W, hW⟩ := Int.eq_ofNat_of_zero_le (show 0 ≤ z.w by have := hp'.w; omega)
  have hH : z.h = W := by rw [HZ1.out, hW]
  obtain ⟨NX, hNX⟩ := HALL.out z hp' HZK.out W hW hH RK.out
  have hqne : qu ≠ qw := by omega
  have LMT := hide (fun (wx : World) (hgu : GrAt wx qu (preOf (Pu.ruleOf z) (Pu.shapeOf z) 0) z.w z.h 0 0 (fillS v z.c (z.h * z.w).toNat)) (hgw : GrAt wx qw (preOf (Pu.ruleOf z) (Pu.shapeOf z) 0) z.w z.h 0 0 (fillS zw z.c (z.h * z.w).toNat)) => matched_any z hp' RK.out W W hW hH true (fun _ => rfl) NX hNX.step hNX.ok hNX.rel qu qw hqne _ _ (fillS_ok v z hp' _) (fillS_ok zw z hp' _) pn (by omega) wx hgu hgw)
  generalize fillS v z.c (z.h * z.w).toNat = Su at *
  generalize fillS zw z.c (z.h * z.w).toNat = Sw at *
  have c0 : w7.cell? ⟨w2.heap.size, 0, none⟩ = some (.int .u8 z.near) := P7.out.cell 0
  have c1 : w7.cell? ⟨w2.heap.size, 1, none⟩ = some (.int .i64 z.births) := P7.out.cell 1
  have c2 : w7.cell? ⟨w2.heap.size, 2, none⟩ = some (.int .i64 z.lives) := P7.out.cell 2
  have c3 : w7.cell? ⟨w2.heap.size, 3, none⟩ = some (.int .i64 z.c) := P7.out.cell 3
  have c4 : w7.cell? ⟨w2.heap.size, 4, none⟩ = some (.int .u8 z.kind) := P7.out.cell 4
  have c5 : w7.cell? ⟨w2.heap.size, 5, none⟩ = some (.int .i64 z.w) := P7.out.cell 5
  have c6 : w7.cell? ⟨w2.heap.size, 6, none⟩ = some (.int .i64 z.h) := P7.out.cell 6
  have c7 : w7.cell? ⟨w2.heap.size, 7, none⟩ = some (.int .i64 z.sw) := P7.out.cell 7
  have c8 : w7.cell? ⟨w2.heap.size, 8, none⟩ = some (.int .i64 z.sh) := P7.out.cell 8
  have c9 : w7.cell? ⟨w2.heap.size, 9, none⟩ = some (.bool z.star) := P7.out.cell 9
  have c10 : w7.cell? ⟨w2.heap.size, 10, none⟩ = some (.bool z.starH) := P7.out.cell 10
  clear hNX hW hH
  go_upto_region 7 with fail
  go_region_with (first
    | (go_at_call 15; refine (LPK.out _).mono ?_; rintro e w8 ⟨rfl, hw8⟩; subst w8)
    | (go_at_call 25; refine (LMT.out _ (GU7.out.drewN _) (GW7.out.drewN _)).mono ?_; rintro e w8 ⟨rfl, k8⟩))
  all_goals
    go_wp2_with fail
    go_ret
    exact ⟨rfl, (K7.out.drewN _).tr k8 (by intro zz hz1 hz2; omega)⟩
end Go.Proofs.Ytiimimclbkjcbaa
namespace Go.Proofs.Ytiimimclbkjcbaa
open Go.RowKit
open Go.Proofs

/-- What Get tells where every pair of numbers folds. -/
def foldG (x : Pu.Shape) (S : List Int) (X Y : Int) : Int := getP x.w x.h 0 0 S (foldX x X Y) (foldY x X Y)
theorem split_of {n q r : Int} (hn : 0 < n) (h0 : 0 ≤ r) (h1 : r < n) : splitQ (q * n + r) n = q ∧ splitR (q * n + r) n = r := by
  unfold splitQ splitR
  rw [if_neg (by omega), if_neg (by omega)]
  constructor
  · rw [Int.add_comm, Int.add_mul_ediv_right _ _ (by omega), Int.ediv_eq_zero_of_lt h0 h1, Int.zero_add]
  · rw [Int.add_comm, Int.add_mul_emod_self_right, Int.emod_eq_of_lt h0 h1]
theorem split_eq (a n : Int) (hn : 0 < n) : a = splitQ a n * n + splitR a n := by
  unfold splitQ splitR
  rw [if_neg (by omega), if_neg (by omega)]
  have := Int.mul_ediv_add_emod a n
  rw [Int.mul_comm] at this
  omega
theorem shiftP_bd {a k s n : Int} (h : 0 ≤ a ∧ a < n) : 0 ≤ shiftP a k s n ∧ shiftP a k s n < n := by
  unfold shiftP
  split
  · exact h
  · exact ⟨Int.emod_nonneg _ (by omega), Int.emod_lt_of_pos _ (by omega)⟩
theorem fold_bd {x : Pu.Shape} (h : Two x) (X Y : Int) : (0 ≤ foldX x X Y ∧ foldX x X Y < x.w) ∧ (0 ≤ foldY x X Y ∧ foldY x X Y < x.h) := by
  obtain ⟨h1, h2, h3, h4⟩ := h
  exact ⟨shiftP_bd (turnP_bd (splitR_bd h1)), shiftP_bd (turnP_bd (splitR_bd h3))⟩
theorem getP_two {x : Pu.Shape} (h : Two x) (S : List Int) {a b : Int} (ha : 0 ≤ a ∧ a < x.w) (hb : 0 ≤ b ∧ b < x.h) : getP x.w x.h 0 0 S a b = S.getD (b * x.w + a).toNat 0 := by
  have sl := slot_two h ha hb
  unfold getP
  rw [sl.1, if_neg (by omega)]
theorem flat_nat (W : Nat) (i j : Nat) (w : Int) (hw : w = W) : ((j : Int) * w + (i : Int)).toNat = j * W + i := by
  rw [hw, ← Int.natCast_mul, ← Int.natCast_add]
  rfl
/-- A cell of the second world is the first one's in the mirror. -/
theorem rel_mirror {x : Pu.Shape} (h : Two x) {W H : Nat} (hW : x.w = W) (hH : x.h = H) {Su Sw : List Int} (hr : RelU false W Su Sw (H * W)) {a b : Int} (ha : 0 ≤ a ∧ a < x.w) (hb : 0 ≤ b ∧ b < x.h) : getP x.w x.h 0 0 Sw a b = getP x.w x.h 0 0 Su (x.w - 1 - a) b := by
  obtain ⟨i, rfl⟩ := Int.eq_ofNat_of_zero_le ha.1
  obtain ⟨j, rfl⟩ := Int.eq_ofNat_of_zero_le hb.1
  have hi : i < W := by omega
  have hj : j < H := by omega
  have e : x.w - 1 - (i : Int) = ((W - 1 - i : Nat) : Int) := by omega
  rw [e, getP_two h Sw ha hb, getP_two h Su (by omega) hb, flat_nat W i j x.w hW, flat_nat W (W - 1 - i) j x.w hW]
  have hk : j * W + (W - 1 - i) < H * W := by
    have h1 : (j + 1) * W ≤ H * W := Nat.mul_le_mul_right W hj
    rw [Nat.add_mul] at h1
    omega
  have := hr (W - 1 - i) j (by omega) hk
  unfold TX TY at this
  rw [if_neg (by simp), if_neg (by simp), show W - 1 - (W - 1 - i) = i by omega] at this
  exact this
theorem rel_turn {x : Pu.Shape} (h : Two x) {W : Nat} (hW : x.w = W) (hH : x.h = W) {Su Sw : List Int} (hr : RelU true W Su Sw (W * W)) {a b : Int} (ha : 0 ≤ a ∧ a < x.w) (hb : 0 ≤ b ∧ b < x.h) : getP x.w x.h 0 0 Sw a b = getP x.w x.h 0 0 Su b a := by
  obtain ⟨i, rfl⟩ := Int.eq_ofNat_of_zero_le ha.1
  obtain ⟨j, rfl⟩ := Int.eq_ofNat_of_zero_le hb.1
  have hi : i < W := by omega
  have hj : j < W := by omega
  rw [getP_two h Sw ha hb, getP_two h Su (by omega) (by omega), flat_nat W i j x.w hW, flat_nat W j i x.w hW]
  have hk : i * W + j < W * W := by
    have h1 : (i + 1) * W ≤ W * W := Nat.mul_le_mul_right W hi
    rw [Nat.add_mul] at h1
    omega
  have := hr j i hj hk
  unfold TX TY at this
  rw [if_pos rfl, if_pos rfl] at this
  exact this
theorem plane_mirror {x : Pu.Shape} (h : Two x) {W H : Nat} (hW : x.w = W) (hH : x.h = H) {Su Sw : List Int} (hr : RelU false W Su Sw (H * W)) (X Y : Int) : planeG x Sw X Y = planeG x Su ((W : Int) - 1 - X) Y := by
  unfold planeG
  have e : hasB x X Y = hasB x ((W : Int) - 1 - X) Y := by
    unfold hasB onSideB
    obtain ⟨h1, h2, h3, h4⟩ := h
    rw [Bool.eq_iff_iff]
    simp
    omega
  rw [← e]
  by_cases hb : hasB x X Y = true
  · rw [if_pos hb, if_pos hb]
    unfold hasB onSideB at hb
    obtain ⟨h1, h2, h3, h4⟩ := h
    simp at hb
    rw [rel_mirror ⟨h1, h2, h3, h4⟩ hW hH hr (by omega) (by omega), hW]
  · rw [if_neg hb, if_neg hb]
theorem plane_turn {x : Pu.Shape} (h : Two x) {W : Nat} (hW : x.w = W) (hH : x.h = W) {Su Sw : List Int} (hr : RelU true W Su Sw (W * W)) (X Y : Int) : planeG x Sw X Y = planeG x Su Y X := by
  unfold planeG
  have e : hasB x X Y = hasB x Y X := by
    unfold hasB onSideB
    rw [Bool.eq_iff_iff, hW, hH]
    simp
    omega
  rw [← e]
  by_cases hb : hasB x X Y = true
  · rw [if_pos hb, if_pos hb]
    unfold hasB onSideB at hb
    obtain ⟨h1, h2, h3, h4⟩ := h
    simp at hb
    rw [rel_turn ⟨h1, h2, h3, h4⟩ hW hH hr (by omega) (by omega)]
  · rw [if_neg hb, if_neg hb]
theorem turnP_mirror (t : Bool) (k n c : Int) : turnP t k n (n - 1 - c) = n - 1 - turnP t k n c := by
  unfold turnP
  split <;> omega
theorem turnP_parity (t : Bool) {k k' : Int} (h : k % 2 = k' % 2) (n c : Int) : turnP t k n c = turnP t k' n c := by
  unfold turnP
  rw [h]
theorem fold_mirror {x : Pu.Shape} (h : Two x) (h1 : x.ws = 0) (h2 : x.hs = 0) (X Y : Int) : foldX x (x.w - 1 - X) Y = x.w - 1 - foldX x X Y ∧ foldY x (x.w - 1 - X) Y = foldY x X Y := by
  obtain ⟨t1, t2, t3, t4⟩ := h
  have e := split_eq X x.w t1
  have b := splitR_bd (a := X) t1
  have e2 : x.w - 1 - X = (-splitQ X x.w) * x.w + (x.w - 1 - splitR X x.w) := by
    rw [Int.neg_mul]
    omega
  have s := split_of (q := -splitQ X x.w) t1 (show 0 ≤ x.w - 1 - splitR X x.w by omega) (by omega)
  rw [← e2] at s
  unfold foldX foldY shiftP
  rw [if_pos h1, if_pos h1, if_pos h2, if_pos h2, s.1, s.2]
  exact ⟨turnP_mirror _ _ _ _, turnP_parity _ (by omega) _ _⟩
theorem foldG_mirror {x : Pu.Shape} (h : Two x) (h1 : x.ws = 0) (h2 : x.hs = 0) {W H : Nat} (hW : x.w = W) (hH : x.h = H) {Su Sw : List Int} (hr : RelU false W Su Sw (H * W)) (X Y : Int) : foldG x Sw X Y = foldG x Su ((W : Int) - 1 - X) Y := by
  unfold foldG
  have f := fold_mirror h h1 h2 X Y
  have b := fold_bd h X Y
  rw [rel_mirror h hW hH hr b.1 b.2, ← hW, f.1, f.2]

/-- The heart of it: around the cell to which (x, y) folds lies what lies around (x, y), in the mirror or not. -/
theorem fold_around {x : Pu.Shape} (h : Two x) (h1 : x.ws = 0) (h2 : x.hs = 0) (X Y dx dy : Int) :
    foldX x (foldX x X Y + dx) (foldY x X Y + dy) = foldX x (if turnW x = true ∧ splitQ Y x.h % 2 = 1 then X - dx else X + dx) (if turnH x = true ∧ splitQ X x.w % 2 = 1 then Y - dy else Y + dy) ∧
    foldY x (foldX x X Y + dx) (foldY x X Y + dy) = foldY x (if turnW x = true ∧ splitQ Y x.h % 2 = 1 then X - dx else X + dx) (if turnH x = true ∧ splitQ X x.w % 2 = 1 then Y - dy else Y + dy) := by
  obtain ⟨t1, t2, t3, t4⟩ := h
  have eX := split_eq X x.w t1
  have bX := splitR_bd (a := X) t1
  have eY := split_eq Y x.h t3
  have bY := splitR_bd (a := Y) t3
  have fX : foldX x X Y = if turnW x = true ∧ splitQ Y x.h % 2 = 1 then x.w - 1 - splitR X x.w else splitR X x.w := by unfold foldX shiftP turnP; rw [if_pos h1]
  have fY : foldY x X Y = if turnH x = true ∧ splitQ X x.w % 2 = 1 then x.h - 1 - splitR Y x.h else splitR Y x.h := by unfold foldY shiftP turnP; rw [if_pos h2]
  generalize splitQ X x.w = a at *
  generalize splitR X x.w = x0 at *
  generalize splitQ Y x.h = b at *
  generalize splitR Y x.h = y0 at *
  generalize hU : foldX x X Y + dx = U at *
  generalize hV : foldY x X Y + dy = V at *
  have eU := split_eq U x.w t1
  have bU := splitR_bd (a := U) t1
  have eV := split_eq V x.h t3
  have bV := splitR_bd (a := V) t3
  generalize hau : splitQ U x.w = a' at *
  generalize hu0 : splitR U x.w = u0 at *
  generalize hbv : splitQ V x.h = b' at *
  generalize hv0 : splitR V x.h = v0 at *
  have m1 : (a + a') * x.w = a * x.w + a' * x.w := Int.add_mul _ _ _
  have m2 : (a - a') * x.w = a * x.w - a' * x.w := Int.sub_mul _ _ _
  have m3 : (b + b') * x.h = b * x.h + b' * x.h := Int.add_mul _ _ _
  have m4 : (b - b') * x.h = b * x.h - b' * x.h := Int.sub_mul _ _ _
  have sX : ∃ A c0, splitQ (if turnW x = true ∧ b % 2 = 1 then X - dx else X + dx) x.w = A ∧ splitR (if turnW x = true ∧ b % 2 = 1 then X - dx else X + dx) x.w = c0 ∧ A % 2 = (a + a') % 2 ∧ c0 = (if turnW x = true ∧ b % 2 = 1 then x.w - 1 - u0 else u0) := by
    by_cases c : turnW x = true ∧ b % 2 = 1
    · rw [if_pos c] at fX ⊢
      have e : X - dx = (a - a') * x.w + (x.w - 1 - u0) := by omega
      have s := split_of (q := a - a') t1 (show 0 ≤ x.w - 1 - u0 by omega) (by omega)
      rw [← e] at s
      exact ⟨_, _, s.1, s.2, by omega, by rw [if_pos c]⟩
    · rw [if_neg c] at fX ⊢
      have e : X + dx = (a + a') * x.w + u0 := by omega
      have s := split_of (q := a + a') t1 bU.1 bU.2
      rw [← e] at s
      exact ⟨_, _, s.1, s.2, by omega, by rw [if_neg c]⟩
  have sY : ∃ B d0, splitQ (if turnH x = true ∧ a % 2 = 1 then Y - dy else Y + dy) x.h = B ∧ splitR (if turnH x = true ∧ a % 2 = 1 then Y - dy else Y + dy) x.h = d0 ∧ B % 2 = (b + b') % 2 ∧ d0 = (if turnH x = true ∧ a % 2 = 1 then x.h - 1 - v0 else v0) := by
    by_cases c : turnH x = true ∧ a % 2 = 1
    · rw [if_pos c] at fY ⊢
      have e : Y - dy = (b - b') * x.h + (x.h - 1 - v0) := by omega
      have s := split_of (q := b - b') t3 (show 0 ≤ x.h - 1 - v0 by omega) (by omega)
      rw [← e] at s
      exact ⟨_, _, s.1, s.2, by omega, by rw [if_pos c]⟩
    · rw [if_neg c] at fY ⊢
      have e : Y + dy = (b + b') * x.h + v0 := by omega
      have s := split_of (q := b + b') t3 bV.1 bV.2
      rw [← e] at s
      exact ⟨_, _, s.1, s.2, by omega, by rw [if_neg c]⟩
  obtain ⟨A, c0, q1, q2, q3, q4⟩ := sX
  obtain ⟨B, d0, p1, p2, p3, p4⟩ := sY
  unfold foldX foldY shiftP
  rw [if_pos h1, if_pos h1, if_pos h2, if_pos h2, q1, q2, p1, p2, hau, hu0, hbv, hv0]
  unfold turnP
  clear fX fY hU hV eX eY eU eV m1 m2 m3 m4 q1 q2 p1 p2 hau hu0 hbv hv0
  subst q4
  subst p4
  generalize turnW x = tw
  generalize turnH x = th
  have pa : a % 2 = 0 ∨ a % 2 = 1 := by omega
  have pb : b % 2 = 0 ∨ b % 2 = 1 := by omega
  have pa' : a' % 2 = 0 ∨ a' % 2 = 1 := by omega
  have pb' : b' % 2 = 0 ∨ b' % 2 = 1 := by omega
  have pA : A % 2 = 0 ∨ A % 2 = 1 := by omega
  have pB : B % 2 = 0 ∨ B % 2 = 1 := by omega
  constructor
  · cases tw
    · simp only [Bool.false_eq_true, false_and, if_false]
    · simp only [true_and]
      rcases pb with e | e <;> rcases pb' with e' | e' <;> rcases pB with e2 | e2 <;> simp only [e, e', e2] <;> simp <;> omega
  · cases th
    · simp only [Bool.false_eq_true, false_and, if_false]
    · simp only [true_and]
      rcases pa with e | e <;> rcases pa' with e' | e' <;> rcases pA with e2 | e2 <;> simp only [e, e', e2] <;> simp <;> omega
end Go.Proofs.Ytiimimclbkjcbaa
