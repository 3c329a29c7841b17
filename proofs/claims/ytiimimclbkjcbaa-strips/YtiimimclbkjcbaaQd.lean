import Derived.Test.YtiimimclbkjcbaaM9
import Derived.Test.YtiimimclbkjcbaaM11
namespace Go.Proofs.Pu

/-- A plan with one open side. -/
structure OpenOk (p : Plan) : Prop where
  near : p.near = 77 ∨ p.near = 86 ∨ p.near = 72
  births : p.births < 2 ^ (mostOf p.near + 1)
  lives : p.lives < 2 ^ (mostOf p.near + 1)
  c : 2 ≤ p.c ∧ p.c ≤ 9
  kind : p.kind = 80 ∨ p.kind = 84
  sides : (p.w = 0 ∧ 1 ≤ p.h ∧ p.h ≤ 12) ∨ (p.h = 0 ∧ 1 ≤ p.w ∧ p.w ≤ 12)
  flat : p.sw = 0 ∧ p.sh = 0
  star : p.star = false ∧ p.starH = false
theorem OpenOk.twin {p : Plan} (h : OpenOk p) : PlanOk { p with w := 1, h := 1, kind := 80 } := by
  have hf := h.flat
  exact ⟨h.near, h.births, h.lives, h.c, by simp, by simp, by simp, fun _ => rfl, Or.inl ⟨by show 0 ≤ p.sw; omega, by show p.sw < 1; omega, hf.2⟩, fun _ => hf, fun e => by simp at e, fun _ => h.star⟩
theorem sideL_plain (n : Int) : sideL n 0 false = numL n ++ [] := by unfold sideL; rw [if_neg (by omega)]; simp
theorem ok_zero {n : Int} (h : 0 ≤ n ∧ n ≤ 12) : okNum 0 12 (dec n) n := by
  obtain ⟨k, rfl⟩ := Int.eq_ofNat_of_zero_le h.1
  exact ok_side0 k (by omega)
theorem rdz_shift0 (n : Int) {a : Int} (ha : a ≠ 43) (M : List Int) : Rdz (shift n) [] 0 (a :: M) := by
  unfold shift
  split
  · exact rdz_ret _ _
  · exact Rdz.bnd (q := fun b => if b = true then number 1 (n - 1) else ret 0) (L1 := []) (L2 := []) (rdz_opt_no ha M) (rdz_ret 0 _)
theorem rdz_width0 {p : Plan} (h : OpenOk p) (M : List Int) : Rdz (width p.kind) (sideL p.w p.sw p.star) (p.w, p.sw, p.star) (44 :: M) := by
  rw [h.flat.1, h.star.1, sideL_plain]
  have hs := h.sides
  unfold width
  refine Rdz.bnd (a := p.w) ?_ ?_
  · have e : leastSide p.kind = 0 := by unfold leastSide; rw [if_pos h.kind]
    rw [e]
    exact rdz_number (ok_zero (by omega)) (by unfold noDigit; omega) M
  · rw [if_neg (by have := h.kind; omega)]
    split
    · exact Rdz.bnd (q := fun s => ret (p.w, s, false)) (L1 := []) (L2 := []) (rdz_shift0 p.w (by omega) M) (rdz_ret _ _)
    · exact rdz_ret _ _
theorem rdz_height0 {p : Plan} (h : OpenOk p) (M : List Int) : Rdz (height p.kind p.w p.sw p.star) (sideL p.h p.sh p.starH) (p.h, p.sh, p.starH) (32 :: M) := by
  rw [h.flat.1, h.flat.2, h.star.1, h.star.2, sideL_plain]
  have hs := h.sides
  have hk := h.kind
  unfold height
  refine Rdz.bnd (a := p.h) ?_ ?_
  · have e2 : rowHigh p.kind p.w = 12 := by unfold rowHigh; rw [if_neg (by omega)]
    rw [e2]
    have ok : okNum (rowLow p.kind p.w 0) 12 (dec p.h) p.h := by
      unfold rowLow
      rw [if_neg (by omega)]
      by_cases z : p.w = 0
      · rw [if_pos (Or.inl z)]
        exact ok_side (Or.inr rfl) (by omega)
      · rw [if_neg (by omega)]
        unfold leastSide
        rw [if_pos hk]
        exact ok_zero (by omega)
    exact rdz_number ok (by unfold noDigit; omega) M
  · rw [if_neg (by omega)]
    split
    · exact rdz_ret _ _
    · exact Rdz.bnd (q := fun s => ret (p.h, s, false)) (L1 := []) (L2 := []) (rdz_shift0 p.h (by omega) M) (rdz_ret _ _)
theorem rdz_shape0 {p : Plan} (h : OpenOk p) (M : List Int) : Rdz shape (shapeL p) (shapeOf p) (32 :: M) := by
  unfold shape shapeL
  refine Rdz.bnd (rdz_letter (by rcases h.kind with e | e <;> rw [e] <;> simp) _) ?_
  refine Rdz.bnd (rdz_width0 h _) ?_
  refine Rdz.bnd (rdz_take 44 _) ?_
  exact rdz_nil (Rdz.bnd (rdz_height0 h M) (rdz_ret _ _))
theorem rdz_rule0 {p : Plan} (h : OpenOk p) (M : List Int) : Rdz rule (ruleL p) (ruleOf p) (32 :: M) := rdz_rule h.twin M
theorem rdz_head0 {p : Plan} (h : OpenOk p) (M : List Int) : Rdz head (ruleL p ++ ([32] ++ (shapeL p ++ [32, 48, 32]))) (ruleOf p, shapeOf p, 0) M := by
  unfold head
  refine Rdz.bnd (rdz_rule0 h _) ?_
  refine Rdz.bnd (rdz_take 32 _) ?_
  refine Rdz.bnd (rdz_shape0 h _) ?_
  refine Rdz.bnd (L1 := [32]) (L2 := [48, 32]) (rdz_take _ _) ?_
  refine Rdz.bnd (L1 := [48]) (L2 := [32]) (rdz_number ok_age (by unfold noDigit; omega) _) ?_
  exact Rdz.bnd (L1 := [32]) (L2 := []) (rdz_take _ _) (rdz_ret _ _)
theorem rdz_pre0 {p : Plan} (h : OpenOk p) : Rdz pre ((ruleL p ++ ([32] ++ (shapeL p ++ [32, 48, 32]))) ++ [48, 44, 48, 32]) ((ruleOf p, shapeOf p, 0), (0, 0)) [33, -1] := by
  unfold pre
  refine Rdz.bnd (rdz_head0 h _) ?_
  exact rdz_nil (Rdz.bnd rdz_place (rdz_ret _ _))
theorem read_open {p : Plan} (h : OpenOk p) (f : Src) (hf : Fits f 0 (textL p ++ [-1])) : read f = ((textL p).length, some (partsOf p)) := by
  have e : textL p = ((ruleL p ++ ([32] ++ (shapeL p ++ [32, 48, 32]))) ++ [48, 44, 48, 32]) ++ [33] := by simp [textL]
  rw [e] at hf ⊢
  rw [List.append_assoc] at hf
  have h1 := rdz_pre0 h f 0 hf
  obtain ⟨c1, c2, -⟩ := hf.app.2
  have h2 := read_of h1 (body_bang p.c 400 f _ c1 c2)
  rw [h2, Nat.zero_add]
  simp only [List.length_append, List.length_cons, List.length_nil]
  rfl
end Go.Proofs.Pu
namespace Go.Proofs.Ytiimimclbkjcbaa
open Go.RowKit
open Go.Proofs

theorem bits_open {p : Pu.Plan} (h : Pu.OpenOk p) : p.births < 512 ∧ p.lives < 512 := by have := bits_bd h.twin; exact this
theorem open_bytes {p : Pu.Plan} (h : Pu.OpenOk p) : ∀ x, x ∈ Pu.textL p → 0 ≤ x ∧ x < 256 := by
  intro x hx
  have hn : 0 ≤ p.near ∧ p.near < 256 := by have := h.near; omega
  have hk : 0 ≤ p.kind ∧ p.kind < 256 := by have := h.kind; omega
  have hc := h.c
  have hw := h.sides
  have ht := h.flat
  unfold Pu.textL Pu.ruleL Pu.shapeL at hx
  simp only [List.mem_append, List.mem_singleton, or_assoc] at hx
  rcases hx with rfl | rfl | hx | rfl | rfl | hx | hx | rfl | rfl | hx | rfl | hx | hx
  · exact hn
  · omega
  · exact bits_bytes _ x hx
  · omega
  · omega
  · exact bits_bytes _ x hx
  · split at hx
    · simp at hx; omega
    · simp at hx
  · omega
  · exact hk
  · exact side_bytes (by omega) (by omega) x hx
  · omega
  · exact side_bytes (by omega) (by omega) x hx
  · simp at hx; omega
set_option maxRecDepth 100000 in
set_option maxHeartbeats 1000000 in
theorem ptext_open (p : Pu.Plan) (hp : Pu.OpenOk p) (w : World) :
    Calls Try.prog 26 #[.agg (planv p)] w fun e w' => e = .returned (.string (bstr (Pu.textL p))) ∧ Kp (fun _ => False) w w' := by
  have nb : 0 ≤ p.near ∧ p.near < 256 := by have := hp.near; omega
  have kb : 0 ≤ p.kind ∧ p.kind < 256 := by have := hp.kind; omega
  have bb := bits_open hp
  have hw := hp.sides
  have hc := hp.c
  have hto := hp.flat
  have z1 := bits_size p.births
  have z2 := bits_size p.lives
  have z3 := side_size p.w p.sw p.star
  have z4 := side_size p.h p.sh p.starH
  have z5 := bstr1_size p.near
  have z6 := bstr1_size p.kind
  have z7 := bstr1_size (48 + p.c)
  have L1 := hide (fun wx => lset_any p.births wx bb.1)
  have L2 := hide (fun wx => lset_any p.lives wx bb.2)
  have L3 := hide (fun wx => lside_any p.w p.sw p.star wx (by omega) (by omega) (by omega) (by omega))
  have L4 := hide (fun wx => lside_any p.h p.sh p.starH wx (by omega) (by omega) (by omega) (by omega))
  have EQ : Hid (bstr (Pu.textL p) = bstr [p.near] ++ bstr [66] ++ bstr ((Pu.bitL p.births).map (· + 48)) ++ bstr [47, 83] ++ bstr ((Pu.bitL p.lives).map (· + 48)) ++ bstr (if 2 < p.c then [47, 48 + p.c] else []) ++ bstr [32] ++ bstr [p.kind] ++ bstr (Pu.sideL p.w p.sw p.star) ++ bstr [44] ++ bstr (Pu.sideL p.h p.sh p.starH) ++ bstr [32, 48, 32, 48, 44, 48, 32, 33]) := by
    show _ = _
    simp only [bstr_app]
    congr 1
    simp [Pu.textL, Pu.ruleL, Pu.shapeL]
  rw [EQ.out]
  clear EQ
  generalize bstr ((Pu.bitL p.births).map (· + 48)) = B1 at *
  generalize bstr ((Pu.bitL p.lives).map (· + 48)) = B2 at *
  generalize bstr (Pu.sideL p.w p.sw p.star) = B3 at *
  generalize bstr (Pu.sideL p.h p.sh p.starH) = B4 at *
  by_cases h2 : 2 < p.c
  · have EQ : Hid (bstr [p.near] ++ bstr [66] ++ B1 ++ bstr [47, 83] ++ B2 ++ bstr (if 2 < p.c then [47, 48 + p.c] else []) = bstr [p.near] ++ bstr [66] ++ B1 ++ bstr [47, 83] ++ B2 ++ bstr [47] ++ bstr [48 + p.c]) := by
      show _ = _
      rw [if_pos h2, ByteArray.append_assoc (b := bstr [47]), bstr_app]
      rfl
    rw [EQ.out]
    clear EQ hto
    go_enter Try.func26, Try.ntmps26
    go_wp2_with (refine wpList_box_row rfl 34 _ rfl (planv p) rfl ?_
                 intro w1 hw1
                 have P1 : Hid (PlAt w1 w.heap.size p) := ⟨by rw [hw1]; exact heap_alloc_new _ _⟩
                 have K1 : Hid (Kp (fun _ => False) w w1) := by rw [hw1]; exact (Kp.refl _ _).alloc _
                 have c1 : w1.cell? ⟨w.heap.size, 1, none⟩ = some (.int .i64 p.births) := P1.out.cell 1
                 clear hw1)
    refine (L1.out _).mono ?_
    rintro e w2 ⟨rfl, k2⟩
    have P2 := hide (P1.out.keep k2 (fun hx => hx))
    have K2 := hide (K1.out.trans k2)
    have c2 : w2.cell? ⟨w.heap.size, 2, none⟩ = some (.int .i64 p.lives) := P2.out.cell 2
    clear k2 c1
    go_wp2_with fail
    refine (L2.out _).mono ?_
    rintro e w3 ⟨rfl, k3⟩
    have PX := hide (P2.out.keep k3 (fun hx => hx))
    have KX := hide (K2.out.trans k3)
    have d0 : w3.cell? ⟨w.heap.size, 0, none⟩ = some (.int .u8 p.near) := PX.out.cell 0
    clear k3 c2
    go_wp2_with (refine wpList_conv2 rfl 72 9 _ rfl _ _ rfl (conv1 _ _ (by omega) (by omega)) ?_
                 intro wz hwz
                 have PZ : Hid (PlAt wz w.heap.size p) := by rw [hwz]; exact PX.out.keep ((Kp.refl (fun _ => False) _).alloc _) (fun hx => hx)
                 have KZ : Hid (Kp (fun _ => False) w wz) := by rw [hwz]; exact KX.out.alloc _
                 clear hwz PX KX
                 have PX := PZ
                 have KX := KZ
                 clear PZ KZ
                 have d3 : wz.cell? ⟨w.heap.size, 3, none⟩ = some (.int .i64 p.c) := PX.out.cell 3
                 have d5 : wz.cell? ⟨w.heap.size, 5, none⟩ = some (.int .i64 p.w) := PX.out.cell 5
                 have d7 : wz.cell? ⟨w.heap.size, 7, none⟩ = some (.int .i64 p.sw) := PX.out.cell 7
                 have d9 : wz.cell? ⟨w.heap.size, 9, none⟩ = some (.bool p.star) := PX.out.cell 9)
    refine (L3.out _).mono ?_
    rintro e w4 ⟨rfl, k4⟩
    have P4 := hide (PX.out.keep k4 (fun hx => hx))
    have K4 := hide (KX.out.trans k4)
    have d6 : w4.cell? ⟨w.heap.size, 6, none⟩ = some (.int .i64 p.h) := P4.out.cell 6
    have d8 : w4.cell? ⟨w.heap.size, 8, none⟩ = some (.int .i64 p.sh) := P4.out.cell 8
    have d10 : w4.cell? ⟨w.heap.size, 10, none⟩ = some (.bool p.starH) := P4.out.cell 10
    clear k4
    go_wp2_with fail
    refine (L4.out _).mono ?_
    rintro e w5 ⟨rfl, k5⟩
    have P5 := hide (P4.out.keep k5 (fun hx => hx))
    have KX := hide (K4.out.trans k5)
    have d4 : w5.cell? ⟨w.heap.size, 4, none⟩ = some (.int .u8 p.kind) := P5.out.cell 4
    clear k5
    go_wp2_with (refine wpList_conv2 rfl 72 9 _ rfl _ _ rfl (conv1 _ _ (by omega) (by omega)) ?_
                 intro wz hwz
                 have KZ : Hid (Kp (fun _ => False) w wz) := by rw [hwz]; exact KX.out.alloc _
                 clear hwz)
    go_ret
    exact ⟨rfl, KZ.out⟩
  · have EQ : Hid (bstr [p.near] ++ bstr [66] ++ B1 ++ bstr [47, 83] ++ B2 ++ bstr (if 2 < p.c then [47, 48 + p.c] else []) = bstr [p.near] ++ bstr [66] ++ B1 ++ bstr [47, 83] ++ B2) := by
      show _ = _
      rw [if_neg h2]
      exact ByteArray.append_empty
    rw [EQ.out]
    clear EQ hto
    go_enter Try.func26, Try.ntmps26
    go_wp2_with (refine wpList_box_row rfl 34 _ rfl (planv p) rfl ?_
                 intro w1 hw1
                 have P1 : Hid (PlAt w1 w.heap.size p) := ⟨by rw [hw1]; exact heap_alloc_new _ _⟩
                 have K1 : Hid (Kp (fun _ => False) w w1) := by rw [hw1]; exact (Kp.refl _ _).alloc _
                 have c1 : w1.cell? ⟨w.heap.size, 1, none⟩ = some (.int .i64 p.births) := P1.out.cell 1
                 clear hw1)
    refine (L1.out _).mono ?_
    rintro e w2 ⟨rfl, k2⟩
    have P2 := hide (P1.out.keep k2 (fun hx => hx))
    have K2 := hide (K1.out.trans k2)
    have c2 : w2.cell? ⟨w.heap.size, 2, none⟩ = some (.int .i64 p.lives) := P2.out.cell 2
    clear k2 c1
    go_wp2_with fail
    refine (L2.out _).mono ?_
    rintro e w3 ⟨rfl, k3⟩
    have PX := hide (P2.out.keep k3 (fun hx => hx))
    have KX := hide (K2.out.trans k3)
    have d0 : w3.cell? ⟨w.heap.size, 0, none⟩ = some (.int .u8 p.near) := PX.out.cell 0
    clear k3 c2
    go_wp2_with (refine wpList_conv2 rfl 72 9 _ rfl _ _ rfl (conv1 _ _ (by omega) (by omega)) ?_
                 intro wz hwz
                 have PZ : Hid (PlAt wz w.heap.size p) := by rw [hwz]; exact PX.out.keep ((Kp.refl (fun _ => False) _).alloc _) (fun hx => hx)
                 have KZ : Hid (Kp (fun _ => False) w wz) := by rw [hwz]; exact KX.out.alloc _
                 clear hwz PX KX
                 have PX := PZ
                 have KX := KZ
                 clear PZ KZ
                 have d3 : wz.cell? ⟨w.heap.size, 3, none⟩ = some (.int .i64 p.c) := PX.out.cell 3
                 have d5 : wz.cell? ⟨w.heap.size, 5, none⟩ = some (.int .i64 p.w) := PX.out.cell 5
                 have d7 : wz.cell? ⟨w.heap.size, 7, none⟩ = some (.int .i64 p.sw) := PX.out.cell 7
                 have d9 : wz.cell? ⟨w.heap.size, 9, none⟩ = some (.bool p.star) := PX.out.cell 9)
    refine (L3.out _).mono ?_
    rintro e w4 ⟨rfl, k4⟩
    have P4 := hide (PX.out.keep k4 (fun hx => hx))
    have K4 := hide (KX.out.trans k4)
    have d6 : w4.cell? ⟨w.heap.size, 6, none⟩ = some (.int .i64 p.h) := P4.out.cell 6
    have d8 : w4.cell? ⟨w.heap.size, 8, none⟩ = some (.int .i64 p.sh) := P4.out.cell 8
    have d10 : w4.cell? ⟨w.heap.size, 10, none⟩ = some (.bool p.starH) := P4.out.cell 10
    clear k4
    go_wp2_with fail
    refine (L4.out _).mono ?_
    rintro e w5 ⟨rfl, k5⟩
    have P5 := hide (P4.out.keep k5 (fun hx => hx))
    have KX := hide (K4.out.trans k5)
    have d4 : w5.cell? ⟨w.heap.size, 4, none⟩ = some (.int .u8 p.kind) := P5.out.cell 4
    clear k5
    go_wp2_with (refine wpList_conv2 rfl 72 9 _ rfl _ _ rfl (conv1 _ _ (by omega) (by omega)) ?_
                 intro wz hwz
                 have KZ : Hid (Kp (fun _ => False) w wz) := by rw [hwz]; exact KX.out.alloc _
                 clear hwz)
    go_ret
    exact ⟨rfl, KZ.out⟩

theorem births_even {b : Nat} (h : b % 2 = 0) : (Pu.bitB b).getD 0 false = false := by
  simp [Pu.bitB, List.range, List.range.loop]
  omega
/-- The world of an open plan's text. -/
theorem Load_open (p : Pu.Plan) (hp : Pu.OpenOk p) (hb : p.births % 2 = 0) (w : World) :
    Calls Try.prog 14 #[.string (bstr (Pu.textL p))] w fun e w' => (∃ q, e = .returned (.tuple #[.pointer (some ⟨q, 0, none⟩), .int .i64 0, .int .i64 0]) ∧ w.heap.size ≤ q ∧ RuleOk (Pu.ruleOf p) ∧ GsAt w' q (preOf (Pu.ruleOf p) (Pu.shapeOf p) 0) p.w p.h ⟨0, 0, noS⟩) ∧ Kp (fun _ => False) w w' := by
  refine (Load_gen (bstr (Pu.textL p)) w (by rw [bstr_size]; have := Pu.textL_len p; omega) _ (Pu.partsOf p) (Pu.read_open hp _ (fits_bstr (open_bytes hp)))).mono ?_
  rintro e w' ⟨⟨u, rfl, hl⟩, k⟩
  have e0 : loadE (Pu.partsOf p) noS = 0 := by
    rw [loadE_lay (by
      rintro ⟨_, h2⟩
      rw [show (Pu.partsOf p).rule.births = Pu.bitB p.births from rfl, births_even hb] at h2
      cases h2)]
    exact if_pos rfl
  obtain ⟨q, rfl, h1, h2, h3⟩ := hl.good e0
  exact ⟨⟨q, by rw [e0], h1, h2, h3⟩, k⟩
end Go.Proofs.Ytiimimclbkjcbaa
