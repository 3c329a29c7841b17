import Derived.Test.YtiimimclbkjcbaaIa
import Derived.Test.YtiimimclbkjcbaaGg
namespace Go.Proofs.Ytiimimclbkjcbaa
open Go.RowKit
open Go.Proofs

theorem wpList_conv2 {P : Program} {ops : Array Oper} {rest : List Oper} {o : Oper} {a : Act} {w : World} {Q : Exit → Act → World → Prop} (hgd : o.guard = none) (s d : TypeId) (x : Operand) (ho : o.op = .convert s d x) (v r : Value) (hv : a.eval x = v)
    (hr : (convert s d v).run P w = .ok r w) (h : ∀ w', w' = w → wpList P ops Q rest (a.put o.dst r) w') : wpList P ops Q (o :: rest) a w := wpList_conv hgd s d x ho v r hv hr (h w rfl)
def planv (p : Pu.Plan) : Array Value := #[.int .u8 p.near, .int .i64 p.births, .int .i64 p.lives, .int .i64 p.c, .int .u8 p.kind, .int .i64 p.w, .int .i64 p.h, .int .i64 p.sw, .int .i64 p.sh, .bool p.star, .bool p.starH]
theorem ret_str {a b : ByteArray} (h : a = b) : Ending.returned (.string a) = .returned (.string b) := by rw [h]
structure PlAt (w : World) (g : Nat) (p : Pu.Plan) : Prop where
  row : w.heap[g]? = some (.cells (planv p) 34 (0, 0))
theorem PlAt.keep {T : Nat → Prop} {w w' : World} {g : Nat} {p : Pu.Plan} (h : PlAt w g p) (k : Kp T w w') (hn : ¬ T g) : PlAt w' g p := ⟨k.row h.row hn⟩
theorem PlAt.cell {w : World} {g : Nat} {p : Pu.Plan} (h : PlAt w g p) (m : Nat) : w.cell? ⟨g, m, none⟩ = (planv p)[m]? := cell_of_row _ _ _ _ _ _ h.row

theorem bits_size (b : Nat) : (bstr ((Pu.bitL b).map (· + 48))).size ≤ 9 := by
  rw [bstr_size, List.length_map]
  exact (Pu.bitL_bd b).2
theorem side_size (n s : Int) (st : Bool) : (bstr (Pu.sideL n s st)).size ≤ 6 := by
  rw [bstr_size]
  exact Pu.sideL_len n s st
theorem pnear_bd {p : Pu.Plan} (h : Pu.PlanOk p) : 0 ≤ p.near ∧ p.near < 256 := by have := h.near; omega
theorem kind_bd {p : Pu.Plan} (h : Pu.PlanOk p) : 0 ≤ p.kind ∧ p.kind < 256 := by
  have := h.kind
  simp at this
  omega
theorem bits_bd {p : Pu.Plan} (h : Pu.PlanOk p) : p.births < 512 ∧ p.lives < 512 := by
  have h1 := h.births
  have h2 := h.lives
  rcases h.near with e | e | e <;> rw [e] at h1 h2 <;> simp [Pu.mostOf] at h1 h2 <;> omega

set_option maxRecDepth 100000 in
set_option maxHeartbeats 1000000 in
theorem ptext_any (p : Pu.Plan) (hp : Pu.PlanOk p) (w : World) :
    Calls Try.prog 26 #[.agg (planv p)] w fun e w' => e = .returned (.string (bstr (Pu.textL p))) ∧ Kp (fun _ => False) w w' := by
  have nb := pnear_bd hp
  have kb := kind_bd hp
  have bb := bits_bd hp
  have hw := hp.w
  have hh := hp.h
  have hc := hp.c
  have hto := hp.torus
  have z1 := bits_size p.births
  have z2 := bits_size p.lives
  have z3 := side_size p.w p.sw p.star
  have z4 := side_size p.h p.sh p.starH
  have z5 := bstr1_size p.near
  have z6 := bstr1_size p.kind
  have z7 := bstr1_size (48 + p.c)
  have L1 := hide (fun wx => lset_any p.births wx bb.1)
  have L2 := hide (fun wx => lset_any p.lives wx bb.2)
  have L3 := hide (fun wx => lside_any p.w p.sw p.star wx (by omega) (by omega) (by omega) (by omega))
  have L4 := hide (fun wx => lside_any p.h p.sh p.starH wx (by omega) (by omega) (by omega) (by omega))
  have EQ : Hid (bstr (Pu.textL p) = bstr [p.near] ++ bstr [66] ++ bstr ((Pu.bitL p.births).map (· + 48)) ++ bstr [47, 83] ++ bstr ((Pu.bitL p.lives).map (· + 48)) ++ bstr (if 2 < p.c then [47, 48 + p.c] else []) ++ bstr [32] ++ bstr [p.kind] ++ bstr (Pu.sideL p.w p.sw p.star) ++ bstr [44] ++ bstr (Pu.sideL p.h p.sh p.starH) ++ bstr [32, 48, 32, 48, 44, 48, 32, 33]) := by
    show _ = _
    simp only [bstr_app]
    congr 1
    simp [Pu.textL, Pu.ruleL, Pu.shapeL]
  rw [EQ.out]
  clear EQ
  generalize bstr ((Pu.bitL p.births).map (· + 48)) = B1 at *
  generalize bstr ((Pu.bitL p.lives).map (· + 48)) = B2 at *
  generalize bstr (Pu.sideL p.w p.sw p.star) = B3 at *
  generalize bstr (Pu.sideL p.h p.sh p.starH) = B4 at *
  by_cases h2 : 2 < p.c
  · have EQ : Hid (bstr [p.near] ++ bstr [66] ++ B1 ++ bstr [47, 83] ++ B2 ++ bstr (if 2 < p.c then [47, 48 + p.c] else []) = bstr [p.near] ++ bstr [66] ++ B1 ++ bstr [47, 83] ++ B2 ++ bstr [47] ++ bstr [48 + p.c]) := by
      show _ = _
      rw [if_pos h2, ByteArray.append_assoc (b := bstr [47]), bstr_app]
      rfl
    rw [EQ.out]
    clear EQ hto
    go_enter Try.func26, Try.ntmps26
    go_wp2_with (refine wpList_box_row rfl 34 _ rfl (planv p) rfl ?_
                 intro w1 hw1
                 have P1 : Hid (PlAt w1 w.heap.size p) := ⟨by rw [hw1]; exact heap_alloc_new _ _⟩
                 have K1 : Hid (Kp (fun _ => False) w w1) := by rw [hw1]; exact (Kp.refl _ _).alloc _
                 have c1 : w1.cell? ⟨w.heap.size, 1, none⟩ = some (.int .i64 p.births) := P1.out.cell 1
                 clear hw1)
    refine (L1.out _).mono ?_
    rintro e w2 ⟨rfl, k2⟩
    have P2 := hide (P1.out.keep k2 (fun hx => hx))
    have K2 := hide (K1.out.trans k2)
    have c2 : w2.cell? ⟨w.heap.size, 2, none⟩ = some (.int .i64 p.lives) := P2.out.cell 2
    clear k2 c1
    go_wp2_with fail
    refine (L2.out _).mono ?_
    rintro e w3 ⟨rfl, k3⟩
    have PX := hide (P2.out.keep k3 (fun hx => hx))
    have KX := hide (K2.out.trans k3)
    have d0 : w3.cell? ⟨w.heap.size, 0, none⟩ = some (.int .u8 p.near) := PX.out.cell 0
    clear k3 c2
    go_wp2_with (refine wpList_conv2 rfl 72 9 _ rfl _ _ rfl (conv1 _ _ (by omega) (by omega)) ?_
                 intro wz hwz
                 have PZ : Hid (PlAt wz w.heap.size p) := by rw [hwz]; exact PX.out.keep ((Kp.refl (fun _ => False) _).alloc _) (fun hx => hx)
                 have KZ : Hid (Kp (fun _ => False) w wz) := by rw [hwz]; exact KX.out.alloc _
                 clear hwz PX KX
                 have PX := PZ
                 have KX := KZ
                 clear PZ KZ
                 have d3 : wz.cell? ⟨w.heap.size, 3, none⟩ = some (.int .i64 p.c) := PX.out.cell 3
                 have d5 : wz.cell? ⟨w.heap.size, 5, none⟩ = some (.int .i64 p.w) := PX.out.cell 5
                 have d7 : wz.cell? ⟨w.heap.size, 7, none⟩ = some (.int .i64 p.sw) := PX.out.cell 7
                 have d9 : wz.cell? ⟨w.heap.size, 9, none⟩ = some (.bool p.star) := PX.out.cell 9)
    refine (L3.out _).mono ?_
    rintro e w4 ⟨rfl, k4⟩
    have P4 := hide (PX.out.keep k4 (fun hx => hx))
    have K4 := hide (KX.out.trans k4)
    have d6 : w4.cell? ⟨w.heap.size, 6, none⟩ = some (.int .i64 p.h) := P4.out.cell 6
    have d8 : w4.cell? ⟨w.heap.size, 8, none⟩ = some (.int .i64 p.sh) := P4.out.cell 8
    have d10 : w4.cell? ⟨w.heap.size, 10, none⟩ = some (.bool p.starH) := P4.out.cell 10
    clear k4
    go_wp2_with fail
    refine (L4.out _).mono ?_
    rintro e w5 ⟨rfl, k5⟩
    have P5 := hide (P4.out.keep k5 (fun hx => hx))
    have KX := hide (K4.out.trans k5)
    have d4 : w5.cell? ⟨w.heap.size, 4, none⟩ = some (.int .u8 p.kind) := P5.out.cell 4
    clear k5
    go_wp2_with (refine wpList_conv2 rfl 72 9 _ rfl _ _ rfl (conv1 _ _ (by omega) (by omega)) ?_
                 intro wz hwz
                 have KZ : Hid (Kp (fun _ => False) w wz) := by rw [hwz]; exact KX.out.alloc _
                 clear hwz)
    go_ret
    exact ⟨rfl, KZ.out⟩
  · have EQ : Hid (bstr [p.near] ++ bstr [66] ++ B1 ++ bstr [47, 83] ++ B2 ++ bstr (if 2 < p.c then [47, 48 + p.c] else []) = bstr [p.near] ++ bstr [66] ++ B1 ++ bstr [47, 83] ++ B2) := by
      show _ = _
      rw [if_neg h2]
      exact ByteArray.append_empty
    rw [EQ.out]
    clear EQ hto
    go_enter Try.func26, Try.ntmps26
    go_wp2_with (refine wpList_box_row rfl 34 _ rfl (planv p) rfl ?_
                 intro w1 hw1
                 have P1 : Hid (PlAt w1 w.heap.size p) := ⟨by rw [hw1]; exact heap_alloc_new _ _⟩
                 have K1 : Hid (Kp (fun _ => False) w w1) := by rw [hw1]; exact (Kp.refl _ _).alloc _
                 have c1 : w1.cell? ⟨w.heap.size, 1, none⟩ = some (.int .i64 p.births) := P1.out.cell 1
                 clear hw1)
    refine (L1.out _).mono ?_
    rintro e w2 ⟨rfl, k2⟩
    have P2 := hide (P1.out.keep k2 (fun hx => hx))
    have K2 := hide (K1.out.trans k2)
    have c2 : w2.cell? ⟨w.heap.size, 2, none⟩ = some (.int .i64 p.lives) := P2.out.cell 2
    clear k2 c1
    go_wp2_with fail
    refine (L2.out _).mono ?_
    rintro e w3 ⟨rfl, k3⟩
    have PX := hide (P2.out.keep k3 (fun hx => hx))
    have KX := hide (K2.out.trans k3)
    have d0 : w3.cell? ⟨w.heap.size, 0, none⟩ = some (.int .u8 p.near) := PX.out.cell 0
    clear k3 c2
    go_wp2_with (refine wpList_conv2 rfl 72 9 _ rfl _ _ rfl (conv1 _ _ (by omega) (by omega)) ?_
                 intro wz hwz
                 have PZ : Hid (PlAt wz w.heap.size p) := by rw [hwz]; exact PX.out.keep ((Kp.refl (fun _ => False) _).alloc _) (fun hx => hx)
                 have KZ : Hid (Kp (fun _ => False) w wz) := by rw [hwz]; exact KX.out.alloc _
                 clear hwz PX KX
                 have PX := PZ
                 have KX := KZ
                 clear PZ KZ
                 have d3 : wz.cell? ⟨w.heap.size, 3, none⟩ = some (.int .i64 p.c) := PX.out.cell 3
                 have d5 : wz.cell? ⟨w.heap.size, 5, none⟩ = some (.int .i64 p.w) := PX.out.cell 5
                 have d7 : wz.cell? ⟨w.heap.size, 7, none⟩ = some (.int .i64 p.sw) := PX.out.cell 7
                 have d9 : wz.cell? ⟨w.heap.size, 9, none⟩ = some (.bool p.star) := PX.out.cell 9)
    refine (L3.out _).mono ?_
    rintro e w4 ⟨rfl, k4⟩
    have P4 := hide (PX.out.keep k4 (fun hx => hx))
    have K4 := hide (KX.out.trans k4)
    have d6 : w4.cell? ⟨w.heap.size, 6, none⟩ = some (.int .i64 p.h) := P4.out.cell 6
    have d8 : w4.cell? ⟨w.heap.size, 8, none⟩ = some (.int .i64 p.sh) := P4.out.cell 8
    have d10 : w4.cell? ⟨w.heap.size, 10, none⟩ = some (.bool p.starH) := P4.out.cell 10
    clear k4
    go_wp2_with fail
    refine (L4.out _).mono ?_
    rintro e w5 ⟨rfl, k5⟩
    have P5 := hide (P4.out.keep k5 (fun hx => hx))
    have KX := hide (K4.out.trans k5)
    have d4 : w5.cell? ⟨w.heap.size, 4, none⟩ = some (.int .u8 p.kind) := P5.out.cell 4
    clear k5
    go_wp2_with (refine wpList_conv2 rfl 72 9 _ rfl _ _ rfl (conv1 _ _ (by omega) (by omega)) ?_
                 intro wz hwz
                 have KZ : Hid (Kp (fun _ => False) w wz) := by rw [hwz]; exact KX.out.alloc _
                 clear hwz)
    go_ret
    exact ⟨rfl, KZ.out⟩
end Go.Proofs.Ytiimimclbkjcbaa
