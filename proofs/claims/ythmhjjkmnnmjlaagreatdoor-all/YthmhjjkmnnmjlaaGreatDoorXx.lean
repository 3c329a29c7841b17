import Derived.Test.YthmhjjkmnnmjlaaGreatDoorM23
namespace Go.Proofs.YthmhjjkmnnmjlaaGreatDoor
open Go.RowKit
open Go.Proofs

theorem odd_yes {k : Int} (h : k % 2 = 1) : (k.tmod 2 != 0) = true := by rw [odd_tmod]; exact decide_eq_true h
theorem odd_no {k : Int} (h : ¬ k % 2 = 1) : (k.tmod 2 != 0) = false := by rw [odd_tmod]; exact decide_eq_false h

set_option maxRecDepth 100000 in
set_option maxHeartbeats 2000000 in
theorem xfold_a (q : Nat) (kind W H X Y : Int) (w : World) (hX : -9223372036854775808 ≤ X ∧ X ≤ 9223372036854775807) (hY : -9223372036854775808 ≤ Y ∧ Y ≤ 9223372036854775807)
    (c4 : w.cell? ⟨q, 4, none⟩ = some (.int .u8 kind)) (c5 : w.cell? ⟨q, 5, none⟩ = some (.int .i64 W)) (c6 : w.cell? ⟨q, 6, none⟩ = some (.int .i64 H)) (c7 : w.cell? ⟨q, 7, none⟩ = some (.int .i64 0)) (c8 : w.cell? ⟨q, 8, none⟩ = some (.int .i64 0)) (c9 : w.cell? ⟨q, 9, none⟩ = some (.bool false)) (c10 : w.cell? ⟨q, 10, none⟩ = some (.bool false))
    (hk : (kind == 67) = false) (hW : 0 < W ∧ W ≤ 12) (hH : 0 < H ∧ H ≤ 12) :
    Calls Tryz.prog 34 #[.pointer (some ⟨q, 0, none⟩), .int .i64 X, .int .i64 Y] w fun e w' => e = .returned (.tuple #[.int .i64 ((X % W)), .int .i64 ((Y % H))]) ∧ Kp (fun _ => False) w w' := by
  have S1 := hide (fun wx => xsplit_any X W wx hW.1 (by omega) hX.1 hX.2)
  have bX := Int.emod_nonneg X (show W ≠ 0 by omega)
  have bX2 := Int.emod_lt_of_pos X hW.1
  have dX := tdiv_bd X W hW.1 hX.1 hX.2
  have S2 := hide (fun wx => xsplit_any Y H wx hH.1 (by omega) hY.1 hY.2)
  have bY := Int.emod_nonneg Y (show H ≠ 0 by omega)
  have bY2 := Int.emod_lt_of_pos Y hH.1
  have dY := tdiv_bd Y H hH.1 hY.1 hY.2
  clear dX
  generalize X / W = qa at *
  generalize X % W = ra at *
  generalize Y / H = qb at *
  generalize Y % H = rb at *
  go_enter Tryz.func34, Tryz.ntmps34
  go_wp2_with fail
  refine (S1.out _).mono ?_
  rintro e w1 ⟨rfl, hw1⟩
  subst w1
  go_wp2_with fail
  refine (S2.out _).mono ?_
  rintro e w1 ⟨rfl, hw1⟩
  subst w1
  go_wp2_with fail
  go_ret2
  exact ⟨rfl, Kp.refl _ _⟩

set_option maxRecDepth 100000 in
set_option maxHeartbeats 2000000 in
theorem xfold_b (q : Nat) (kind W X Y : Int) (w : World) (hX : -9223372036854775808 ≤ X ∧ X ≤ 9223372036854775807) (_hY : -9223372036854775808 ≤ Y ∧ Y ≤ 9223372036854775807)
    (c4 : w.cell? ⟨q, 4, none⟩ = some (.int .u8 kind)) (c5 : w.cell? ⟨q, 5, none⟩ = some (.int .i64 W)) (c6 : w.cell? ⟨q, 6, none⟩ = some (.int .i64 0)) (c7 : w.cell? ⟨q, 7, none⟩ = some (.int .i64 0)) (c8 : w.cell? ⟨q, 8, none⟩ = some (.int .i64 0)) (c9 : w.cell? ⟨q, 9, none⟩ = some (.bool false)) (c10 : w.cell? ⟨q, 10, none⟩ = some (.bool false))
    (hk : (kind == 67) = false) (hW : 0 < W ∧ W ≤ 12) :
    Calls Tryz.prog 34 #[.pointer (some ⟨q, 0, none⟩), .int .i64 X, .int .i64 Y] w fun e w' => e = .returned (.tuple #[.int .i64 ((X % W)), .int .i64 (Y)]) ∧ Kp (fun _ => False) w w' := by
  have S1 := hide (fun wx => xsplit_any X W wx hW.1 (by omega) hX.1 hX.2)
  have bX := Int.emod_nonneg X (show W ≠ 0 by omega)
  have bX2 := Int.emod_lt_of_pos X hW.1
  have dX := tdiv_bd X W hW.1 hX.1 hX.2
  clear dX
  generalize X / W = qa at *
  generalize X % W = ra at *
  go_enter Tryz.func34, Tryz.ntmps34
  go_wp2_with fail
  refine (S1.out _).mono ?_
  rintro e w1 ⟨rfl, hw1⟩
  subst w1
  go_wp2_with fail
  go_ret2
  exact ⟨rfl, Kp.refl _ _⟩

set_option maxRecDepth 100000 in
set_option maxHeartbeats 2000000 in
theorem xfold_c (q : Nat) (kind H X Y : Int) (w : World) (_hX : -9223372036854775808 ≤ X ∧ X ≤ 9223372036854775807) (hY : -9223372036854775808 ≤ Y ∧ Y ≤ 9223372036854775807)
    (c4 : w.cell? ⟨q, 4, none⟩ = some (.int .u8 kind)) (c5 : w.cell? ⟨q, 5, none⟩ = some (.int .i64 0)) (c6 : w.cell? ⟨q, 6, none⟩ = some (.int .i64 H)) (c7 : w.cell? ⟨q, 7, none⟩ = some (.int .i64 0)) (c8 : w.cell? ⟨q, 8, none⟩ = some (.int .i64 0)) (c9 : w.cell? ⟨q, 9, none⟩ = some (.bool false)) (c10 : w.cell? ⟨q, 10, none⟩ = some (.bool false))
    (hk : (kind == 67) = false) (hH : 0 < H ∧ H ≤ 12) :
    Calls Tryz.prog 34 #[.pointer (some ⟨q, 0, none⟩), .int .i64 X, .int .i64 Y] w fun e w' => e = .returned (.tuple #[.int .i64 (X), .int .i64 ((Y % H))]) ∧ Kp (fun _ => False) w w' := by
  have S2 := hide (fun wx => xsplit_any Y H wx hH.1 (by omega) hY.1 hY.2)
  have bY := Int.emod_nonneg Y (show H ≠ 0 by omega)
  have bY2 := Int.emod_lt_of_pos Y hH.1
  have dY := tdiv_bd Y H hH.1 hY.1 hY.2
  generalize Y / H = qb at *
  generalize Y % H = rb at *
  go_enter Tryz.func34, Tryz.ntmps34
  go_wp2_with fail
  refine (S2.out _).mono ?_
  rintro e w1 ⟨rfl, hw1⟩
  subst w1
  go_wp2_with fail
  go_ret2
  exact ⟨rfl, Kp.refl _ _⟩

set_option maxRecDepth 100000 in
set_option maxHeartbeats 2000000 in
theorem xfold_ws (q : Nat) (kind W H ws X Y : Int) (w : World) (hX : -9223372036854775808 ≤ X ∧ X ≤ 9223372036854775807) (hY : -9223372036854775808 ≤ Y ∧ Y ≤ 9223372036854775807)
    (c4 : w.cell? ⟨q, 4, none⟩ = some (.int .u8 kind)) (c5 : w.cell? ⟨q, 5, none⟩ = some (.int .i64 W)) (c6 : w.cell? ⟨q, 6, none⟩ = some (.int .i64 H)) (c7 : w.cell? ⟨q, 7, none⟩ = some (.int .i64 ws)) (c8 : w.cell? ⟨q, 8, none⟩ = some (.int .i64 0)) (c9 : w.cell? ⟨q, 9, none⟩ = some (.bool false)) (c10 : w.cell? ⟨q, 10, none⟩ = some (.bool false))
    (hk : (kind == 67) = false) (hW : 0 < W ∧ W ≤ 12) (hH : 0 < H ∧ H ≤ 12) (hws : 0 < ws ∧ ws < W) :
    Calls Tryz.prog 34 #[.pointer (some ⟨q, 0, none⟩), .int .i64 X, .int .i64 Y] w fun e w' => e = .returned (.tuple #[.int .i64 (shiftP (X % W) (Y / H) ws W), .int .i64 ((Y % H))]) ∧ Kp (fun _ => False) w w' := by
  have S1 := hide (fun wx => xsplit_any X W wx hW.1 (by omega) hX.1 hX.2)
  have bX := Int.emod_nonneg X (show W ≠ 0 by omega)
  have bX2 := Int.emod_lt_of_pos X hW.1
  have dX := tdiv_bd X W hW.1 hX.1 hX.2
  have S2 := hide (fun wx => xsplit_any Y H wx hH.1 (by omega) hY.1 hY.2)
  have bY := Int.emod_nonneg Y (show H ≠ 0 by omega)
  have bY2 := Int.emod_lt_of_pos Y hH.1
  have dY := tdiv_bd Y H hH.1 hY.1 hY.2
  have M1 := hide (fun wx => xmoved_any (X % W) (Y / H) ws W wx ⟨hws.1, hws.2, hW.2, bX, bX2⟩ (by omega) (by omega))
  generalize shiftP (X % W) (Y / H) ws W = FX at *
  generalize X / W = qa at *
  generalize X % W = ra at *
  generalize Y / H = qb at *
  generalize Y % H = rb at *
  go_enter Tryz.func34, Tryz.ntmps34
  go_wp2_with fail
  refine (S1.out _).mono ?_
  rintro e w1 ⟨rfl, hw1⟩
  subst w1
  go_wp2_with fail
  refine (S2.out _).mono ?_
  rintro e w1 ⟨rfl, hw1⟩
  subst w1
  go_wp2_with fail
  go_quiet ((go_at_call 64; exact Calls.quiet_of_same (M1.out _)))
  go_wp2_with fail
  go_ret2
  exact ⟨rfl, (Kp.refl _ _).drewN _⟩

set_option maxRecDepth 100000 in
set_option maxHeartbeats 2000000 in
theorem xfold_hs (q : Nat) (kind W H hs X Y : Int) (w : World) (hX : -9223372036854775808 ≤ X ∧ X ≤ 9223372036854775807) (hY : -9223372036854775808 ≤ Y ∧ Y ≤ 9223372036854775807)
    (c4 : w.cell? ⟨q, 4, none⟩ = some (.int .u8 kind)) (c5 : w.cell? ⟨q, 5, none⟩ = some (.int .i64 W)) (c6 : w.cell? ⟨q, 6, none⟩ = some (.int .i64 H)) (c7 : w.cell? ⟨q, 7, none⟩ = some (.int .i64 0)) (c8 : w.cell? ⟨q, 8, none⟩ = some (.int .i64 hs)) (c9 : w.cell? ⟨q, 9, none⟩ = some (.bool false)) (c10 : w.cell? ⟨q, 10, none⟩ = some (.bool false))
    (hk : (kind == 67) = false) (hW : 0 < W ∧ W ≤ 12) (hH : 0 < H ∧ H ≤ 12) (hhs : 0 < hs ∧ hs < H) :
    Calls Tryz.prog 34 #[.pointer (some ⟨q, 0, none⟩), .int .i64 X, .int .i64 Y] w fun e w' => e = .returned (.tuple #[.int .i64 ((X % W)), .int .i64 (shiftP (Y % H) (X / W) hs H)]) ∧ Kp (fun _ => False) w w' := by
  have S1 := hide (fun wx => xsplit_any X W wx hW.1 (by omega) hX.1 hX.2)
  have bX := Int.emod_nonneg X (show W ≠ 0 by omega)
  have bX2 := Int.emod_lt_of_pos X hW.1
  have dX := tdiv_bd X W hW.1 hX.1 hX.2
  have S2 := hide (fun wx => xsplit_any Y H wx hH.1 (by omega) hY.1 hY.2)
  have bY := Int.emod_nonneg Y (show H ≠ 0 by omega)
  have bY2 := Int.emod_lt_of_pos Y hH.1
  have dY := tdiv_bd Y H hH.1 hY.1 hY.2
  have M2 := hide (fun wx => xmoved_any (Y % H) (X / W) hs H wx ⟨hhs.1, hhs.2, hH.2, bY, bY2⟩ (by omega) (by omega))
  generalize shiftP (Y % H) (X / W) hs H = FY at *
  generalize X / W = qa at *
  generalize X % W = ra at *
  generalize Y / H = qb at *
  generalize Y % H = rb at *
  go_enter Tryz.func34, Tryz.ntmps34
  go_wp2_with fail
  refine (S1.out _).mono ?_
  rintro e w1 ⟨rfl, hw1⟩
  subst w1
  go_wp2_with fail
  refine (S2.out _).mono ?_
  rintro e w1 ⟨rfl, hw1⟩
  subst w1
  go_wp2_with fail
  go_quiet ((go_at_call 64; exact Calls.quiet_of_same (M2.out _)))
  go_wp2_with fail
  go_ret2
  exact ⟨rfl, (Kp.refl _ _).drewN _⟩

set_option maxRecDepth 100000 in
set_option maxHeartbeats 2000000 in
theorem xfold_w1 (q : Nat) (kind W H X Y : Int) (w : World) (hX : -9223372036854775808 ≤ X ∧ X ≤ 9223372036854775807) (hY : -9223372036854775808 ≤ Y ∧ Y ≤ 9223372036854775807)
    (c4 : w.cell? ⟨q, 4, none⟩ = some (.int .u8 kind)) (c5 : w.cell? ⟨q, 5, none⟩ = some (.int .i64 W)) (c6 : w.cell? ⟨q, 6, none⟩ = some (.int .i64 H)) (c7 : w.cell? ⟨q, 7, none⟩ = some (.int .i64 0)) (c8 : w.cell? ⟨q, 8, none⟩ = some (.int .i64 0)) (c9 : w.cell? ⟨q, 9, none⟩ = some (.bool true)) (c10 : w.cell? ⟨q, 10, none⟩ = some (.bool false))
    (hk : (kind == 67) = false) (hW : 0 < W ∧ W ≤ 12) (hH : 0 < H ∧ H ≤ 12) (ow : (Y / H) % 2 = 1) :
    Calls Tryz.prog 34 #[.pointer (some ⟨q, 0, none⟩), .int .i64 X, .int .i64 Y] w fun e w' => e = .returned (.tuple #[.int .i64 (W - 1 - (X % W)), .int .i64 ((Y % H))]) ∧ Kp (fun _ => False) w w' := by
  have S1 := hide (fun wx => xsplit_any X W wx hW.1 (by omega) hX.1 hX.2)
  have bX := Int.emod_nonneg X (show W ≠ 0 by omega)
  have bX2 := Int.emod_lt_of_pos X hW.1
  have dX := tdiv_bd X W hW.1 hX.1 hX.2
  have S2 := hide (fun wx => xsplit_any Y H wx hH.1 (by omega) hY.1 hY.2)
  have bY := Int.emod_nonneg Y (show H ≠ 0 by omega)
  have bY2 := Int.emod_lt_of_pos Y hH.1
  have dY := tdiv_bd Y H hH.1 hY.1 hY.2
  have OW := odd_yes ow
  clear ow
  generalize X / W = qa at *
  generalize X % W = ra at *
  generalize Y / H = qb at *
  generalize Y % H = rb at *
  go_enter Tryz.func34, Tryz.ntmps34
  go_wp2_with fail
  refine (S1.out _).mono ?_
  rintro e w1 ⟨rfl, hw1⟩
  subst w1
  go_wp2_with fail
  refine (S2.out _).mono ?_
  rintro e w1 ⟨rfl, hw1⟩
  subst w1
  go_wp2_with fail
  go_ret2
  exact ⟨rfl, Kp.refl _ _⟩

set_option maxRecDepth 100000 in
set_option maxHeartbeats 2000000 in
theorem xfold_w0 (q : Nat) (kind W H X Y : Int) (w : World) (hX : -9223372036854775808 ≤ X ∧ X ≤ 9223372036854775807) (hY : -9223372036854775808 ≤ Y ∧ Y ≤ 9223372036854775807)
    (c4 : w.cell? ⟨q, 4, none⟩ = some (.int .u8 kind)) (c5 : w.cell? ⟨q, 5, none⟩ = some (.int .i64 W)) (c6 : w.cell? ⟨q, 6, none⟩ = some (.int .i64 H)) (c7 : w.cell? ⟨q, 7, none⟩ = some (.int .i64 0)) (c8 : w.cell? ⟨q, 8, none⟩ = some (.int .i64 0)) (c9 : w.cell? ⟨q, 9, none⟩ = some (.bool true)) (c10 : w.cell? ⟨q, 10, none⟩ = some (.bool false))
    (hk : (kind == 67) = false) (hW : 0 < W ∧ W ≤ 12) (hH : 0 < H ∧ H ≤ 12) (ow : ¬ (Y / H) % 2 = 1) :
    Calls Tryz.prog 34 #[.pointer (some ⟨q, 0, none⟩), .int .i64 X, .int .i64 Y] w fun e w' => e = .returned (.tuple #[.int .i64 ((X % W)), .int .i64 ((Y % H))]) ∧ Kp (fun _ => False) w w' := by
  have S1 := hide (fun wx => xsplit_any X W wx hW.1 (by omega) hX.1 hX.2)
  have bX := Int.emod_nonneg X (show W ≠ 0 by omega)
  have bX2 := Int.emod_lt_of_pos X hW.1
  have dX := tdiv_bd X W hW.1 hX.1 hX.2
  have S2 := hide (fun wx => xsplit_any Y H wx hH.1 (by omega) hY.1 hY.2)
  have bY := Int.emod_nonneg Y (show H ≠ 0 by omega)
  have bY2 := Int.emod_lt_of_pos Y hH.1
  have dY := tdiv_bd Y H hH.1 hY.1 hY.2
  have OW := odd_no ow
  clear ow
  generalize X / W = qa at *
  generalize X % W = ra at *
  generalize Y / H = qb at *
  generalize Y % H = rb at *
  go_enter Tryz.func34, Tryz.ntmps34
  go_wp2_with fail
  refine (S1.out _).mono ?_
  rintro e w1 ⟨rfl, hw1⟩
  subst w1
  go_wp2_with fail
  refine (S2.out _).mono ?_
  rintro e w1 ⟨rfl, hw1⟩
  subst w1
  go_wp2_with fail
  go_ret2
  exact ⟨rfl, Kp.refl _ _⟩

set_option maxRecDepth 100000 in
set_option maxHeartbeats 2000000 in
theorem xfold_h1 (q : Nat) (kind W H X Y : Int) (w : World) (hX : -9223372036854775808 ≤ X ∧ X ≤ 9223372036854775807) (hY : -9223372036854775808 ≤ Y ∧ Y ≤ 9223372036854775807)
    (c4 : w.cell? ⟨q, 4, none⟩ = some (.int .u8 kind)) (c5 : w.cell? ⟨q, 5, none⟩ = some (.int .i64 W)) (c6 : w.cell? ⟨q, 6, none⟩ = some (.int .i64 H)) (c7 : w.cell? ⟨q, 7, none⟩ = some (.int .i64 0)) (c8 : w.cell? ⟨q, 8, none⟩ = some (.int .i64 0)) (c9 : w.cell? ⟨q, 9, none⟩ = some (.bool false)) (c10 : w.cell? ⟨q, 10, none⟩ = some (.bool true))
    (hk : (kind == 67) = false) (hW : 0 < W ∧ W ≤ 12) (hH : 0 < H ∧ H ≤ 12) (oh : (X / W) % 2 = 1) :
    Calls Tryz.prog 34 #[.pointer (some ⟨q, 0, none⟩), .int .i64 X, .int .i64 Y] w fun e w' => e = .returned (.tuple #[.int .i64 ((X % W)), .int .i64 (H - 1 - (Y % H))]) ∧ Kp (fun _ => False) w w' := by
  have S1 := hide (fun wx => xsplit_any X W wx hW.1 (by omega) hX.1 hX.2)
  have bX := Int.emod_nonneg X (show W ≠ 0 by omega)
  have bX2 := Int.emod_lt_of_pos X hW.1
  have dX := tdiv_bd X W hW.1 hX.1 hX.2
  have S2 := hide (fun wx => xsplit_any Y H wx hH.1 (by omega) hY.1 hY.2)
  have bY := Int.emod_nonneg Y (show H ≠ 0 by omega)
  have bY2 := Int.emod_lt_of_pos Y hH.1
  have dY := tdiv_bd Y H hH.1 hY.1 hY.2
  have OH := odd_yes oh
  clear oh
  generalize X / W = qa at *
  generalize X % W = ra at *
  generalize Y / H = qb at *
  generalize Y % H = rb at *
  go_enter Tryz.func34, Tryz.ntmps34
  go_wp2_with fail
  refine (S1.out _).mono ?_
  rintro e w1 ⟨rfl, hw1⟩
  subst w1
  go_wp2_with fail
  refine (S2.out _).mono ?_
  rintro e w1 ⟨rfl, hw1⟩
  subst w1
  go_wp2_with fail
  go_ret2
  exact ⟨rfl, Kp.refl _ _⟩

set_option maxRecDepth 100000 in
set_option maxHeartbeats 2000000 in
theorem xfold_h0 (q : Nat) (kind W H X Y : Int) (w : World) (hX : -9223372036854775808 ≤ X ∧ X ≤ 9223372036854775807) (hY : -9223372036854775808 ≤ Y ∧ Y ≤ 9223372036854775807)
    (c4 : w.cell? ⟨q, 4, none⟩ = some (.int .u8 kind)) (c5 : w.cell? ⟨q, 5, none⟩ = some (.int .i64 W)) (c6 : w.cell? ⟨q, 6, none⟩ = some (.int .i64 H)) (c7 : w.cell? ⟨q, 7, none⟩ = some (.int .i64 0)) (c8 : w.cell? ⟨q, 8, none⟩ = some (.int .i64 0)) (c9 : w.cell? ⟨q, 9, none⟩ = some (.bool false)) (c10 : w.cell? ⟨q, 10, none⟩ = some (.bool true))
    (hk : (kind == 67) = false) (hW : 0 < W ∧ W ≤ 12) (hH : 0 < H ∧ H ≤ 12) (oh : ¬ (X / W) % 2 = 1) :
    Calls Tryz.prog 34 #[.pointer (some ⟨q, 0, none⟩), .int .i64 X, .int .i64 Y] w fun e w' => e = .returned (.tuple #[.int .i64 ((X % W)), .int .i64 ((Y % H))]) ∧ Kp (fun _ => False) w w' := by
  have S1 := hide (fun wx => xsplit_any X W wx hW.1 (by omega) hX.1 hX.2)
  have bX := Int.emod_nonneg X (show W ≠ 0 by omega)
  have bX2 := Int.emod_lt_of_pos X hW.1
  have dX := tdiv_bd X W hW.1 hX.1 hX.2
  have S2 := hide (fun wx => xsplit_any Y H wx hH.1 (by omega) hY.1 hY.2)
  have bY := Int.emod_nonneg Y (show H ≠ 0 by omega)
  have bY2 := Int.emod_lt_of_pos Y hH.1
  have dY := tdiv_bd Y H hH.1 hY.1 hY.2
  have OH := odd_no oh
  clear oh
  generalize X / W = qa at *
  generalize X % W = ra at *
  generalize Y / H = qb at *
  generalize Y % H = rb at *
  go_enter Tryz.func34, Tryz.ntmps34
  go_wp2_with fail
  refine (S1.out _).mono ?_
  rintro e w1 ⟨rfl, hw1⟩
  subst w1
  go_wp2_with fail
  refine (S2.out _).mono ?_
  rintro e w1 ⟨rfl, hw1⟩
  subst w1
  go_wp2_with fail
  go_ret2
  exact ⟨rfl, Kp.refl _ _⟩

set_option maxRecDepth 100000 in
set_option maxHeartbeats 2000000 in
theorem xfold_c11 (q : Nat) (W H X Y : Int) (w : World) (hX : -9223372036854775808 ≤ X ∧ X ≤ 9223372036854775807) (hY : -9223372036854775808 ≤ Y ∧ Y ≤ 9223372036854775807)
    (c4 : w.cell? ⟨q, 4, none⟩ = some (.int .u8 67)) (c5 : w.cell? ⟨q, 5, none⟩ = some (.int .i64 W)) (c6 : w.cell? ⟨q, 6, none⟩ = some (.int .i64 H)) (c7 : w.cell? ⟨q, 7, none⟩ = some (.int .i64 0)) (c8 : w.cell? ⟨q, 8, none⟩ = some (.int .i64 0)) (c9 : w.cell? ⟨q, 9, none⟩ = some (.bool false)) (c10 : w.cell? ⟨q, 10, none⟩ = some (.bool false))
    (hW : 0 < W ∧ W ≤ 12) (hH : 0 < H ∧ H ≤ 12) (ow : (Y / H) % 2 = 1) (oh : (X / W) % 2 = 1) :
    Calls Tryz.prog 34 #[.pointer (some ⟨q, 0, none⟩), .int .i64 X, .int .i64 Y] w fun e w' => e = .returned (.tuple #[.int .i64 (W - 1 - (X % W)), .int .i64 (H - 1 - (Y % H))]) ∧ Kp (fun _ => False) w w' := by
  have S1 := hide (fun wx => xsplit_any X W wx hW.1 (by omega) hX.1 hX.2)
  have bX := Int.emod_nonneg X (show W ≠ 0 by omega)
  have bX2 := Int.emod_lt_of_pos X hW.1
  have dX := tdiv_bd X W hW.1 hX.1 hX.2
  have S2 := hide (fun wx => xsplit_any Y H wx hH.1 (by omega) hY.1 hY.2)
  have bY := Int.emod_nonneg Y (show H ≠ 0 by omega)
  have bY2 := Int.emod_lt_of_pos Y hH.1
  have dY := tdiv_bd Y H hH.1 hY.1 hY.2
  have OW := odd_yes ow
  have OH := odd_yes oh
  clear ow
  clear oh
  generalize X / W = qa at *
  generalize X % W = ra at *
  generalize Y / H = qb at *
  generalize Y % H = rb at *
  go_enter Tryz.func34, Tryz.ntmps34
  go_wp2_with fail
  refine (S1.out _).mono ?_
  rintro e w1 ⟨rfl, hw1⟩
  subst w1
  go_wp2_with fail
  refine (S2.out _).mono ?_
  rintro e w1 ⟨rfl, hw1⟩
  subst w1
  go_wp2_with fail
  go_ret2
  exact ⟨rfl, Kp.refl _ _⟩

set_option maxRecDepth 100000 in
set_option maxHeartbeats 2000000 in
theorem xfold_c10 (q : Nat) (W H X Y : Int) (w : World) (hX : -9223372036854775808 ≤ X ∧ X ≤ 9223372036854775807) (hY : -9223372036854775808 ≤ Y ∧ Y ≤ 9223372036854775807)
    (c4 : w.cell? ⟨q, 4, none⟩ = some (.int .u8 67)) (c5 : w.cell? ⟨q, 5, none⟩ = some (.int .i64 W)) (c6 : w.cell? ⟨q, 6, none⟩ = some (.int .i64 H)) (c7 : w.cell? ⟨q, 7, none⟩ = some (.int .i64 0)) (c8 : w.cell? ⟨q, 8, none⟩ = some (.int .i64 0)) (c9 : w.cell? ⟨q, 9, none⟩ = some (.bool false)) (c10 : w.cell? ⟨q, 10, none⟩ = some (.bool false))
    (hW : 0 < W ∧ W ≤ 12) (hH : 0 < H ∧ H ≤ 12) (ow : (Y / H) % 2 = 1) (oh : ¬ (X / W) % 2 = 1) :
    Calls Tryz.prog 34 #[.pointer (some ⟨q, 0, none⟩), .int .i64 X, .int .i64 Y] w fun e w' => e = .returned (.tuple #[.int .i64 (W - 1 - (X % W)), .int .i64 ((Y % H))]) ∧ Kp (fun _ => False) w w' := by
  have S1 := hide (fun wx => xsplit_any X W wx hW.1 (by omega) hX.1 hX.2)
  have bX := Int.emod_nonneg X (show W ≠ 0 by omega)
  have bX2 := Int.emod_lt_of_pos X hW.1
  have dX := tdiv_bd X W hW.1 hX.1 hX.2
  have S2 := hide (fun wx => xsplit_any Y H wx hH.1 (by omega) hY.1 hY.2)
  have bY := Int.emod_nonneg Y (show H ≠ 0 by omega)
  have bY2 := Int.emod_lt_of_pos Y hH.1
  have dY := tdiv_bd Y H hH.1 hY.1 hY.2
  have OW := odd_yes ow
  have OH := odd_no oh
  clear ow
  clear oh
  generalize X / W = qa at *
  generalize X % W = ra at *
  generalize Y / H = qb at *
  generalize Y % H = rb at *
  go_enter Tryz.func34, Tryz.ntmps34
  go_wp2_with fail
  refine (S1.out _).mono ?_
  rintro e w1 ⟨rfl, hw1⟩
  subst w1
  go_wp2_with fail
  refine (S2.out _).mono ?_
  rintro e w1 ⟨rfl, hw1⟩
  subst w1
  go_wp2_with fail
  go_ret2
  exact ⟨rfl, Kp.refl _ _⟩

set_option maxRecDepth 100000 in
set_option maxHeartbeats 2000000 in
theorem xfold_c01 (q : Nat) (W H X Y : Int) (w : World) (hX : -9223372036854775808 ≤ X ∧ X ≤ 9223372036854775807) (hY : -9223372036854775808 ≤ Y ∧ Y ≤ 9223372036854775807)
    (c4 : w.cell? ⟨q, 4, none⟩ = some (.int .u8 67)) (c5 : w.cell? ⟨q, 5, none⟩ = some (.int .i64 W)) (c6 : w.cell? ⟨q, 6, none⟩ = some (.int .i64 H)) (c7 : w.cell? ⟨q, 7, none⟩ = some (.int .i64 0)) (c8 : w.cell? ⟨q, 8, none⟩ = some (.int .i64 0)) (c9 : w.cell? ⟨q, 9, none⟩ = some (.bool false)) (c10 : w.cell? ⟨q, 10, none⟩ = some (.bool false))
    (hW : 0 < W ∧ W ≤ 12) (hH : 0 < H ∧ H ≤ 12) (ow : ¬ (Y / H) % 2 = 1) (oh : (X / W) % 2 = 1) :
    Calls Tryz.prog 34 #[.pointer (some ⟨q, 0, none⟩), .int .i64 X, .int .i64 Y] w fun e w' => e = .returned (.tuple #[.int .i64 ((X % W)), .int .i64 (H - 1 - (Y % H))]) ∧ Kp (fun _ => False) w w' := by
  have S1 := hide (fun wx => xsplit_any X W wx hW.1 (by omega) hX.1 hX.2)
  have bX := Int.emod_nonneg X (show W ≠ 0 by omega)
  have bX2 := Int.emod_lt_of_pos X hW.1
  have dX := tdiv_bd X W hW.1 hX.1 hX.2
  have S2 := hide (fun wx => xsplit_any Y H wx hH.1 (by omega) hY.1 hY.2)
  have bY := Int.emod_nonneg Y (show H ≠ 0 by omega)
  have bY2 := Int.emod_lt_of_pos Y hH.1
  have dY := tdiv_bd Y H hH.1 hY.1 hY.2
  have OW := odd_no ow
  have OH := odd_yes oh
  clear ow
  clear oh
  generalize X / W = qa at *
  generalize X % W = ra at *
  generalize Y / H = qb at *
  generalize Y % H = rb at *
  go_enter Tryz.func34, Tryz.ntmps34
  go_wp2_with fail
  refine (S1.out _).mono ?_
  rintro e w1 ⟨rfl, hw1⟩
  subst w1
  go_wp2_with fail
  refine (S2.out _).mono ?_
  rintro e w1 ⟨rfl, hw1⟩
  subst w1
  go_wp2_with fail
  go_ret2
  exact ⟨rfl, Kp.refl _ _⟩

set_option maxRecDepth 100000 in
set_option maxHeartbeats 2000000 in
theorem xfold_c00 (q : Nat) (W H X Y : Int) (w : World) (hX : -9223372036854775808 ≤ X ∧ X ≤ 9223372036854775807) (hY : -9223372036854775808 ≤ Y ∧ Y ≤ 9223372036854775807)
    (c4 : w.cell? ⟨q, 4, none⟩ = some (.int .u8 67)) (c5 : w.cell? ⟨q, 5, none⟩ = some (.int .i64 W)) (c6 : w.cell? ⟨q, 6, none⟩ = some (.int .i64 H)) (c7 : w.cell? ⟨q, 7, none⟩ = some (.int .i64 0)) (c8 : w.cell? ⟨q, 8, none⟩ = some (.int .i64 0)) (c9 : w.cell? ⟨q, 9, none⟩ = some (.bool false)) (c10 : w.cell? ⟨q, 10, none⟩ = some (.bool false))
    (hW : 0 < W ∧ W ≤ 12) (hH : 0 < H ∧ H ≤ 12) (ow : ¬ (Y / H) % 2 = 1) (oh : ¬ (X / W) % 2 = 1) :
    Calls Tryz.prog 34 #[.pointer (some ⟨q, 0, none⟩), .int .i64 X, .int .i64 Y] w fun e w' => e = .returned (.tuple #[.int .i64 ((X % W)), .int .i64 ((Y % H))]) ∧ Kp (fun _ => False) w w' := by
  have S1 := hide (fun wx => xsplit_any X W wx hW.1 (by omega) hX.1 hX.2)
  have bX := Int.emod_nonneg X (show W ≠ 0 by omega)
  have bX2 := Int.emod_lt_of_pos X hW.1
  have dX := tdiv_bd X W hW.1 hX.1 hX.2
  have S2 := hide (fun wx => xsplit_any Y H wx hH.1 (by omega) hY.1 hY.2)
  have bY := Int.emod_nonneg Y (show H ≠ 0 by omega)
  have bY2 := Int.emod_lt_of_pos Y hH.1
  have dY := tdiv_bd Y H hH.1 hY.1 hY.2
  have OW := odd_no ow
  have OH := odd_no oh
  clear ow
  clear oh
  generalize X / W = qa at *
  generalize X % W = ra at *
  generalize Y / H = qb at *
  generalize Y % H = rb at *
  go_enter Tryz.func34, Tryz.ntmps34
  go_wp2_with fail
  refine (S1.out _).mono ?_
  rintro e w1 ⟨rfl, hw1⟩
  subst w1
  go_wp2_with fail
  refine (S2.out _).mono ?_
  rintro e w1 ⟨rfl, hw1⟩
  subst w1
  go_wp2_with fail
  go_ret2
  exact ⟨rfl, Kp.refl _ _⟩
end Go.Proofs.YthmhjjkmnnmjlaaGreatDoor
