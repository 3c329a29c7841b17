import Derived.Test.YtiimimclbkjcbaaHd
import Derived.Test.YtiimimclbkjcbaaHbc
import Derived.Test.YtiimimclbkjcbaaGy
import Derived.Test.YtiimimclbkjcbaaGk
import Derived.Test.YtiimimclbkjcbaaHz
namespace Go.Proofs.Ytiimimclbkjcbaa
open Go.RowKit
open Go.Proofs

def S1 : List Int := runS p0.shape noS 1 2 1 3
theorem S1_count : countP S1 = 3 := by kernel_rfl
theorem S1_at : getP 5 5 0 0 S1 2 2 = 1 := by kernel_rfl
theorem S1_no : getP 5 5 0 0 S1 2 1 = 0 := by kernel_rfl
theorem p0_two : Two p0.shape := by unfold Two p0; simp

theorem Load_T0 (w : World) : Calls Try.prog 14 #[.string T0] w fun e w' => (∃ q, e = .returned (.tuple #[.pointer (some ⟨q, 0, none⟩), .int .i64 0, .int .i64 0]) ∧ RuleOk p0.rule ∧ GrAt w' q (preOf p0.rule p0.shape p0.age) 5 5 0 0 S1) ∧ Kp (fun _ => False) w w' := by
  have hL := fun wx => load_one noS noS_len built_world new_any T0 wx T0_size 22 p0 read_T0 3 1 rfl (by omega) p0_two
  have HL := hide hL
  have hz : ((T0.size : Nat) : Int) ≤ 400 := by decide
  clear hL
  have T0s : T0.size = 22 := by decide
  generalize T0 = s at *
  go_enter Try.func14, Try.ntmps14
  go_wp2_with fail
  refine (HL.out _).mono ?_
  rintro e w1 ⟨⟨q, rfl, rk, g1⟩, k1⟩
  have G1 := hide g1
  have K1 := hide k1
  have RK := hide rk
  clear g1 k1 rk
  go_wp2_with fail
  go_ret3
  exact ⟨⟨q, rfl, RK.out, G1.out⟩, K1.out⟩

set_option maxHeartbeats 400000 in
theorem reads_any (w : World) : Calls Try.prog 12 #[] w fun e w' => e = .returned (.bool true) ∧ Kp (fun _ => False) w w' := by
  have sok : Pu.ShapeOk p0.shape := (Pu.read_inv read_T0).shape
  have HC := hide S1_count
  have HA := hide S1_at
  have HN := hide S1_no
  go_enter Try.func12, Try.ntmps12
  go_wp2_with fail
  refine (Load_T0 _).mono ?_
  rintro e w1 ⟨⟨q, rfl, rk, g1⟩, k1⟩
  have G1 := hide g1
  have K1 := hide k1
  have RK := hide rk
  clear g1 k1 rk
  have W1 := hide (fun wx hx => wget_no q p0.rule p0.shape p0.age 0 0 S1 2 2 wx hx RK.out sok (Or.inl rfl) (by omega) (by omega) (by omega) (by omega))
  have W2 := hide (fun wx hx => wget_no q p0.rule p0.shape p0.age 0 0 S1 2 1 wx hx RK.out sok (Or.inl rfl) (by omega) (by omega) (by omega) (by omega))
  have E1 : Hid ((if hasB p0.shape 2 2 = true then getP p0.shape.w p0.shape.h 0 0 S1 2 2 else 0) = 1) := HA.out
  have E2 : Hid ((if hasB p0.shape 2 1 = true then getP p0.shape.w p0.shape.h 0 0 S1 2 1 else 0) = 0) := HN.out
  rw [E1.out] at W1
  rw [E2.out] at W2
  go_wp2_with fail
  refine (wcount_any q _ 5 5 0 0 S1 _ G1.out).mono ?_
  rw [HC.out]
  rintro e w2 ⟨rfl, hw⟩
  subst w2
  go_wp2_with fail
  refine (W1.out _ G1.out).mono ?_
  rintro e w3 ⟨rfl, k3⟩
  have G3 := hide (G1.out.keep k3 (fun hx => hx))
  have K3 := hide (K1.out.trans k3)
  clear k3
  go_wp2_with fail
  refine (W2.out _ G3.out).mono ?_
  rintro e w4 ⟨rfl, k4⟩
  have K4 := hide (K3.out.trans k4)
  clear k4
  go_wp2_with fail
  go_ret
  exact ⟨rfl, K4.out⟩
end Go.Proofs.Ytiimimclbkjcbaa
