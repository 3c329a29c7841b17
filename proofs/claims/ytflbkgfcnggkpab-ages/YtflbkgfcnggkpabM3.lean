import Derived.Test.YtflbkgfcnggkpabGh
import Derived.Test.YtflbkgfcnggkpabM1
import Derived.Test.YtflbkgfcnggkpabGj
namespace Go.Proofs.Ytflbkgfcnggkpab
open Go.RowKit
open Go.Proofs

theorem built_world9 (a c age : Int) (x : Pu.Shape) (b0 b1 b2 b3 b4 b5 b6 b7 b8 s0 s1 s2 s3 s4 s5 s6 s7 s8 : Bool) :
    Try.prog.built 58 [(0, .agg (rulev ⟨a, [b0, b1, b2, b3, b4, b5, b6, b7, b8], [s0, s1, s2, s3, s4, s5, s6, s7, s8], c⟩)), (1, .agg (shv x)), (2, .int .i64 age)] =
      some (grv (preOf ⟨a, [b0, b1, b2, b3, b4, b5, b6, b7, b8], [s0, s1, s2, s3, s4, s5, s6, s7, s8], c⟩ x age) 0 0 0 0 noS) := by kernel_rfl
theorem built_world (r : Pu.Rule) (hr : RuleOk r) (x : Pu.Shape) (age : Int) : Try.prog.built 58 [(0, .agg (rulev r)), (1, .agg (shv x)), (2, .int .i64 age)] = some (grv (preOf r x age) 0 0 0 0 noS) := by
  obtain ⟨a, l, m, c⟩ := r
  obtain ⟨b0, b1, b2, b3, b4, b5, b6, b7, b8, e1⟩ := nine l hr.1
  obtain ⟨s0, s1, s2, s3, s4, s5, s6, s7, s8, e2⟩ := nine m hr.2
  subst e1
  subst e2
  exact built_world9 a c age x b0 b1 b2 b3 b4 b5 b6 b7 b8 s0 s1 s2 s3 s4 s5 s6 s7 s8
end Go.Proofs.Ytflbkgfcnggkpab
namespace Go.Proofs.Ytflbkgfcnggkpab
open Go.RowKit
open Go.Proofs

theorem load_ok (s : ByteArray) (w : World) (hs : s.size ≤ 400) (j : Nat) (p : Pu.Parts) (hq : Hid (Pu.read (src s) = (j, some p))) :
    Calls Try.prog 33 #[.string s] w fun e w' => (∃ u c, e = .returned (.tuple #[u, .int .i64 0, .int .i64 c]) ∧ (c = 0 ∨ c = 3 ∨ c = 4)) ∧ Kp (fun _ => False) w w' :=
  load_some noS noS_len built_world new_any s w hs j p hq

/-- Load of a text that is too long. -/
theorem Load_long (s : ByteArray) (w : World) (hs : 400 < s.size) (hm : s.size ≤ maxLen) :
    Calls Try.prog 20 #[.string s] w fun e w' => e = .returned (.tuple #[.pointer none, .int .i64 0, .int .i64 1]) ∧ w' = w := by
  unfold maxLen at hm
  go_enter Try.func20, Try.ntmps20
  go_wp2_with fail
  go_ret3
  exact ⟨rfl, rfl⟩

/-- Load of what is no text: the place is where the reader stands. -/
theorem Load_none (s : ByteArray) (w : World) (hs : s.size ≤ 400) (j : Nat) (hq : Hid (Pu.read (src s) = (j, none))) :
    Calls Try.prog 20 #[.string s] w fun e w' => e = .returned (.tuple #[.pointer none, .int .i64 j, .int .i64 2]) ∧ Kp (fun _ => False) w w' := by
  go_enter Try.func20, Try.ntmps20
  go_wp2_with fail
  refine (load_none s _ hs j hq).mono ?_
  rintro e w1 ⟨rfl, k1⟩
  go_wp2_with fail
  go_ret3
  exact ⟨rfl, k1⟩

/-- Load of a text: it is not ErrText and not ErrLong. -/
theorem Load_some (s : ByteArray) (w : World) (hs : s.size ≤ 400) (j : Nat) (p : Pu.Parts) (hq : Hid (Pu.read (src s) = (j, some p))) :
    Calls Try.prog 20 #[.string s] w fun e w' => (∃ u c, e = .returned (.tuple #[u, .int .i64 0, .int .i64 c]) ∧ (c = 0 ∨ c = 3 ∨ c = 4)) ∧ Kp (fun _ => False) w w' := by
  go_enter Try.func20, Try.ntmps20
  go_wp2_with fail
  refine (load_ok s _ hs j p hq).mono ?_
  rintro e w1 ⟨⟨u, c, rfl, hc⟩, k1⟩
  have HC := hide hc
  clear hc
  go_wp2_with fail
  go_ret3
  exact ⟨⟨u, c, rfl, HC.out⟩, k1⟩
end Go.Proofs.Ytflbkgfcnggkpab
