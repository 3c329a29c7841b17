import Derived.Test.YtiimimclbkjcbaaGj
import Derived.Test.YtiimimclbkjcbaaGy
namespace Go.Proofs.Ytiimimclbkjcbaa
open Go.RowKit
open Go.Proofs

theorem load_ok (s : ByteArray) (w : World) (hs : s.size ≤ 400) (j : Nat) (p : Pu.Parts) (hq : Hid (Pu.read (src s) = (j, some p))) :
    Calls Try.prog 27 #[.string s] w fun e w' => (∃ u c, e = .returned (.tuple #[u, .int .i64 0, .int .i64 c]) ∧ (c = 0 ∨ c = 3 ∨ c = 4)) ∧ Kp (fun _ => False) w w' :=
  load_some noS noS_len built_world new_any s w hs j p hq

/-- Load of a text that is too long. -/
theorem Load_long (s : ByteArray) (w : World) (hs : 400 < s.size) (hm : s.size ≤ maxLen) :
    Calls Try.prog 14 #[.string s] w fun e w' => e = .returned (.tuple #[.pointer none, .int .i64 0, .int .i64 1]) ∧ w' = w := by
  unfold maxLen at hm
  go_enter Try.func14, Try.ntmps14
  go_wp2_with fail
  go_ret3
  exact ⟨rfl, rfl⟩

/-- Load of what is no text: the place is where the reader stands. -/
theorem Load_none (s : ByteArray) (w : World) (hs : s.size ≤ 400) (j : Nat) (hq : Hid (Pu.read (src s) = (j, none))) :
    Calls Try.prog 14 #[.string s] w fun e w' => e = .returned (.tuple #[.pointer none, .int .i64 j, .int .i64 2]) ∧ Kp (fun _ => False) w w' := by
  go_enter Try.func14, Try.ntmps14
  go_wp2_with fail
  refine (load_none s _ hs j hq).mono ?_
  rintro e w1 ⟨rfl, k1⟩
  go_wp2_with fail
  go_ret3
  exact ⟨rfl, k1⟩

/-- Load of a text: it is not ErrText and not ErrLong. -/
theorem Load_some (s : ByteArray) (w : World) (hs : s.size ≤ 400) (j : Nat) (p : Pu.Parts) (hq : Hid (Pu.read (src s) = (j, some p))) :
    Calls Try.prog 14 #[.string s] w fun e w' => (∃ u c, e = .returned (.tuple #[u, .int .i64 0, .int .i64 c]) ∧ (c = 0 ∨ c = 3 ∨ c = 4)) ∧ Kp (fun _ => False) w w' := by
  go_enter Try.func14, Try.ntmps14
  go_wp2_with fail
  refine (load_ok s _ hs j p hq).mono ?_
  rintro e w1 ⟨⟨u, c, rfl, hc⟩, k1⟩
  have HC := hide hc
  clear hc
  go_wp2_with fail
  go_ret3
  exact ⟨⟨u, c, rfl, HC.out⟩, k1⟩
end Go.Proofs.Ytiimimclbkjcbaa
