import Derived.Test.YtiimimclbkjcbaaGh
import Derived.Test.YtiimimclbkjcbaaGz
namespace Go.Proofs.Ytiimimclbkjcbaa
open Go.RowKit
open Go.Proofs

theorem built_world9 (a c age : Int) (x : Pu.Shape) (b0 b1 b2 b3 b4 b5 b6 b7 b8 s0 s1 s2 s3 s4 s5 s6 s7 s8 : Bool) :
    Try.prog.built 63 [(0, .agg (rulev ⟨a, [b0, b1, b2, b3, b4, b5, b6, b7, b8], [s0, s1, s2, s3, s4, s5, s6, s7, s8], c⟩)), (1, .agg (shv x)), (2, .int .i64 age)] =
      some (grv (preOf ⟨a, [b0, b1, b2, b3, b4, b5, b6, b7, b8], [s0, s1, s2, s3, s4, s5, s6, s7, s8], c⟩ x age) 0 0 0 0 noS) := by kernel_rfl
theorem built_world (r : Pu.Rule) (hr : RuleOk r) (x : Pu.Shape) (age : Int) : Try.prog.built 63 [(0, .agg (rulev r)), (1, .agg (shv x)), (2, .int .i64 age)] = some (grv (preOf r x age) 0 0 0 0 noS) := by
  obtain ⟨a, l, m, c⟩ := r
  obtain ⟨b0, b1, b2, b3, b4, b5, b6, b7, b8, e1⟩ := nine l hr.1
  obtain ⟨s0, s1, s2, s3, s4, s5, s6, s7, s8, e2⟩ := nine m hr.2
  subst e1
  subst e2
  exact built_world9 a c age x b0 b1 b2 b3 b4 b5 b6 b7 b8 s0 s1 s2 s3 s4 s5 s6 s7 s8
end Go.Proofs.Ytiimimclbkjcbaa
