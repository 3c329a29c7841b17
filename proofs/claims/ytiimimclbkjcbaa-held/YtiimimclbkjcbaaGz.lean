import Derived.Test.YtiimimclbkjcbaaGg
namespace Go.Proofs.Ytiimimclbkjcbaa
open Go.RowKit
open Go.Proofs

theorem zero_grid : (Try.prog.info? 61).map (·.zero) = some (some (.agg (gnew 0 0 noS))) := by kernel_rfl
theorem built_grid (gw gh : Int) : Try.prog.built 61 [(0, .int .i64 gw), (1, .int .i64 gh)] = some (gnew gw gh noS) := by kernel_rfl

theorem new_any (gw gh : Int) (w : World) : Calls Try.prog 43 #[.int .i64 gw, .int .i64 gh] w fun e w' => e = .returned (.agg (gnew gw gh noS)) ∧ Kp (fun _ => False) w w' :=
  new_core noS noS_len zero_grid gw gh (built_grid gw gh) w
end Go.Proofs.Ytiimimclbkjcbaa
