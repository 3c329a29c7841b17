import Derived.Test.YtflbkgfcnggkpaaGg
namespace Go.Proofs.Ytflbkgfcnggkpaa
open Go.RowKit
open Go.Proofs

theorem zero_grid : (Try.prog.info? 52).map (·.zero) = some (some (.agg (gnew 0 0 noS))) := by kernel_rfl
theorem built_grid (gw gh : Int) : Try.prog.built 52 [(0, .int .i64 gw), (1, .int .i64 gh)] = some (gnew gw gh noS) := by kernel_rfl

theorem new_any (gw gh : Int) (w : World) : Calls Try.prog 28 #[.int .i64 gw, .int .i64 gh] w fun e w' => e = .returned (.agg (gnew gw gh noS)) ∧ Kp (fun _ => False) w w' :=
  new_core noS noS_len zero_grid gw gh (built_grid gw gh) w
end Go.Proofs.Ytflbkgfcnggkpaa
