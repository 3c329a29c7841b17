import Derived.Test.YtiimimclbkjcbaaWa
namespace Go.Proofs.Ytiimimclbkjcbaa
open Go.RowKit
open Go.Proofs

/-- The text of the closed fact. -/
def T0 : ByteArray := ⟨#[77, 66, 51, 47, 83, 50, 51, 32, 80, 53, 44, 53, 32, 48, 32, 49, 44, 50, 32, 51, 65, 33]⟩
def p0 : Pu.Parts := ⟨⟨77, [false, false, false, true, false, false, false, false, false], [false, false, true, true, false, false, false, false, false], 2⟩, ⟨80, 5, 5, 0, 0, false, false⟩, 0, 1, 2, [⟨3, 1, false⟩]⟩
theorem read_T0 : Pu.read (src T0) = (22, some p0) := by kernel_rfl
theorem T0_size : T0.size ≤ 400 := by decide
end Go.Proofs.Ytiimimclbkjcbaa
