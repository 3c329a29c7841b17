import Derived.Test.YtiimimclbkjcbaaWa
import Derived.Below
namespace Go.Proofs.Ytiimimclbkjcbaa
open Go.RowKit
open Go.Proofs
theorem Kp.below {w w' : World} (h : Kp (fun _ => False) w w') : Below w.heap.size w w' := ⟨h.os, h.tape, h.output, h.size, fun k hk => h.block k hk (fun x => x)⟩
end Go.Proofs.Ytiimimclbkjcbaa
