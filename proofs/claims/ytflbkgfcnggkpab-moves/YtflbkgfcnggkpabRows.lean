/-
  No cell of these rows narrows 'for every input' (looked for: loops, veiled, ifaces, maps, wideKeys, modest, calm, conditions, laid).
  DERIVED. THE GIVEN ROWS OF THIS SEAT. 5 by the template 'for every input the law returns true; each argument reads behind the call as it read before'; 0 by the template 'total and deterministic' (their statements: YtflbkgfcnggkpabTotals.lean).
  GIVEN WITH THE SEED: the statements are not yours to turn. If you find one false, say at which input.
  Laid BY PROGRAM, IN A SANDBOX (cutbox-rows.mjs): the forced cells as the released guide's own fill.sh prints them over the translation c19866de153e3d96… (all of the seat's roots in one cut). By AI agents, Wed Nov 11 2026. No macro, syntax, notation, axiom, sorry.
-/
import Derived.Test.YtflbkgfcnggkpabChecked
import GoSem.Claim
import GoSem.ClaimJoined
import GoSem.ClaimMapViews
import Derived.JoinedTies
import Derived.KernelRfl
namespace Go.Proofs.Ytflbkgfcnggkpab
/- THE CELL 'sum', in the pinned program and in every row, IS THE sha256 OF THE DUMP (.gsa) THAT YtflbkgfcnggkpabProg.lean LOADS. Nothing in Lean hashes anything: it is a label: what it is worth is what the hold of that sum in a sandbox is worth. -/
noncomputable def Try.pinned : Pinned := { name := "ytflbkgfcnggkpab", sum := "c19866de153e3d96912038a61e4795a1c45eb07f915789bfb022562427a82c28", checked := Try.checked }
namespace Rows
def none {H : Type} : Left H := { results := [], args := [] }

/-- 'cellslaw.Ages': WHATEVER THE INPUT: true; the input reads as it did. -/
def agesSpec : ChangeSpec := { name := "ages", fn := fun _ => fun
  | [d] => { results := [.lit (.bool true)], args := [d] }
  | _ => none }
def agesRow : OpenClaim := { program := "ytflbkgfcnggkpab", sum := "c19866de153e3d96912038a61e4795a1c45eb07f915789bfb022562427a82c28", func := "cells/cellslaw.Ages", spec := "ages", recurses := true, apart := false }
def AgesSaid : Prop := agesRow.holds Try.pinned (OpenSpec.ofChange agesSpec)

/-- ITS FALSE NEIGHBOUR: 'it returns false'. Refute it at one input. -/
def agesWrong : ChangeSpec := { name := "ages", fn := fun _ => fun
  | [d] => { results := [.lit (.bool false)], args := [d] }
  | _ => none }
def AgesWrongFalsely : Prop := agesRow.holds Try.pinned (OpenSpec.ofChange agesWrong)

/-- 'cellslaw.Lifts': WHATEVER THE INPUT: true; the input reads as it did. -/
def liftsSpec : ChangeSpec := { name := "lifts", fn := fun _ => fun
  | [d1, d2, d3, d4] => { results := [.lit (.bool true)], args := [d1, d2, d3, d4] }
  | _ => none }
def liftsRow : OpenClaim := { program := "ytflbkgfcnggkpab", sum := "c19866de153e3d96912038a61e4795a1c45eb07f915789bfb022562427a82c28", func := "cells/cellslaw.Lifts", spec := "lifts", recurses := true, apart := false }
def LiftsSaid : Prop := liftsRow.holds Try.pinned (OpenSpec.ofChange liftsSpec)

/-- ITS FALSE NEIGHBOUR: 'it returns false'. Refute it at one input. -/
def liftsWrong : ChangeSpec := { name := "lifts", fn := fun _ => fun
  | [d1, d2, d3, d4] => { results := [.lit (.bool false)], args := [d1, d2, d3, d4] }
  | _ => none }
def LiftsWrongFalsely : Prop := liftsRow.holds Try.pinned (OpenSpec.ofChange liftsWrong)

/-- 'cellslaw.Moves': WHATEVER THE INPUT: true; the input reads as it did. -/
def movesSpec : ChangeSpec := { name := "moves", fn := fun _ => fun
  | [d1, d2, d3, d4] => { results := [.lit (.bool true)], args := [d1, d2, d3, d4] }
  | _ => none }
def movesRow : OpenClaim := { program := "ytflbkgfcnggkpab", sum := "c19866de153e3d96912038a61e4795a1c45eb07f915789bfb022562427a82c28", func := "cells/cellslaw.Moves", spec := "moves", recurses := true, apart := false }
def MovesSaid : Prop := movesRow.holds Try.pinned (OpenSpec.ofChange movesSpec)

/-- ITS FALSE NEIGHBOUR: 'it returns false'. Refute it at one input. -/
def movesWrong : ChangeSpec := { name := "moves", fn := fun _ => fun
  | [d1, d2, d3, d4] => { results := [.lit (.bool false)], args := [d1, d2, d3, d4] }
  | _ => none }
def MovesWrongFalsely : Prop := movesRow.holds Try.pinned (OpenSpec.ofChange movesWrong)

/-- 'cellslaw.Mirrors': WHATEVER THE INPUT: true; the input reads as it did. -/
def mirrorsSpec : ChangeSpec := { name := "mirrors", fn := fun _ => fun
  | [d1, d2] => { results := [.lit (.bool true)], args := [d1, d2] }
  | _ => none }
def mirrorsRow : OpenClaim := { program := "ytflbkgfcnggkpab", sum := "c19866de153e3d96912038a61e4795a1c45eb07f915789bfb022562427a82c28", func := "cells/cellslaw.Mirrors", spec := "mirrors", recurses := true, apart := false }
def MirrorsSaid : Prop := mirrorsRow.holds Try.pinned (OpenSpec.ofChange mirrorsSpec)

/-- ITS FALSE NEIGHBOUR: 'it returns false'. Refute it at one input. -/
def mirrorsWrong : ChangeSpec := { name := "mirrors", fn := fun _ => fun
  | [d1, d2] => { results := [.lit (.bool false)], args := [d1, d2] }
  | _ => none }
def MirrorsWrongFalsely : Prop := mirrorsRow.holds Try.pinned (OpenSpec.ofChange mirrorsWrong)

/-- 'cellslaw.Turned': WHATEVER THE INPUT: true; the input reads as it did. -/
def turnedSpec : ChangeSpec := { name := "turned", fn := fun _ => fun
  | [d1, d2] => { results := [.lit (.bool true)], args := [d1, d2] }
  | _ => none }
def turnedRow : OpenClaim := { program := "ytflbkgfcnggkpab", sum := "c19866de153e3d96912038a61e4795a1c45eb07f915789bfb022562427a82c28", func := "cells/cellslaw.Turned", spec := "turned", recurses := true, apart := false }
def TurnedSaid : Prop := turnedRow.holds Try.pinned (OpenSpec.ofChange turnedSpec)

/-- ITS FALSE NEIGHBOUR: 'it returns false'. Refute it at one input. -/
def turnedWrong : ChangeSpec := { name := "turned", fn := fun _ => fun
  | [d1, d2] => { results := [.lit (.bool false)], args := [d1, d2] }
  | _ => none }
def TurnedWrongFalsely : Prop := turnedRow.holds Try.pinned (OpenSpec.ofChange turnedWrong)

/- THE SECOND FORM. 'bulk': how many values and letters a reading holds, each counted each time it is reached (what is shared counts as often as it is met; a slice's spare places count too). A statement '..UptoSaid' is the law's where the arguments, and the package variables that the reading takes, are together of bulk at most 1048576: NARROWER than '..Said'. Prove '..Said' where nothing that the law and all that it calls make is longer than what came in: it says more and counts as full. Else prove '..UptoSaid'. A law counts once. -/
mutual
def uptoBulk {H : Type} : DataW H → Nat
  | .lit (.string bytes) => bytes.length + 1
  | .lit _ => 1
  | .nil => 1
  | .ptr d => uptoBulk d + 1
  | .slice elems spare => uptoBulkAll elems + uptoBulkAll spare + 1
  | .agg parts => uptoBulkAll parts + 1
  | .iface _ d => uptoBulk d + 1
  | .map entries => uptoBulkEntries entries + 1
  | .held _ => 1
def uptoBulkAll {H : Type} : List (DataW H) → Nat
  | [] => 0
  | d :: r => uptoBulk d + uptoBulkAll r
def uptoBulkEntries {H : Type} : List (Lit × DataW H) → Nat
  | [] => 0
  | x :: r => uptoBulkEntry x + uptoBulkEntries r
def uptoBulkEntry {H : Type} : Lit × DataW H → Nat
  | (.string bytes, d) => bytes.length + uptoBulk d + 1
  | (_, d) => uptoBulk d + 1
 end
def uptoSmall : (H : Type) → List (DataW H) → Bool := fun _ ds => decide (uptoBulkAll ds ≤ 1048576)
def OpenSpec.upto (s : _root_.Go.ChangeSpec) : _root_.Go.OpenSpec := { _root_.Go.OpenSpec.ofChange s with cond := some uptoSmall }

/-- 'cellslaw.Ages', WHERE WHAT IT READS IS OF BULK AT MOST 1048576: true; the input reads as it did. -/
def agesUptoRow : OpenClaim := { program := "ytflbkgfcnggkpab", sum := "c19866de153e3d96912038a61e4795a1c45eb07f915789bfb022562427a82c28", func := "cells/cellslaw.Ages", spec := "ages", recurses := true, apart := false, narrowed := true }
def AgesUptoSaid : Prop := agesUptoRow.holds Try.pinned (OpenSpec.upto agesSpec)

/-- 'cellslaw.Lifts', WHERE WHAT IT READS IS OF BULK AT MOST 1048576: true; the input reads as it did. -/
def liftsUptoRow : OpenClaim := { program := "ytflbkgfcnggkpab", sum := "c19866de153e3d96912038a61e4795a1c45eb07f915789bfb022562427a82c28", func := "cells/cellslaw.Lifts", spec := "lifts", recurses := true, apart := false, narrowed := true }
def LiftsUptoSaid : Prop := liftsUptoRow.holds Try.pinned (OpenSpec.upto liftsSpec)

/-- 'cellslaw.Moves', WHERE WHAT IT READS IS OF BULK AT MOST 1048576: true; the input reads as it did. -/
def movesUptoRow : OpenClaim := { program := "ytflbkgfcnggkpab", sum := "c19866de153e3d96912038a61e4795a1c45eb07f915789bfb022562427a82c28", func := "cells/cellslaw.Moves", spec := "moves", recurses := true, apart := false, narrowed := true }
def MovesUptoSaid : Prop := movesUptoRow.holds Try.pinned (OpenSpec.upto movesSpec)

/-- 'cellslaw.Mirrors', WHERE WHAT IT READS IS OF BULK AT MOST 1048576: true; the input reads as it did. -/
def mirrorsUptoRow : OpenClaim := { program := "ytflbkgfcnggkpab", sum := "c19866de153e3d96912038a61e4795a1c45eb07f915789bfb022562427a82c28", func := "cells/cellslaw.Mirrors", spec := "mirrors", recurses := true, apart := false, narrowed := true }
def MirrorsUptoSaid : Prop := mirrorsUptoRow.holds Try.pinned (OpenSpec.upto mirrorsSpec)

/-- 'cellslaw.Turned', WHERE WHAT IT READS IS OF BULK AT MOST 1048576: true; the input reads as it did. -/
def turnedUptoRow : OpenClaim := { program := "ytflbkgfcnggkpab", sum := "c19866de153e3d96912038a61e4795a1c45eb07f915789bfb022562427a82c28", func := "cells/cellslaw.Turned", spec := "turned", recurses := true, apart := false, narrowed := true }
def TurnedUptoSaid : Prop := turnedUptoRow.holds Try.pinned (OpenSpec.upto turnedSpec)

end Rows
end Go.Proofs.Ytflbkgfcnggkpab
