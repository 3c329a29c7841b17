/-
  No cell of these rows narrows 'for every input' (looked for: loops, veiled, ifaces, maps, wideKeys, modest, calm, conditions, laid).
  DERIVED. THE GIVEN ROWS OF THIS SEAT. 9 by the template 'for every input the law returns true; each argument reads behind the call as it read before'; 0 by the template 'total and deterministic' (their statements: YtiimimclbkjcbaaTotals.lean).
  GIVEN WITH THE SEED: the statements are not yours to turn. If you find one false, say at which input.
  Laid BY PROGRAM, IN A SANDBOX (cutbox-rows.mjs): the forced cells as the released guide's own fill.sh prints them over the translation 05ac3f0ece49dcf1… (all of the seat's roots in one cut). By AI agents, Wed Nov 11 2026. No macro, syntax, notation, axiom, sorry.
-/
import Derived.Test.YtiimimclbkjcbaaChecked
import GoSem.Claim
import GoSem.ClaimJoined
import GoSem.ClaimMapViews
import Derived.JoinedTies
import Derived.KernelRfl
namespace Go.Proofs.Ytiimimclbkjcbaa
/- THE CELL 'sum', in the pinned program and in every row, IS THE sha256 OF THE DUMP (.gsa) THAT YtiimimclbkjcbaaProg.lean LOADS. Nothing in Lean hashes anything: it is a label: what it is worth is what the hold of that sum in a sandbox is worth. -/
noncomputable def Try.pinned : Pinned := { name := "ytiimimclbkjcbaa", sum := "05ac3f0ece49dcf1cd8d5bc99161627ebfef61218831dbe49ce402733d605298", checked := Try.checked }
namespace Rows
def none {H : Type} : Left H := { results := [], args := [] }

/-- 'cellslaw.Begun': WHATEVER THE INPUT: true; the input reads as it did. -/
def begunSpec : ChangeSpec := { name := "begun", fn := fun _ => fun
  | [d1, d2] => { results := [.lit (.bool true)], args := [d1, d2] }
  | _ => none }
def begunRow : OpenClaim := { program := "ytiimimclbkjcbaa", sum := "05ac3f0ece49dcf1cd8d5bc99161627ebfef61218831dbe49ce402733d605298", func := "cells/cellslaw.Begun", spec := "begun", apart := false }
def BegunSaid : Prop := begunRow.holds Try.pinned (OpenSpec.ofChange begunSpec)

/-- ITS FALSE NEIGHBOUR: 'it returns false'. Refute it at one input. -/
def begunWrong : ChangeSpec := { name := "begun", fn := fun _ => fun
  | [d1, d2] => { results := [.lit (.bool false)], args := [d1, d2] }
  | _ => none }
def BegunWrongFalsely : Prop := begunRow.holds Try.pinned (OpenSpec.ofChange begunWrong)

/-- 'cellslaw.Placed': WHATEVER THE INPUT: true; the input reads as it did. -/
def placedSpec : ChangeSpec := { name := "placed", fn := fun _ => fun
  | [d1, d2] => { results := [.lit (.bool true)], args := [d1, d2] }
  | _ => none }
def placedRow : OpenClaim := { program := "ytiimimclbkjcbaa", sum := "05ac3f0ece49dcf1cd8d5bc99161627ebfef61218831dbe49ce402733d605298", func := "cells/cellslaw.Placed", spec := "placed", apart := false }
def PlacedSaid : Prop := placedRow.holds Try.pinned (OpenSpec.ofChange placedSpec)

/-- ITS FALSE NEIGHBOUR: 'it returns false'. Refute it at one input. -/
def placedWrong : ChangeSpec := { name := "placed", fn := fun _ => fun
  | [d1, d2] => { results := [.lit (.bool false)], args := [d1, d2] }
  | _ => none }
def PlacedWrongFalsely : Prop := placedRow.holds Try.pinned (OpenSpec.ofChange placedWrong)

/-- 'cellslaw.Held': WHATEVER THE INPUT: true; the input reads as it did. -/
def heldSpec : ChangeSpec := { name := "held", fn := fun _ => fun
  | [d1, d2, d3, d4] => { results := [.lit (.bool true)], args := [d1, d2, d3, d4] }
  | _ => none }
def heldRow : OpenClaim := { program := "ytiimimclbkjcbaa", sum := "05ac3f0ece49dcf1cd8d5bc99161627ebfef61218831dbe49ce402733d605298", func := "cells/cellslaw.Held", spec := "held", recurses := true, apart := false }
def HeldSaid : Prop := heldRow.holds Try.pinned (OpenSpec.ofChange heldSpec)

/-- ITS FALSE NEIGHBOUR: 'it returns false'. Refute it at one input. -/
def heldWrong : ChangeSpec := { name := "held", fn := fun _ => fun
  | [d1, d2, d3, d4] => { results := [.lit (.bool false)], args := [d1, d2, d3, d4] }
  | _ => none }
def HeldWrongFalsely : Prop := heldRow.holds Try.pinned (OpenSpec.ofChange heldWrong)

/-- 'cellslaw.Ages': WHATEVER THE INPUT: true; the input reads as it did. -/
def agesSpec : ChangeSpec := { name := "ages", fn := fun _ => fun
  | [d] => { results := [.lit (.bool true)], args := [d] }
  | _ => none }
def agesRow : OpenClaim := { program := "ytiimimclbkjcbaa", sum := "05ac3f0ece49dcf1cd8d5bc99161627ebfef61218831dbe49ce402733d605298", func := "cells/cellslaw.Ages", spec := "ages", recurses := true, apart := false }
def AgesSaid : Prop := agesRow.holds Try.pinned (OpenSpec.ofChange agesSpec)

/-- ITS FALSE NEIGHBOUR: 'it returns false'. Refute it at one input. -/
def agesWrong : ChangeSpec := { name := "ages", fn := fun _ => fun
  | [d] => { results := [.lit (.bool false)], args := [d] }
  | _ => none }
def AgesWrongFalsely : Prop := agesRow.holds Try.pinned (OpenSpec.ofChange agesWrong)

/-- 'cellslaw.Lifts': WHATEVER THE INPUT: true; the input reads as it did. -/
def liftsSpec : ChangeSpec := { name := "lifts", fn := fun _ => fun
  | [d1, d2, d3, d4] => { results := [.lit (.bool true)], args := [d1, d2, d3, d4] }
  | _ => none }
def liftsRow : OpenClaim := { program := "ytiimimclbkjcbaa", sum := "05ac3f0ece49dcf1cd8d5bc99161627ebfef61218831dbe49ce402733d605298", func := "cells/cellslaw.Lifts", spec := "lifts", recurses := true, apart := false }
def LiftsSaid : Prop := liftsRow.holds Try.pinned (OpenSpec.ofChange liftsSpec)

/-- ITS FALSE NEIGHBOUR: 'it returns false'. Refute it at one input. -/
def liftsWrong : ChangeSpec := { name := "lifts", fn := fun _ => fun
  | [d1, d2, d3, d4] => { results := [.lit (.bool false)], args := [d1, d2, d3, d4] }
  | _ => none }
def LiftsWrongFalsely : Prop := liftsRow.holds Try.pinned (OpenSpec.ofChange liftsWrong)

/-- 'cellslaw.Moves': WHATEVER THE INPUT: true; the input reads as it did. -/
def movesSpec : ChangeSpec := { name := "moves", fn := fun _ => fun
  | [d1, d2, d3, d4] => { results := [.lit (.bool true)], args := [d1, d2, d3, d4] }
  | _ => none }
def movesRow : OpenClaim := { program := "ytiimimclbkjcbaa", sum := "05ac3f0ece49dcf1cd8d5bc99161627ebfef61218831dbe49ce402733d605298", func := "cells/cellslaw.Moves", spec := "moves", recurses := true, apart := false }
def MovesSaid : Prop := movesRow.holds Try.pinned (OpenSpec.ofChange movesSpec)

/-- ITS FALSE NEIGHBOUR: 'it returns false'. Refute it at one input. -/
def movesWrong : ChangeSpec := { name := "moves", fn := fun _ => fun
  | [d1, d2, d3, d4] => { results := [.lit (.bool false)], args := [d1, d2, d3, d4] }
  | _ => none }
def MovesWrongFalsely : Prop := movesRow.holds Try.pinned (OpenSpec.ofChange movesWrong)

/-- 'cellslaw.Mirrors': WHATEVER THE INPUT: true; the input reads as it did. -/
def mirrorsSpec : ChangeSpec := { name := "mirrors", fn := fun _ => fun
  | [d1, d2] => { results := [.lit (.bool true)], args := [d1, d2] }
  | _ => none }
def mirrorsRow : OpenClaim := { program := "ytiimimclbkjcbaa", sum := "05ac3f0ece49dcf1cd8d5bc99161627ebfef61218831dbe49ce402733d605298", func := "cells/cellslaw.Mirrors", spec := "mirrors", recurses := true, apart := false }
def MirrorsSaid : Prop := mirrorsRow.holds Try.pinned (OpenSpec.ofChange mirrorsSpec)

/-- ITS FALSE NEIGHBOUR: 'it returns false'. Refute it at one input. -/
def mirrorsWrong : ChangeSpec := { name := "mirrors", fn := fun _ => fun
  | [d1, d2] => { results := [.lit (.bool false)], args := [d1, d2] }
  | _ => none }
def MirrorsWrongFalsely : Prop := mirrorsRow.holds Try.pinned (OpenSpec.ofChange mirrorsWrong)

/-- 'cellslaw.Turned': WHATEVER THE INPUT: true; the input reads as it did. -/
def turnedSpec : ChangeSpec := { name := "turned", fn := fun _ => fun
  | [d1, d2] => { results := [.lit (.bool true)], args := [d1, d2] }
  | _ => none }
def turnedRow : OpenClaim := { program := "ytiimimclbkjcbaa", sum := "05ac3f0ece49dcf1cd8d5bc99161627ebfef61218831dbe49ce402733d605298", func := "cells/cellslaw.Turned", spec := "turned", recurses := true, apart := false }
def TurnedSaid : Prop := turnedRow.holds Try.pinned (OpenSpec.ofChange turnedSpec)

/-- ITS FALSE NEIGHBOUR: 'it returns false'. Refute it at one input. -/
def turnedWrong : ChangeSpec := { name := "turned", fn := fun _ => fun
  | [d1, d2] => { results := [.lit (.bool false)], args := [d1, d2] }
  | _ => none }
def TurnedWrongFalsely : Prop := turnedRow.holds Try.pinned (OpenSpec.ofChange turnedWrong)

/-- 'cellslaw.Strips': WHATEVER THE INPUT: true; the input reads as it did. -/
def stripsSpec : ChangeSpec := { name := "strips", fn := fun _ => fun
  | [d1, d2, d3] => { results := [.lit (.bool true)], args := [d1, d2, d3] }
  | _ => none }
def stripsRow : OpenClaim := { program := "ytiimimclbkjcbaa", sum := "05ac3f0ece49dcf1cd8d5bc99161627ebfef61218831dbe49ce402733d605298", func := "cells/cellslaw.Strips", spec := "strips", recurses := true, apart := false }
def StripsSaid : Prop := stripsRow.holds Try.pinned (OpenSpec.ofChange stripsSpec)

/-- ITS FALSE NEIGHBOUR: 'it returns false'. Refute it at one input. -/
def stripsWrong : ChangeSpec := { name := "strips", fn := fun _ => fun
  | [d1, d2, d3] => { results := [.lit (.bool false)], args := [d1, d2, d3] }
  | _ => none }
def StripsWrongFalsely : Prop := stripsRow.holds Try.pinned (OpenSpec.ofChange stripsWrong)

/- THE SECOND FORM. 'bulk': how many values and letters a reading holds, each counted each time it is reached (what is shared counts as often as it is met; a slice's spare places count too). A statement '..UptoSaid' is the law's where the arguments, and the package variables that the reading takes, are together of bulk at most 1048576: NARROWER than '..Said'. Prove '..Said' where nothing that the law and all that it calls make is longer than what came in: it says more and counts as full. Else prove '..UptoSaid'. A law counts once. -/
mutual
def uptoBulk {H : Type} : DataW H → Nat
  | .lit (.string bytes) => bytes.length + 1
  | .lit _ => 1
  | .nil => 1
  | .ptr d => uptoBulk d + 1
  | .slice elems spare => uptoBulkAll elems + uptoBulkAll spare + 1
  | .agg parts => uptoBulkAll parts + 1
  | .iface _ d => uptoBulk d + 1
  | .map entries => uptoBulkEntries entries + 1
  | .held _ => 1
def uptoBulkAll {H : Type} : List (DataW H) → Nat
  | [] => 0
  | d :: r => uptoBulk d + uptoBulkAll r
def uptoBulkEntries {H : Type} : List (Lit × DataW H) → Nat
  | [] => 0
  | x :: r => uptoBulkEntry x + uptoBulkEntries r
def uptoBulkEntry {H : Type} : Lit × DataW H → Nat
  | (.string bytes, d) => bytes.length + uptoBulk d + 1
  | (_, d) => uptoBulk d + 1
 end
def uptoSmall : (H : Type) → List (DataW H) → Bool := fun _ ds => decide (uptoBulkAll ds ≤ 1048576)
def OpenSpec.upto (s : _root_.Go.ChangeSpec) : _root_.Go.OpenSpec := { _root_.Go.OpenSpec.ofChange s with cond := some uptoSmall }

/-- 'cellslaw.Begun', WHERE WHAT IT READS IS OF BULK AT MOST 1048576: true; the input reads as it did. -/
def begunUptoRow : OpenClaim := { program := "ytiimimclbkjcbaa", sum := "05ac3f0ece49dcf1cd8d5bc99161627ebfef61218831dbe49ce402733d605298", func := "cells/cellslaw.Begun", spec := "begun", apart := false, narrowed := true }
def BegunUptoSaid : Prop := begunUptoRow.holds Try.pinned (OpenSpec.upto begunSpec)

/-- 'cellslaw.Placed', WHERE WHAT IT READS IS OF BULK AT MOST 1048576: true; the input reads as it did. -/
def placedUptoRow : OpenClaim := { program := "ytiimimclbkjcbaa", sum := "05ac3f0ece49dcf1cd8d5bc99161627ebfef61218831dbe49ce402733d605298", func := "cells/cellslaw.Placed", spec := "placed", apart := false, narrowed := true }
def PlacedUptoSaid : Prop := placedUptoRow.holds Try.pinned (OpenSpec.upto placedSpec)

/-- 'cellslaw.Held', WHERE WHAT IT READS IS OF BULK AT MOST 1048576: true; the input reads as it did. -/
def heldUptoRow : OpenClaim := { program := "ytiimimclbkjcbaa", sum := "05ac3f0ece49dcf1cd8d5bc99161627ebfef61218831dbe49ce402733d605298", func := "cells/cellslaw.Held", spec := "held", recurses := true, apart := false, narrowed := true }
def HeldUptoSaid : Prop := heldUptoRow.holds Try.pinned (OpenSpec.upto heldSpec)

/-- 'cellslaw.Ages', WHERE WHAT IT READS IS OF BULK AT MOST 1048576: true; the input reads as it did. -/
def agesUptoRow : OpenClaim := { program := "ytiimimclbkjcbaa", sum := "05ac3f0ece49dcf1cd8d5bc99161627ebfef61218831dbe49ce402733d605298", func := "cells/cellslaw.Ages", spec := "ages", recurses := true, apart := false, narrowed := true }
def AgesUptoSaid : Prop := agesUptoRow.holds Try.pinned (OpenSpec.upto agesSpec)

/-- 'cellslaw.Lifts', WHERE WHAT IT READS IS OF BULK AT MOST 1048576: true; the input reads as it did. -/
def liftsUptoRow : OpenClaim := { program := "ytiimimclbkjcbaa", sum := "05ac3f0ece49dcf1cd8d5bc99161627ebfef61218831dbe49ce402733d605298", func := "cells/cellslaw.Lifts", spec := "lifts", recurses := true, apart := false, narrowed := true }
def LiftsUptoSaid : Prop := liftsUptoRow.holds Try.pinned (OpenSpec.upto liftsSpec)

/-- 'cellslaw.Moves', WHERE WHAT IT READS IS OF BULK AT MOST 1048576: true; the input reads as it did. -/
def movesUptoRow : OpenClaim := { program := "ytiimimclbkjcbaa", sum := "05ac3f0ece49dcf1cd8d5bc99161627ebfef61218831dbe49ce402733d605298", func := "cells/cellslaw.Moves", spec := "moves", recurses := true, apart := false, narrowed := true }
def MovesUptoSaid : Prop := movesUptoRow.holds Try.pinned (OpenSpec.upto movesSpec)

/-- 'cellslaw.Mirrors', WHERE WHAT IT READS IS OF BULK AT MOST 1048576: true; the input reads as it did. -/
def mirrorsUptoRow : OpenClaim := { program := "ytiimimclbkjcbaa", sum := "05ac3f0ece49dcf1cd8d5bc99161627ebfef61218831dbe49ce402733d605298", func := "cells/cellslaw.Mirrors", spec := "mirrors", recurses := true, apart := false, narrowed := true }
def MirrorsUptoSaid : Prop := mirrorsUptoRow.holds Try.pinned (OpenSpec.upto mirrorsSpec)

/-- 'cellslaw.Turned', WHERE WHAT IT READS IS OF BULK AT MOST 1048576: true; the input reads as it did. -/
def turnedUptoRow : OpenClaim := { program := "ytiimimclbkjcbaa", sum := "05ac3f0ece49dcf1cd8d5bc99161627ebfef61218831dbe49ce402733d605298", func := "cells/cellslaw.Turned", spec := "turned", recurses := true, apart := false, narrowed := true }
def TurnedUptoSaid : Prop := turnedUptoRow.holds Try.pinned (OpenSpec.upto turnedSpec)

/-- 'cellslaw.Strips', WHERE WHAT IT READS IS OF BULK AT MOST 1048576: true; the input reads as it did. -/
def stripsUptoRow : OpenClaim := { program := "ytiimimclbkjcbaa", sum := "05ac3f0ece49dcf1cd8d5bc99161627ebfef61218831dbe49ce402733d605298", func := "cells/cellslaw.Strips", spec := "strips", recurses := true, apart := false, narrowed := true }
def StripsUptoSaid : Prop := stripsUptoRow.holds Try.pinned (OpenSpec.upto stripsSpec)

end Rows
end Go.Proofs.Ytiimimclbkjcbaa
