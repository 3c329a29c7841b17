/-
  DERIVED. GIVEN WITH THE SEED: THE CARDS: each row of YthmhjjkmnnmjlaaGreatDoorRows.lean that lists a variable, with what it lists TIED to the program's text (the seventh form; the later family's looks); each row that meets fmt, with fmt's text TOLD by the authors' own Lean function (tested against real Go, not proved from fmt's source: count such statements apart). THE CARD IS WHAT COUNTS. Prove the row's statement (the work); the ties are given (YthmhjjkmnnmjlaaGreatDoorTie.lean); close each card by the builder's one call (the guide's Derived/Test/ToyasCard.lean, 'card_holds'). Laid BY PROGRAM, IN A SANDBOX (cutbox-door.mjs). By AI agents, Wed Nov 11 2026. No macro, syntax, notation, axiom, sorry.
-/
import Derived.Test.YthmhjjkmnnmjlaaGreatDoorRows
import GoSem.ClaimSeven
namespace Go.Proofs.YthmhjjkmnnmjlaaGreatDoor
namespace Rows

/-- THE TIED CARD OF 'cellslaw.Cells'. -/
def cellsCard : Claim7 := { stood := { row := cellsRow, standIns := [], harness := (true, "1e122048fcc0be95b9849b7656e08d7b29cceeeb399a618f6c8635e0fdeed315"), looks := false }, kinds := [], alts := [], laidByText := true, laidKinds := [.data, .data, .data], laidTests := true, laidLooks := .later }
def CellsCardSaid : Prop := Claim7.holds Tryz.pinned (.plain (OpenSpec.ofChange cellsSpec)) cellsCard

/-- THE TIED CARD OF 'cellslaw.Planes'. -/
def planesCard : Claim7 := { stood := { row := planesRow, standIns := [], harness := (true, "1e122048fcc0be95b9849b7656e08d7b29cceeeb399a618f6c8635e0fdeed315"), looks := false }, kinds := [], alts := [], laidByText := true, laidKinds := [.data, .data, .data], laidTests := true, laidLooks := .later }
def PlanesCardSaid : Prop := Claim7.holds Tryz.pinned (.plain (OpenSpec.ofChange planesSpec)) planesCard

/-- THE TIED CARD OF 'cellslaw.Wraps'. -/
def wrapsCard : Claim7 := { stood := { row := wrapsRow, standIns := [], harness := (true, "1e122048fcc0be95b9849b7656e08d7b29cceeeb399a618f6c8635e0fdeed315"), looks := false }, kinds := [], alts := [], laidByText := true, laidKinds := [.data, .data, .data], laidTests := true, laidLooks := .later }
def WrapsCardSaid : Prop := Claim7.holds Tryz.pinned (.plain (OpenSpec.ofChange wrapsSpec)) wrapsCard

/-- THE TIED CARD OF 'cellslaw.Spheres'. -/
def spheresCard : Claim7 := { stood := { row := spheresRow, standIns := [], harness := (true, "1e122048fcc0be95b9849b7656e08d7b29cceeeb399a618f6c8635e0fdeed315"), looks := false }, kinds := [], alts := [], laidByText := true, laidKinds := [.data, .data, .data], laidTests := true, laidLooks := .later }
def SpheresCardSaid : Prop := Claim7.holds Tryz.pinned (.plain (OpenSpec.ofChange spheresSpec)) spheresCard

/-- THE TIED CARD OF 'cellslaw.Endless'. -/
def endlessCard : Claim7 := { stood := { row := endlessRow, standIns := [], harness := (true, "1e122048fcc0be95b9849b7656e08d7b29cceeeb399a618f6c8635e0fdeed315"), looks := false }, kinds := [], alts := [], laidByText := true, laidKinds := [.data, .data, .data], laidTests := true, laidLooks := .later }
def EndlessCardSaid : Prop := Claim7.holds Tryz.pinned (.plain (OpenSpec.ofChange endlessSpec)) endlessCard

/-- THE TIED CARD OF 'cellslaw.All'. -/
def allCard : Claim7 := { stood := { row := allRow, standIns := [], harness := (true, "1e122048fcc0be95b9849b7656e08d7b29cceeeb399a618f6c8635e0fdeed315"), looks := false }, kinds := [], alts := [], laidByText := true, laidKinds := [.data, .data, .data], laidTests := true, laidLooks := .later }
def AllCardSaid : Prop := Claim7.holds Tryz.pinned (.plain (OpenSpec.ofChange allSpec)) allCard

/-- THE SECOND FORM's CARD OF 'cellslaw.Cells'. -/
def cellsUptoCard : Claim7 := { stood := { row := cellsUptoRow, standIns := [], harness := (true, "1e122048fcc0be95b9849b7656e08d7b29cceeeb399a618f6c8635e0fdeed315"), looks := false }, kinds := [], alts := [], laidByText := true, laidKinds := [.data, .data, .data], laidTests := true, laidLooks := .later }
def CellsUptoCardSaid : Prop := Claim7.holds Tryz.pinned (.plain (OpenSpec.upto cellsSpec)) cellsUptoCard

/-- THE SECOND FORM's CARD OF 'cellslaw.Planes'. -/
def planesUptoCard : Claim7 := { stood := { row := planesUptoRow, standIns := [], harness := (true, "1e122048fcc0be95b9849b7656e08d7b29cceeeb399a618f6c8635e0fdeed315"), looks := false }, kinds := [], alts := [], laidByText := true, laidKinds := [.data, .data, .data], laidTests := true, laidLooks := .later }
def PlanesUptoCardSaid : Prop := Claim7.holds Tryz.pinned (.plain (OpenSpec.upto planesSpec)) planesUptoCard

/-- THE SECOND FORM's CARD OF 'cellslaw.Wraps'. -/
def wrapsUptoCard : Claim7 := { stood := { row := wrapsUptoRow, standIns := [], harness := (true, "1e122048fcc0be95b9849b7656e08d7b29cceeeb399a618f6c8635e0fdeed315"), looks := false }, kinds := [], alts := [], laidByText := true, laidKinds := [.data, .data, .data], laidTests := true, laidLooks := .later }
def WrapsUptoCardSaid : Prop := Claim7.holds Tryz.pinned (.plain (OpenSpec.upto wrapsSpec)) wrapsUptoCard

/-- THE SECOND FORM's CARD OF 'cellslaw.Spheres'. -/
def spheresUptoCard : Claim7 := { stood := { row := spheresUptoRow, standIns := [], harness := (true, "1e122048fcc0be95b9849b7656e08d7b29cceeeb399a618f6c8635e0fdeed315"), looks := false }, kinds := [], alts := [], laidByText := true, laidKinds := [.data, .data, .data], laidTests := true, laidLooks := .later }
def SpheresUptoCardSaid : Prop := Claim7.holds Tryz.pinned (.plain (OpenSpec.upto spheresSpec)) spheresUptoCard

/-- THE SECOND FORM's CARD OF 'cellslaw.Endless'. -/
def endlessUptoCard : Claim7 := { stood := { row := endlessUptoRow, standIns := [], harness := (true, "1e122048fcc0be95b9849b7656e08d7b29cceeeb399a618f6c8635e0fdeed315"), looks := false }, kinds := [], alts := [], laidByText := true, laidKinds := [.data, .data, .data], laidTests := true, laidLooks := .later }
def EndlessUptoCardSaid : Prop := Claim7.holds Tryz.pinned (.plain (OpenSpec.upto endlessSpec)) endlessUptoCard

/-- THE SECOND FORM's CARD OF 'cellslaw.All'. -/
def allUptoCard : Claim7 := { stood := { row := allUptoRow, standIns := [], harness := (true, "1e122048fcc0be95b9849b7656e08d7b29cceeeb399a618f6c8635e0fdeed315"), looks := false }, kinds := [], alts := [], laidByText := true, laidKinds := [.data, .data, .data], laidTests := true, laidLooks := .later }
def AllUptoCardSaid : Prop := Claim7.holds Tryz.pinned (.plain (OpenSpec.upto allSpec)) allUptoCard
end Rows
end Go.Proofs.YthmhjjkmnnmjlaaGreatDoor
