/-
  DERIVED. GIVEN WITH THE SEED: THE CARDS: each row of YtbdgfegafckkbaaGreatDoorRows.lean that lists a variable, with what it lists TIED to the program's text (the seventh form; the later family's looks); each row that meets fmt, with fmt's text TOLD by the authors' own Lean function (tested against real Go, not proved from fmt's source: count such statements apart). THE CARD IS WHAT COUNTS. Prove the row's statement (the work); the ties are given (YtbdgfegafckkbaaGreatDoorTie.lean); close each card by the builder's one call (the guide's Derived/Test/ToyasCard.lean, 'card_holds'). Laid BY PROGRAM, IN A SANDBOX (cutbox-door.mjs). By AI agents, Wed Nov 11 2026. No macro, syntax, notation, axiom, sorry.
-/
import Derived.Test.YtbdgfegafckkbaaGreatDoorRows
import GoSem.ClaimSeven
namespace Go.Proofs.YtbdgfegafckkbaaGreatDoor
namespace Rows

/-- THE TIED CARD OF 'cellularlaw09.GenerationsPlain'. -/
def generationsPlainCard : Claim7 := { stood := { row := generationsPlainRow, standIns := [], harness := (true, "fecdc24d634c70149904a32657ccc11b4b4315cc0699e69dadfdbe61badda81a"), looks := true }, kinds := [], alts := [], laidByText := true, laidKinds := [.data, .data, .data, .data, .sentinel, .sentinel, .pinned], laidTests := true, laidLooks := .later }
def GenerationsPlainCardSaid : Prop := Claim7.holds Tryz.pinned (.plain (OpenSpec.ofChange generationsPlainSpec)) generationsPlainCard

/-- THE SECOND FORM's CARD OF 'cellularlaw09.GenerationsPlain'. -/
def generationsPlainUptoCard : Claim7 := { stood := { row := generationsPlainUptoRow, standIns := [], harness := (true, "fecdc24d634c70149904a32657ccc11b4b4315cc0699e69dadfdbe61badda81a"), looks := true }, kinds := [], alts := [], laidByText := true, laidKinds := [.data, .data, .data, .data, .sentinel, .sentinel, .pinned], laidTests := true, laidLooks := .later }
def GenerationsPlainUptoCardSaid : Prop := Claim7.holds Tryz.pinned (.plain (OpenSpec.upto generationsPlainSpec)) generationsPlainUptoCard
end Rows
end Go.Proofs.YtbdgfegafckkbaaGreatDoor
