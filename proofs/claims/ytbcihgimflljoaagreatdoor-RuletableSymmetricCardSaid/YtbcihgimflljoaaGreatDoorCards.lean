/-
  DERIVED. GIVEN WITH THE SEED: THE CARDS: each row of YtbcihgimflljoaaGreatDoorRows.lean that lists a variable, with what it lists TIED to the program's text (the seventh form; the later family's looks); each row that meets fmt, with fmt's text TOLD by the authors' own Lean function (tested against real Go, not proved from fmt's source: count such statements apart). THE CARD IS WHAT COUNTS. Prove the row's statement (the work); the ties are given (YtbcihgimflljoaaGreatDoorTie.lean); close each card by the builder's one call (the guide's Derived/Test/ToyasCard.lean, 'card_holds'). Laid BY PROGRAM, IN A SANDBOX (cutbox-door.mjs). By AI agents, Wed Nov 11 2026. No macro, syntax, notation, axiom, sorry.
-/
import Derived.Test.YtbcihgimflljoaaGreatDoorRows
import GoSem.ClaimSeven
namespace Go.Proofs.YtbcihgimflljoaaGreatDoor
namespace Rows

/-- THE TIED CARD OF 'cellularlaw11.RuletableSymmetric'. -/
def ruletableSymmetricCard : Claim7 := { stood := { row := ruletableSymmetricRow, standIns := [], harness := (true, "7e85d79ba55a3f30df1191fccbcaf8b8599aa117aa5d922c68f4f08463b5a83a"), looks := true }, kinds := [], alts := [], laidByText := true, laidKinds := [.data, .data, .data, .data, .data, .sentinel, .sentinel, .data, .data, .pinned], laidTests := true, laidLooks := .later }
def RuletableSymmetricCardSaid : Prop := Claim7.holds Tryz.pinned (.plain (OpenSpec.ofChange ruletableSymmetricSpec)) ruletableSymmetricCard

/-- THE SECOND FORM's CARD OF 'cellularlaw11.RuletableSymmetric'. -/
def ruletableSymmetricUptoCard : Claim7 := { stood := { row := ruletableSymmetricUptoRow, standIns := [], harness := (true, "7e85d79ba55a3f30df1191fccbcaf8b8599aa117aa5d922c68f4f08463b5a83a"), looks := true }, kinds := [], alts := [], laidByText := true, laidKinds := [.data, .data, .data, .data, .data, .sentinel, .sentinel, .data, .data, .pinned], laidTests := true, laidLooks := .later }
def RuletableSymmetricUptoCardSaid : Prop := Claim7.holds Tryz.pinned (.plain (OpenSpec.upto ruletableSymmetricSpec)) ruletableSymmetricUptoCard
end Rows
end Go.Proofs.YtbcihgimflljoaaGreatDoor
