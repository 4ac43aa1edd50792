/-
  DERIVED. GIVEN WITH THE SEED: THE CARDS: each row of YtcgkkppidkkjiaaGreatDoorRows.lean that lists a variable, with what it lists TIED to the program's text (the seventh form; the later family's looks); each row that meets fmt, with fmt's text TOLD by the authors' own Lean function (tested against real Go, not proved from fmt's source: count such statements apart). THE CARD IS WHAT COUNTS. Prove the row's statement (the work); the ties are given (YtcgkkppidkkjiaaGreatDoorTie.lean); close each card by the builder's one call (the guide's Derived/Test/ToyasCard.lean, 'card_holds'). Laid BY PROGRAM, IN A SANDBOX (cutbox-door.mjs). By AI agents, Wed Nov 11 2026. No macro, syntax, notation, axiom, sorry.
-/
import Derived.Test.YtcgkkppidkkjiaaGreatDoorRows
import GoSem.ClaimSeven
namespace Go.Proofs.YtcgkkppidkkjiaaGreatDoor
namespace Rows

/-- THE TIED CARD OF 'cellularlaw15.TabletreeRows'. -/
def tabletreeRowsCard : Claim7 := { stood := { row := tabletreeRowsRow, standIns := [], harness := (true, "a1ac0c5359065b556de7da3f98677645bd2d32112aa8e7925abe96063ffab3c0"), looks := false }, kinds := [], alts := [], laidByText := true, laidKinds := [.data], laidTests := true, laidLooks := .later }
def TabletreeRowsCardSaid : Prop := Claim7.holds Tryz.pinned (.plain (OpenSpec.ofChange tabletreeRowsSpec)) tabletreeRowsCard

/-- THE SECOND FORM's CARD OF 'cellularlaw15.TabletreeRows'. -/
def tabletreeRowsUptoCard : Claim7 := { stood := { row := tabletreeRowsUptoRow, standIns := [], harness := (true, "a1ac0c5359065b556de7da3f98677645bd2d32112aa8e7925abe96063ffab3c0"), looks := false }, kinds := [], alts := [], laidByText := true, laidKinds := [.data], laidTests := true, laidLooks := .later }
def TabletreeRowsUptoCardSaid : Prop := Claim7.holds Tryz.pinned (.plain (OpenSpec.upto tabletreeRowsSpec)) tabletreeRowsUptoCard
end Rows
end Go.Proofs.YtcgkkppidkkjiaaGreatDoor
