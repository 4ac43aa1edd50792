/-
  DERIVED. GIVEN WITH THE SEED: THE CARDS: each row of YtgnnemlnjflifaaDoorRows.lean that lists a variable, with what it lists TIED to the program's text (the seventh form; the later family's looks); each row that meets fmt, with fmt's text TOLD by the authors' own Lean function (tested against real Go, not proved from fmt's source: count such statements apart). THE CARD IS WHAT COUNTS. Prove the row's statement (the work); the ties are given (YtgnnemlnjflifaaDoorTie.lean); close each card by the builder's one call (the guide's Derived/Test/ToyasCard.lean, 'card_holds'). Laid BY PROGRAM, IN A SANDBOX (cutbox-door.mjs). By AI agents, Wed Nov 11 2026. No macro, syntax, notation, axiom, sorry.
-/
import Derived.Test.YtgnnemlnjflifaaDoorRows
import GoSem.ClaimSeven
namespace Go.Proofs.YtgnnemlnjflifaaDoor
namespace Rows

/-- THE TIED CARD OF 'cellularlaw07.HoodSame'. -/
def hoodSameCard : Claim7 := { stood := { row := hoodSameRow, standIns := [], harness := (true, "837c5a8baa90256ce2faabb1c1becc32d71bf91c58ceefd039f81070e9dca988"), looks := false }, kinds := [], alts := [], laidByText := true, laidKinds := [.data], laidTests := true, laidLooks := .later }
def HoodSameCardSaid : Prop := Claim7.holds Tryd.pinned (.plain (OpenSpec.ofChange hoodSameSpec)) hoodSameCard

/-- THE SECOND FORM's CARD OF 'cellularlaw07.HoodSame'. -/
def hoodSameUptoCard : Claim7 := { stood := { row := hoodSameUptoRow, standIns := [], harness := (true, "837c5a8baa90256ce2faabb1c1becc32d71bf91c58ceefd039f81070e9dca988"), looks := false }, kinds := [], alts := [], laidByText := true, laidKinds := [.data], laidTests := true, laidLooks := .later }
def HoodSameUptoCardSaid : Prop := Claim7.holds Tryd.pinned (.plain (OpenSpec.upto hoodSameSpec)) hoodSameUptoCard
end Rows
end Go.Proofs.YtgnnemlnjflifaaDoor
