/-
  DERIVED. GIVEN WITH THE SEED: THE CARDS: each row of YthgnjjpkmikokaaDoorRows.lean that lists a variable, with what it lists TIED to the program's text (the seventh form; the later family's looks); each row that meets fmt, with fmt's text TOLD by the authors' own Lean function (tested against real Go, not proved from fmt's source: count such statements apart). THE CARD IS WHAT COUNTS. Prove the row's statement (the work); the ties are given (YthgnjjpkmikokaaDoorTie.lean); close each card by the builder's one call (the guide's Derived/Test/ToyasCard.lean, 'card_holds'). Laid BY PROGRAM, IN A SANDBOX (cutbox-door.mjs). By AI agents, Wed Nov 11 2026. No macro, syntax, notation, axiom, sorry.
-/
import Derived.Test.YthgnjjpkmikokaaDoorRows
import GoSem.ClaimSeven
namespace Go.Proofs.YthgnjjpkmikokaaDoor
namespace Rows

/-- THE TIED CARD OF 'cellularlaw13.ReduceTurned'. -/
def reduceTurnedCard : Claim7 := { stood := { row := reduceTurnedRow, standIns := [], harness := (true, "c3818ec807dda68a85279b8bd2e175e1f6e682be0037a670b3ceba4a68192177"), looks := false }, kinds := [], alts := [], laidByText := true, laidKinds := [.data], laidTests := true, laidLooks := .later }
def ReduceTurnedCardSaid : Prop := Claim7.holds Tryd.pinned (.plain (OpenSpec.ofChange reduceTurnedSpec)) reduceTurnedCard

/-- THE SECOND FORM's CARD OF 'cellularlaw13.ReduceTurned'. -/
def reduceTurnedUptoCard : Claim7 := { stood := { row := reduceTurnedUptoRow, standIns := [], harness := (true, "c3818ec807dda68a85279b8bd2e175e1f6e682be0037a670b3ceba4a68192177"), looks := false }, kinds := [], alts := [], laidByText := true, laidKinds := [.data], laidTests := true, laidLooks := .later }
def ReduceTurnedUptoCardSaid : Prop := Claim7.holds Tryd.pinned (.plain (OpenSpec.upto reduceTurnedSpec)) reduceTurnedUptoCard
end Rows
end Go.Proofs.YthgnjjpkmikokaaDoor
