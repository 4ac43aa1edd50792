/-
  DERIVED. GIVEN WITH THE SEED: THE CARDS: each row of YthjamghemmanfaaDoorRows.lean that lists a variable, with what it lists TIED to the program's text (the seventh form; the later family's looks); each row that meets fmt, with fmt's text TOLD by the authors' own Lean function (tested against real Go, not proved from fmt's source: count such statements apart). THE CARD IS WHAT COUNTS. Prove the row's statement (the work); the ties are given (YthjamghemmanfaaDoorTie.lean); close each card by the builder's one call (the guide's Derived/Test/ToyasCard.lean, 'card_holds'). Laid BY PROGRAM, IN A SANDBOX (cutbox-door.mjs). By AI agents, Wed Nov 11 2026. No macro, syntax, notation, axiom, sorry.
-/
import Derived.Test.YthjamghemmanfaaDoorRows
import GoSem.ClaimSeven
namespace Go.Proofs.YthjamghemmanfaaDoor
namespace Rows

/-- THE TIED CARD OF 'cellularlaw04.SymmetryOrbits'. -/
def symmetryOrbitsCard : Claim7 := { stood := { row := symmetryOrbitsRow, standIns := [], harness := (true, "808418b1bbd053a92b0d4baa12df932dfe6ef60a198c681b159321428f4acae0"), looks := false }, kinds := [], alts := [], laidByText := true, laidKinds := [.data], laidTests := true, laidLooks := .later }
def SymmetryOrbitsCardSaid : Prop := Claim7.holds Tryd.pinned (.plain (OpenSpec.ofChange symmetryOrbitsSpec)) symmetryOrbitsCard

/-- THE SECOND FORM's CARD OF 'cellularlaw04.SymmetryOrbits'. -/
def symmetryOrbitsUptoCard : Claim7 := { stood := { row := symmetryOrbitsUptoRow, standIns := [], harness := (true, "808418b1bbd053a92b0d4baa12df932dfe6ef60a198c681b159321428f4acae0"), looks := false }, kinds := [], alts := [], laidByText := true, laidKinds := [.data], laidTests := true, laidLooks := .later }
def SymmetryOrbitsUptoCardSaid : Prop := Claim7.holds Tryd.pinned (.plain (OpenSpec.upto symmetryOrbitsSpec)) symmetryOrbitsUptoCard
end Rows
end Go.Proofs.YthjamghemmanfaaDoor
