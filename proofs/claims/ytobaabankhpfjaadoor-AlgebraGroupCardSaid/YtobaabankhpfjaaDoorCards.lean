/-
  DERIVED. GIVEN WITH THE SEED: THE CARDS: each row of YtobaabankhpfjaaDoorRows.lean that lists a variable, with what it lists TIED to the program's text (the seventh form; the later family's looks); each row that meets fmt, with fmt's text TOLD by the authors' own Lean function (tested against real Go, not proved from fmt's source: count such statements apart). THE CARD IS WHAT COUNTS. Prove the row's statement (the work); the ties are given (YtobaabankhpfjaaDoorTie.lean); close each card by the builder's one call (the guide's Derived/Test/ToyasCard.lean, 'card_holds'). Laid BY PROGRAM, IN A SANDBOX (cutbox-door.mjs). By AI agents, Wed Nov 11 2026. No macro, syntax, notation, axiom, sorry.
-/
import Derived.Test.YtobaabankhpfjaaDoorRows
import GoSem.ClaimSeven
namespace Go.Proofs.YtobaabankhpfjaaDoor
namespace Rows

/-- THE TIED CARD OF 'cellularlaw06.AlgebraGroup'. -/
def algebraGroupCard : Claim7 := { stood := { row := algebraGroupRow, standIns := [], harness := (true, "73b223f18ece3b866633aa156fcfa607cf2e6990e3de2f5b9b72c0ba0361df89"), looks := false }, kinds := [], alts := [], laidByText := true, laidKinds := [.data], laidTests := true, laidLooks := .later }
def AlgebraGroupCardSaid : Prop := Claim7.holds Tryd.pinned (.plain (OpenSpec.ofChange algebraGroupSpec)) algebraGroupCard

/-- THE SECOND FORM's CARD OF 'cellularlaw06.AlgebraGroup'. -/
def algebraGroupUptoCard : Claim7 := { stood := { row := algebraGroupUptoRow, standIns := [], harness := (true, "73b223f18ece3b866633aa156fcfa607cf2e6990e3de2f5b9b72c0ba0361df89"), looks := false }, kinds := [], alts := [], laidByText := true, laidKinds := [.data], laidTests := true, laidLooks := .later }
def AlgebraGroupUptoCardSaid : Prop := Claim7.holds Tryd.pinned (.plain (OpenSpec.upto algebraGroupSpec)) algebraGroupUptoCard
end Rows
end Go.Proofs.YtobaabankhpfjaaDoor
