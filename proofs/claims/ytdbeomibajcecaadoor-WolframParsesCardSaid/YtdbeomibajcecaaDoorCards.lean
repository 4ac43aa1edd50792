/-
  DERIVED. GIVEN WITH THE SEED: THE CARDS: each row of YtdbeomibajcecaaDoorRows.lean that lists a variable, with what it lists TIED to the program's text (the seventh form; the later family's looks); each row that meets fmt, with fmt's text TOLD by the authors' own Lean function (tested against real Go, not proved from fmt's source: count such statements apart). THE CARD IS WHAT COUNTS. Prove the row's statement (the work); the ties are given (YtdbeomibajcecaaDoorTie.lean); close each card by the builder's one call (the guide's Derived/Test/ToyasCard.lean, 'card_holds'). Laid BY PROGRAM, IN A SANDBOX (cutbox-door.mjs). By AI agents, Wed Nov 11 2026. No macro, syntax, notation, axiom, sorry.
-/
import Derived.Test.YtdbeomibajcecaaDoorRows
import GoSem.ClaimSeven
namespace Go.Proofs.YtdbeomibajcecaaDoor
namespace Rows

/-- THE TIED CARD OF 'cellularlaw10.WolframParses'. -/
def wolframParsesCard : Claim7 := { stood := { row := wolframParsesRow, standIns := [], harness := (true, "ef552043107a7afbd760282b484a16852aba6b82d665939abcce61785ae9786e"), looks := true }, kinds := [], alts := [], laidByText := true, laidKinds := [.data, .data, .data, .data, .sentinel, .sentinel, .pinned], laidTests := true, laidLooks := .later }
def WolframParsesCardSaid : Prop := Claim7.holds Tryd.pinned (.plain (OpenSpec.ofChange wolframParsesSpec)) wolframParsesCard

/-- THE SECOND FORM's CARD OF 'cellularlaw10.WolframParses'. -/
def wolframParsesUptoCard : Claim7 := { stood := { row := wolframParsesUptoRow, standIns := [], harness := (true, "ef552043107a7afbd760282b484a16852aba6b82d665939abcce61785ae9786e"), looks := true }, kinds := [], alts := [], laidByText := true, laidKinds := [.data, .data, .data, .data, .sentinel, .sentinel, .pinned], laidTests := true, laidLooks := .later }
def WolframParsesUptoCardSaid : Prop := Claim7.holds Tryd.pinned (.plain (OpenSpec.upto wolframParsesSpec)) wolframParsesUptoCard
end Rows
end Go.Proofs.YtdbeomibajcecaaDoor
