/-
  DERIVED. GIVEN WITH THE SEED: THE CARDS: each row of YtajepngppnennaaDoorRows.lean that lists a variable, with what it lists TIED to the program's text (the seventh form; the later family's looks); each row that meets fmt, with fmt's text TOLD by the authors' own Lean function (tested against real Go, not proved from fmt's source: count such statements apart). THE CARD IS WHAT COUNTS. Prove the row's statement (the work); the ties are given (YtajepngppnennaaDoorTie.lean); close each card by the builder's one call (the guide's Derived/Test/ToyasCard.lean, 'card_holds'). Laid BY PROGRAM, IN A SANDBOX (cutbox-door.mjs). By AI agents, Wed Nov 11 2026. No macro, syntax, notation, axiom, sorry.
-/
import Derived.Test.YtajepngppnennaaDoorRows
import GoSem.ClaimSeven
namespace Go.Proofs.YtajepngppnennaaDoor
namespace Rows

/-- THE TIED CARD OF 'cellularlaw08.LifelikeComplement'. -/
def lifelikeComplementCard : Claim7 := { stood := { row := lifelikeComplementRow, standIns := [], harness := (true, "831731ffe6fe1ce0169e1ee5e522639643063305d16028b7cece5a01356db75b"), looks := false }, kinds := [], alts := [], laidByText := true, laidKinds := [.data, .data, .data], laidTests := true, laidLooks := .later }
def LifelikeComplementCardSaid : Prop := Claim7.holds Tryd.pinned (.plain (OpenSpec.ofChange lifelikeComplementSpec)) lifelikeComplementCard

/-- THE SECOND FORM's CARD OF 'cellularlaw08.LifelikeComplement'. -/
def lifelikeComplementUptoCard : Claim7 := { stood := { row := lifelikeComplementUptoRow, standIns := [], harness := (true, "831731ffe6fe1ce0169e1ee5e522639643063305d16028b7cece5a01356db75b"), looks := false }, kinds := [], alts := [], laidByText := true, laidKinds := [.data, .data, .data], laidTests := true, laidLooks := .later }
def LifelikeComplementUptoCardSaid : Prop := Claim7.holds Tryd.pinned (.plain (OpenSpec.upto lifelikeComplementSpec)) lifelikeComplementUptoCard
end Rows
end Go.Proofs.YtajepngppnennaaDoor
