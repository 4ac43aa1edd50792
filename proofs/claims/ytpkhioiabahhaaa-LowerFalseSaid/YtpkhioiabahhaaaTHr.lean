/- The walk of hood.Right on any list. -/
import Derived.Test.YtpkhioiabahhaaaTCell
import Derived.Below
import Derived.BigQuiet
import Derived.Deep.AppendLies
import Derived.Deep.Draws
import Derived.Deep.QuietTactic
import Derived.IntWalk
import Derived.Laws.OwnMore
import Derived.Laws.Rows
import Derived.Lib.Hide
import Derived.LoopN
import Derived.OwnWalk
import Derived.StillTail
import Derived.StillTailTactics
import Derived.Test.YtpkhioiabahhaaaRows
import Derived.WalkKit
namespace Go.Proofs.Ytpkhioiabahhaaa
open Go.RowKit
/-- an offset -/
def ofs (p : P2) : Prop := -2 ≤ p.1 ∧ p.1 ≤ 2 ∧ -2 ≤ p.2 ∧ p.2 ≤ 2
instance (p : P2) : Decidable (ofs p) := by unfold ofs; exact inferInstance
end Go.Proofs.Ytpkhioiabahhaaa
