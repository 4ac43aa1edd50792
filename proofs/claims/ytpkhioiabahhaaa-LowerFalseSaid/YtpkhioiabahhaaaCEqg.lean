/- The walks of slices.Equal at any two lists of gates and of numbers. -/
import Derived.Test.YtpkhioiabahhaaaCPCell
import Derived.Test.YtpkhioiabahhaaaTInts
import Derived.Below
import Derived.BigQuiet
import Derived.Deep.AppendLies
import Derived.Deep.CutRange
import Derived.Deep.Draws
import Derived.Deep.OwnRows
import Derived.Deep.QuietTactic
import Derived.IntWalk
import Derived.Laws.CopyOwn
import Derived.Laws.OwnMore
import Derived.Laws.Rows
import Derived.Lib.Hide
import Derived.Lib.SliceRun
import Derived.LoopN
import Derived.OwnWalk
import Derived.StillTail
import Derived.StillTailTactics
import Derived.Test.YtpkhioiabahhaaaRows
import Derived.WalkKit
namespace Go.Proofs.Ytpkhioiabahhaaa
open Go.RowKit
/-- whether two lists have the same gates in the same order -/
def sm (f : Nat → C3) (n : Nat) (g : Nat → C3) (m : Nat) : Bool := decide (n = m) && (List.range n).all fun i => decide (f i = g i)
theorem sm_iff (f : Nat → C3) (n : Nat) (g : Nat → C3) (m : Nat) : sm f n g m = true ↔ (n = m ∧ ∀ i, i < n → f i = g i) := by
  simp [sm, Bool.and_eq_true, List.all_eq_true]
theorem same_ig {l x : List Int} (h : l.length = x.length) (hi : ∀ i, i < l.length → ig l i = ig x i) : l = x := by
  apply List.ext_getElem h
  intro i h1 h2
  have := hi i h1
  simpa [ig, List.getD, List.getElem?_eq_getElem h1, List.getElem?_eq_getElem h2] using this
end Go.Proofs.Ytpkhioiabahhaaa
