/- Small lemmas out of older texts. -/
import Derived.Test.YtbbehbgfdlamfaaTMem
import Derived.Below
import Derived.BigQuiet
import Derived.Deep.AppendLies
import Derived.Deep.Draws
import Derived.Deep.QuietTactic
import Derived.IntWalk
import Derived.Laws.OwnMore
import Derived.Laws.Rows
import Derived.Lib.Hide
import Derived.LoopN
import Derived.OwnWalk
import Derived.StillTail
import Derived.StillTailTactics
import Derived.Test.YtbbehbgfdlamfaaRows
import Derived.WalkKit
import Derived.Test.YtbbehbgfdlamfaaTCell
import Derived.Test.YtbbehbgfdlamfaaTCmp
import Derived.Test.YtbbehbgfdlamfaaTSmall
import Derived.Test.YtbbehbgfdlamfaaTInts
import Derived.Deep.CutRange
namespace Go.Proofs.Ytbbehbgfdlamfaa
open Go.RowKit
theorem Blk.three {w : World} {g : Nat} {t : TypeId} {a b c : Value} (h : Blk w g t #[a, b, c]) : w.cell? ⟨g, 0, none⟩ = some a ∧ w.cell? ⟨g, 1, none⟩ = some b ∧ w.cell? ⟨g, 2, none⟩ = some c ∧ g < w.heap.size :=
  ⟨by rw [h.cell]; rfl, by rw [h.cell]; rfl, by rw [h.cell]; rfl, h.lt⟩
end Go.Proofs.Ytbbehbgfdlamfaa
