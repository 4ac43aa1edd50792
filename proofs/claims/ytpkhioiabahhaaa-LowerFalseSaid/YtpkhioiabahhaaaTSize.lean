/- The walk of hood's square. -/
import Derived.Test.YtpkhioiabahhaaaTMem
import Derived.Below
import Derived.BigQuiet
import Derived.Deep.AppendLies
import Derived.Deep.Draws
import Derived.Deep.QuietTactic
import Derived.IntWalk
import Derived.Laws.OwnMore
import Derived.Laws.Rows
import Derived.Lib.Hide
import Derived.LoopN
import Derived.OwnWalk
import Derived.StillTail
import Derived.StillTailTactics
import Derived.Test.YtpkhioiabahhaaaRows
import Derived.WalkKit
namespace Go.Proofs.Ytpkhioiabahhaaa
open Go.RowKit
theorem square_any (r : Int) (n : Nat) (w : World) (h1 : 0 ≤ r) (h2 : r ≤ 2) (hn : 2 * r + 1 = (n : Int)) :
    Calls Try.prog 85 #[.int .i64 r] w fun e w' => e = .returned (.agg #[.int .i64 (-r), .int .i64 (-r), .int .i64 (n : Int), .int .i64 (n : Int)]) ∧ Below w.heap.size w w' := by
  go_enter Try.func85, Try.ntmps85
  go_wp2
  refine bodyPost_ret (v := .agg #[.int .i64 (-r), .int .i64 (-r), .int .i64 (n : Int), .int .i64 (n : Int)]) (by simp [results, Try.results85, go_sem, hn]) rfl ⟨rfl, ?_⟩
  exact (Below.refl _ _).alloc (Nat.le_refl _) _
end Go.Proofs.Ytpkhioiabahhaaa
