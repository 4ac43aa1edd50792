/- The walk of Shift at displacements from -2097152 to 2097152. -/
import Derived.Test.YtfoheeijdaknnaaPCell
import Derived.Test.YtfoheeijdaknnaaTMem
import Derived.Below
import Derived.BigQuiet
import Derived.Deep.AppendLies
import Derived.Deep.Draws
import Derived.Deep.QuietTactic
import Derived.IntWalk
import Derived.Laws.OwnMore
import Derived.Laws.Rows
import Derived.Lib.Hide
import Derived.LoopN
import Derived.OwnWalk
import Derived.StillTail
import Derived.StillTailTactics
import Derived.Test.YtfoheeijdaknnaaRows
import Derived.WalkKit
namespace Go.Proofs.Ytfoheeijdaknnaa
open Go.RowKit
/-- the cells of the first n elements of a list -/
def cells3 (f : Nat → C3) : Nat → List Value
  | 0 => []
  | n + 1 => cells3 f n ++ [.int .i64 (f n).1, .int .i64 (f n).2.1, .int .i64 (f n).2.2]
theorem cells3_len (f : Nat → C3) (n : Nat) : (cells3 f n).length = n * 3 := by
  induction n with
  | zero => rfl
  | succ n ih => simp [cells3, ih]; omega
theorem cells3_at (f : Nat → C3) (n k : Nat) (hk : k < n) : (cells3 f n)[k * 3]? = some (.int .i64 (f k).1) ∧ (cells3 f n)[k * 3 + 1]? = some (.int .i64 (f k).2.1) ∧ (cells3 f n)[k * 3 + 2]? = some (.int .i64 (f k).2.2) := by
  induction n with
  | zero => omega
  | succ n ih =>
    by_cases h : k < n
    · have hl := cells3_len f n
      rw [cells3, List.getElem?_append_left (by omega), List.getElem?_append_left (by omega), List.getElem?_append_left (by omega)]
      exact ih h
    · obtain rfl : k = n := by omega
      have hl := cells3_len f k
      rw [cells3, List.getElem?_append_right (by omega), List.getElem?_append_right (by omega), List.getElem?_append_right (by omega), hl]
      simp
theorem CReads.of_own {w : World} {base g n c : Nat} {e : TypeId} {f : Nat → C3} (h : w.ownsRow base e 3 (.slice (some ⟨g, 0, none⟩) n c) n (cells3 f n)) : CReads w w.heap.size (some ⟨g, 0, none⟩) n f := fun _ => by
  refine ⟨g, 0, rfl, (h.lt g rfl).2, fun k hk => ?_⟩
  have hl := cells3_len f n
  obtain ⟨c1, c2, c3⟩ := cells3_at f n k hk
  simp only [Nat.zero_add]
  refine ⟨?_, ?_, ?_⟩
  · rw [h.cellAt (k * 3) (by omega), c1]
  · rw [h.cellAt (k * 3 + 1) (by omega), c2]
  · rw [h.cellAt (k * 3 + 2) (by omega), c3]

section
variable (A : Option Addr) (n c : Nat) (f : Nat → C3) (dx dy : Int) (w : World)
end
end Go.Proofs.Ytfoheeijdaknnaa
