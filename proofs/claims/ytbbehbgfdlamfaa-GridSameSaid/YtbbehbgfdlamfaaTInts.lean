/- Lists of numbers: what they read as; their comparison. -/
import Derived.Test.YtbbehbgfdlamfaaTCell
import Derived.Test.YtbbehbgfdlamfaaTMem
import Derived.Below
import Derived.BigQuiet
import Derived.Deep.AppendLies
import Derived.Deep.Draws
import Derived.Deep.QuietTactic
import Derived.IntWalk
import Derived.Laws.OwnMore
import Derived.Laws.Rows
import Derived.Lib.Hide
import Derived.LoopN
import Derived.OwnWalk
import Derived.StillTail
import Derived.StillTailTactics
import Derived.Test.YtbbehbgfdlamfaaRows
import Derived.WalkKit
namespace Go.Proofs.Ytbbehbgfdlamfaa
open Go.RowKit
/-- a list of numbers as cells -/
def il (l : List Int) : List Value := l.map fun x => .int .i64 x
/-- number k of a list -/
def ig (l : List Int) (k : Nat) : Int := l.getD k 0
theorem Reads.later {w w' : World} {A : Option Addr} {n : Nat} {xs : List Value} (h : Reads w w.heap.size A n xs) (hb : Below w.heap.size w w') : Reads w' w'.heap.size A n xs := (h.below hb).more hb.size
theorem il_at {w : World} {B n : Nat} {A : Option Addr} {l : List Int} (h : Reads w B A n (il l)) {k : Nat} (hk : k < n) :
    ∃ ad, A = some ad ∧ ad.block < B ∧ w.cell? (ad.add k) = some (.int .i64 (ig l k)) := by
  obtain ⟨ad, u, e, hb, hx, hc⟩ := h.at_ hk
  refine ⟨ad, e, hb, ?_⟩
  rw [hc, ← hx]
  simp only [il, List.getElem?_map, ig, List.getD] at hx ⊢
  cases h' : l[k]? with
  | none => rw [h'] at hx; cases hx
  | some d => simp
theorem reads_len {w : World} {B n : Nat} {A : Option Addr} {l : List Int} (h : Reads w B A n (il l)) : l.length = n := by simpa [il] using h.1
end Go.Proofs.Ytbbehbgfdlamfaa
