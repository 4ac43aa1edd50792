/- Cells as values: what a list of cells reads as; the order of numbers, of places and of cells. -/
import Derived.Test.YtbbehbgfdlamfaaTMem
import Derived.Test.YtbbehbgfdlamfaaTSmall
import Derived.Below
import Derived.BigQuiet
import Derived.Deep.AppendLies
import Derived.Deep.Draws
import Derived.Deep.QuietTactic
import Derived.Laws.OwnMore
import Derived.Laws.Rows
import Derived.Lib.Hide
import Derived.StillTail
import Derived.Test.YtbbehbgfdlamfaaRows
import Derived.WalkKit
namespace Go.Proofs.Ytbbehbgfdlamfaa
open Go.RowKit
/-- a cell: x, y and the state -/
abbrev C3 := Int × Int × Int
/-- a list of n cells, f 0, f 1, .., at the address A, below block B -/
def CReads (w : World) (B : Nat) (A : Option Addr) (n : Nat) (f : Nat → C3) : Prop :=
  0 < n → ∃ g o, A = some ⟨g, o, none⟩ ∧ g < B ∧ ∀ k, k < n → w.cell? ⟨g, o + k * 3, none⟩ = some (.int .i64 (f k).1) ∧ w.cell? ⟨g, o + k * 3 + 1, none⟩ = some (.int .i64 (f k).2.1) ∧ w.cell? ⟨g, o + k * 3 + 2, none⟩ = some (.int .i64 (f k).2.2)
section
variable {w w' : World} {B B' n : Nat} {A : Option Addr} {f : Nat → C3}
theorem CReads.keep (h : CReads w B A n f) (hk : ∀ p : Addr, p.block < B → w'.cell? p = w.cell? p) : CReads w' B A n f := fun hn => by
  obtain ⟨g, o, e, hg, hc⟩ := h hn
  exact ⟨g, o, e, hg, fun k hk' => by rw [hk _ hg, hk _ hg, hk _ hg]; exact hc k hk'⟩
theorem CReads.more (h : CReads w B A n f) (hB : B ≤ B') : CReads w B' A n f := fun hn => by
  obtain ⟨g, o, e, hg, hc⟩ := h hn
  exact ⟨g, o, e, Nat.lt_of_lt_of_le hg hB, hc⟩
theorem CReads.below (h : CReads w B A n f) (hb : Below B w w') : CReads w' B A n f := h.keep fun _ hp => hb.cell hp
theorem CReads.later (h : CReads w w.heap.size A n f) (hb : Below w.heap.size w w') : CReads w' w'.heap.size A n f := (h.below hb).more hb.size
theorem CReads.drewN (h : CReads w B A n f) (k : Nat) : CReads (w.drewN k) B A n f := h
end
section
variable (f : Nat → C3) (n : Nat) (g : Nat → C3) (m : Nat)
end
end Go.Proofs.Ytbbehbgfdlamfaa
