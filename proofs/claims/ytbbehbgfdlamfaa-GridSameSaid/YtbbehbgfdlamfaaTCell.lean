/- Lists of positions as cells: what a row reads as. -/
import Derived.Test.YtbbehbgfdlamfaaTMem
import Derived.Test.YtbbehbgfdlamfaaTSmall
import Derived.Below
import Derived.BigQuiet
import Derived.Deep.AppendLies
import Derived.Deep.Draws
import Derived.Deep.QuietTactic
import Derived.IntWalk
import Derived.Laws.OwnMore
import Derived.Laws.Rows
import Derived.Lib.Hide
import Derived.OwnWalk
import Derived.StillTail
import Derived.Test.YtbbehbgfdlamfaaRows
import Derived.WalkKit
namespace Go.Proofs.Ytbbehbgfdlamfaa
open Go.RowKit
/-- block g, below B, holds the list from its first cell on -/
def PReads (w : World) (B g n : Nat) (f : Nat → Int × Int) : Prop :=
  g < B ∧ ∀ k, k < n → w.cell? ⟨g, k * 2, none⟩ = some (.int .i64 (f k).1) ∧ w.cell? ⟨g, k * 2 + 1, none⟩ = some (.int .i64 (f k).2)
section
variable {w w' : World} {B B' g n : Nat} {f : Nat → Int × Int}
theorem PReads.below (h : PReads w B g n f) (hb : Below B w w') : PReads w' B g n f :=
  ⟨h.1, fun k hk => ⟨(hb.cell h.1).trans (h.2 k hk).1, (hb.cell h.1).trans (h.2 k hk).2⟩⟩
theorem PReads.more (h : PReads w B g n f) (hB : B ≤ B') : PReads w B' g n f := ⟨Nat.lt_of_lt_of_le h.1 hB, h.2⟩
end
end Go.Proofs.Ytbbehbgfdlamfaa
namespace Go.Proofs.Ytbbehbgfdlamfaa
open Go.RowKit
/-- a position: x and y -/
abbrev P2 := Int × Int

/-- a list of n positions, f 0, f 1, .., at the address A, below block B -/
def QReads (w : World) (B : Nat) (A : Option Addr) (n : Nat) (f : Nat → P2) : Prop :=
  0 < n → ∃ g o, A = some ⟨g, o, none⟩ ∧ g < B ∧ ∀ k, k < n → w.cell? ⟨g, o + k * 2, none⟩ = some (.int .i64 (f k).1) ∧ w.cell? ⟨g, o + k * 2 + 1, none⟩ = some (.int .i64 (f k).2)
section
variable {w w' : World} {B B' n : Nat} {A : Option Addr} {f : Nat → P2}
theorem QReads.keep (h : QReads w B A n f) (hk : ∀ p : Addr, p.block < B → w'.cell? p = w.cell? p) : QReads w' B A n f := fun hn => by
  obtain ⟨g, o, e, hg, hc⟩ := h hn
  exact ⟨g, o, e, hg, fun k hk' => by rw [hk _ hg, hk _ hg]; exact hc k hk'⟩
theorem QReads.more (h : QReads w B A n f) (hB : B ≤ B') : QReads w B' A n f := fun hn => by
  obtain ⟨g, o, e, hg, hc⟩ := h hn
  exact ⟨g, o, e, Nat.lt_of_lt_of_le hg hB, hc⟩
theorem QReads.below (h : QReads w B A n f) (hb : Below B w w') : QReads w' B A n f := h.keep fun _ hp => hb.cell hp
theorem QReads.later (h : QReads w w.heap.size A n f) (hb : Below w.heap.size w w') : QReads w' w'.heap.size A n f := (h.below hb).more hb.size
theorem QReads.drew (h : QReads w B A n f) : QReads w.drew B A n f := h
theorem QReads.drewN (h : QReads w B A n f) (k : Nat) : QReads (w.drewN k) B A n f := h
end
theorem below_drewN {B : Nat} {w w' : World} (h : Below B w w') (k : Nat) : Below B w (w'.drewN k) := ⟨h.os, h.tape, h.output, h.size, h.block⟩

/-- the order of numbers -/
def sg (a b : Int) : Int := if a < b then -1 else if b < a then 1 else 0
/-- the first that is not 0 -/
def or2 (u v : Int) : Int := if u = 0 then v else u
/-- the order of positions -/
def pc (a b : P2) : Int := or2 (sg a.2 b.2) (sg a.1 b.1)
theorem sg_lt (a b : Int) : sg a b < 0 ↔ a < b := by unfold sg; split <;> (try split) <;> omega
theorem sg_zero (a b : Int) : sg a b = 0 ↔ a = b := by unfold sg; split <;> (try split) <;> omega
theorem pc_lt (a b : P2) : pc a b < 0 ↔ (a.2 < b.2 ∨ a.2 = b.2 ∧ a.1 < b.1) := by
  unfold pc or2
  have h1 := sg_lt a.2 b.2
  have h2 := sg_zero a.2 b.2
  have h3 := sg_lt a.1 b.1
  split <;> omega
end Go.Proofs.Ytbbehbgfdlamfaa
