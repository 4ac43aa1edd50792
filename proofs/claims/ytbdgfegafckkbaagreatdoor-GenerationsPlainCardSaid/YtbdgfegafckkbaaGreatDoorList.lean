/- Lists of positions as cells: what a row reads as. -/
import Derived.Test.YtbdgfegafckkbaaGreatDoorGeo
import Derived.OwnWalk
import Derived.IntWalk
namespace Go.Proofs.YtbdgfegafckkbaaGreatDoor
open Go.RowKit

/-- the cells of the first n positions of a list -/
def cells2 (f : Nat → Int × Int) : Nat → List Value
  | 0 => []
  | n + 1 => cells2 f n ++ [.int .i64 (f n).1, .int .i64 (f n).2]
theorem cells2_len (f : Nat → Int × Int) (n : Nat) : (cells2 f n).length = n * 2 := by
  induction n with
  | zero => rfl
  | succ n ih => simp [cells2, ih]; omega
theorem cells2_at (f : Nat → Int × Int) (n k : Nat) (hk : k < n) : (cells2 f n)[k * 2]? = some (.int .i64 (f k).1) ∧ (cells2 f n)[k * 2 + 1]? = some (.int .i64 (f k).2) := by
  induction n with
  | zero => omega
  | succ n ih =>
    by_cases h : k < n
    · have hl := cells2_len f n
      rw [cells2, List.getElem?_append_left (by omega), List.getElem?_append_left (by omega)]
      exact ih h
    · obtain rfl : k = n := by omega
      have hl := cells2_len f k
      rw [cells2, List.getElem?_append_right (by omega), List.getElem?_append_right (by omega), hl]
      simp

/-- block g, below B, holds the list from its first cell on -/
def PReads (w : World) (B g n : Nat) (f : Nat → Int × Int) : Prop :=
  g < B ∧ ∀ k, k < n → w.cell? ⟨g, k * 2, none⟩ = some (.int .i64 (f k).1) ∧ w.cell? ⟨g, k * 2 + 1, none⟩ = some (.int .i64 (f k).2)
section
variable {w w' : World} {B B' g n : Nat} {f : Nat → Int × Int}
theorem PReads.below (h : PReads w B g n f) (hb : Below B w w') : PReads w' B g n f :=
  ⟨h.1, fun k hk => ⟨(hb.cell h.1).trans (h.2 k hk).1, (hb.cell h.1).trans (h.2 k hk).2⟩⟩
theorem PReads.more (h : PReads w B g n f) (hB : B ≤ B') : PReads w B' g n f := ⟨Nat.lt_of_lt_of_le h.1 hB, h.2⟩
theorem PReads.of_own {base c : Nat} {e : TypeId} (h : w.ownsRow base e 2 (.slice (some ⟨g, 0, none⟩) n c) n (cells2 f n)) (hn : 0 < n) : PReads w w.heap.size g n f := by
  refine ⟨(h.lt g rfl).2, fun k hk => ?_⟩
  have hl := cells2_len f n
  obtain ⟨c1, c2⟩ := cells2_at f n k hk
  constructor
  · rw [h.cellAt (k * 2) (by omega), c1]
  · rw [h.cellAt (k * 2 + 1) (by omega), c2]
end

/-- position number k of a box -/
def ptF (x y : Int) (n k : Nat) : Int × Int := (x + ((k % n : Nat) : Int), y + ((k / n : Nat) : Int))
theorem ptF_at (x y : Int) (n j i : Nat) (hi : i < n) : ptF x y n (j * n + i) = (x + (i : Int), y + (j : Int)) := by
  unfold ptF
  rw [Nat.mul_comm, Nat.mul_add_mod, Nat.mod_eq_of_lt hi, Nat.mul_add_div (by omega), Nat.div_eq_of_lt hi, Nat.add_zero]
end Go.Proofs.YtbdgfegafckkbaaGreatDoor
