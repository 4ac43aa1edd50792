/- Lists of positions as cells: what a row reads as. -/
/- Positions as values: what a list of positions reads as; the order of numbers and of positions. -/
import Derived.Test.YtkdcciajihoimaaSmall
import Derived.OwnWalk
import Derived.IntWalk
namespace Go.Proofs.Ytkdcciajihoimaa
open Go.RowKit

/-- the cells of the first n positions of a list -/
def cells2 (f : Nat → Int × Int) : Nat → List Value
  | 0 => []
  | n + 1 => cells2 f n ++ [.int .i64 (f n).1, .int .i64 (f n).2]
theorem cells2_len (f : Nat → Int × Int) (n : Nat) : (cells2 f n).length = n * 2 := by
  induction n with
  | zero => rfl
  | succ n ih => simp [cells2, ih]; omega
theorem cells2_at (f : Nat → Int × Int) (n k : Nat) (hk : k < n) : (cells2 f n)[k * 2]? = some (.int .i64 (f k).1) ∧ (cells2 f n)[k * 2 + 1]? = some (.int .i64 (f k).2) := by
  induction n with
  | zero => omega
  | succ n ih =>
    by_cases h : k < n
    · have hl := cells2_len f n
      rw [cells2, List.getElem?_append_left (by omega), List.getElem?_append_left (by omega)]
      exact ih h
    · obtain rfl : k = n := by omega
      have hl := cells2_len f k
      rw [cells2, List.getElem?_append_right (by omega), List.getElem?_append_right (by omega), hl]
      simp

/-- block g, below B, holds the list from its first cell on -/
def PReads (w : World) (B g n : Nat) (f : Nat → Int × Int) : Prop :=
  g < B ∧ ∀ k, k < n → w.cell? ⟨g, k * 2, none⟩ = some (.int .i64 (f k).1) ∧ w.cell? ⟨g, k * 2 + 1, none⟩ = some (.int .i64 (f k).2)
section
variable {w w' : World} {B B' g n : Nat} {f : Nat → Int × Int}
theorem PReads.below (h : PReads w B g n f) (hb : Below B w w') : PReads w' B g n f :=
  ⟨h.1, fun k hk => ⟨(hb.cell h.1).trans (h.2 k hk).1, (hb.cell h.1).trans (h.2 k hk).2⟩⟩
theorem PReads.more (h : PReads w B g n f) (hB : B ≤ B') : PReads w B' g n f := ⟨Nat.lt_of_lt_of_le h.1 hB, h.2⟩
theorem PReads.of_own {base c : Nat} {e : TypeId} (h : w.ownsRow base e 2 (.slice (some ⟨g, 0, none⟩) n c) n (cells2 f n)) (hn : 0 < n) : PReads w w.heap.size g n f := by
  refine ⟨(h.lt g rfl).2, fun k hk => ?_⟩
  have hl := cells2_len f n
  obtain ⟨c1, c2⟩ := cells2_at f n k hk
  constructor
  · rw [h.cellAt (k * 2) (by omega), c1]
  · rw [h.cellAt (k * 2 + 1) (by omega), c2]
end

/-- position number k of a box -/
def ptF (x y : Int) (n k : Nat) : Int × Int := (x + ((k % n : Nat) : Int), y + ((k / n : Nat) : Int))
theorem ptF_at (x y : Int) (n j i : Nat) (hi : i < n) : ptF x y n (j * n + i) = (x + (i : Int), y + (j : Int)) := by
  unfold ptF
  rw [Nat.mul_comm, Nat.mul_add_mod, Nat.mod_eq_of_lt hi, Nat.mul_add_div (by omega), Nat.div_eq_of_lt hi, Nat.add_zero]
end Go.Proofs.Ytkdcciajihoimaa
namespace Go.Proofs.Ytkdcciajihoimaa
open Go.RowKit

/-- a position: x and y -/
abbrev P2 := Int × Int

/-- a list of n positions, f 0, f 1, .., at the address A, below block B -/
def QReads (w : World) (B : Nat) (A : Option Addr) (n : Nat) (f : Nat → P2) : Prop :=
  0 < n → ∃ g o, A = some ⟨g, o, none⟩ ∧ g < B ∧ ∀ k, k < n → w.cell? ⟨g, o + k * 2, none⟩ = some (.int .i64 (f k).1) ∧ w.cell? ⟨g, o + k * 2 + 1, none⟩ = some (.int .i64 (f k).2)
section
variable {w w' : World} {B B' n : Nat} {A : Option Addr} {f : Nat → P2}
theorem QReads.keep (h : QReads w B A n f) (hk : ∀ p : Addr, p.block < B → w'.cell? p = w.cell? p) : QReads w' B A n f := fun hn => by
  obtain ⟨g, o, e, hg, hc⟩ := h hn
  exact ⟨g, o, e, hg, fun k hk' => by rw [hk _ hg, hk _ hg]; exact hc k hk'⟩
theorem QReads.more (h : QReads w B A n f) (hB : B ≤ B') : QReads w B' A n f := fun hn => by
  obtain ⟨g, o, e, hg, hc⟩ := h hn
  exact ⟨g, o, e, Nat.lt_of_lt_of_le hg hB, hc⟩
theorem QReads.below (h : QReads w B A n f) (hb : Below B w w') : QReads w' B A n f := h.keep fun _ hp => hb.cell hp
theorem QReads.later (h : QReads w w.heap.size A n f) (hb : Below w.heap.size w w') : QReads w' w'.heap.size A n f := (h.below hb).more hb.size
theorem QReads.drew (h : QReads w B A n f) : QReads w.drew B A n f := h
theorem QReads.drewN (h : QReads w B A n f) (k : Nat) : QReads (w.drewN k) B A n f := h
theorem QReads.nil : QReads w B none 0 f := fun h => absurd h (by omega)
theorem QReads.of_p {g : Nat} (h : PReads w B g n f) : QReads w B (some ⟨g, 0, none⟩) n f := fun _ => ⟨g, 0, rfl, h.1, fun k hk => by
  rw [Nat.zero_add]; exact h.2 k hk⟩
theorem QReads.of_own {base c : Nat} {e : TypeId} (h : w.ownsRow base e 2 (.slice A n c) n (cells2 f n)) : QReads w w.heap.size A n f := fun hn => by
  obtain ⟨g, cap, hv, _, _⟩ := h.form hn
  injection hv with h1 h2 h3
  subst h1 h3
  exact QReads.of_p (PReads.of_own h hn) hn
theorem QReads.to {f' : Nat → P2} (h : QReads w B A n f) (e : ∀ k, k < n → f k = f' k) : QReads w B A n f' := fun hn => by
  obtain ⟨g, o, ha, hg, hc⟩ := h hn
  exact ⟨g, o, ha, hg, fun k hk => by rw [← e k hk]; exact hc k hk⟩
end

theorem below_drewN {B : Nat} {w w' : World} (h : Below B w w') (k : Nat) : Below B w (w'.drewN k) := ⟨h.os, h.tape, h.output, h.size, h.block⟩

/-- the order of numbers -/
def sg (a b : Int) : Int := if a < b then -1 else if b < a then 1 else 0
/-- the first that is not 0 -/
def or2 (u v : Int) : Int := if u = 0 then v else u
/-- the order of positions -/
def pc (a b : P2) : Int := or2 (sg a.2 b.2) (sg a.1 b.1)
theorem sg_lt (a b : Int) : sg a b < 0 ↔ a < b := by unfold sg; split <;> (try split) <;> omega
theorem sg_zero (a b : Int) : sg a b = 0 ↔ a = b := by unfold sg; split <;> (try split) <;> omega
theorem sg_gt (a b : Int) : 0 < sg a b ↔ b < a := by unfold sg; split <;> (try split) <;> omega
theorem pc_lt (a b : P2) : pc a b < 0 ↔ (a.2 < b.2 ∨ a.2 = b.2 ∧ a.1 < b.1) := by
  unfold pc or2
  have h1 := sg_lt a.2 b.2
  have h2 := sg_zero a.2 b.2
  have h3 := sg_lt a.1 b.1
  split <;> omega
theorem pc_gt (a b : P2) : 0 < pc a b ↔ pc b a < 0 := by
  rw [pc_lt]
  unfold pc or2
  have h1 := sg_gt a.2 b.2
  have h2 := sg_zero a.2 b.2
  have h3 := sg_gt a.1 b.1
  split <;> omega
theorem pc_zero (a b : P2) : pc a b = 0 ↔ a = b := by
  have h1 := pc_lt a b
  have h2 := pc_gt a b
  rw [pc_lt] at h2
  obtain ⟨x, y⟩ := a
  obtain ⟨u, v⟩ := b
  simp only [Prod.mk.injEq] at *
  omega

/-- a list by its literal -/
def lf (l : List P2) (k : Nat) : P2 := l.getD k (0, 0)
end Go.Proofs.Ytkdcciajihoimaa
