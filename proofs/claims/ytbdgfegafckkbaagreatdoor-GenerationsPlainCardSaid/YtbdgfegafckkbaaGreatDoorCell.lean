/- Positions as values: what a list of positions reads as; the order of numbers and of positions. -/
import Derived.Test.YtbdgfegafckkbaaGreatDoorList
namespace Go.Proofs.YtbdgfegafckkbaaGreatDoor
open Go.RowKit

/-- a position: x and y -/
abbrev P2 := Int × Int

/-- a list of n positions, f 0, f 1, .., at the address A, below block B -/
def QReads (w : World) (B : Nat) (A : Option Addr) (n : Nat) (f : Nat → P2) : Prop :=
  0 < n → ∃ g o, A = some ⟨g, o, none⟩ ∧ g < B ∧ ∀ k, k < n → w.cell? ⟨g, o + k * 2, none⟩ = some (.int .i64 (f k).1) ∧ w.cell? ⟨g, o + k * 2 + 1, none⟩ = some (.int .i64 (f k).2)
section
variable {w w' : World} {B B' n : Nat} {A : Option Addr} {f : Nat → P2}
theorem QReads.keep (h : QReads w B A n f) (hk : ∀ p : Addr, p.block < B → w'.cell? p = w.cell? p) : QReads w' B A n f := fun hn => by
  obtain ⟨g, o, e, hg, hc⟩ := h hn
  exact ⟨g, o, e, hg, fun k hk' => by rw [hk _ hg, hk _ hg]; exact hc k hk'⟩
theorem QReads.more (h : QReads w B A n f) (hB : B ≤ B') : QReads w B' A n f := fun hn => by
  obtain ⟨g, o, e, hg, hc⟩ := h hn
  exact ⟨g, o, e, Nat.lt_of_lt_of_le hg hB, hc⟩
theorem QReads.below (h : QReads w B A n f) (hb : Below B w w') : QReads w' B A n f := h.keep fun _ hp => hb.cell hp
theorem QReads.later (h : QReads w w.heap.size A n f) (hb : Below w.heap.size w w') : QReads w' w'.heap.size A n f := (h.below hb).more hb.size
theorem QReads.drew (h : QReads w B A n f) : QReads w.drew B A n f := h
theorem QReads.drewN (h : QReads w B A n f) (k : Nat) : QReads (w.drewN k) B A n f := h
theorem QReads.nil : QReads w B none 0 f := fun h => absurd h (by omega)
theorem QReads.of_p {g : Nat} (h : PReads w B g n f) : QReads w B (some ⟨g, 0, none⟩) n f := fun _ => ⟨g, 0, rfl, h.1, fun k hk => by
  rw [Nat.zero_add]; exact h.2 k hk⟩
theorem QReads.of_own {base c : Nat} {e : TypeId} (h : w.ownsRow base e 2 (.slice A n c) n (cells2 f n)) : QReads w w.heap.size A n f := fun hn => by
  obtain ⟨g, cap, hv, _, _⟩ := h.form hn
  injection hv with h1 h2 h3
  subst h1 h3
  exact QReads.of_p (PReads.of_own h hn) hn
theorem QReads.to {f' : Nat → P2} (h : QReads w B A n f) (e : ∀ k, k < n → f k = f' k) : QReads w B A n f' := fun hn => by
  obtain ⟨g, o, ha, hg, hc⟩ := h hn
  exact ⟨g, o, ha, hg, fun k hk => by rw [← e k hk]; exact hc k hk⟩
end

theorem below_drewN {B : Nat} {w w' : World} (h : Below B w w') (k : Nat) : Below B w (w'.drewN k) := ⟨h.os, h.tape, h.output, h.size, h.block⟩

/-- the order of numbers -/
def sg (a b : Int) : Int := if a < b then -1 else if b < a then 1 else 0
/-- the first that is not 0 -/
def or2 (u v : Int) : Int := if u = 0 then v else u
/-- the order of positions -/
def pc (a b : P2) : Int := or2 (sg a.2 b.2) (sg a.1 b.1)
theorem sg_lt (a b : Int) : sg a b < 0 ↔ a < b := by unfold sg; split <;> (try split) <;> omega
theorem sg_zero (a b : Int) : sg a b = 0 ↔ a = b := by unfold sg; split <;> (try split) <;> omega
theorem sg_gt (a b : Int) : 0 < sg a b ↔ b < a := by unfold sg; split <;> (try split) <;> omega
theorem pc_lt (a b : P2) : pc a b < 0 ↔ (a.2 < b.2 ∨ a.2 = b.2 ∧ a.1 < b.1) := by
  unfold pc or2
  have h1 := sg_lt a.2 b.2
  have h2 := sg_zero a.2 b.2
  have h3 := sg_lt a.1 b.1
  split <;> omega
theorem pc_gt (a b : P2) : 0 < pc a b ↔ pc b a < 0 := by
  rw [pc_lt]
  unfold pc or2
  have h1 := sg_gt a.2 b.2
  have h2 := sg_zero a.2 b.2
  have h3 := sg_gt a.1 b.1
  split <;> omega
theorem pc_zero (a b : P2) : pc a b = 0 ↔ a = b := by
  have h1 := pc_lt a b
  have h2 := pc_gt a b
  rw [pc_lt] at h2
  obtain ⟨x, y⟩ := a
  obtain ⟨u, v⟩ := b
  simp only [Prod.mk.injEq] at *
  omega

/-- a list by its literal -/
def lf (l : List P2) (k : Nat) : P2 := l.getD k (0, 0)
end Go.Proofs.YtbdgfegafckkbaaGreatDoor
