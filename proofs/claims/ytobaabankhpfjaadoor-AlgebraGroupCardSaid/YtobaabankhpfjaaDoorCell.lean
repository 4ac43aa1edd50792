/- Cells as values: what a list of cells reads as; the order of numbers, of places and of cells. -/
import Derived.Test.YtobaabankhpfjaaDoorGeo
namespace Go.Proofs.YtobaabankhpfjaaDoor
open Go.RowKit

/-- a cell: x, y and the state -/
abbrev C3 := Int × Int × Int
/-- a cell's value -/
abbrev cv (a : C3) : Value := .agg #[.int .i64 a.1, .int .i64 a.2.1, .int .i64 a.2.2]

/-- a list of n cells, f 0, f 1, .., at the address A, below block B -/
def CReads (w : World) (B : Nat) (A : Option Addr) (n : Nat) (f : Nat → C3) : Prop :=
  0 < n → ∃ g o, A = some ⟨g, o, none⟩ ∧ g < B ∧ ∀ k, k < n → w.cell? ⟨g, o + k * 3, none⟩ = some (.int .i64 (f k).1) ∧ w.cell? ⟨g, o + k * 3 + 1, none⟩ = some (.int .i64 (f k).2.1) ∧ w.cell? ⟨g, o + k * 3 + 2, none⟩ = some (.int .i64 (f k).2.2)
section
variable {w w' : World} {B B' n : Nat} {A : Option Addr} {f : Nat → C3}
theorem CReads.keep (h : CReads w B A n f) (hk : ∀ p : Addr, p.block < B → w'.cell? p = w.cell? p) : CReads w' B A n f := fun hn => by
  obtain ⟨g, o, e, hg, hc⟩ := h hn
  exact ⟨g, o, e, hg, fun k hk' => by rw [hk _ hg, hk _ hg, hk _ hg]; exact hc k hk'⟩
theorem CReads.more (h : CReads w B A n f) (hB : B ≤ B') : CReads w B' A n f := fun hn => by
  obtain ⟨g, o, e, hg, hc⟩ := h hn
  exact ⟨g, o, e, Nat.lt_of_lt_of_le hg hB, hc⟩
theorem CReads.below (h : CReads w B A n f) (hb : Below B w w') : CReads w' B A n f := h.keep fun _ hp => hb.cell hp
theorem CReads.later (h : CReads w w.heap.size A n f) (hb : Below w.heap.size w w') : CReads w' w'.heap.size A n f := (h.below hb).more hb.size
theorem CReads.drew (h : CReads w B A n f) : CReads w.drew B A n f := h
theorem CReads.drewN (h : CReads w B A n f) (k : Nat) : CReads (w.drewN k) B A n f := h
theorem CReads.nil : CReads w B none 0 f := fun h => absurd h (by omega)
end

theorem below_drewN {B : Nat} {w w' : World} (h : Below B w w') (k : Nat) : Below B w (w'.drewN k) := ⟨h.os, h.tape, h.output, h.size, h.block⟩

/-- a list of two cells, as a function of the place -/
def two (a b : C3) (k : Nat) : C3 := if k = 0 then a else b

/-- the order of numbers -/
def sg (a b : Int) : Int := if a < b then -1 else if b < a then 1 else 0
/-- the first that is not 0 -/
def or2 (u v : Int) : Int := if u = 0 then v else u
/-- the order of places -/
def cp (a b : C3) : Int := or2 (sg a.2.1 b.2.1) (sg a.1 b.1)
/-- the order of cells -/
def cc (a b : C3) : Int := or2 (cp a b) (sg a.2.2 b.2.2)

/-- from i on, the first of k places where two lists differ -/
def lcp (f g : Nat → C3) : Nat → Nat → Nat
  | i, 0 => i
  | i, k + 1 => if f i = g i then lcp f g (i + 1) k else i
/-- the number of cells with which both lists begin -/
def com (f : Nat → C3) (n : Nat) (g : Nat → C3) (m : Nat) : Nat := lcp f g 0 (min n m)
theorem lcp_spec (f g : Nat → C3) (k : Nat) : ∀ i, i ≤ lcp f g i k ∧ lcp f g i k ≤ i + k ∧ (∀ j, i ≤ j → j < lcp f g i k → f j = g j) ∧ (lcp f g i k < i + k → f (lcp f g i k) ≠ g (lcp f g i k)) := by
  induction k with
  | zero => intro i; refine ⟨Nat.le_refl _, Nat.le_refl _, fun j h1 h2 => ?_, fun h => ?_⟩ <;> (simp only [lcp] at *; omega)
  | succ k ih =>
    intro i
    unfold lcp
    split
    · next h =>
      obtain ⟨h1, h2, h3, h4⟩ := ih (i + 1)
      refine ⟨by omega, by omega, fun j hj hl => ?_, fun hl => h4 (by omega)⟩
      by_cases e : j = i
      · rw [e]; exact h
      · exact h3 j (by omega) hl
    · next h => exact ⟨Nat.le_refl _, by omega, fun j h1 h2 => by omega, fun _ => h⟩
section
variable (f : Nat → C3) (n : Nat) (g : Nat → C3) (m : Nat)
theorem com_le : com f n g m ≤ n ∧ com f n g m ≤ m := by have := (lcp_spec f g (min n m) 0).2.1; unfold com; omega
theorem com_eq (j : Nat) (h : j < com f n g m) : f j = g j := (lcp_spec f g (min n m) 0).2.2.1 j (Nat.zero_le _) h
theorem com_ne (h1 : com f n g m < n) (h2 : com f n g m < m) : f (com f n g m) ≠ g (com f n g m) := (lcp_spec f g (min n m) 0).2.2.2 (by unfold com at h1 h2; omega)
end
theorem com_is {f : Nat → C3} {n : Nat} {g : Nat → C3} {m k : Nat} (h1 : k ≤ n) (h2 : k ≤ m) (h3 : ∀ j, j < k → f j = g j) (h4 : k < n → k < m → f k ≠ g k) : com f n g m = k := by
  have a := com_le f n g m
  rcases Nat.lt_trichotomy (com f n g m) k with h | h | h
  · exact absurd (h3 _ h) (com_ne f n g m (by omega) (by omega))
  · exact h
  · exact absurd (com_eq f n g m k h) (h4 (by omega) (by omega))
/-- the order of lists -/
def cl (f : Nat → C3) (n : Nat) (g : Nat → C3) (m : Nat) : Int := if com f n g m = n ∨ com f n g m = m then sg n m else cc (f (com f n g m)) (g (com f n g m))
end Go.Proofs.YtobaabankhpfjaaDoor
