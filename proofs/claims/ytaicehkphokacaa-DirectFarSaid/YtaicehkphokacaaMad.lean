/- The walks of point's small functions. -/
/- Cells as values: what a list of cells reads as; the order of numbers, of places and of cells. -/
/- Lists of positions as cells: what a row reads as. -/
/- Cells as values: what a list of cells reads as; the order of numbers, of places and of cells. -/
/- The order of lists: total, and unchanged by moves. -/
import Derived.Test.YtaicehkphokacaaMaa
import Derived.Test.YtaicehkphokacaaMab
import Derived.Below
import Derived.BigQuiet
import Derived.Deep.AppendLies
import Derived.Deep.Draws
import Derived.Deep.QuietTactic
import Derived.Laws.OwnMore
import Derived.Laws.Rows
import Derived.Lib.Hide
import Derived.StillTail
import Derived.Test.YtaicehkphokacaaRows
import Derived.WalkKit
import Derived.IntWalk
import Derived.OwnWalk
namespace Go.Proofs.Ytaicehkphokacaa
open Go.RowKit
theorem validCoord_no (c : Int) (w : World) (h : ¬ (-1048576 ≤ c ∧ c ≤ 1048576)) :
    Calls Try.prog 91 #[.int .i64 c] w fun e w' => e = .returned (.bool false) ∧ w = w' := by
  by_cases h1 : -1048576 ≤ c
  · have h2 : ¬ c ≤ 1048576 := fun h2 => h ⟨h1, h2⟩
    clear h
    go_enter Try.func91, Try.ntmps91
    go_wp2
    go_ret
    exact ⟨rfl, rfl⟩
  · clear h
    go_enter Try.func91, Try.ntmps91
    go_wp2
    go_ret
    exact ⟨rfl, rfl⟩

theorem validSide_no (c n : Int) (w : World) (h : ¬ OkS c n) :
    Calls Try.prog 88 #[.int .i64 c, .int .i64 n] w fun e w' => e = .returned (.bool false) ∧ w = w' := by
  by_cases h1 : -1048576 ≤ c ∧ c ≤ 1048576
  · have hc := validCoord_yes c w h1.1 h1.2
    obtain ⟨h1, h2⟩ := h1
    by_cases h3 : 1 ≤ n
    · have h5 : ¬ n ≤ 1048576 - c + 1 := fun h4 => h ⟨h1, h2, h3, by omega⟩
      clear h
      go_enter Try.func88, Try.ntmps88
      go_wp2_with (go_at_call 91; refine hc.mono ?_; rintro e w' ⟨rfl, rfl⟩)
      go_ret
      exact ⟨ret_bool (decide_eq_false (by omega)), rfl⟩
    · clear h
      go_enter Try.func88, Try.ntmps88
      go_wp2_with (go_at_call 91; refine hc.mono ?_; rintro e w' ⟨rfl, rfl⟩)
      go_ret
      exact ⟨rfl, rfl⟩
  · have hc := validCoord_no c w h1
    clear h h1
    go_enter Try.func88, Try.ntmps88
    go_wp2_with (go_at_call 91; refine hc.mono ?_; rintro e w' ⟨rfl, rfl⟩)
    go_ret
    exact ⟨rfl, rfl⟩

theorem right_no (x y ww hh : Int) (w : World) (h : ¬ Ok x y ww hh) :
    Calls Try.prog 83 #[.agg #[.int .i64 x, .int .i64 y, .int .i64 ww, .int .i64 hh]] w fun e w' => e = .returned (.bool false) ∧ Below w.heap.size w w' := by
  by_cases h1 : OkS x ww
  · have h2 : ¬ OkS y hh := fun h2 => h ⟨h1, h2⟩
    have hx := fun w => validSide_yes x ww w h1
    have hy := fun w => validSide_no y hh w h2
    clear h h1 h2
    go_enter Try.func83, Try.ntmps83
    go_wp2_with (first | (go_at_call 88; (with_reducible refine (hx _).mono ?_); rintro e w' ⟨rfl, rfl⟩) | (go_at_call 88; (with_reducible refine (hy _).mono ?_); rintro e w' ⟨rfl, rfl⟩))
    go_ret
    exact ⟨rfl, (Below.refl _ _).alloc (Nat.le_refl _) _⟩
  · have hx := fun w => validSide_no x ww w h1
    clear h h1
    go_enter Try.func83, Try.ntmps83
    go_wp2_with (go_at_call 88; (with_reducible refine (hx _).mono ?_); rintro e w' ⟨rfl, rfl⟩)
    go_ret
    exact ⟨rfl, (Below.refl _ _).alloc (Nat.le_refl _) _⟩
end Go.Proofs.Ytaicehkphokacaa
namespace Go.Proofs.Ytaicehkphokacaa
open Go.RowKit
section
variable {w w' : World} {B B' n : Nat} {A : Option Addr} {f : Nat → C3}
end
/-- from i on, the first of k places where two lists differ -/
def lcp (f g : Nat → C3) : Nat → Nat → Nat
  | i, 0 => i
  | i, k + 1 => if f i = g i then lcp f g (i + 1) k else i
/-- the number of cells with which both lists begin -/
def com (f : Nat → C3) (n : Nat) (g : Nat → C3) (m : Nat) : Nat := lcp f g 0 (min n m)
theorem lcp_spec (f g : Nat → C3) (k : Nat) : ∀ i, i ≤ lcp f g i k ∧ lcp f g i k ≤ i + k ∧ (∀ j, i ≤ j → j < lcp f g i k → f j = g j) ∧ (lcp f g i k < i + k → f (lcp f g i k) ≠ g (lcp f g i k)) := by
  induction k with
  | zero => intro i; refine ⟨Nat.le_refl _, Nat.le_refl _, fun j h1 h2 => ?_, fun h => ?_⟩ <;> (simp only [lcp] at *; omega)
  | succ k ih =>
    intro i
    unfold lcp
    split
    · next h =>
      obtain ⟨h1, h2, h3, h4⟩ := ih (i + 1)
      refine ⟨by omega, by omega, fun j hj hl => ?_, fun hl => h4 (by omega)⟩
      by_cases e : j = i
      · rw [e]; exact h
      · exact h3 j (by omega) hl
    · next h => exact ⟨Nat.le_refl _, by omega, fun j h1 h2 => by omega, fun _ => h⟩
section
variable (f : Nat → C3) (n : Nat) (g : Nat → C3) (m : Nat)
theorem com_le : com f n g m ≤ n ∧ com f n g m ≤ m := by have := (lcp_spec f g (min n m) 0).2.1; unfold com; omega
theorem com_eq (j : Nat) (h : j < com f n g m) : f j = g j := (lcp_spec f g (min n m) 0).2.2.1 j (Nat.zero_le _) h
theorem com_ne (h1 : com f n g m < n) (h2 : com f n g m < m) : f (com f n g m) ≠ g (com f n g m) := (lcp_spec f g (min n m) 0).2.2.2 (by unfold com at h1 h2; omega)
end
end Go.Proofs.Ytaicehkphokacaa
namespace Go.Proofs.Ytaicehkphokacaa
open Go.RowKit
/-- block g, below B, holds the list from its first cell on -/
def PReads (w : World) (B g n : Nat) (f : Nat → Int × Int) : Prop :=
  g < B ∧ ∀ k, k < n → w.cell? ⟨g, k * 2, none⟩ = some (.int .i64 (f k).1) ∧ w.cell? ⟨g, k * 2 + 1, none⟩ = some (.int .i64 (f k).2)
section
variable {w w' : World} {B B' g n : Nat} {f : Nat → Int × Int}
theorem PReads.below (h : PReads w B g n f) (hb : Below B w w') : PReads w' B g n f :=
  ⟨h.1, fun k hk => ⟨(hb.cell h.1).trans (h.2 k hk).1, (hb.cell h.1).trans (h.2 k hk).2⟩⟩
theorem PReads.more (h : PReads w B g n f) (hB : B ≤ B') : PReads w B' g n f := ⟨Nat.lt_of_lt_of_le h.1 hB, h.2⟩
end
end Go.Proofs.Ytaicehkphokacaa
namespace Go.Proofs.Ytaicehkphokacaa
open Go.RowKit
/-- a position: x and y -/
abbrev P2 := Int × Int

/-- a list of n positions, f 0, f 1, .., at the address A, below block B -/
def QReads (w : World) (B : Nat) (A : Option Addr) (n : Nat) (f : Nat → P2) : Prop :=
  0 < n → ∃ g o, A = some ⟨g, o, none⟩ ∧ g < B ∧ ∀ k, k < n → w.cell? ⟨g, o + k * 2, none⟩ = some (.int .i64 (f k).1) ∧ w.cell? ⟨g, o + k * 2 + 1, none⟩ = some (.int .i64 (f k).2)
section
variable {w w' : World} {B B' n : Nat} {A : Option Addr} {f : Nat → P2}
theorem QReads.keep (h : QReads w B A n f) (hk : ∀ p : Addr, p.block < B → w'.cell? p = w.cell? p) : QReads w' B A n f := fun hn => by
  obtain ⟨g, o, e, hg, hc⟩ := h hn
  exact ⟨g, o, e, hg, fun k hk' => by rw [hk _ hg, hk _ hg]; exact hc k hk'⟩
theorem QReads.more (h : QReads w B A n f) (hB : B ≤ B') : QReads w B' A n f := fun hn => by
  obtain ⟨g, o, e, hg, hc⟩ := h hn
  exact ⟨g, o, e, Nat.lt_of_lt_of_le hg hB, hc⟩
theorem QReads.below (h : QReads w B A n f) (hb : Below B w w') : QReads w' B A n f := h.keep fun _ hp => hb.cell hp
theorem QReads.later (h : QReads w w.heap.size A n f) (hb : Below w.heap.size w w') : QReads w' w'.heap.size A n f := (h.below hb).more hb.size
theorem QReads.drew (h : QReads w B A n f) : QReads w.drew B A n f := h
theorem QReads.drewN (h : QReads w B A n f) (k : Nat) : QReads (w.drewN k) B A n f := h
end
theorem below_drewN {B : Nat} {w w' : World} (h : Below B w w') (k : Nat) : Below B w (w'.drewN k) := ⟨h.os, h.tape, h.output, h.size, h.block⟩

/-- the order of numbers -/
def sg (a b : Int) : Int := if a < b then -1 else if b < a then 1 else 0
/-- the first that is not 0 -/
def or2 (u v : Int) : Int := if u = 0 then v else u
/-- the order of positions -/
def pc (a b : P2) : Int := or2 (sg a.2 b.2) (sg a.1 b.1)
theorem sg_lt (a b : Int) : sg a b < 0 ↔ a < b := by unfold sg; split <;> (try split) <;> omega
theorem sg_zero (a b : Int) : sg a b = 0 ↔ a = b := by unfold sg; split <;> (try split) <;> omega
theorem pc_lt (a b : P2) : pc a b < 0 ↔ (a.2 < b.2 ∨ a.2 = b.2 ∧ a.1 < b.1) := by
  unfold pc or2
  have h1 := sg_lt a.2 b.2
  have h2 := sg_zero a.2 b.2
  have h3 := sg_lt a.1 b.1
  split <;> omega
end Go.Proofs.Ytaicehkphokacaa
namespace Go.Proofs.Ytaicehkphokacaa
open Go.RowKit
/-- a cell's value -/
abbrev cv (a : C3) : Value := .agg #[.int .i64 a.1, .int .i64 a.2.1, .int .i64 a.2.2]

section
variable {w w' : World} {B B' n : Nat} {A : Option Addr} {f : Nat → C3}
theorem CReads.drew (h : CReads w B A n f) : CReads w.drew B A n f := h
end
/-- a list of two cells, as a function of the place -/
def two (a b : C3) (k : Nat) : C3 := if k = 0 then a else b

/-- the order of places -/
def cp (a b : C3) : Int := or2 (sg a.2.1 b.2.1) (sg a.1 b.1)
/-- the order of cells -/
def cc (a b : C3) : Int := or2 (cp a b) (sg a.2.2 b.2.2)

section
variable (f : Nat → C3) (n : Nat) (g : Nat → C3) (m : Nat)
end
end Go.Proofs.Ytaicehkphokacaa
namespace Go.Proofs.Ytaicehkphokacaa
theorem cc_lt (a b : C3) : cc a b < 0 ↔ (a.2.1 < b.2.1 ∨ a.2.1 = b.2.1 ∧ (a.1 < b.1 ∨ a.1 = b.1 ∧ a.2.2 < b.2.2)) := by
  unfold cc cp or2
  have h1 := sg_lt a.2.1 b.2.1
  have h2 := sg_zero a.2.1 b.2.1
  have h3 := sg_lt a.1 b.1
  have h4 := sg_zero a.1 b.1
  have h5 := sg_lt a.2.2 b.2.2
  split <;> (try split) <;> (try split) <;> omega
theorem cc_trans (a b c : C3) (h1 : cc a b < 0) (h2 : cc b c < 0) : cc a c < 0 := by
  rw [cc_lt] at *
  omega

/-- f is not behind g -/
def Le (f : Nat → C3) (n : Nat) (g : Nat → C3) (m : Nat) : Prop := ∃ i, i ≤ n ∧ i ≤ m ∧ (∀ j, j < i → f j = g j) ∧ (i = n ∨ i < n ∧ i < m ∧ cc (f i) (g i) < 0)
theorem Le.trans {f g h : Nat → C3} {n m l : Nat} (h1 : Le f n g m) (h2 : Le g m h l) : Le f n h l := by
  obtain ⟨i, a1, a2, a3, a4⟩ := h1
  obtain ⟨j, b1, b2, b3, b4⟩ := h2
  have both : ∀ k, k < i → k < j → f k = h k := fun k hk hk' => (a3 k hk).trans (b3 k hk')
  rcases a4 with a4 | ⟨a4, a5, a6⟩
  · rcases b4 with b4 | ⟨b4, b5, b6⟩
    · exact ⟨n, Nat.le_refl _, by omega, fun k hk => both k (by omega) (by omega), Or.inl rfl⟩
    · by_cases e : j < n
      · exact ⟨j, by omega, by omega, fun k hk => both k (by omega) hk, Or.inr ⟨e, b5, by rw [a3 j (by omega)]; exact b6⟩⟩
      · exact ⟨n, Nat.le_refl _, by omega, fun k hk => both k (by omega) (by omega), Or.inl rfl⟩
  · rcases b4 with b4 | ⟨b4, b5, b6⟩
    · exact ⟨i, by omega, by omega, fun k hk => both k hk (by omega), Or.inr ⟨a4, by omega, by rw [← b3 i (by omega)]; exact a6⟩⟩
    · rcases Nat.lt_trichotomy i j with e | e | e
      · exact ⟨i, by omega, by omega, fun k hk => both k hk (by omega), Or.inr ⟨a4, by omega, by rw [← b3 i e]; exact a6⟩⟩
      · subst e
        exact ⟨i, by omega, by omega, fun k hk => both k hk hk, Or.inr ⟨a4, by omega, cc_trans _ _ _ a6 b6⟩⟩
      · exact ⟨j, by omega, by omega, fun k hk => both k (by omega) hk, Or.inr ⟨by omega, by omega, by rw [a3 j e]; exact b6⟩⟩
end Go.Proofs.Ytaicehkphokacaa
