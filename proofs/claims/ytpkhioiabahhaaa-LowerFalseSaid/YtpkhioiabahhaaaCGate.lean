/- Gates as values; the walks of isWire, rightGate, result, operands and moved. -/
import Derived.Test.YtpkhioiabahhaaaCPCell
import Derived.Test.YtpkhioiabahhaaaTMem
import Derived.Test.YtpkhioiabahhaaaTSmall
import Derived.Below
import Derived.BigQuiet
import Derived.Deep.AppendLies
import Derived.Deep.CutRange
import Derived.Deep.Draws
import Derived.Deep.QuietTactic
import Derived.IntWalk
import Derived.Laws.CopyOwn
import Derived.Laws.OwnMore
import Derived.Laws.Rows
import Derived.Lib.Hide
import Derived.Lib.SliceRun
import Derived.LoopN
import Derived.OwnWalk
import Derived.StillTail
import Derived.StillTailTactics
import Derived.Test.YtpkhioiabahhaaaRows
import Derived.WalkKit
namespace Go.Proofs.Ytpkhioiabahhaaa
open Go.RowKit
/-- whether a number is one of n wires -/
def isw (k n : Int) : Bool := decide (0 ≤ k) && decide (k < n)
theorem isw_iff (k n : Int) : isw k n = true ↔ 0 ≤ k ∧ k < n := by simp [isw]
/-- whether a gate is valid behind n wires -/
def rg (g : C3) (n : Int) : Bool :=
  if g.1 = 0 ∨ g.1 = 1 then decide (g.2.1 = 0) && decide (g.2.2 = 0)
  else if g.1 = 2 then isw g.2.1 n && decide (g.2.2 = 0)
  else if g.1 = 3 ∨ g.1 = 4 ∨ g.1 = 5 then isw g.2.1 n && isw g.2.2 n
  else false

theorem isWire_any (s n : Int) (w : World) : Calls Try.prog 79 #[.int .i64 s, .int .i64 n] w fun e w' => e = .returned (.bool (isw s n)) ∧ w = w' := by
  by_cases h : 0 ≤ s
  · rw [isw, decide_eq_true h]
    go_enter Try.func79, Try.ntmps79
    go_wp2
    go_ret
    exact ⟨ret_bool (by simp), rfl⟩
  · rw [isw, decide_eq_false h]
    go_enter Try.func79, Try.ntmps79
    go_wp2
    go_ret
    exact ⟨rfl, rfl⟩

section
variable (a b n : Int) (w : World)
theorem rgate_01 (op : Int) (ho : op = 0 ∨ op = 1) : Calls Try.prog 78 #[.agg #[.int .i64 op, .int .i64 a, .int .i64 b], .int .i64 n] w fun e w' => e = .returned (.bool (rg (op, a, b) n)) ∧ Below w.heap.size w w' := by
  have B1 := Lib.hid ((Below.refl w.heap.size w).alloc (Nat.le_refl _) (.cells #[.int .i64 op, .int .i64 a, .int .i64 b] 53))
  have HR : rg (op, a, b) n = (decide (a = 0) && decide (b = 0)) := by simp [rg, ho]
  rw [HR]
  by_cases ha : a = 0
  · subst ha
    by_cases hb : b = 0
    · subst hb
      rcases ho with rfl | rfl
      · go_enter Try.func78, Try.ntmps78
        go_wp2
        go_ret
        exact ⟨rfl, B1.out⟩
      · go_enter Try.func78, Try.ntmps78
        go_wp2
        go_ret
        exact ⟨rfl, B1.out⟩
    · have hb' : (b == 0) = false := by rw [beq_eq_false_iff_ne]; exact hb
      rw [decide_eq_false hb]
      clear hb
      rcases ho with rfl | rfl
      · go_enter Try.func78, Try.ntmps78
        go_wp2
        go_ret
        exact ⟨rfl, B1.out⟩
      · go_enter Try.func78, Try.ntmps78
        go_wp2
        go_ret
        exact ⟨rfl, B1.out⟩
  · have ha' : (a == 0) = false := by rw [beq_eq_false_iff_ne]; exact ha
    rw [decide_eq_false ha]
    clear ha
    rcases ho with rfl | rfl
    · go_enter Try.func78, Try.ntmps78
      go_wp2
      go_ret
      exact ⟨rfl, B1.out⟩
    · go_enter Try.func78, Try.ntmps78
      go_wp2
      go_ret
      exact ⟨rfl, B1.out⟩
theorem rgate_2 : Calls Try.prog 78 #[.agg #[.int .i64 2, .int .i64 a, .int .i64 b], .int .i64 n] w fun e w' => e = .returned (.bool (rg (2, a, b) n)) ∧ Below w.heap.size w w' := by
  have B1 := Lib.hid ((Below.refl w.heap.size w).alloc (Nat.le_refl _) (.cells #[.int .i64 2, .int .i64 a, .int .i64 b] 53))
  have HR : rg (2, a, b) n = (isw a n && decide (b = 0)) := by simp [rg]
  rw [HR]
  have I := Lib.hid (fun w => isWire_any a n w)
  generalize isw a n = x at I
  cases x with
  | false =>
    go_enter Try.func78, Try.ntmps78
    go_wp2_with (go_at_call 79; (with_reducible refine (I.out _).mono ?_); rintro e w1 ⟨rfl, rfl⟩)
    go_ret
    exact ⟨rfl, B1.out⟩
  | true =>
    by_cases hb : b = 0
    · subst hb
      go_enter Try.func78, Try.ntmps78
      go_wp2_with (go_at_call 79; (with_reducible refine (I.out _).mono ?_); rintro e w1 ⟨rfl, rfl⟩)
      go_ret
      exact ⟨rfl, B1.out⟩
    · have hb' : (b == 0) = false := by rw [beq_eq_false_iff_ne]; exact hb
      rw [decide_eq_false hb]
      clear hb
      go_enter Try.func78, Try.ntmps78
      go_wp2_with (go_at_call 79; (with_reducible refine (I.out _).mono ?_); rintro e w1 ⟨rfl, rfl⟩)
      go_ret
      exact ⟨rfl, B1.out⟩
theorem rgate_345 (op : Int) (ho : op = 3 ∨ op = 4 ∨ op = 5) : Calls Try.prog 78 #[.agg #[.int .i64 op, .int .i64 a, .int .i64 b], .int .i64 n] w fun e w' => e = .returned (.bool (rg (op, a, b) n)) ∧ Below w.heap.size w w' := by
  have B1 := Lib.hid ((Below.refl w.heap.size w).alloc (Nat.le_refl _) (.cells #[.int .i64 op, .int .i64 a, .int .i64 b] 53))
  have HR : rg (op, a, b) n = (isw a n && isw b n) := by
    rcases ho with rfl | rfl | rfl <;> simp [rg]
  rw [HR]
  have I := Lib.hid (fun w => isWire_any a n w)
  have J := Lib.hid (fun w => isWire_any b n w)
  generalize isw a n = x at I
  generalize isw b n = y at J
  cases x with
  | false =>
    rcases ho with rfl | rfl | rfl
    all_goals
      go_enter Try.func78, Try.ntmps78
      go_wp2_with (go_at_call 79; (with_reducible refine (I.out _).mono ?_); rintro e w1 ⟨rfl, rfl⟩)
      go_ret
      exact ⟨rfl, B1.out⟩
  | true =>
    rcases ho with rfl | rfl | rfl
    all_goals
      go_enter Try.func78, Try.ntmps78
      go_wp2_with (first | (go_at_call 79; (with_reducible refine (I.out _).mono ?_); rintro e w1 ⟨rfl, rfl⟩) | (go_at_call 79; (with_reducible refine (J.out _).mono ?_); rintro e w1 ⟨rfl, rfl⟩))
      go_ret
      exact ⟨ret_bool (by simp), B1.out⟩
theorem rgate_no (op : Int) (h0 : op ≠ 0) (h1 : op ≠ 1) (h2 : op ≠ 2) (h3 : op ≠ 3) (h4 : op ≠ 4) (h5 : op ≠ 5) : Calls Try.prog 78 #[.agg #[.int .i64 op, .int .i64 a, .int .i64 b], .int .i64 n] w fun e w' => e = .returned (.bool (rg (op, a, b) n)) ∧ Below w.heap.size w w' := by
  have B1 := Lib.hid ((Below.refl w.heap.size w).alloc (Nat.le_refl _) (.cells #[.int .i64 op, .int .i64 a, .int .i64 b] 53))
  have HR : rg (op, a, b) n = false := by simp [rg, h0, h1, h2, h3, h4, h5]
  rw [HR]
  rw [← beq_eq_false_iff_ne] at h0 h1 h2 h3 h4 h5
  go_enter Try.func78, Try.ntmps78
  go_wp2
  go_ret
  exact ⟨rfl, B1.out⟩
theorem rgate_any (op : Int) : Calls Try.prog 78 #[.agg #[.int .i64 op, .int .i64 a, .int .i64 b], .int .i64 n] w fun e w' => e = .returned (.bool (rg (op, a, b) n)) ∧ Below w.heap.size w w' := by
  by_cases h0 : op = 0
  · exact rgate_01 a b n w op (.inl h0)
  by_cases h1 : op = 1
  · exact rgate_01 a b n w op (.inr h1)
  by_cases h2 : op = 2
  · subst h2; exact rgate_2 a b n w
  by_cases h3 : op = 3
  · exact rgate_345 a b n w op (.inl h3)
  by_cases h4 : op = 4
  · exact rgate_345 a b n w op (.inr (.inl h4))
  by_cases h5 : op = 5
  · exact rgate_345 a b n w op (.inr (.inr h5))
  exact rgate_no a b n w op h0 h1 h2 h3 h4 h5
end
/-- the 64 values of an operation -/
def rs (op a b : Int) : Int := if op = 1 then 18446744073709551615 else if op = 2 then bits .xor .u64 IntKind.u64.max a else if op = 3 then bits .and .u64 a b else if op = 4 then bits .or .u64 a b else if op = 5 then bits .xor .u64 a b else 0
end Go.Proofs.Ytpkhioiabahhaaa
