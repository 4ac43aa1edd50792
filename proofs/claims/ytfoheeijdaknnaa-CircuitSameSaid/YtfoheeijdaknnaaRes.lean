/- The walk of result: the 64 values of an operation. -/
import Derived.Test.YtfoheeijdaknnaaGate
namespace Go.Proofs.Ytfoheeijdaknnaa
open Go.RowKit

section
variable (a b : Int) (w : World)
theorem result_1 : Calls Try.prog 25 #[.int .i64 1, .int .u64 a, .int .u64 b] w fun e w' => e = .returned (.int .u64 (rs 1 a b)) ∧ w = w' := by
  go_enter Try.func25, Try.ntmps25
  go_wp2
  go_ret
  exact ⟨rfl, rfl⟩
theorem result_2 : Calls Try.prog 25 #[.int .i64 2, .int .u64 a, .int .u64 b] w fun e w' => e = .returned (.int .u64 (rs 2 a b)) ∧ w = w' := by
  go_enter Try.func25, Try.ntmps25
  go_wp2
  go_ret
  exact ⟨rfl, rfl⟩
theorem result_3 : Calls Try.prog 25 #[.int .i64 3, .int .u64 a, .int .u64 b] w fun e w' => e = .returned (.int .u64 (rs 3 a b)) ∧ w = w' := by
  go_enter Try.func25, Try.ntmps25
  go_wp2
  go_ret
  exact ⟨rfl, rfl⟩
theorem result_4 : Calls Try.prog 25 #[.int .i64 4, .int .u64 a, .int .u64 b] w fun e w' => e = .returned (.int .u64 (rs 4 a b)) ∧ w = w' := by
  go_enter Try.func25, Try.ntmps25
  go_wp2
  go_ret
  exact ⟨rfl, rfl⟩
theorem result_5 : Calls Try.prog 25 #[.int .i64 5, .int .u64 a, .int .u64 b] w fun e w' => e = .returned (.int .u64 (rs 5 a b)) ∧ w = w' := by
  go_enter Try.func25, Try.ntmps25
  go_wp2
  go_ret
  exact ⟨rfl, rfl⟩
theorem result_no (op : Int) (h1 : op ≠ 1) (h2 : op ≠ 2) (h3 : op ≠ 3) (h4 : op ≠ 4) (h5 : op ≠ 5) : Calls Try.prog 25 #[.int .i64 op, .int .u64 a, .int .u64 b] w fun e w' => e = .returned (.int .u64 (rs op a b)) ∧ w = w' := by
  have HR : rs op a b = 0 := by simp [rs, h1, h2, h3, h4, h5]
  rw [HR]
  rw [← beq_eq_false_iff_ne] at h1 h2 h3 h4 h5
  go_enter Try.func25, Try.ntmps25
  go_wp2
  go_ret
  exact ⟨rfl, rfl⟩
theorem result_any (op : Int) : Calls Try.prog 25 #[.int .i64 op, .int .u64 a, .int .u64 b] w fun e w' => e = .returned (.int .u64 (rs op a b)) ∧ w = w' := by
  by_cases h1 : op = 1
  · subst h1; exact result_1 a b w
  by_cases h2 : op = 2
  · subst h2; exact result_2 a b w
  by_cases h3 : op = 3
  · subst h3; exact result_3 a b w
  by_cases h4 : op = 4
  · subst h4; exact result_4 a b w
  by_cases h5 : op = 5
  · subst h5; exact result_5 a b w
  exact result_no a b w op h1 h2 h3 h4 h5
end
end Go.Proofs.Ytfoheeijdaknnaa
