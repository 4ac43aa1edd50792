/- The walks of the functions on numbers of symmetries. -/
import Derived.Test.YtobaabankhpfjaaDoorSMath
import Derived.Test.YtobaabankhpfjaaDoorSmall
import Derived.Laws.BitsLemmas
namespace Go.Proofs.YtobaabankhpfjaaDoor
open Go.RowKit

theorem and7 (n : Int) : bits .and .i64 n 7 = n % 8 := by
  have h7 : (BitVec.ofInt 64 7).toNat = 2 ^ 3 - 1 := by decide
  have key : (BitVec.ofInt 64 n &&& BitVec.ofInt 64 7).toNat = (n % ((2 ^ 64 : Nat) : Int)).toNat % 2 ^ 3 := by
    rw [BitVec.toNat_and, BitVec.toNat_ofInt, h7, Nat.and_two_pow_sub_one_eq_mod]
  show IntKind.i64.wrap ((BitVec.ofInt 64 n &&& BitVec.ofInt 64 7).toNat : Nat) = n % 8
  rw [key, IntKind.wrap_i64]
  omega
theorem md_nat (k : Nat) (h : k < 8) : md (k : Int) = k := by unfold md; omega
theorem md_mod (k : Int) : k % 8 = (md k : Nat) := by unfold md; omega
theorem cmp_four : ∀ b : Nat, b < 8 → 4 ≤ b → (bits .and .i64 (b : Int) 4 != 0) = true := by decide
theorem cmp_low : ∀ b : Nat, b < 8 → b < 4 → (bits .and .i64 (b : Int) 4 != 0) = false := by decide
theorem cmp_high_val : ∀ a : Nat, a < 8 → ∀ b : Nat, b < 8 → 4 ≤ b → bits .or .i64 (bits .and .i64 (bits .xor .i64 (a : Int) (b : Int)) 4) (bits .and .i64 ((b : Int) - (a : Int)) 3) = (comp a b : Nat) := by decide +kernel
theorem cmp_low_val : ∀ a : Nat, a < 8 → ∀ b : Nat, b < 8 → b < 4 → bits .or .i64 (bits .and .i64 (bits .xor .i64 (a : Int) (b : Int)) 4) (bits .and .i64 ((a : Int) + (b : Int)) 3) = (comp a b : Nat) := by decide +kernel

theorem number_any (k : Int) (w : World) :
    Calls Tryd.prog 22 #[.int .i64 k] w fun e w' => e = .returned (.int .i64 (md k : Nat)) ∧ w = w' := by
  go_enter Tryd.func22, Tryd.ntmps22
  go_wp2
  go_ret
  exact ⟨congrArg Ending.returned (congrArg (Value.int IntKind.i64) ((and7 k).trans (md_mod k))), rfl⟩
theorem compose_any (a b : Int) (w : World) :
    Calls Tryd.prog 7 #[.int .i64 a, .int .i64 b] w fun e w' => e = .returned (.int .i64 (comp (md a) (md b) : Nat)) ∧ w = w' := by
  have Ha := Lib.hid (fun w => number_any a w)
  have Hb := Lib.hid (fun w => number_any b w)
  have la := md_lt a
  have lb := md_lt b
  generalize md a = p at Ha la ⊢
  generalize md b = q at Hb lb ⊢
  by_cases h : 4 ≤ q
  · have v := Lib.hid (cmp_high_val p la q lb h)
    have t := cmp_four q lb h
    go_enter Tryd.func7, Tryd.ntmps7
    go_wp2_with (first | (go_at_call 22; (with_reducible refine (Ha.out _).mono ?_); rintro e w' ⟨rfl, rfl⟩) | (go_at_call 22; (with_reducible refine (Hb.out _).mono ?_); rintro e w' ⟨rfl, rfl⟩))
    go_ret
    exact ⟨congrArg Ending.returned (congrArg (Value.int IntKind.i64) v.out), rfl⟩
  · have v := Lib.hid (cmp_low_val p la q lb (by omega))
    have t := cmp_low q lb (by omega)
    go_enter Tryd.func7, Tryd.ntmps7
    go_wp2_with (first | (go_at_call 22; (with_reducible refine (Ha.out _).mono ?_); rintro e w' ⟨rfl, rfl⟩) | (go_at_call 22; (with_reducible refine (Hb.out _).mono ?_); rintro e w' ⟨rfl, rfl⟩))
    go_ret
    exact ⟨congrArg Ending.returned (congrArg (Value.int IntKind.i64) v.out), rfl⟩
end Go.Proofs.YtobaabankhpfjaaDoor
