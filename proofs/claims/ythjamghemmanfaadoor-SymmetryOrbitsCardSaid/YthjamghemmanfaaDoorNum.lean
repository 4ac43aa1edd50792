/- The walks of the functions on numbers of symmetries. -/
import Derived.Test.YthjamghemmanfaaDoorMath
import Derived.Test.YthjamghemmanfaaDoorSmall
import Derived.Laws.BitsLemmas
namespace Go.Proofs.YthjamghemmanfaaDoor
open Go.RowKit

theorem and7 (n : Int) : bits .and .i64 n 7 = n % 8 := by
  have h7 : (BitVec.ofInt 64 7).toNat = 2 ^ 3 - 1 := by decide
  have key : (BitVec.ofInt 64 n &&& BitVec.ofInt 64 7).toNat = (n % ((2 ^ 64 : Nat) : Int)).toNat % 2 ^ 3 := by
    rw [BitVec.toNat_and, BitVec.toNat_ofInt, h7, Nat.and_two_pow_sub_one_eq_mod]
  show IntKind.i64.wrap ((BitVec.ofInt 64 n &&& BitVec.ofInt 64 7).toNat : Nat) = n % 8
  rw [key, IntKind.wrap_i64]
  omega
theorem md_nat (k : Nat) (h : k < 8) : md (k : Int) = k := by unfold md; omega
theorem md_mod (k : Int) : k % 8 = (md k : Nat) := by unfold md; omega
theorem cmp_four : ∀ b : Nat, b < 8 → 4 ≤ b → (bits .and .i64 (b : Int) 4 != 0) = true := by decide
theorem cmp_low : ∀ b : Nat, b < 8 → b < 4 → (bits .and .i64 (b : Int) 4 != 0) = false := by decide
theorem cmp_high_val : ∀ a : Nat, a < 8 → ∀ b : Nat, b < 8 → 4 ≤ b → bits .or .i64 (bits .and .i64 (bits .xor .i64 (a : Int) (b : Int)) 4) (bits .and .i64 ((b : Int) - (a : Int)) 3) = (comp a b : Nat) := by decide +kernel
theorem cmp_low_val : ∀ a : Nat, a < 8 → ∀ b : Nat, b < 8 → b < 4 → bits .or .i64 (bits .and .i64 (bits .xor .i64 (a : Int) (b : Int)) 4) (bits .and .i64 ((a : Int) + (b : Int)) 3) = (comp a b : Nat) := by decide +kernel

theorem mod_val (k : Int) : wrap64 (k.tmod 8 + 8) = k.tmod 8 + 8 ∧ (k.tmod 8 + 8).tmod 8 = (md k : Nat) := by
  have h : -8 < k.tmod 8 ∧ k.tmod 8 < 8 ∧ (k.tmod 8 + 8) % 8 = k % 8 := by
    rcases Int.le_total 0 k with h | h
    · rw [Int.tmod_eq_emod_of_nonneg h]; omega
    · obtain ⟨m, rfl⟩ : ∃ m, k = -m := ⟨-k, by omega⟩
      rw [Int.neg_tmod, Int.tmod_eq_emod_of_nonneg (by omega)]; omega
  obtain ⟨h1, h2, h3⟩ := h
  refine ⟨by unfold wrap64; omega, ?_⟩
  rw [Int.tmod_eq_emod_of_nonneg (by omega), h3]
  exact md_mod k

theorem number_any (k : Int) (w : World) :
    Calls Tryd.prog 20 #[.int .i64 k] w fun e w' => e = .returned (.int .i64 (md k : Nat)) ∧ w = w' := by
  go_enter Tryd.func20, Tryd.ntmps20
  go_wp2
  go_ret
  exact ⟨congrArg Ending.returned (congrArg (Value.int IntKind.i64) ((and7 k).trans (md_mod k))), rfl⟩
theorem mod_any (k : Int) (w : World) (h1 : -9223372036854775808 ≤ k) (h2 : k ≤ 9223372036854775807) :
    Calls Tryd.prog 28 #[.int .i64 k] w fun e w' => e = .returned (.int .i64 (md k : Nat)) ∧ w = w' := by
  obtain ⟨e1, e2⟩ := mod_val k
  have E1 := Lib.hid e1
  have E2 := Lib.hid e2
  clear e1 e2
  go_enter Tryd.func28, Tryd.ntmps28
  go_wp2
  go_ret
  exact ⟨congrArg Ending.returned (congrArg (Value.int IntKind.i64) (by show (wrap64 (k.tmod 8 + 8)).tmod 8 = _; rw [E1.out]; exact E2.out)), rfl⟩
theorem compose_any (a b : Int) (w : World) :
    Calls Tryd.prog 9 #[.int .i64 a, .int .i64 b] w fun e w' => e = .returned (.int .i64 (comp (md a) (md b) : Nat)) ∧ w = w' := by
  have Ha := Lib.hid (fun w => number_any a w)
  have Hb := Lib.hid (fun w => number_any b w)
  have la := md_lt a
  have lb := md_lt b
  generalize md a = p at Ha la ⊢
  generalize md b = q at Hb lb ⊢
  by_cases h : 4 ≤ q
  · have v := Lib.hid (cmp_high_val p la q lb h)
    have t := cmp_four q lb h
    go_enter Tryd.func9, Tryd.ntmps9
    go_wp2_with (first | (go_at_call 20; (with_reducible refine (Ha.out _).mono ?_); rintro e w' ⟨rfl, rfl⟩) | (go_at_call 20; (with_reducible refine (Hb.out _).mono ?_); rintro e w' ⟨rfl, rfl⟩))
    go_ret
    exact ⟨congrArg Ending.returned (congrArg (Value.int IntKind.i64) v.out), rfl⟩
  · have v := Lib.hid (cmp_low_val p la q lb (by omega))
    have t := cmp_low q lb (by omega)
    go_enter Tryd.func9, Tryd.ntmps9
    go_wp2_with (first | (go_at_call 20; (with_reducible refine (Ha.out _).mono ?_); rintro e w' ⟨rfl, rfl⟩) | (go_at_call 20; (with_reducible refine (Hb.out _).mono ?_); rintro e w' ⟨rfl, rfl⟩))
    go_ret
    exact ⟨congrArg Ending.returned (congrArg (Value.int IntKind.i64) v.out), rfl⟩
theorem inverse_one (w : World) : Calls Tryd.prog 10 #[.int .i64 1] w fun e w' => e = .returned (.int .i64 3) ∧ w = w' := by
  have H := Lib.hid (fun w => by have := number_any 1 w; rwa [show (md 1 : Nat) = 1 by decide] at this)
  go_enter Tryd.func10, Tryd.ntmps10
  go_wp2_with (go_at_call 20; (with_reducible refine (H.out _).mono ?_); rintro e w' ⟨rfl, rfl⟩)
  go_ret
  exact ⟨rfl, rfl⟩
theorem odd_val : ∀ k : Nat, k < 8 → (bits .and .i64 (k : Int) 1 == 1) = decide (k % 2 = 1) := by decide
theorem exch_any (k : Nat) (w : World) (h : k < 8) : Calls Tryd.prog 15 #[.int .i64 (k : Nat)] w fun e w' => e = .returned (.bool (decide (k % 2 = 1))) ∧ w = w' := by
  have v := Lib.hid (odd_val k h)
  go_enter Tryd.func15, Tryd.ntmps15
  go_wp2
  go_ret
  exact ⟨congrArg Ending.returned (congrArg Value.bool v.out), rfl⟩
theorem keeps_yes (k : Nat) (a b : Int) (w : World) (hk : k < 8) (h : k % 2 = 0 ∨ a = b) : Calls Tryd.prog 18 #[.int .i64 (k : Nat), .int .i64 a, .int .i64 b] w fun e w' => e = .returned (.bool true) ∧ w = w' := by
  have M := Lib.hid (fun w => by have := mod_any (k : Int) w (by omega) (by omega); rwa [md_nat k hk] at this)
  by_cases h2 : k % 2 = 0
  · clear h
    have t : ((k : Int) % 2 == 0) = true := by rw [beq_iff_eq]; omega
    clear h2
    go_enter Tryd.func18, Tryd.ntmps18
    go_wp2_with (go_at_call 28; (with_reducible refine (M.out _).mono ?_); rintro e w' ⟨rfl, rfl⟩)
    go_ret
    exact ⟨rfl, rfl⟩
  · have hab : a = b := by omega
    subst hab
    have t : ((k : Int) % 2 == 0) = false := by rw [beq_eq_false_iff_ne]; omega
    clear h2 h
    go_enter Tryd.func18, Tryd.ntmps18
    go_wp2_with (go_at_call 28; (with_reducible refine (M.out _).mono ?_); rintro e w' ⟨rfl, rfl⟩)
    go_ret
    exact ⟨by first | rfl | (simp), rfl⟩
theorem keeps_no (k : Nat) (a b : Int) (w : World) (hk : k < 8) (h : k % 2 = 1) (hab : a ≠ b) : Calls Tryd.prog 18 #[.int .i64 (k : Nat), .int .i64 a, .int .i64 b] w fun e w' => e = .returned (.bool false) ∧ w = w' := by
  have M := Lib.hid (fun w => by have := mod_any (k : Int) w (by omega) (by omega); rwa [md_nat k hk] at this)
  have t : ((k : Int) % 2 == 0) = false := by rw [beq_eq_false_iff_ne]; omega
  have t3 : (a == b) = false := by rw [beq_eq_false_iff_ne]; exact hab
  clear h hab
  go_enter Tryd.func18, Tryd.ntmps18
  go_wp2_with (go_at_call 28; (with_reducible refine (M.out _).mono ?_); rintro e w' ⟨rfl, rfl⟩)
  go_ret
  exact ⟨by first | rfl | (simp), rfl⟩
end Go.Proofs.YthjamghemmanfaaDoor
