/- The walk of the reference's Parse, by what its loop and its callees answer. -/
import Derived.Test.YtdbeomibajcecaaDoorNumer
import Derived.Test.YtdbeomibajcecaaDoorGo
namespace Go.Proofs.YtdbeomibajcecaaDoor
open Go.RowKit

section
variable (s : ByteArray) (f : Nat → Nat) (La : Nat → Int) (w : World)
set_option maxRecDepth 100000 in
set_option maxHeartbeats 1000000 in
theorem rp1_low (B : ∀ j (h : j < s.size), (s[j]'h).toNat = f j) (hl : s.size ≤ 1000) (h0 : 0 < s.size) (hL0 : La 0 = -1) (hL1 : ∀ j, j < s.size → f j = 47 → La (j + 1) = (j : Int)) (hL2 : ∀ j, j < s.size → f j ≠ 47 → La (j + 1) = La j)
    (hg : f 0 ≠ 87)
    (hat : La s.size < 1) :
    Calls Tryd.prog 6 #[.string s] w fun e w' => e = .returned (.tuple #[.int .i64 0, .int .i64 0, .bool false, .int .i64 15]) ∧ Below w.heap.size w w' := by
  have BH := Lib.hid B
  have L0 := Lib.hid hL0
  have L1 := Lib.hid hL1
  have L2 := Lib.hid hL2
  have q0 := B 0
  have hz1 : (1 : Int) ≤ (s.size : Int) := by omega
  clear B hL0 hL1 hL2
  have q1 : (((f 0 : Nat) : Int) == 87) = false := by rw [beq_eq_false_iff_ne]; omega
  clear hg
  go_enter Tryd.func6, Tryd.ntmps6
  go_wp2
  go_loop [8, 9] (fun av iv => ∃ j : Nat, j ≤ s.size ∧ av = .int .i64 (La j) ∧ iv = .int .i64 (j : Int)) (fun _ iv => s.size - (intOf iv).toNat)
  case atStart => exact ⟨0, Nat.zero_le _, by rw [L0.out], rfl⟩
  case round =>
    obtain ⟨j, hj, rfl, rfl⟩ := hrel
    by_cases hjs : j < s.size
    · have hb := BH.out j
      by_cases h47 : f j = 47
      · have hL := Lib.hid (L1.out j hjs h47)
        have hq : (((f j : Nat) : Int) == 47) = true := by rw [h47]; rfl
        clear h47
        go_wp2
        go_round
        case rel => exact ⟨j + 1, by omega, by rw [hL.out], by go_num⟩
        case measure => simp [intOf]; omega
      · have hL := Lib.hid (L2.out j hjs h47)
        have hq : (((f j : Nat) : Int) == 47) = false := by rw [beq_eq_false_iff_ne]; omega
        clear h47
        go_wp2
        go_round
        case rel => exact ⟨j + 1, by omega, by rw [hL.out], by go_num⟩
        case measure => simp [intOf]; omega
    · obtain rfl : j = s.size := by omega
      go_wp2
      (try simp only [Exit.inBlock, Exit.then])
      refine bodyPost_ret (results_tmp4 rfl _ _ _) rfl ?_
      exact ⟨rfl, Below.refl _ _⟩
set_option maxRecDepth 100000 in
set_option maxHeartbeats 1000000 in
theorem rp1_ne (B : ∀ j (h : j < s.size), (s[j]'h).toNat = f j) (hl : s.size ≤ 1000) (h0 : 0 < s.size) (hL0 : La 0 = -1) (hL1 : ∀ j, j < s.size → f j = 47 → La (j + 1) = (j : Int)) (hL2 : ∀ j, j < s.size → f j ≠ 47 → La (j + 1) = La j)
    (hg : f 0 ≠ 87)
    (m : Nat) (hat : La s.size = (m : Int)) (hm1 : 1 ≤ m) (hm2 : m < s.size) (h84 : f 0 ≠ 84) :
    Calls Tryd.prog 6 #[.string s] w fun e w' => e = .returned (.tuple #[.int .i64 0, .int .i64 0, .bool false, .int .i64 15]) ∧ Below w.heap.size w w' := by
  have BH := Lib.hid B
  have L0 := Lib.hid hL0
  have L1 := Lib.hid hL1
  have L2 := Lib.hid hL2
  have q0 := B 0
  have hz1 : (1 : Int) ≤ (s.size : Int) := by omega
  clear B hL0 hL1 hL2
  have q1 : (((f 0 : Nat) : Int) == 87) = false := by rw [beq_eq_false_iff_ne]; omega
  have q2 : (((f 0 : Nat) : Int) != 84) = true := by rw [bne_iff_ne]; omega
  clear hg
  go_enter Tryd.func6, Tryd.ntmps6
  go_wp2
  go_loop [8, 9] (fun av iv => ∃ j : Nat, j ≤ s.size ∧ av = .int .i64 (La j) ∧ iv = .int .i64 (j : Int)) (fun _ iv => s.size - (intOf iv).toNat)
  case atStart => exact ⟨0, Nat.zero_le _, by rw [L0.out], rfl⟩
  case round =>
    obtain ⟨j, hj, rfl, rfl⟩ := hrel
    by_cases hjs : j < s.size
    · have hb := BH.out j
      by_cases h47 : f j = 47
      · have hL := Lib.hid (L1.out j hjs h47)
        have hq : (((f j : Nat) : Int) == 47) = true := by rw [h47]; rfl
        clear h47
        go_wp2
        go_round
        case rel => exact ⟨j + 1, by omega, by rw [hL.out], by go_num⟩
        case measure => simp [intOf]; omega
      · have hL := Lib.hid (L2.out j hjs h47)
        have hq : (((f j : Nat) : Int) == 47) = false := by rw [beq_eq_false_iff_ne]; omega
        clear h47
        go_wp2
        go_round
        case rel => exact ⟨j + 1, by omega, by rw [hL.out], by go_num⟩
        case measure => simp [intOf]; omega
    · obtain rfl : j = s.size := by omega
      have hm3 : (1 : Int) ≤ (m : Int) := by omega
      rw [hat]
      go_wp2
      (try simp only [Exit.inBlock, Exit.then])
      refine bodyPost_ret (results_tmp4 rfl _ _ _) rfl ?_
      exact ⟨rfl, Below.refl _ _⟩
set_option maxRecDepth 100000 in
set_option maxHeartbeats 1000000 in
theorem rp2_low (B : ∀ j (h : j < s.size), (s[j]'h).toNat = f j) (hl : s.size ≤ 1000) (h0 : 0 < s.size) (hL0 : La 0 = -1) (hL1 : ∀ j, j < s.size → f j = 47 → La (j + 1) = (j : Int)) (hL2 : ∀ j, j < s.size → f j ≠ 47 → La (j + 1) = La j)
    (hg : f 0 = 87) (NG : ∀ w : World, Calls Tryd.prog 14 #[.string (s.extract 1 s.size)] w fun e w' => e = .returned (.bool false) ∧ w = w')
    (hat : La s.size < 1) :
    Calls Tryd.prog 6 #[.string s] w fun e w' => e = .returned (.tuple #[.int .i64 0, .int .i64 0, .bool false, .int .i64 15]) ∧ Below w.heap.size w w' := by
  have BH := Lib.hid B
  have L0 := Lib.hid hL0
  have L1 := Lib.hid hL1
  have L2 := Lib.hid hL2
  have q0 := B 0
  have hz1 : (1 : Int) ≤ (s.size : Int) := by omega
  clear B hL0 hL1 hL2
  have q1 : (((f 0 : Nat) : Int) == 87) = true := by rw [hg]; rfl
  have NH := Lib.hid NG
  clear NG
  clear hg
  go_enter Tryd.func6, Tryd.ntmps6
  go_wp2_with (go_at_call 14; (with_reducible refine (NH.out _).mono ?_); rintro e w' ⟨rfl, rfl⟩)
  go_loop [8, 9] (fun av iv => ∃ j : Nat, j ≤ s.size ∧ av = .int .i64 (La j) ∧ iv = .int .i64 (j : Int)) (fun _ iv => s.size - (intOf iv).toNat)
  case atStart => exact ⟨0, Nat.zero_le _, by rw [L0.out], rfl⟩
  case round =>
    obtain ⟨j, hj, rfl, rfl⟩ := hrel
    by_cases hjs : j < s.size
    · have hb := BH.out j
      by_cases h47 : f j = 47
      · have hL := Lib.hid (L1.out j hjs h47)
        have hq : (((f j : Nat) : Int) == 47) = true := by rw [h47]; rfl
        clear h47
        go_wp2
        go_round
        case rel => exact ⟨j + 1, by omega, by rw [hL.out], by go_num⟩
        case measure => simp [intOf]; omega
      · have hL := Lib.hid (L2.out j hjs h47)
        have hq : (((f j : Nat) : Int) == 47) = false := by rw [beq_eq_false_iff_ne]; omega
        clear h47
        go_wp2
        go_round
        case rel => exact ⟨j + 1, by omega, by rw [hL.out], by go_num⟩
        case measure => simp [intOf]; omega
    · obtain rfl : j = s.size := by omega
      go_wp2
      (try simp only [Exit.inBlock, Exit.then])
      refine bodyPost_ret (results_tmp4 rfl _ _ _) rfl ?_
      exact ⟨rfl, Below.refl _ _⟩
set_option maxRecDepth 100000 in
set_option maxHeartbeats 1000000 in
theorem rp2_ne (B : ∀ j (h : j < s.size), (s[j]'h).toNat = f j) (hl : s.size ≤ 1000) (h0 : 0 < s.size) (hL0 : La 0 = -1) (hL1 : ∀ j, j < s.size → f j = 47 → La (j + 1) = (j : Int)) (hL2 : ∀ j, j < s.size → f j ≠ 47 → La (j + 1) = La j)
    (hg : f 0 = 87) (NG : ∀ w : World, Calls Tryd.prog 14 #[.string (s.extract 1 s.size)] w fun e w' => e = .returned (.bool false) ∧ w = w')
    (m : Nat) (hat : La s.size = (m : Int)) (hm1 : 1 ≤ m) (hm2 : m < s.size) (h84 : f 0 ≠ 84) :
    Calls Tryd.prog 6 #[.string s] w fun e w' => e = .returned (.tuple #[.int .i64 0, .int .i64 0, .bool false, .int .i64 15]) ∧ Below w.heap.size w w' := by
  have BH := Lib.hid B
  have L0 := Lib.hid hL0
  have L1 := Lib.hid hL1
  have L2 := Lib.hid hL2
  have q0 := B 0
  have hz1 : (1 : Int) ≤ (s.size : Int) := by omega
  clear B hL0 hL1 hL2
  have q1 : (((f 0 : Nat) : Int) == 87) = true := by rw [hg]; rfl
  have NH := Lib.hid NG
  clear NG
  have q2 : (((f 0 : Nat) : Int) != 84) = true := by rw [bne_iff_ne]; omega
  clear hg
  go_enter Tryd.func6, Tryd.ntmps6
  go_wp2_with (go_at_call 14; (with_reducible refine (NH.out _).mono ?_); rintro e w' ⟨rfl, rfl⟩)
  go_loop [8, 9] (fun av iv => ∃ j : Nat, j ≤ s.size ∧ av = .int .i64 (La j) ∧ iv = .int .i64 (j : Int)) (fun _ iv => s.size - (intOf iv).toNat)
  case atStart => exact ⟨0, Nat.zero_le _, by rw [L0.out], rfl⟩
  case round =>
    obtain ⟨j, hj, rfl, rfl⟩ := hrel
    by_cases hjs : j < s.size
    · have hb := BH.out j
      by_cases h47 : f j = 47
      · have hL := Lib.hid (L1.out j hjs h47)
        have hq : (((f j : Nat) : Int) == 47) = true := by rw [h47]; rfl
        clear h47
        go_wp2
        go_round
        case rel => exact ⟨j + 1, by omega, by rw [hL.out], by go_num⟩
        case measure => simp [intOf]; omega
      · have hL := Lib.hid (L2.out j hjs h47)
        have hq : (((f j : Nat) : Int) == 47) = false := by rw [beq_eq_false_iff_ne]; omega
        clear h47
        go_wp2
        go_round
        case rel => exact ⟨j + 1, by omega, by rw [hL.out], by go_num⟩
        case measure => simp [intOf]; omega
    · obtain rfl : j = s.size := by omega
      have hm3 : (1 : Int) ≤ (m : Int) := by omega
      rw [hat]
      go_wp2
      (try simp only [Exit.inBlock, Exit.then])
      refine bodyPost_ret (results_tmp4 rfl _ _ _) rfl ?_
      exact ⟨rfl, Below.refl _ _⟩
end
end Go.Proofs.YtdbeomibajcecaaDoor
