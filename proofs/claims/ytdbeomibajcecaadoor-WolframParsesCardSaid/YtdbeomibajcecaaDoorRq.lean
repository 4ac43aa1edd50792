/- The further walk of the reference's Parse, where a T comes first. -/
import Derived.Test.YtdbeomibajcecaaDoorRp
namespace Go.Proofs.YtdbeomibajcecaaDoor
open Go.RowKit

section
variable (s : ByteArray) (f : Nat → Nat) (La : Nat → Int) (w : World)
set_option maxRecDepth 100000 in
set_option maxHeartbeats 1000000 in
theorem rp1_na (B : ∀ j (h : j < s.size), (s[j]'h).toNat = f j) (hl : s.size ≤ 1000) (h0 : 0 < s.size) (hL0 : La 0 = -1) (hL1 : ∀ j, j < s.size → f j = 47 → La (j + 1) = (j : Int)) (hL2 : ∀ j, j < s.size → f j ≠ 47 → La (j + 1) = La j)
    (hg : f 0 ≠ 87)
    (m : Nat) (hat : La s.size = (m : Int)) (hm1 : 1 ≤ m) (hm2 : m < s.size) (h84 : f 0 = 84) (C1 : ∀ w : World, Calls Tryd.prog 14 #[.string (s.extract 1 m)] w fun e w' => e = .returned (.bool false) ∧ w = w') :
    Calls Tryd.prog 6 #[.string s] w fun e w' => e = .returned (.tuple #[.int .i64 0, .int .i64 0, .bool false, .int .i64 15]) ∧ Below w.heap.size w w' := by
  have BH := Lib.hid B
  have L0 := Lib.hid hL0
  have L1 := Lib.hid hL1
  have L2 := Lib.hid hL2
  have q0 := B 0
  have hz1 : (1 : Int) ≤ (s.size : Int) := by omega
  clear B hL0 hL1 hL2
  have q1 : (((f 0 : Nat) : Int) == 87) = false := by rw [beq_eq_false_iff_ne]; omega
  have q2 : (((f 0 : Nat) : Int) != 84) = false := by rw [h84]; rfl
  have H1 := Lib.hid C1
  clear C1
  clear hg
  go_enter Tryd.func6, Tryd.ntmps6
  go_wp2
  go_loop [8, 9] (fun av iv => ∃ j : Nat, j ≤ s.size ∧ av = .int .i64 (La j) ∧ iv = .int .i64 (j : Int)) (fun _ iv => s.size - (intOf iv).toNat)
  case atStart => exact ⟨0, Nat.zero_le _, by rw [L0.out], rfl⟩
  case round =>
    obtain ⟨j, hj, rfl, rfl⟩ := hrel
    by_cases hjs : j < s.size
    · have hb := BH.out j
      by_cases h47 : f j = 47
      · have hL := Lib.hid (L1.out j hjs h47)
        have hq : (((f j : Nat) : Int) == 47) = true := by rw [h47]; rfl
        clear h47
        go_wp2
        go_round
        case rel => exact ⟨j + 1, by omega, by rw [hL.out], by go_num⟩
        case measure => simp [intOf]; omega
      · have hL := Lib.hid (L2.out j hjs h47)
        have hq : (((f j : Nat) : Int) == 47) = false := by rw [beq_eq_false_iff_ne]; omega
        clear h47
        go_wp2
        go_round
        case rel => exact ⟨j + 1, by omega, by rw [hL.out], by go_num⟩
        case measure => simp [intOf]; omega
    · obtain rfl : j = s.size := by omega
      have hm3 : (1 : Int) ≤ (m : Int) := by omega
      have hm4 : (m : Int) ≤ (s.size : Int) := by omega
      have hm5 : (m : Int) + 1 ≤ (s.size : Int) := by omega
      rw [hat]
      go_wp2_with (first | (go_at_call 14; (with_reducible refine (H1.out _).mono ?_); rintro e w' ⟨rfl, rfl⟩))
      (try simp only [Exit.inBlock, Exit.then])
      refine bodyPost_ret (results_tmp4 rfl _ _ _) rfl ?_
      exact ⟨rfl, Below.refl _ _⟩
set_option maxRecDepth 100000 in
set_option maxHeartbeats 1000000 in
theorem rp1_nb (B : ∀ j (h : j < s.size), (s[j]'h).toNat = f j) (hl : s.size ≤ 1000) (h0 : 0 < s.size) (hL0 : La 0 = -1) (hL1 : ∀ j, j < s.size → f j = 47 → La (j + 1) = (j : Int)) (hL2 : ∀ j, j < s.size → f j ≠ 47 → La (j + 1) = La j)
    (hg : f 0 ≠ 87)
    (m : Nat) (hat : La s.size = (m : Int)) (hm1 : 1 ≤ m) (hm2 : m < s.size) (h84 : f 0 = 84) (C1 : ∀ w : World, Calls Tryd.prog 14 #[.string (s.extract 1 m)] w fun e w' => e = .returned (.bool true) ∧ w = w') (C2 : ∀ w : World, Calls Tryd.prog 14 #[.string (s.extract (m + 1) s.size)] w fun e w' => e = .returned (.bool false) ∧ w = w') :
    Calls Tryd.prog 6 #[.string s] w fun e w' => e = .returned (.tuple #[.int .i64 0, .int .i64 0, .bool false, .int .i64 15]) ∧ Below w.heap.size w w' := by
  have BH := Lib.hid B
  have L0 := Lib.hid hL0
  have L1 := Lib.hid hL1
  have L2 := Lib.hid hL2
  have q0 := B 0
  have hz1 : (1 : Int) ≤ (s.size : Int) := by omega
  clear B hL0 hL1 hL2
  have q1 : (((f 0 : Nat) : Int) == 87) = false := by rw [beq_eq_false_iff_ne]; omega
  have q2 : (((f 0 : Nat) : Int) != 84) = false := by rw [h84]; rfl
  have H1 := Lib.hid C1
  clear C1
  have H2 := Lib.hid C2
  clear C2
  clear hg
  go_enter Tryd.func6, Tryd.ntmps6
  go_wp2
  go_loop [8, 9] (fun av iv => ∃ j : Nat, j ≤ s.size ∧ av = .int .i64 (La j) ∧ iv = .int .i64 (j : Int)) (fun _ iv => s.size - (intOf iv).toNat)
  case atStart => exact ⟨0, Nat.zero_le _, by rw [L0.out], rfl⟩
  case round =>
    obtain ⟨j, hj, rfl, rfl⟩ := hrel
    by_cases hjs : j < s.size
    · have hb := BH.out j
      by_cases h47 : f j = 47
      · have hL := Lib.hid (L1.out j hjs h47)
        have hq : (((f j : Nat) : Int) == 47) = true := by rw [h47]; rfl
        clear h47
        go_wp2
        go_round
        case rel => exact ⟨j + 1, by omega, by rw [hL.out], by go_num⟩
        case measure => simp [intOf]; omega
      · have hL := Lib.hid (L2.out j hjs h47)
        have hq : (((f j : Nat) : Int) == 47) = false := by rw [beq_eq_false_iff_ne]; omega
        clear h47
        go_wp2
        go_round
        case rel => exact ⟨j + 1, by omega, by rw [hL.out], by go_num⟩
        case measure => simp [intOf]; omega
    · obtain rfl : j = s.size := by omega
      have hm3 : (1 : Int) ≤ (m : Int) := by omega
      have hm4 : (m : Int) ≤ (s.size : Int) := by omega
      have hm5 : (m : Int) + 1 ≤ (s.size : Int) := by omega
      rw [hat]
      go_wp2_with (first | (go_at_call 14; (with_reducible refine (H2.out _).mono ?_); rintro e w' ⟨rfl, rfl⟩) | (go_at_call 14; (with_reducible refine (H1.out _).mono ?_); rintro e w' ⟨rfl, rfl⟩))
      (try simp only [Exit.inBlock, Exit.then])
      refine bodyPost_ret (results_tmp4 rfl _ _ _) rfl ?_
      exact ⟨rfl, Below.refl _ _⟩
set_option maxRecDepth 100000 in
set_option maxHeartbeats 1000000 in
theorem rp1_va (B : ∀ j (h : j < s.size), (s[j]'h).toNat = f j) (hl : s.size ≤ 1000) (h0 : 0 < s.size) (hL0 : La 0 = -1) (hL1 : ∀ j, j < s.size → f j = 47 → La (j + 1) = (j : Int)) (hL2 : ∀ j, j < s.size → f j ≠ 47 → La (j + 1) = La j)
    (hg : f 0 ≠ 87)
    (m : Nat) (hat : La s.size = (m : Int)) (hm1 : 1 ≤ m) (hm2 : m < s.size) (h84 : f 0 = 84) (x y : Int) (q : Bool) (C1 : ∀ w : World, Calls Tryd.prog 14 #[.string (s.extract 1 m)] w fun e w' => e = .returned (.bool true) ∧ w = w') (C2 : ∀ w : World, Calls Tryd.prog 14 #[.string (s.extract (m + 1) s.size)] w fun e w' => e = .returned (.bool true) ∧ w = w') (V1 : ∀ w : World, Calls Tryd.prog 15 #[.string (s.extract 1 m)] w fun e w' => e = .returned (.tuple #[.int .i64 x, .bool false]) ∧ w = w') (V2 : ∀ w : World, Calls Tryd.prog 15 #[.string (s.extract (m + 1) s.size)] w fun e w' => e = .returned (.tuple #[.int .i64 y, .bool q]) ∧ w = w') :
    Calls Tryd.prog 6 #[.string s] w fun e w' => e = .returned (.tuple #[.int .i64 0, .int .i64 0, .bool false, .int .i64 5]) ∧ Below w.heap.size w w' := by
  have BH := Lib.hid B
  have L0 := Lib.hid hL0
  have L1 := Lib.hid hL1
  have L2 := Lib.hid hL2
  have q0 := B 0
  have hz1 : (1 : Int) ≤ (s.size : Int) := by omega
  clear B hL0 hL1 hL2
  have q1 : (((f 0 : Nat) : Int) == 87) = false := by rw [beq_eq_false_iff_ne]; omega
  have q2 : (((f 0 : Nat) : Int) != 84) = false := by rw [h84]; rfl
  have H1 := Lib.hid C1
  clear C1
  have H2 := Lib.hid C2
  clear C2
  have K1 := Lib.hid V1
  have K2 := Lib.hid V2
  clear V1 V2
  clear hg
  go_enter Tryd.func6, Tryd.ntmps6
  go_wp2
  go_loop [8, 9] (fun av iv => ∃ j : Nat, j ≤ s.size ∧ av = .int .i64 (La j) ∧ iv = .int .i64 (j : Int)) (fun _ iv => s.size - (intOf iv).toNat)
  case atStart => exact ⟨0, Nat.zero_le _, by rw [L0.out], rfl⟩
  case round =>
    obtain ⟨j, hj, rfl, rfl⟩ := hrel
    by_cases hjs : j < s.size
    · have hb := BH.out j
      by_cases h47 : f j = 47
      · have hL := Lib.hid (L1.out j hjs h47)
        have hq : (((f j : Nat) : Int) == 47) = true := by rw [h47]; rfl
        clear h47
        go_wp2
        go_round
        case rel => exact ⟨j + 1, by omega, by rw [hL.out], by go_num⟩
        case measure => simp [intOf]; omega
      · have hL := Lib.hid (L2.out j hjs h47)
        have hq : (((f j : Nat) : Int) == 47) = false := by rw [beq_eq_false_iff_ne]; omega
        clear h47
        go_wp2
        go_round
        case rel => exact ⟨j + 1, by omega, by rw [hL.out], by go_num⟩
        case measure => simp [intOf]; omega
    · obtain rfl : j = s.size := by omega
      have hm3 : (1 : Int) ≤ (m : Int) := by omega
      have hm4 : (m : Int) ≤ (s.size : Int) := by omega
      have hm5 : (m : Int) + 1 ≤ (s.size : Int) := by omega
      rw [hat]
      go_wp2_with (first | (go_at_call 15; (with_reducible refine (K2.out _).mono ?_); rintro e w' ⟨rfl, rfl⟩) | (go_at_call 15; (with_reducible refine (K1.out _).mono ?_); rintro e w' ⟨rfl, rfl⟩) | (go_at_call 14; (with_reducible refine (H2.out _).mono ?_); rintro e w' ⟨rfl, rfl⟩) | (go_at_call 14; (with_reducible refine (H1.out _).mono ?_); rintro e w' ⟨rfl, rfl⟩))
      (try simp only [Exit.inBlock, Exit.then])
      refine bodyPost_ret (results_tmp4 rfl _ _ _) rfl ?_
      exact ⟨rfl, Below.refl _ _⟩
set_option maxRecDepth 100000 in
set_option maxHeartbeats 1000000 in
theorem rp1_vb (B : ∀ j (h : j < s.size), (s[j]'h).toNat = f j) (hl : s.size ≤ 1000) (h0 : 0 < s.size) (hL0 : La 0 = -1) (hL1 : ∀ j, j < s.size → f j = 47 → La (j + 1) = (j : Int)) (hL2 : ∀ j, j < s.size → f j ≠ 47 → La (j + 1) = La j)
    (hg : f 0 ≠ 87)
    (m : Nat) (hat : La s.size = (m : Int)) (hm1 : 1 ≤ m) (hm2 : m < s.size) (h84 : f 0 = 84) (x y : Int) (C1 : ∀ w : World, Calls Tryd.prog 14 #[.string (s.extract 1 m)] w fun e w' => e = .returned (.bool true) ∧ w = w') (C2 : ∀ w : World, Calls Tryd.prog 14 #[.string (s.extract (m + 1) s.size)] w fun e w' => e = .returned (.bool true) ∧ w = w') (V1 : ∀ w : World, Calls Tryd.prog 15 #[.string (s.extract 1 m)] w fun e w' => e = .returned (.tuple #[.int .i64 x, .bool true]) ∧ w = w') (V2 : ∀ w : World, Calls Tryd.prog 15 #[.string (s.extract (m + 1) s.size)] w fun e w' => e = .returned (.tuple #[.int .i64 y, .bool false]) ∧ w = w') :
    Calls Tryd.prog 6 #[.string s] w fun e w' => e = .returned (.tuple #[.int .i64 0, .int .i64 0, .bool false, .int .i64 5]) ∧ Below w.heap.size w w' := by
  have BH := Lib.hid B
  have L0 := Lib.hid hL0
  have L1 := Lib.hid hL1
  have L2 := Lib.hid hL2
  have q0 := B 0
  have hz1 : (1 : Int) ≤ (s.size : Int) := by omega
  clear B hL0 hL1 hL2
  have q1 : (((f 0 : Nat) : Int) == 87) = false := by rw [beq_eq_false_iff_ne]; omega
  have q2 : (((f 0 : Nat) : Int) != 84) = false := by rw [h84]; rfl
  have H1 := Lib.hid C1
  clear C1
  have H2 := Lib.hid C2
  clear C2
  have K1 := Lib.hid V1
  have K2 := Lib.hid V2
  clear V1 V2
  clear hg
  go_enter Tryd.func6, Tryd.ntmps6
  go_wp2
  go_loop [8, 9] (fun av iv => ∃ j : Nat, j ≤ s.size ∧ av = .int .i64 (La j) ∧ iv = .int .i64 (j : Int)) (fun _ iv => s.size - (intOf iv).toNat)
  case atStart => exact ⟨0, Nat.zero_le _, by rw [L0.out], rfl⟩
  case round =>
    obtain ⟨j, hj, rfl, rfl⟩ := hrel
    by_cases hjs : j < s.size
    · have hb := BH.out j
      by_cases h47 : f j = 47
      · have hL := Lib.hid (L1.out j hjs h47)
        have hq : (((f j : Nat) : Int) == 47) = true := by rw [h47]; rfl
        clear h47
        go_wp2
        go_round
        case rel => exact ⟨j + 1, by omega, by rw [hL.out], by go_num⟩
        case measure => simp [intOf]; omega
      · have hL := Lib.hid (L2.out j hjs h47)
        have hq : (((f j : Nat) : Int) == 47) = false := by rw [beq_eq_false_iff_ne]; omega
        clear h47
        go_wp2
        go_round
        case rel => exact ⟨j + 1, by omega, by rw [hL.out], by go_num⟩
        case measure => simp [intOf]; omega
    · obtain rfl : j = s.size := by omega
      have hm3 : (1 : Int) ≤ (m : Int) := by omega
      have hm4 : (m : Int) ≤ (s.size : Int) := by omega
      have hm5 : (m : Int) + 1 ≤ (s.size : Int) := by omega
      rw [hat]
      go_wp2_with (first | (go_at_call 15; (with_reducible refine (K2.out _).mono ?_); rintro e w' ⟨rfl, rfl⟩) | (go_at_call 15; (with_reducible refine (K1.out _).mono ?_); rintro e w' ⟨rfl, rfl⟩) | (go_at_call 14; (with_reducible refine (H2.out _).mono ?_); rintro e w' ⟨rfl, rfl⟩) | (go_at_call 14; (with_reducible refine (H1.out _).mono ?_); rintro e w' ⟨rfl, rfl⟩))
      (try simp only [Exit.inBlock, Exit.then])
      refine bodyPost_ret (results_tmp4 rfl _ _ _) rfl ?_
      exact ⟨rfl, Below.refl _ _⟩
set_option maxRecDepth 100000 in
set_option maxHeartbeats 1000000 in
theorem rp1_ok (B : ∀ j (h : j < s.size), (s[j]'h).toNat = f j) (hl : s.size ≤ 1000) (h0 : 0 < s.size) (hL0 : La 0 = -1) (hL1 : ∀ j, j < s.size → f j = 47 → La (j + 1) = (j : Int)) (hL2 : ∀ j, j < s.size → f j ≠ 47 → La (j + 1) = La j)
    (hg : f 0 ≠ 87)
    (m : Nat) (hat : La s.size = (m : Int)) (hm1 : 1 ≤ m) (hm2 : m < s.size) (h84 : f 0 = 84) (x y : Int) (hx : x ≤ 9223372036854775807) (hd : der y x = 0) (C1 : ∀ w : World, Calls Tryd.prog 14 #[.string (s.extract 1 m)] w fun e w' => e = .returned (.bool true) ∧ w = w') (C2 : ∀ w : World, Calls Tryd.prog 14 #[.string (s.extract (m + 1) s.size)] w fun e w' => e = .returned (.bool true) ∧ w = w') (V1 : ∀ w : World, Calls Tryd.prog 15 #[.string (s.extract 1 m)] w fun e w' => e = .returned (.tuple #[.int .i64 x, .bool true]) ∧ w = w') (V2 : ∀ w : World, Calls Tryd.prog 15 #[.string (s.extract (m + 1) s.size)] w fun e w' => e = .returned (.tuple #[.int .i64 y, .bool true]) ∧ w = w') :
    Calls Tryd.prog 6 #[.string s] w fun e w' => e = .returned (.tuple #[.int .i64 y, .int .i64 x, .bool true, .int .i64 0]) ∧ Below w.heap.size w w' := by
  have BH := Lib.hid B
  have L0 := Lib.hid hL0
  have L1 := Lib.hid hL1
  have L2 := Lib.hid hL2
  have q0 := B 0
  have hz1 : (1 : Int) ≤ (s.size : Int) := by omega
  clear B hL0 hL1 hL2
  have q1 : (((f 0 : Nat) : Int) == 87) = false := by rw [beq_eq_false_iff_ne]; omega
  have q2 : (((f 0 : Nat) : Int) != 84) = false := by rw [h84]; rfl
  have H1 := Lib.hid C1
  clear C1
  have H2 := Lib.hid C2
  clear C2
  have K1 := Lib.hid V1
  have K2 := Lib.hid V2
  clear V1 V2
  have DG := Lib.hid (fun w => rdigits_any y x w hx)
  rw [hd] at DG
  clear hd
  clear hg
  go_enter Tryd.func6, Tryd.ntmps6
  go_wp2
  go_loop [8, 9] (fun av iv => ∃ j : Nat, j ≤ s.size ∧ av = .int .i64 (La j) ∧ iv = .int .i64 (j : Int)) (fun _ iv => s.size - (intOf iv).toNat)
  case atStart => exact ⟨0, Nat.zero_le _, by rw [L0.out], rfl⟩
  case round =>
    obtain ⟨j, hj, rfl, rfl⟩ := hrel
    by_cases hjs : j < s.size
    · have hb := BH.out j
      by_cases h47 : f j = 47
      · have hL := Lib.hid (L1.out j hjs h47)
        have hq : (((f j : Nat) : Int) == 47) = true := by rw [h47]; rfl
        clear h47
        go_wp2
        go_round
        case rel => exact ⟨j + 1, by omega, by rw [hL.out], by go_num⟩
        case measure => simp [intOf]; omega
      · have hL := Lib.hid (L2.out j hjs h47)
        have hq : (((f j : Nat) : Int) == 47) = false := by rw [beq_eq_false_iff_ne]; omega
        clear h47
        go_wp2
        go_round
        case rel => exact ⟨j + 1, by omega, by rw [hL.out], by go_num⟩
        case measure => simp [intOf]; omega
    · obtain rfl : j = s.size := by omega
      have hm3 : (1 : Int) ≤ (m : Int) := by omega
      have hm4 : (m : Int) ≤ (s.size : Int) := by omega
      have hm5 : (m : Int) + 1 ≤ (s.size : Int) := by omega
      rw [hat]
      go_wp2_with (first | (go_at_call 16; (with_reducible refine (DG.out _).mono ?_); rintro e w' ⟨A, k, cc, rfl, hb⟩; have B4 := Lib.hid hb; clear hb) | (go_at_call 15; (with_reducible refine (K2.out _).mono ?_); rintro e w' ⟨rfl, rfl⟩) | (go_at_call 15; (with_reducible refine (K1.out _).mono ?_); rintro e w' ⟨rfl, rfl⟩) | (go_at_call 14; (with_reducible refine (H2.out _).mono ?_); rintro e w' ⟨rfl, rfl⟩) | (go_at_call 14; (with_reducible refine (H1.out _).mono ?_); rintro e w' ⟨rfl, rfl⟩))
      (try simp only [Exit.inBlock, Exit.then])
      refine bodyPost_ret (results_tmp4 rfl _ _ _) rfl ?_
      exact ⟨rfl, B4.out⟩
set_option maxRecDepth 100000 in
set_option maxHeartbeats 1000000 in
theorem rp1_no (B : ∀ j (h : j < s.size), (s[j]'h).toNat = f j) (hl : s.size ≤ 1000) (h0 : 0 < s.size) (hL0 : La 0 = -1) (hL1 : ∀ j, j < s.size → f j = 47 → La (j + 1) = (j : Int)) (hL2 : ∀ j, j < s.size → f j ≠ 47 → La (j + 1) = La j)
    (hg : f 0 ≠ 87)
    (m : Nat) (hat : La s.size = (m : Int)) (hm1 : 1 ≤ m) (hm2 : m < s.size) (h84 : f 0 = 84) (x y : Int) (hx : x ≤ 9223372036854775807) (hd : der y x ≠ 0) (C1 : ∀ w : World, Calls Tryd.prog 14 #[.string (s.extract 1 m)] w fun e w' => e = .returned (.bool true) ∧ w = w') (C2 : ∀ w : World, Calls Tryd.prog 14 #[.string (s.extract (m + 1) s.size)] w fun e w' => e = .returned (.bool true) ∧ w = w') (V1 : ∀ w : World, Calls Tryd.prog 15 #[.string (s.extract 1 m)] w fun e w' => e = .returned (.tuple #[.int .i64 x, .bool true]) ∧ w = w') (V2 : ∀ w : World, Calls Tryd.prog 15 #[.string (s.extract (m + 1) s.size)] w fun e w' => e = .returned (.tuple #[.int .i64 y, .bool true]) ∧ w = w') :
    Calls Tryd.prog 6 #[.string s] w fun e w' => e = .returned (.tuple #[.int .i64 0, .int .i64 0, .bool false, .int .i64 5]) ∧ Below w.heap.size w w' := by
  have BH := Lib.hid B
  have L0 := Lib.hid hL0
  have L1 := Lib.hid hL1
  have L2 := Lib.hid hL2
  have q0 := B 0
  have hz1 : (1 : Int) ≤ (s.size : Int) := by omega
  clear B hL0 hL1 hL2
  have q1 : (((f 0 : Nat) : Int) == 87) = false := by rw [beq_eq_false_iff_ne]; omega
  have q2 : (((f 0 : Nat) : Int) != 84) = false := by rw [h84]; rfl
  have H1 := Lib.hid C1
  clear C1
  have H2 := Lib.hid C2
  clear C2
  have K1 := Lib.hid V1
  have K2 := Lib.hid V2
  clear V1 V2
  have DG := Lib.hid (fun w => rdigits_any y x w hx)
  have hd2 : (der y x != 0) = true := by rw [bne_iff_ne]; exact hd
  generalize der y x = d at DG hd2
  clear hd
  clear hg
  go_enter Tryd.func6, Tryd.ntmps6
  go_wp2
  go_loop [8, 9] (fun av iv => ∃ j : Nat, j ≤ s.size ∧ av = .int .i64 (La j) ∧ iv = .int .i64 (j : Int)) (fun _ iv => s.size - (intOf iv).toNat)
  case atStart => exact ⟨0, Nat.zero_le _, by rw [L0.out], rfl⟩
  case round =>
    obtain ⟨j, hj, rfl, rfl⟩ := hrel
    by_cases hjs : j < s.size
    · have hb := BH.out j
      by_cases h47 : f j = 47
      · have hL := Lib.hid (L1.out j hjs h47)
        have hq : (((f j : Nat) : Int) == 47) = true := by rw [h47]; rfl
        clear h47
        go_wp2
        go_round
        case rel => exact ⟨j + 1, by omega, by rw [hL.out], by go_num⟩
        case measure => simp [intOf]; omega
      · have hL := Lib.hid (L2.out j hjs h47)
        have hq : (((f j : Nat) : Int) == 47) = false := by rw [beq_eq_false_iff_ne]; omega
        clear h47
        go_wp2
        go_round
        case rel => exact ⟨j + 1, by omega, by rw [hL.out], by go_num⟩
        case measure => simp [intOf]; omega
    · obtain rfl : j = s.size := by omega
      have hm3 : (1 : Int) ≤ (m : Int) := by omega
      have hm4 : (m : Int) ≤ (s.size : Int) := by omega
      have hm5 : (m : Int) + 1 ≤ (s.size : Int) := by omega
      rw [hat]
      go_wp2_with (first | (go_at_call 16; (with_reducible refine (DG.out _).mono ?_); rintro e w' ⟨A, k, cc, rfl, hb⟩; have B4 := Lib.hid hb; clear hb) | (go_at_call 15; (with_reducible refine (K2.out _).mono ?_); rintro e w' ⟨rfl, rfl⟩) | (go_at_call 15; (with_reducible refine (K1.out _).mono ?_); rintro e w' ⟨rfl, rfl⟩) | (go_at_call 14; (with_reducible refine (H2.out _).mono ?_); rintro e w' ⟨rfl, rfl⟩) | (go_at_call 14; (with_reducible refine (H1.out _).mono ?_); rintro e w' ⟨rfl, rfl⟩))
      (try simp only [Exit.inBlock, Exit.then])
      refine bodyPost_ret (results_tmp4 rfl _ _ _) rfl ?_
      exact ⟨rfl, B4.out⟩
set_option maxRecDepth 100000 in
theorem rpw_ok (B : ∀ j (h : j < s.size), (s[j]'h).toNat = f j) (hl : s.size ≤ 1000) (h0 : 0 < s.size) (hg : f 0 = 87) (x : Int) (hx : x ≤ 255)
    (NG : ∀ w : World, Calls Tryd.prog 14 #[.string (s.extract 1 s.size)] w fun e w' => e = .returned (.bool true) ∧ w = w')
    (V1 : ∀ w : World, Calls Tryd.prog 15 #[.string (s.extract 1 s.size)] w fun e w' => e = .returned (.tuple #[.int .i64 x, .bool true]) ∧ w = w') :
    Calls Tryd.prog 6 #[.string s] w fun e w' => e = .returned (.tuple #[.int .i64 2, .int .i64 x, .bool false, .int .i64 0]) ∧ Below w.heap.size w w' := by
  have q0 := B 0
  have hz1 : (1 : Int) ≤ (s.size : Int) := by omega
  have q1 : (((f 0 : Nat) : Int) == 87) = true := by rw [hg]; rfl
  have NH := Lib.hid NG
  have K1 := Lib.hid V1
  clear B NG V1 hg
  go_enter Tryd.func6, Tryd.ntmps6
  go_wp2_with (first | (go_at_call 14; (with_reducible refine (NH.out _).mono ?_); rintro e w' ⟨rfl, rfl⟩) | (go_at_call 15; (with_reducible refine (K1.out _).mono ?_); rintro e w' ⟨rfl, rfl⟩))
  (try simp only [Exit.inBlock, Exit.then])
  refine bodyPost_ret (results_tmp4 rfl _ _ _) rfl ?_
  exact ⟨rfl, Below.refl _ _⟩
set_option maxRecDepth 100000 in
theorem rpw_big (B : ∀ j (h : j < s.size), (s[j]'h).toNat = f j) (hl : s.size ≤ 1000) (h0 : 0 < s.size) (hg : f 0 = 87) (x : Int) (hx : ¬ x ≤ 255)
    (NG : ∀ w : World, Calls Tryd.prog 14 #[.string (s.extract 1 s.size)] w fun e w' => e = .returned (.bool true) ∧ w = w')
    (V1 : ∀ w : World, Calls Tryd.prog 15 #[.string (s.extract 1 s.size)] w fun e w' => e = .returned (.tuple #[.int .i64 x, .bool true]) ∧ w = w') :
    Calls Tryd.prog 6 #[.string s] w fun e w' => e = .returned (.tuple #[.int .i64 0, .int .i64 0, .bool false, .int .i64 5]) ∧ Below w.heap.size w w' := by
  have q0 := B 0
  have hz1 : (1 : Int) ≤ (s.size : Int) := by omega
  have q1 : (((f 0 : Nat) : Int) == 87) = true := by rw [hg]; rfl
  have NH := Lib.hid NG
  have K1 := Lib.hid V1
  clear B NG V1 hg
  go_enter Tryd.func6, Tryd.ntmps6
  go_wp2_with (first | (go_at_call 14; (with_reducible refine (NH.out _).mono ?_); rintro e w' ⟨rfl, rfl⟩) | (go_at_call 15; (with_reducible refine (K1.out _).mono ?_); rintro e w' ⟨rfl, rfl⟩))
  (try simp only [Exit.inBlock, Exit.then])
  refine bodyPost_ret (results_tmp4 rfl _ _ _) rfl ?_
  exact ⟨rfl, Below.refl _ _⟩
set_option maxRecDepth 100000 in
theorem rpw_none (B : ∀ j (h : j < s.size), (s[j]'h).toNat = f j) (hl : s.size ≤ 1000) (h0 : 0 < s.size) (hg : f 0 = 87) (x : Int) 
    (NG : ∀ w : World, Calls Tryd.prog 14 #[.string (s.extract 1 s.size)] w fun e w' => e = .returned (.bool true) ∧ w = w')
    (V1 : ∀ w : World, Calls Tryd.prog 15 #[.string (s.extract 1 s.size)] w fun e w' => e = .returned (.tuple #[.int .i64 x, .bool false]) ∧ w = w') :
    Calls Tryd.prog 6 #[.string s] w fun e w' => e = .returned (.tuple #[.int .i64 0, .int .i64 0, .bool false, .int .i64 5]) ∧ Below w.heap.size w w' := by
  have q0 := B 0
  have hz1 : (1 : Int) ≤ (s.size : Int) := by omega
  have q1 : (((f 0 : Nat) : Int) == 87) = true := by rw [hg]; rfl
  have NH := Lib.hid NG
  have K1 := Lib.hid V1
  clear B NG V1 hg
  go_enter Tryd.func6, Tryd.ntmps6
  go_wp2_with (first | (go_at_call 14; (with_reducible refine (NH.out _).mono ?_); rintro e w' ⟨rfl, rfl⟩) | (go_at_call 15; (with_reducible refine (K1.out _).mono ?_); rintro e w' ⟨rfl, rfl⟩))
  (try simp only [Exit.inBlock, Exit.then])
  refine bodyPost_ret (results_tmp4 rfl _ _ _) rfl ?_
  exact ⟨rfl, Below.refl _ _⟩
end
set_option maxRecDepth 100000 in
theorem rp_empty (w : World) : Calls Tryd.prog 6 #[.string (tx [])] w fun e w' => e = .returned (.tuple #[.int .i64 0, .int .i64 0, .bool false, .int .i64 15]) ∧ Below w.heap.size w w' := by
  unfold tx
  go_enter Tryd.func6, Tryd.ntmps6
  go_wp2
  refine wp_loop_rounds 1 ?_
  rw [rounds_succ]
  go_wp2
  (try simp only [Exit.inBlock, Exit.then])
  refine bodyPost_ret (results_tmp4 rfl _ _ _) rfl ?_
  exact ⟨rfl, Below.refl _ _⟩
end Go.Proofs.YtdbeomibajcecaaDoor
