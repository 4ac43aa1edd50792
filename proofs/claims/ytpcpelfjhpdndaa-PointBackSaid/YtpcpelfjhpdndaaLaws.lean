/- The walks of the law at a valid box, case by case. -/
import Derived.Test.YtpcpelfjhpdndaaLaw
namespace Go.Proofs.Ytpcpelfjhpdndaa
open Go.RowKit

set_option maxRecDepth 100000 in
set_option maxHeartbeats 2000000 in
theorem law_small_low (HA : AwakeSays) (x y k : Int) (n m N : Nat) (w : World) (h : Ok x y n m) (hN : n * m = N) (h5 : N ≤ 5000) (hk : k < -4194304) :
    Calls Try.prog 3 #[.agg #[.int .i64 x, .int .i64 y, .int .i64 (n : Int), .int .i64 (m : Int)], .int .i64 k] w fun e w' => e = .returned (.bool true) ∧ Below w.heap.size w w' := by
  have R1 := Lib.hid (fun w => rright_yes x y n m w h)
  have HA := Lib.hid (show ∀ w, Calls Try.prog 5 #[] w (fun e w' => e = .returned (.bool true) ∧ Below w.heap.size w w') from HA)
  have B0 := Lib.hid ((Below.refl w.heap.size w).alloc (Nat.le_refl _) (.cells #[.int .i64 x, .int .i64 y, .int .i64 (n : Int), .int .i64 (m : Int)] 23))
  have K := Lib.hid (Blk.new w 23 #[.int .i64 x, .int .i64 y, .int .i64 (n : Int), .int .i64 (m : Int)])
  have P := Lib.hid (fun w => points_any x y n m N w h hN h5)
  have AR := Lib.hid (fun g w => around_box g x y n m N w h hN h5)
  obtain ⟨⟨a1, a2, a3, a4⟩, b1, b2, b3, b4⟩ := h
  have hNb : N ≤ 4398050705409 := by rw [← hN]; exact Nat.mul_le_mul (show n ≤ 2097153 by omega) (show m ≤ 2097153 by omega)
  have hmN : (n : Int) * (m : Int) = (N : Int) := by rw [← hN]; simp
  have hwN : IntKind.i64.wrap (N : Int) = (N : Int) := IntWalk.i64_in _ (by omega)
  clear hN
  go_enter Try.func3, Try.ntmps3
  go_wp2_with (first
    | (go_at_call 4; (with_reducible refine (R1.out _).mono ?_); rintro e w1 ⟨rfl, hb⟩; have B1 := Lib.hid (B0.out.trans (hb.mono B0.out.size)); have k1 := K.out.below hb K.out.lt; have K1 := Lib.hid k1; obtain ⟨c10, c11, c12, c13, c14⟩ := k1.four; clear hb k1)
    | (go_at_call 6; (with_reducible refine (P.out _).mono ?_); rintro e w2 ⟨g, rfl, hp, hb⟩; have B2 := Lib.hid (B1.out.trans (hb.mono B1.out.size)); have k2 := K1.out.below hb K1.out.lt; have K2 := Lib.hid k2; have HP := Lib.hid hp; obtain ⟨c20, c21, c22, c23, c24⟩ := k2.four; clear hb k2 hp)
    | (go_at_call 7; (with_reducible refine (AR.out g w2 HP.out).mono ?_); rintro e w3 ⟨rfl, hb⟩; have B3 := Lib.hid ((B2.out.trans (hb.mono B2.out.size)).alloc (Nat.le_trans B2.out.size hb.size) (.cells #[.int .i64 x, .int .i64 y, .int .i64 (n : Int), .int .i64 (m : Int)] 23)); have k3 := K2.out.below hb K2.out.lt; have K3 := Lib.hid (k3.alloc (.cells #[.int .i64 x, .int .i64 y, .int .i64 (n : Int), .int .i64 (m : Int)] 23)); obtain ⟨c30, c31, c32, c33, c34⟩ := k3.four; clear hb k3)
    | (go_at_call 5; (with_reducible refine (HA.out _).mono ?_); rintro e w9 ⟨rfl, hb⟩; have B9 := Lib.hid (B3.out.trans (hb.mono B3.out.size)); clear hb))
  go_ret
  exact ⟨rfl, B9.out⟩

set_option maxRecDepth 100000 in
set_option maxHeartbeats 2000000 in
theorem law_small_high (HA : AwakeSays) (x y k : Int) (n m N : Nat) (w : World) (h : Ok x y n m) (hN : n * m = N) (h5 : N ≤ 5000) (hk : 4194304 < k) :
    Calls Try.prog 3 #[.agg #[.int .i64 x, .int .i64 y, .int .i64 (n : Int), .int .i64 (m : Int)], .int .i64 k] w fun e w' => e = .returned (.bool true) ∧ Below w.heap.size w w' := by
  have R1 := Lib.hid (fun w => rright_yes x y n m w h)
  have HA := Lib.hid (show ∀ w, Calls Try.prog 5 #[] w (fun e w' => e = .returned (.bool true) ∧ Below w.heap.size w w') from HA)
  have B0 := Lib.hid ((Below.refl w.heap.size w).alloc (Nat.le_refl _) (.cells #[.int .i64 x, .int .i64 y, .int .i64 (n : Int), .int .i64 (m : Int)] 23))
  have K := Lib.hid (Blk.new w 23 #[.int .i64 x, .int .i64 y, .int .i64 (n : Int), .int .i64 (m : Int)])
  have P := Lib.hid (fun w => points_any x y n m N w h hN h5)
  have AR := Lib.hid (fun g w => around_box g x y n m N w h hN h5)
  obtain ⟨⟨a1, a2, a3, a4⟩, b1, b2, b3, b4⟩ := h
  have hNb : N ≤ 4398050705409 := by rw [← hN]; exact Nat.mul_le_mul (show n ≤ 2097153 by omega) (show m ≤ 2097153 by omega)
  have hmN : (n : Int) * (m : Int) = (N : Int) := by rw [← hN]; simp
  have hwN : IntKind.i64.wrap (N : Int) = (N : Int) := IntWalk.i64_in _ (by omega)
  clear hN
  go_enter Try.func3, Try.ntmps3
  go_wp2_with (first
    | (go_at_call 4; (with_reducible refine (R1.out _).mono ?_); rintro e w1 ⟨rfl, hb⟩; have B1 := Lib.hid (B0.out.trans (hb.mono B0.out.size)); have k1 := K.out.below hb K.out.lt; have K1 := Lib.hid k1; obtain ⟨c10, c11, c12, c13, c14⟩ := k1.four; clear hb k1)
    | (go_at_call 6; (with_reducible refine (P.out _).mono ?_); rintro e w2 ⟨g, rfl, hp, hb⟩; have B2 := Lib.hid (B1.out.trans (hb.mono B1.out.size)); have k2 := K1.out.below hb K1.out.lt; have K2 := Lib.hid k2; have HP := Lib.hid hp; obtain ⟨c20, c21, c22, c23, c24⟩ := k2.four; clear hb k2 hp)
    | (go_at_call 7; (with_reducible refine (AR.out g w2 HP.out).mono ?_); rintro e w3 ⟨rfl, hb⟩; have B3 := Lib.hid ((B2.out.trans (hb.mono B2.out.size)).alloc (Nat.le_trans B2.out.size hb.size) (.cells #[.int .i64 x, .int .i64 y, .int .i64 (n : Int), .int .i64 (m : Int)] 23)); have k3 := K2.out.below hb K2.out.lt; have K3 := Lib.hid (k3.alloc (.cells #[.int .i64 x, .int .i64 y, .int .i64 (n : Int), .int .i64 (m : Int)] 23)); obtain ⟨c30, c31, c32, c33, c34⟩ := k3.four; clear hb k3)
    | (go_at_call 5; (with_reducible refine (HA.out _).mono ?_); rintro e w9 ⟨rfl, hb⟩; have B9 := Lib.hid (B3.out.trans (hb.mono B3.out.size)); clear hb))
  go_ret
  exact ⟨rfl, B9.out⟩

set_option maxRecDepth 100000 in
set_option maxHeartbeats 2000000 in
theorem law_small_no (HA : AwakeSays) (x y k : Int) (n m N : Nat) (w : World) (h : Ok x y n m) (hN : n * m = N) (h5 : N ≤ 5000) (h1 : -4194304 ≤ k) (h2 : k ≤ 4194304) (hg : ¬ (-1048576 ≤ k ∧ k ≤ 1048576 ∧ Ok (x - k) (y - k) (n + 2 * k) (m + 2 * k))) :
    Calls Try.prog 3 #[.agg #[.int .i64 x, .int .i64 y, .int .i64 (n : Int), .int .i64 (m : Int)], .int .i64 k] w fun e w' => e = .returned (.bool true) ∧ Below w.heap.size w w' := by
  have R1 := Lib.hid (fun w => rright_yes x y n m w h)
  have HA := Lib.hid (show ∀ w, Calls Try.prog 5 #[] w (fun e w' => e = .returned (.bool true) ∧ Below w.heap.size w w') from HA)
  have B0 := Lib.hid ((Below.refl w.heap.size w).alloc (Nat.le_refl _) (.cells #[.int .i64 x, .int .i64 y, .int .i64 (n : Int), .int .i64 (m : Int)] 23))
  have K := Lib.hid (Blk.new w 23 #[.int .i64 x, .int .i64 y, .int .i64 (n : Int), .int .i64 (m : Int)])
  have P := Lib.hid (fun w => points_any x y n m N w h hN h5)
  have AR := Lib.hid (fun g w => around_box g x y n m N w h hN h5)
  have G := Lib.hid (fun w => grow_no x y n m k w h hg)
  clear hg
  obtain ⟨⟨a1, a2, a3, a4⟩, b1, b2, b3, b4⟩ := h
  have hNb : N ≤ 4398050705409 := by rw [← hN]; exact Nat.mul_le_mul (show n ≤ 2097153 by omega) (show m ≤ 2097153 by omega)
  have hmN : (n : Int) * (m : Int) = (N : Int) := by rw [← hN]; simp
  have hwN : IntKind.i64.wrap (N : Int) = (N : Int) := IntWalk.i64_in _ (by omega)
  clear hN
  go_enter Try.func3, Try.ntmps3
  go_wp2_with (first
    | (go_at_call 4; (with_reducible refine (R1.out _).mono ?_); rintro e w1 ⟨rfl, hb⟩; have B1 := Lib.hid (B0.out.trans (hb.mono B0.out.size)); have k1 := K.out.below hb K.out.lt; have K1 := Lib.hid k1; obtain ⟨c10, c11, c12, c13, c14⟩ := k1.four; clear hb k1)
    | (go_at_call 6; (with_reducible refine (P.out _).mono ?_); rintro e w2 ⟨g, rfl, hp, hb⟩; have B2 := Lib.hid (B1.out.trans (hb.mono B1.out.size)); have k2 := K1.out.below hb K1.out.lt; have K2 := Lib.hid k2; have HP := Lib.hid hp; obtain ⟨c20, c21, c22, c23, c24⟩ := k2.four; clear hb k2 hp)
    | (go_at_call 7; (with_reducible refine (AR.out g w2 HP.out).mono ?_); rintro e w3 ⟨rfl, hb⟩; have B3 := Lib.hid ((B2.out.trans (hb.mono B2.out.size)).alloc (Nat.le_trans B2.out.size hb.size) (.cells #[.int .i64 x, .int .i64 y, .int .i64 (n : Int), .int .i64 (m : Int)] 23)); have k3 := K2.out.below hb K2.out.lt; have K3 := Lib.hid (k3.alloc (.cells #[.int .i64 x, .int .i64 y, .int .i64 (n : Int), .int .i64 (m : Int)] 23)); obtain ⟨c30, c31, c32, c33, c34⟩ := k3.four; clear hb k3)
    | (go_at_call 8; (with_reducible refine (G.out _).mono ?_); rintro e w4 ⟨er, her, rfl, hb⟩; have B4 := Lib.hid ((B3.out.trans (hb.mono B3.out.size)).alloc (Nat.le_trans B3.out.size hb.size) (.cells #[.int .i64 0, .int .i64 0, .int .i64 0, .int .i64 0] 23)); clear hb)
    | (go_at_call 5; (with_reducible refine (HA.out _).mono ?_); rintro e w9 ⟨rfl, hb⟩; have B9 := Lib.hid (B4.out.trans (hb.mono B4.out.size)); clear hb))
  go_ret
  exact ⟨rfl, B9.out⟩

set_option maxRecDepth 100000 in
set_option maxHeartbeats 2000000 in
theorem law_small_yes (HA : AwakeSays) (x y k : Int) (n m N : Nat) (w : World) (h : Ok x y n m) (hN : n * m = N) (h5 : N ≤ 5000) (h1 : -1048576 ≤ k) (h2 : k ≤ 1048576) (hg : Ok (x - k) (y - k) (n + 2 * k) (m + 2 * k)) :
    Calls Try.prog 3 #[.agg #[.int .i64 x, .int .i64 y, .int .i64 (n : Int), .int .i64 (m : Int)], .int .i64 k] w fun e w' => e = .returned (.bool true) ∧ Below w.heap.size w w' := by
  have R1 := Lib.hid (fun w => rright_yes x y n m w h)
  have HA := Lib.hid (show ∀ w, Calls Try.prog 5 #[] w (fun e w' => e = .returned (.bool true) ∧ Below w.heap.size w w') from HA)
  have B0 := Lib.hid ((Below.refl w.heap.size w).alloc (Nat.le_refl _) (.cells #[.int .i64 x, .int .i64 y, .int .i64 (n : Int), .int .i64 (m : Int)] 23))
  have K := Lib.hid (Blk.new w 23 #[.int .i64 x, .int .i64 y, .int .i64 (n : Int), .int .i64 (m : Int)])
  have P := Lib.hid (fun w => points_any x y n m N w h hN h5)
  have AR := Lib.hid (fun g w => around_box g x y n m N w h hN h5)
  have G := Lib.hid (fun w => grow_yes x y n m k w h h1 h2 hg)
  have GB := Lib.hid (fun w => grow_back x y n m k w h h1 h2 hg)
  clear hg
  obtain ⟨⟨a1, a2, a3, a4⟩, b1, b2, b3, b4⟩ := h
  have hNb : N ≤ 4398050705409 := by rw [← hN]; exact Nat.mul_le_mul (show n ≤ 2097153 by omega) (show m ≤ 2097153 by omega)
  have hmN : (n : Int) * (m : Int) = (N : Int) := by rw [← hN]; simp
  have hwN : IntKind.i64.wrap (N : Int) = (N : Int) := IntWalk.i64_in _ (by omega)
  clear hN
  go_enter Try.func3, Try.ntmps3
  go_wp2_with (first
    | (go_at_call 4; (with_reducible refine (R1.out _).mono ?_); rintro e w1 ⟨rfl, hb⟩; have B1 := Lib.hid (B0.out.trans (hb.mono B0.out.size)); have k1 := K.out.below hb K.out.lt; have K1 := Lib.hid k1; obtain ⟨c10, c11, c12, c13, c14⟩ := k1.four; clear hb k1)
    | (go_at_call 6; (with_reducible refine (P.out _).mono ?_); rintro e w2 ⟨g, rfl, hp, hb⟩; have B2 := Lib.hid (B1.out.trans (hb.mono B1.out.size)); have k2 := K1.out.below hb K1.out.lt; have K2 := Lib.hid k2; have HP := Lib.hid hp; obtain ⟨c20, c21, c22, c23, c24⟩ := k2.four; clear hb k2 hp)
    | (go_at_call 7; (with_reducible refine (AR.out g w2 HP.out).mono ?_); rintro e w3 ⟨rfl, hb⟩; have B3 := Lib.hid ((B2.out.trans (hb.mono B2.out.size)).alloc (Nat.le_trans B2.out.size hb.size) (.cells #[.int .i64 x, .int .i64 y, .int .i64 (n : Int), .int .i64 (m : Int)] 23)); have k3 := K2.out.below hb K2.out.lt; have K3 := Lib.hid (k3.alloc (.cells #[.int .i64 x, .int .i64 y, .int .i64 (n : Int), .int .i64 (m : Int)] 23)); obtain ⟨c30, c31, c32, c33, c34⟩ := k3.four; clear hb k3)
    | (go_at_call 8; (with_reducible refine (G.out _).mono ?_); rintro e w4 ⟨rfl, hb⟩; have B4 := Lib.hid ((B3.out.trans (hb.mono B3.out.size)).alloc (Nat.le_trans B3.out.size hb.size) (.cells #[.int .i64 (x - k), .int .i64 (y - k), .int .i64 (n + 2 * k), .int .i64 (m + 2 * k)] 23)); have K4 := Lib.hid ((K3.out.below hb K3.out.lt).alloc (.cells #[.int .i64 (x - k), .int .i64 (y - k), .int .i64 (n + 2 * k), .int .i64 (m + 2 * k)] 23)); clear hb)
    | (go_at_call 8; (with_reducible refine (GB.out _).mono ?_); rintro e w5 ⟨rfl, hb⟩; have B5 := Lib.hid ((B4.out.trans (hb.mono B4.out.size)).alloc (Nat.le_trans B4.out.size hb.size) (.cells #[.int .i64 x, .int .i64 y, .int .i64 (n : Int), .int .i64 (m : Int)] 23)); have k5 := K4.out.below hb K4.out.lt; obtain ⟨c50, c51, c52, c53, c54⟩ := k5.four; clear hb k5)
    | (go_at_call 5; (with_reducible refine (HA.out _).mono ?_); rintro e w9 ⟨rfl, hb⟩; have B9 := Lib.hid (B5.out.trans (hb.mono B5.out.size)); clear hb))
  go_ret
  exact ⟨rfl, B9.out⟩

set_option maxRecDepth 100000 in
set_option maxHeartbeats 2000000 in
theorem law_great_low (HA : AwakeSays) (x y k : Int) (n m N : Nat) (w : World) (h : Ok x y n m) (hN : n * m = N) (h5 : 5000 < N) (hk : k < -4194304) :
    Calls Try.prog 3 #[.agg #[.int .i64 x, .int .i64 y, .int .i64 (n : Int), .int .i64 (m : Int)], .int .i64 k] w fun e w' => e = .returned (.bool true) ∧ Below w.heap.size w w' := by
  have R1 := Lib.hid (fun w => rright_yes x y n m w h)
  have HA := Lib.hid (show ∀ w, Calls Try.prog 5 #[] w (fun e w' => e = .returned (.bool true) ∧ Below w.heap.size w w') from HA)
  have B0 := Lib.hid ((Below.refl w.heap.size w).alloc (Nat.le_refl _) (.cells #[.int .i64 x, .int .i64 y, .int .i64 (n : Int), .int .i64 (m : Int)] 23))
  have K := Lib.hid (Blk.new w 23 #[.int .i64 x, .int .i64 y, .int .i64 (n : Int), .int .i64 (m : Int)])
  obtain ⟨⟨a1, a2, a3, a4⟩, b1, b2, b3, b4⟩ := h
  have hNb : N ≤ 4398050705409 := by rw [← hN]; exact Nat.mul_le_mul (show n ≤ 2097153 by omega) (show m ≤ 2097153 by omega)
  have hmN : (n : Int) * (m : Int) = (N : Int) := by rw [← hN]; simp
  have hwN : IntKind.i64.wrap (N : Int) = (N : Int) := IntWalk.i64_in _ (by omega)
  clear hN
  go_enter Try.func3, Try.ntmps3
  go_wp2_with (first
    | (go_at_call 4; (with_reducible refine (R1.out _).mono ?_); rintro e w1 ⟨rfl, hb⟩; have B1 := Lib.hid (B0.out.trans (hb.mono B0.out.size)); have k1 := K.out.below hb K.out.lt; have K1 := Lib.hid k1; obtain ⟨c10, c11, c12, c13, c14⟩ := k1.four; clear hb k1)
    | (go_at_call 5; (with_reducible refine (HA.out _).mono ?_); rintro e w9 ⟨rfl, hb⟩; have B9 := Lib.hid (B1.out.trans (hb.mono B1.out.size)); clear hb))
  go_ret
  exact ⟨rfl, B9.out⟩

set_option maxRecDepth 100000 in
set_option maxHeartbeats 2000000 in
theorem law_great_high (HA : AwakeSays) (x y k : Int) (n m N : Nat) (w : World) (h : Ok x y n m) (hN : n * m = N) (h5 : 5000 < N) (hk : 4194304 < k) :
    Calls Try.prog 3 #[.agg #[.int .i64 x, .int .i64 y, .int .i64 (n : Int), .int .i64 (m : Int)], .int .i64 k] w fun e w' => e = .returned (.bool true) ∧ Below w.heap.size w w' := by
  have R1 := Lib.hid (fun w => rright_yes x y n m w h)
  have HA := Lib.hid (show ∀ w, Calls Try.prog 5 #[] w (fun e w' => e = .returned (.bool true) ∧ Below w.heap.size w w') from HA)
  have B0 := Lib.hid ((Below.refl w.heap.size w).alloc (Nat.le_refl _) (.cells #[.int .i64 x, .int .i64 y, .int .i64 (n : Int), .int .i64 (m : Int)] 23))
  have K := Lib.hid (Blk.new w 23 #[.int .i64 x, .int .i64 y, .int .i64 (n : Int), .int .i64 (m : Int)])
  obtain ⟨⟨a1, a2, a3, a4⟩, b1, b2, b3, b4⟩ := h
  have hNb : N ≤ 4398050705409 := by rw [← hN]; exact Nat.mul_le_mul (show n ≤ 2097153 by omega) (show m ≤ 2097153 by omega)
  have hmN : (n : Int) * (m : Int) = (N : Int) := by rw [← hN]; simp
  have hwN : IntKind.i64.wrap (N : Int) = (N : Int) := IntWalk.i64_in _ (by omega)
  clear hN
  go_enter Try.func3, Try.ntmps3
  go_wp2_with (first
    | (go_at_call 4; (with_reducible refine (R1.out _).mono ?_); rintro e w1 ⟨rfl, hb⟩; have B1 := Lib.hid (B0.out.trans (hb.mono B0.out.size)); have k1 := K.out.below hb K.out.lt; have K1 := Lib.hid k1; obtain ⟨c10, c11, c12, c13, c14⟩ := k1.four; clear hb k1)
    | (go_at_call 5; (with_reducible refine (HA.out _).mono ?_); rintro e w9 ⟨rfl, hb⟩; have B9 := Lib.hid (B1.out.trans (hb.mono B1.out.size)); clear hb))
  go_ret
  exact ⟨rfl, B9.out⟩

set_option maxRecDepth 100000 in
set_option maxHeartbeats 2000000 in
theorem law_great_no (HA : AwakeSays) (x y k : Int) (n m N : Nat) (w : World) (h : Ok x y n m) (hN : n * m = N) (h5 : 5000 < N) (h1 : -4194304 ≤ k) (h2 : k ≤ 4194304) (hg : ¬ (-1048576 ≤ k ∧ k ≤ 1048576 ∧ Ok (x - k) (y - k) (n + 2 * k) (m + 2 * k))) :
    Calls Try.prog 3 #[.agg #[.int .i64 x, .int .i64 y, .int .i64 (n : Int), .int .i64 (m : Int)], .int .i64 k] w fun e w' => e = .returned (.bool true) ∧ Below w.heap.size w w' := by
  have R1 := Lib.hid (fun w => rright_yes x y n m w h)
  have HA := Lib.hid (show ∀ w, Calls Try.prog 5 #[] w (fun e w' => e = .returned (.bool true) ∧ Below w.heap.size w w') from HA)
  have B0 := Lib.hid ((Below.refl w.heap.size w).alloc (Nat.le_refl _) (.cells #[.int .i64 x, .int .i64 y, .int .i64 (n : Int), .int .i64 (m : Int)] 23))
  have K := Lib.hid (Blk.new w 23 #[.int .i64 x, .int .i64 y, .int .i64 (n : Int), .int .i64 (m : Int)])
  have G := Lib.hid (fun w => grow_no x y n m k w h hg)
  clear hg
  obtain ⟨⟨a1, a2, a3, a4⟩, b1, b2, b3, b4⟩ := h
  have hNb : N ≤ 4398050705409 := by rw [← hN]; exact Nat.mul_le_mul (show n ≤ 2097153 by omega) (show m ≤ 2097153 by omega)
  have hmN : (n : Int) * (m : Int) = (N : Int) := by rw [← hN]; simp
  have hwN : IntKind.i64.wrap (N : Int) = (N : Int) := IntWalk.i64_in _ (by omega)
  clear hN
  go_enter Try.func3, Try.ntmps3
  go_wp2_with (first
    | (go_at_call 4; (with_reducible refine (R1.out _).mono ?_); rintro e w1 ⟨rfl, hb⟩; have B1 := Lib.hid (B0.out.trans (hb.mono B0.out.size)); have k1 := K.out.below hb K.out.lt; have K1 := Lib.hid k1; obtain ⟨c10, c11, c12, c13, c14⟩ := k1.four; clear hb k1)
    | (go_at_call 8; (with_reducible refine (G.out _).mono ?_); rintro e w4 ⟨er, her, rfl, hb⟩; have B4 := Lib.hid ((B1.out.trans (hb.mono B1.out.size)).alloc (Nat.le_trans B1.out.size hb.size) (.cells #[.int .i64 0, .int .i64 0, .int .i64 0, .int .i64 0] 23)); clear hb)
    | (go_at_call 5; (with_reducible refine (HA.out _).mono ?_); rintro e w9 ⟨rfl, hb⟩; have B9 := Lib.hid (B4.out.trans (hb.mono B4.out.size)); clear hb))
  go_ret
  exact ⟨rfl, B9.out⟩

set_option maxRecDepth 100000 in
set_option maxHeartbeats 2000000 in
theorem law_great_yes (HA : AwakeSays) (x y k : Int) (n m N : Nat) (w : World) (h : Ok x y n m) (hN : n * m = N) (h5 : 5000 < N) (h1 : -1048576 ≤ k) (h2 : k ≤ 1048576) (hg : Ok (x - k) (y - k) (n + 2 * k) (m + 2 * k)) :
    Calls Try.prog 3 #[.agg #[.int .i64 x, .int .i64 y, .int .i64 (n : Int), .int .i64 (m : Int)], .int .i64 k] w fun e w' => e = .returned (.bool true) ∧ Below w.heap.size w w' := by
  have R1 := Lib.hid (fun w => rright_yes x y n m w h)
  have HA := Lib.hid (show ∀ w, Calls Try.prog 5 #[] w (fun e w' => e = .returned (.bool true) ∧ Below w.heap.size w w') from HA)
  have B0 := Lib.hid ((Below.refl w.heap.size w).alloc (Nat.le_refl _) (.cells #[.int .i64 x, .int .i64 y, .int .i64 (n : Int), .int .i64 (m : Int)] 23))
  have K := Lib.hid (Blk.new w 23 #[.int .i64 x, .int .i64 y, .int .i64 (n : Int), .int .i64 (m : Int)])
  have G := Lib.hid (fun w => grow_yes x y n m k w h h1 h2 hg)
  have GB := Lib.hid (fun w => grow_back x y n m k w h h1 h2 hg)
  clear hg
  obtain ⟨⟨a1, a2, a3, a4⟩, b1, b2, b3, b4⟩ := h
  have hNb : N ≤ 4398050705409 := by rw [← hN]; exact Nat.mul_le_mul (show n ≤ 2097153 by omega) (show m ≤ 2097153 by omega)
  have hmN : (n : Int) * (m : Int) = (N : Int) := by rw [← hN]; simp
  have hwN : IntKind.i64.wrap (N : Int) = (N : Int) := IntWalk.i64_in _ (by omega)
  clear hN
  go_enter Try.func3, Try.ntmps3
  go_wp2_with (first
    | (go_at_call 4; (with_reducible refine (R1.out _).mono ?_); rintro e w1 ⟨rfl, hb⟩; have B1 := Lib.hid (B0.out.trans (hb.mono B0.out.size)); have k1 := K.out.below hb K.out.lt; have K1 := Lib.hid k1; obtain ⟨c10, c11, c12, c13, c14⟩ := k1.four; clear hb k1)
    | (go_at_call 8; (with_reducible refine (G.out _).mono ?_); rintro e w4 ⟨rfl, hb⟩; have B4 := Lib.hid ((B1.out.trans (hb.mono B1.out.size)).alloc (Nat.le_trans B1.out.size hb.size) (.cells #[.int .i64 (x - k), .int .i64 (y - k), .int .i64 (n + 2 * k), .int .i64 (m + 2 * k)] 23)); have K4 := Lib.hid ((K1.out.below hb K1.out.lt).alloc (.cells #[.int .i64 (x - k), .int .i64 (y - k), .int .i64 (n + 2 * k), .int .i64 (m + 2 * k)] 23)); clear hb)
    | (go_at_call 8; (with_reducible refine (GB.out _).mono ?_); rintro e w5 ⟨rfl, hb⟩; have B5 := Lib.hid ((B4.out.trans (hb.mono B4.out.size)).alloc (Nat.le_trans B4.out.size hb.size) (.cells #[.int .i64 x, .int .i64 y, .int .i64 (n : Int), .int .i64 (m : Int)] 23)); have k5 := K4.out.below hb K4.out.lt; obtain ⟨c50, c51, c52, c53, c54⟩ := k5.four; clear hb k5)
    | (go_at_call 5; (with_reducible refine (HA.out _).mono ?_); rintro e w9 ⟨rfl, hb⟩; have B9 := Lib.hid (B5.out.trans (hb.mono B5.out.size)); clear hb))
  go_ret
  exact ⟨rfl, B9.out⟩
end Go.Proofs.Ytpcpelfjhpdndaa
