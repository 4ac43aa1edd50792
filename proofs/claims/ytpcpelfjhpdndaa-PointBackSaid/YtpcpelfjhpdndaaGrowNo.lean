/- The walk of Grow where there is no such box: the zero box and an error. -/
import Derived.Test.YtpcpelfjhpdndaaGrow
namespace Go.Proofs.Ytpcpelfjhpdndaa
open Go.RowKit

section
variable (x y n m k : Int) (w : World)
set_option maxRecDepth 100000 in
set_option maxHeartbeats 1000000 in
theorem grow_low (h : Ok x y n m) (h1 : k < -1048576) :
    Calls Try.prog 8 #[.agg #[.int .i64 x, .int .i64 y, .int .i64 n, .int .i64 m], .int .i64 k] w fun e w' => e = .returned (.tuple #[.agg #[.int .i64 0, .int .i64 0, .int .i64 0, .int .i64 0], .int .i64 6]) ∧ Below w.heap.size w w' := by
  have R1 := Lib.hid (fun w => right_yes x y n m w h)
  obtain ⟨⟨a1, a2, a3, a4⟩, a5, a6, a7, a8⟩ := h
  obtain ⟨K2, K4, B4, S4⟩ := two_blks w #[.int .i64 x, .int .i64 y, .int .i64 n, .int .i64 m] #[.int .i64 0, .int .i64 0, .int .i64 0, .int .i64 0] 23 23
  have K2 := Lib.hid K2
  have K4 := Lib.hid K4
  have B4 := Lib.hid B4
  have S4 := Lib.hid S4
  go_enter Try.func8, Try.ntmps8
  go_wp2_with (first
    | (go_at_call 15; (with_reducible refine (R1.out _).mono ?_); rintro e w1 ⟨rfl, hb⟩; have L2 := K2.out.below hb K2.out.lt; have l4 := K4.out.below hb K4.out.lt; have L4 := Lib.hid l4; have B1 := Lib.hid (B4.out.trans (hb.mono B4.out.size)); obtain ⟨c0, c1, c2, c3, c4⟩ := L2.four; obtain ⟨e0, e1, e2, e3, e4, e5, e6, e7, e8⟩ := l4.four8; clear hb L2 l4))
  have E := Blk.put4 (a := (.int .i64 0)) (b := (.int .i64 0)) (c := (.int .i64 0)) (d := (.int .i64 0)) L4.out
  have HZ := Below.put4 (a := (.int .i64 0)) (b := (.int .i64 0)) (c := (.int .i64 0)) (d := (.int .i64 0)) B1.out (Nat.le_succ w.heap.size)
  change bodyPost _ _ _ _ _ (put4 w1 (w.heap.size + 1) (.int .i64 0) (.int .i64 0) (.int .i64 0) (.int .i64 0))
  generalize put4 w1 (w.heap.size + 1) (.int .i64 0) (.int .i64 0) (.int .i64 0) (.int .i64 0) = wz at E HZ ⊢
  obtain ⟨j0, j1, j2, j3, j4⟩ := E.four
  refine bodyPost_ret (v := .tuple #[.agg #[.int .i64 0, .int .i64 0, .int .i64 0, .int .i64 0], .int .i64 6]) (by simp [results, Try.results8, go_sem, j0, j1, j2, j3, j4]) rfl ⟨rfl, HZ⟩
set_option maxRecDepth 100000 in
set_option maxHeartbeats 1000000 in
theorem grow_high (h : Ok x y n m) (h1 : 1048576 < k) :
    Calls Try.prog 8 #[.agg #[.int .i64 x, .int .i64 y, .int .i64 n, .int .i64 m], .int .i64 k] w fun e w' => e = .returned (.tuple #[.agg #[.int .i64 0, .int .i64 0, .int .i64 0, .int .i64 0], .int .i64 5]) ∧ Below w.heap.size w w' := by
  have R1 := Lib.hid (fun w => right_yes x y n m w h)
  obtain ⟨⟨a1, a2, a3, a4⟩, a5, a6, a7, a8⟩ := h
  obtain ⟨K2, K4, B4, S4⟩ := two_blks w #[.int .i64 x, .int .i64 y, .int .i64 n, .int .i64 m] #[.int .i64 0, .int .i64 0, .int .i64 0, .int .i64 0] 23 23
  have K2 := Lib.hid K2
  have K4 := Lib.hid K4
  have B4 := Lib.hid B4
  have S4 := Lib.hid S4
  go_enter Try.func8, Try.ntmps8
  go_wp2_with (first
    | (go_at_call 15; (with_reducible refine (R1.out _).mono ?_); rintro e w1 ⟨rfl, hb⟩; have L2 := K2.out.below hb K2.out.lt; have l4 := K4.out.below hb K4.out.lt; have L4 := Lib.hid l4; have B1 := Lib.hid (B4.out.trans (hb.mono B4.out.size)); obtain ⟨c0, c1, c2, c3, c4⟩ := L2.four; obtain ⟨e0, e1, e2, e3, e4, e5, e6, e7, e8⟩ := l4.four8; clear hb L2 l4))
  have E := Blk.put4 (a := (.int .i64 0)) (b := (.int .i64 0)) (c := (.int .i64 0)) (d := (.int .i64 0)) L4.out
  have HZ := Below.put4 (a := (.int .i64 0)) (b := (.int .i64 0)) (c := (.int .i64 0)) (d := (.int .i64 0)) B1.out (Nat.le_succ w.heap.size)
  change bodyPost _ _ _ _ _ (put4 w1 (w.heap.size + 1) (.int .i64 0) (.int .i64 0) (.int .i64 0) (.int .i64 0))
  generalize put4 w1 (w.heap.size + 1) (.int .i64 0) (.int .i64 0) (.int .i64 0) (.int .i64 0) = wz at E HZ ⊢
  obtain ⟨j0, j1, j2, j3, j4⟩ := E.four
  refine bodyPost_ret (v := .tuple #[.agg #[.int .i64 0, .int .i64 0, .int .i64 0, .int .i64 0], .int .i64 5]) (by simp [results, Try.results8, go_sem, j0, j1, j2, j3, j4]) rfl ⟨rfl, HZ⟩
set_option maxRecDepth 100000 in
set_option maxHeartbeats 1000000 in
theorem grow_w (h : Ok x y n m) (h1 : -1048576 ≤ k) (h2 : k ≤ 1048576) (h3 : n + 2 * k < 1) :
    Calls Try.prog 8 #[.agg #[.int .i64 x, .int .i64 y, .int .i64 n, .int .i64 m], .int .i64 k] w fun e w' => e = .returned (.tuple #[.agg #[.int .i64 0, .int .i64 0, .int .i64 0, .int .i64 0], .int .i64 6]) ∧ Below w.heap.size w w' := by
  have R1 := Lib.hid (fun w => right_yes x y n m w h)
  obtain ⟨⟨a1, a2, a3, a4⟩, a5, a6, a7, a8⟩ := h
  obtain ⟨K2, K4, B4, S4⟩ := two_blks w #[.int .i64 x, .int .i64 y, .int .i64 n, .int .i64 m] #[.int .i64 0, .int .i64 0, .int .i64 0, .int .i64 0] 23 23
  have K2 := Lib.hid K2
  have K4 := Lib.hid K4
  have B4 := Lib.hid B4
  have S4 := Lib.hid S4
  go_enter Try.func8, Try.ntmps8
  go_wp2_with (first
    | (go_at_call 15; (with_reducible refine (R1.out _).mono ?_); rintro e w1 ⟨rfl, hb⟩; have L2 := K2.out.below hb K2.out.lt; have l4 := K4.out.below hb K4.out.lt; have L4 := Lib.hid l4; have B1 := Lib.hid (B4.out.trans (hb.mono B4.out.size)); obtain ⟨c0, c1, c2, c3, c4⟩ := L2.four; obtain ⟨e0, e1, e2, e3, e4, e5, e6, e7, e8⟩ := l4.four8; clear hb L2 l4))
  have E0 := Blk.put4 (a := (.int .i64 0)) (b := (.int .i64 0)) (c := (.int .i64 0)) (d := (.int .i64 0)) L4.out
  have HZ0 := Below.put4 (a := (.int .i64 0)) (b := (.int .i64 0)) (c := (.int .i64 0)) (d := (.int .i64 0)) B1.out (Nat.le_succ w.heap.size)
  have E := E0.alloc (.cells #[.int .i64 (x - k), .int .i64 (y - k), .int .i64 (n + 2 * k), .int .i64 (m + 2 * k)] 23)
  have HZ := HZ0.alloc HZ0.size (.cells #[.int .i64 (x - k), .int .i64 (y - k), .int .i64 (n + 2 * k), .int .i64 (m + 2 * k)] 23)
  clear E0 HZ0
  change bodyPost _ _ _ _ _ ((put4 w1 (w.heap.size + 1) (.int .i64 0) (.int .i64 0) (.int .i64 0) (.int .i64 0)).alloc (.cells #[.int .i64 (x - k), .int .i64 (y - k), .int .i64 (n + 2 * k), .int .i64 (m + 2 * k)] 23))
  generalize (put4 w1 (w.heap.size + 1) (.int .i64 0) (.int .i64 0) (.int .i64 0) (.int .i64 0)).alloc (.cells #[.int .i64 (x - k), .int .i64 (y - k), .int .i64 (n + 2 * k), .int .i64 (m + 2 * k)] 23) = wz at E HZ ⊢
  obtain ⟨j0, j1, j2, j3, j4⟩ := E.four
  refine bodyPost_ret (v := .tuple #[.agg #[.int .i64 0, .int .i64 0, .int .i64 0, .int .i64 0], .int .i64 6]) (by simp [results, Try.results8, go_sem, j0, j1, j2, j3, j4]) rfl ⟨rfl, HZ⟩
set_option maxRecDepth 100000 in
set_option maxHeartbeats 1000000 in
theorem grow_h (h : Ok x y n m) (h1 : -1048576 ≤ k) (h2 : k ≤ 1048576) (h3 : 1 ≤ n + 2 * k) (h4 : m + 2 * k < 1) :
    Calls Try.prog 8 #[.agg #[.int .i64 x, .int .i64 y, .int .i64 n, .int .i64 m], .int .i64 k] w fun e w' => e = .returned (.tuple #[.agg #[.int .i64 0, .int .i64 0, .int .i64 0, .int .i64 0], .int .i64 6]) ∧ Below w.heap.size w w' := by
  have R1 := Lib.hid (fun w => right_yes x y n m w h)
  obtain ⟨⟨a1, a2, a3, a4⟩, a5, a6, a7, a8⟩ := h
  obtain ⟨K2, K4, B4, S4⟩ := two_blks w #[.int .i64 x, .int .i64 y, .int .i64 n, .int .i64 m] #[.int .i64 0, .int .i64 0, .int .i64 0, .int .i64 0] 23 23
  have K2 := Lib.hid K2
  have K4 := Lib.hid K4
  have B4 := Lib.hid B4
  have S4 := Lib.hid S4
  go_enter Try.func8, Try.ntmps8
  go_wp2_with (first
    | (go_at_call 15; (with_reducible refine (R1.out _).mono ?_); rintro e w1 ⟨rfl, hb⟩; have L2 := K2.out.below hb K2.out.lt; have l4 := K4.out.below hb K4.out.lt; have L4 := Lib.hid l4; have B1 := Lib.hid (B4.out.trans (hb.mono B4.out.size)); obtain ⟨c0, c1, c2, c3, c4⟩ := L2.four; obtain ⟨e0, e1, e2, e3, e4, e5, e6, e7, e8⟩ := l4.four8; clear hb L2 l4))
  have E0 := Blk.put4 (a := (.int .i64 0)) (b := (.int .i64 0)) (c := (.int .i64 0)) (d := (.int .i64 0)) L4.out
  have HZ0 := Below.put4 (a := (.int .i64 0)) (b := (.int .i64 0)) (c := (.int .i64 0)) (d := (.int .i64 0)) B1.out (Nat.le_succ w.heap.size)
  have E := E0.alloc (.cells #[.int .i64 (x - k), .int .i64 (y - k), .int .i64 (n + 2 * k), .int .i64 (m + 2 * k)] 23)
  have HZ := HZ0.alloc HZ0.size (.cells #[.int .i64 (x - k), .int .i64 (y - k), .int .i64 (n + 2 * k), .int .i64 (m + 2 * k)] 23)
  clear E0 HZ0
  change bodyPost _ _ _ _ _ ((put4 w1 (w.heap.size + 1) (.int .i64 0) (.int .i64 0) (.int .i64 0) (.int .i64 0)).alloc (.cells #[.int .i64 (x - k), .int .i64 (y - k), .int .i64 (n + 2 * k), .int .i64 (m + 2 * k)] 23))
  generalize (put4 w1 (w.heap.size + 1) (.int .i64 0) (.int .i64 0) (.int .i64 0) (.int .i64 0)).alloc (.cells #[.int .i64 (x - k), .int .i64 (y - k), .int .i64 (n + 2 * k), .int .i64 (m + 2 * k)] 23) = wz at E HZ ⊢
  obtain ⟨j0, j1, j2, j3, j4⟩ := E.four
  refine bodyPost_ret (v := .tuple #[.agg #[.int .i64 0, .int .i64 0, .int .i64 0, .int .i64 0], .int .i64 6]) (by simp [results, Try.results8, go_sem, j0, j1, j2, j3, j4]) rfl ⟨rfl, HZ⟩
set_option maxRecDepth 100000 in
set_option maxHeartbeats 1000000 in
theorem grow_out (h : Ok x y n m) (h1 : -1048576 ≤ k) (h2 : k ≤ 1048576) (h3 : 1 ≤ n + 2 * k) (h4 : 1 ≤ m + 2 * k) (hg : ¬ Ok (x - k) (y - k) (n + 2 * k) (m + 2 * k)) :
    Calls Try.prog 8 #[.agg #[.int .i64 x, .int .i64 y, .int .i64 n, .int .i64 m], .int .i64 k] w fun e w' => e = .returned (.tuple #[.agg #[.int .i64 0, .int .i64 0, .int .i64 0, .int .i64 0], .int .i64 5]) ∧ Below w.heap.size w w' := by
  have R1 := Lib.hid (fun w => right_yes x y n m w h)
  have R2 := Lib.hid (fun w => right_no (x - k) (y - k) (n + 2 * k) (m + 2 * k) w hg)
  clear hg
  obtain ⟨⟨a1, a2, a3, a4⟩, a5, a6, a7, a8⟩ := h
  obtain ⟨K2, K4, B4, S4⟩ := two_blks w #[.int .i64 x, .int .i64 y, .int .i64 n, .int .i64 m] #[.int .i64 0, .int .i64 0, .int .i64 0, .int .i64 0] 23 23
  have K2 := Lib.hid K2
  have K4 := Lib.hid K4
  have B4 := Lib.hid B4
  have S4 := Lib.hid S4
  go_enter Try.func8, Try.ntmps8
  go_wp2_with (first
    | (go_at_call 15; (with_reducible refine (R1.out _).mono ?_); rintro e w1 ⟨rfl, hb⟩; have L2 := K2.out.below hb K2.out.lt; have l4 := K4.out.below hb K4.out.lt; have L4 := Lib.hid l4; have B1 := Lib.hid (B4.out.trans (hb.mono B4.out.size)); obtain ⟨c0, c1, c2, c3, c4⟩ := L2.four; obtain ⟨e0, e1, e2, e3, e4, e5, e6, e7, e8⟩ := l4.four8; clear hb L2 l4)
    | (go_at_call 15; (with_reducible refine (R2.out _).mono ?_); rintro e w2 ⟨rfl, hb⟩; have n4 := L4.out.alloc (.cells #[.int .i64 (x - k), .int .i64 (y - k), .int .i64 (n + 2 * k), .int .i64 (m + 2 * k)] 23); have M4 := n4.below hb n4.lt; have B2 := Lib.hid ((B1.out.alloc B1.out.size (.cells #[.int .i64 (x - k), .int .i64 (y - k), .int .i64 (n + 2 * k), .int .i64 (m + 2 * k)] 23)).trans (hb.mono (Nat.le_trans B1.out.size (by simp)))); have N4 := Lib.hid M4; clear e0 e1 e2 e3 e4 e5 e6 e7 e8; obtain ⟨e0, e1, e2, e3, e4, e5, e6, e7, e8⟩ := M4.four8; clear hb n4 M4))
  have E := Blk.put4 (a := (.int .i64 0)) (b := (.int .i64 0)) (c := (.int .i64 0)) (d := (.int .i64 0)) N4.out
  have HZ := Below.put4 (a := (.int .i64 0)) (b := (.int .i64 0)) (c := (.int .i64 0)) (d := (.int .i64 0)) B2.out (Nat.le_succ w.heap.size)
  change bodyPost _ _ _ _ _ (put4 w2 (w.heap.size + 1) (.int .i64 0) (.int .i64 0) (.int .i64 0) (.int .i64 0))
  generalize put4 w2 (w.heap.size + 1) (.int .i64 0) (.int .i64 0) (.int .i64 0) (.int .i64 0) = wz at E HZ ⊢
  obtain ⟨j0, j1, j2, j3, j4⟩ := E.four
  refine bodyPost_ret (v := .tuple #[.agg #[.int .i64 0, .int .i64 0, .int .i64 0, .int .i64 0], .int .i64 5]) (by simp [results, Try.results8, go_sem, j0, j1, j2, j3, j4]) rfl ⟨rfl, HZ⟩

theorem grow_no (h : Ok x y n m) (hg : ¬ (-1048576 ≤ k ∧ k ≤ 1048576 ∧ Ok (x - k) (y - k) (n + 2 * k) (m + 2 * k))) :
    Calls Try.prog 8 #[.agg #[.int .i64 x, .int .i64 y, .int .i64 n, .int .i64 m], .int .i64 k] w fun e w' => ∃ er : Int, er ≠ 0 ∧ e = .returned (.tuple #[.agg #[.int .i64 0, .int .i64 0, .int .i64 0, .int .i64 0], .int .i64 er]) ∧ Below w.heap.size w w' := by
  by_cases h1 : k < -1048576
  · exact (grow_low x y n m k w h h1).mono fun e w' h => ⟨6, by decide, h⟩
  by_cases h2 : 1048576 < k
  · exact (grow_high x y n m k w h h2).mono fun e w' h => ⟨5, by decide, h⟩
  by_cases h3 : n + 2 * k < 1
  · exact (grow_w x y n m k w h (by omega) (by omega) h3).mono fun e w' h => ⟨6, by decide, h⟩
  by_cases h4 : m + 2 * k < 1
  · exact (grow_h x y n m k w h (by omega) (by omega) (by omega) h4).mono fun e w' h => ⟨6, by decide, h⟩
  exact (grow_out x y n m k w h (by omega) (by omega) (by omega) (by omega) (fun ho => hg ⟨by omega, by omega, ho⟩)).mono fun e w' h => ⟨5, by decide, h⟩
end
end Go.Proofs.Ytpcpelfjhpdndaa
