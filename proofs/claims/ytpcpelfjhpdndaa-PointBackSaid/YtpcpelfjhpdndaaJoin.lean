/- The walks of Join and In at the chapter's examples, and of the reference's Same. -/
import Derived.Test.YtpcpelfjhpdndaaMeet
namespace Go.Proofs.Ytpcpelfjhpdndaa
open Go.RowKit

set_option maxRecDepth 100000 in
set_option maxHeartbeats 2000000 in
theorem join_ex (w : World) :
    Calls Try.prog 13 #[.agg #[.int .i64 0, .int .i64 0, .int .i64 4, .int .i64 4], .agg #[.int .i64 2, .int .i64 3, .int .i64 5, .int .i64 5]] w fun e w' => e = .returned (.agg #[.int .i64 0, .int .i64 0, .int .i64 7, .int .i64 8]) ∧ Below w.heap.size w w' := by
  have R1 := Lib.hid (fun w => right_yes 0 0 4 4 w ok_a)
  have R2 := Lib.hid (fun w => right_yes 2 3 5 5 w ok_b)
  have C1 := Lib.hid (fun w => corner_any 0 0 4 4 w)
  have C2 := Lib.hid (fun w => corner_any 2 3 5 5 w)
  have L1 := Lib.hid (fun w => last_any 0 0 4 4 w ok_a)
  have L2 := Lib.hid (fun w => last_any 2 3 5 5 w ok_b)
  have G1 := Lib.hid (fun w => least_to 0 0 2 3 0 0 w (by decide) (by decide))
  have G2 := Lib.hid (fun w => greatest_to 3 3 6 7 6 7 w (by decide) (by decide))
  simp only [Int.reduceAdd, Int.reduceSub] at L1 L2
  have T := Lib.hid (fun w => between_any 0 0 6 7 w (by decide) (by decide) (by decide) (by decide))
  simp only [Int.reduceAdd, Int.reduceSub] at T
  obtain ⟨K2, K3, K4, B4⟩ := three_blks w #[.int .i64 0, .int .i64 0, .int .i64 4, .int .i64 4] #[.int .i64 2, .int .i64 3, .int .i64 5, .int .i64 5] #[.int .i64 0, .int .i64 0, .int .i64 0, .int .i64 0] 23 23 23
  have K2 := Lib.hid K2
  have K3 := Lib.hid K3
  have K4 := Lib.hid K4
  have B4 := Lib.hid B4
  go_enter Try.func13, Try.ntmps13
  go_wp2_with (first
    | (go_at_call 15; (with_reducible refine (R1.out _).mono ?_); rintro e w1 ⟨rfl, hb⟩; have A2 := Lib.hid (K2.out.below hb K2.out.lt); have a3 := K3.out.below hb K3.out.lt; have A3 := Lib.hid a3; have A4 := Lib.hid (K4.out.below hb K4.out.lt); have BA := Lib.hid (B4.out.trans (hb.mono B4.out.size)); obtain ⟨c0, c1, c2, c3, c4⟩ := a3.four; clear hb a3)
    | (go_at_call 15; (with_reducible refine (R2.out _).mono ?_); rintro e w2 ⟨rfl, hb⟩; have D2 := Lib.hid (A2.out.below hb A2.out.lt); have D3 := Lib.hid (A3.out.below hb A3.out.lt); have D4 := Lib.hid (A4.out.below hb A4.out.lt); have BD := Lib.hid (BA.out.trans (hb.mono BA.out.size)); clear hb))
  have c20 := fun p : LowW w2.heap.size w2 => (D2.out.below p.below D2.out.lt).four.1
  have c21 := fun p : LowW w2.heap.size w2 => (D2.out.below p.below D2.out.lt).four.2.1
  have c22 := fun p : LowW w2.heap.size w2 => (D2.out.below p.below D2.out.lt).four.2.2.1
  have c23 := fun p : LowW w2.heap.size w2 => (D2.out.below p.below D2.out.lt).four.2.2.2.1
  have c30 := fun p : LowW w2.heap.size w2 => (D3.out.below p.below D3.out.lt).four.1
  have c31 := fun p : LowW w2.heap.size w2 => (D3.out.below p.below D3.out.lt).four.2.1
  have c32 := fun p : LowW w2.heap.size w2 => (D3.out.below p.below D3.out.lt).four.2.2.1
  have c33 := fun p : LowW w2.heap.size w2 => (D3.out.below p.below D3.out.lt).four.2.2.2.1
  refine wp_region_low_tail w2.heap.size w2 11 (by kernel_rfl) (by kernel_rfl) (Below.refl _ _) ?_
  simp only [List.take_succ_cons, List.take_zero, List.drop_succ_cons, List.drop_zero]
  repeat (quiet_step (first | (go_at_call 21; with_reducible exact LowW.of_call _ (Nat.le_refl _) (C1.out _)) | (go_at_call 21; with_reducible exact LowW.of_call _ (Nat.le_refl _) (C2.out _)) | (go_at_call 22; with_reducible exact LowW.of_call _ (Nat.le_refl _) (L1.out _)) | (go_at_call 22; with_reducible exact LowW.of_call _ (Nat.le_refl _) (L2.out _)) | (go_at_call 18; with_reducible exact LowW.of_call _ (Nat.le_refl _) (G1.out _)) | (go_at_call 19; with_reducible exact LowW.of_call _ (Nat.le_refl _) (G2.out _)) | (go_at_call 20; with_reducible exact LowW.of_call _ (Nat.le_refl _) (T.out _))))
  refine wpQuiet_nil ?_
  rintro w' ⟨p, rfl⟩
  have f4 := D4.out.below p.below D4.out.lt
  have F4 := Lib.hid f4
  have BF := Lib.hid (BD.out.trans (p.below.mono BD.out.size))
  obtain ⟨d0, d1, d2, d3, d4, d5, d6, d7, d8⟩ := f4.four8
  clear c20 c21 c22 c23 c30 c31 c32 c33 f4
  generalize p.w = w4 at d0 d1 d2 d3 d4 d5 d6 d7 d8 F4 BF ⊢
  go_wp2
  have E := Blk.put4 (a := .int .i64 0) (b := .int .i64 0) (c := .int .i64 7) (d := .int .i64 8) F4.out
  have HZ := Below.put4 (a := .int .i64 0) (b := .int .i64 0) (c := .int .i64 7) (d := .int .i64 8) BF.out (show w.heap.size ≤ w.heap.size + 1 + 1 by omega)
  change bodyPost _ _ _ _ _ (put4 w4 (w.heap.size + 1 + 1) (.int .i64 0) (.int .i64 0) (.int .i64 7) (.int .i64 8))
  generalize put4 w4 (w.heap.size + 1 + 1) (.int .i64 0) (.int .i64 0) (.int .i64 7) (.int .i64 8) = wz at E HZ ⊢
  obtain ⟨j0, j1, j2, j3, j4⟩ := E.four
  refine bodyPost_ret (v := .agg #[.int .i64 0, .int .i64 0, .int .i64 7, .int .i64 8]) (by simp [results, Try.results13, go_sem, j0, j1, j2, j3, j4]) rfl ⟨rfl, HZ⟩

theorem in_ex (w : World) :
    Calls Try.prog 16 #[.agg #[.int .i64 0, .int .i64 0, .int .i64 4, .int .i64 4], .agg #[.int .i64 3, .int .i64 3]] w fun e w' => e = .returned (.bool true) ∧ Below w.heap.size w w' := by
  have R1 := Lib.hid (fun w => right_yes 0 0 4 4 w ok_a)
  have L1 := Lib.hid (fun w => last_any 0 0 4 4 w ok_a)
  simp only [Int.reduceAdd, Int.reduceSub] at L1
  obtain ⟨K2, K3, B3, S3⟩ := two_blks w #[.int .i64 0, .int .i64 0, .int .i64 4, .int .i64 4] #[.int .i64 3, .int .i64 3] 23 36
  have K2 := Lib.hid K2
  have K3 := Lib.hid K3
  have B3 := Lib.hid B3
  have S3 := Lib.hid S3
  go_enter Try.func16, Try.ntmps16
  go_wp2_with (first
    | (go_at_call 15; (with_reducible refine (R1.out _).mono ?_); rintro e w1 ⟨rfl, hb⟩; have a2 := K2.out.below hb K2.out.lt; have A2 := Lib.hid a2; have A3 := Lib.hid (K3.out.below hb K3.out.lt); have BA := Lib.hid (B3.out.trans (hb.mono B3.out.size)); obtain ⟨c0, c1, c2, c3, c4⟩ := a2.four; clear hb a2)
    | (go_at_call 22; (with_reducible refine (L1.out _).mono ?_); rintro e w2 ⟨rfl, hb⟩; have d2 := A2.out.below hb A2.out.lt; have d3 := A3.out.below hb A3.out.lt; have BD := Lib.hid (BA.out.trans (hb.mono BA.out.size)); obtain ⟨e0, e1, e2, e3, e4⟩ := d2.four; obtain ⟨f0, f1, f2, f3, f4⟩ := d3.two; clear hb d2 d3))
  go_ret
  exact ⟨rfl, BD.out.alloc BD.out.size _⟩
end Go.Proofs.Ytpcpelfjhpdndaa
