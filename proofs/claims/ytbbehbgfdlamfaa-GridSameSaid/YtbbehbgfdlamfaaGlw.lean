/- The walk of the law. -/
import Derived.Test.YtbbehbgfdlamfaaGaw
namespace Go.Proofs.Ytbbehbgfdlamfaa
open Go.RowKit

theorem few21_any (A : Option Addr) (W H E : Int) (n c : Nat) (w : World) :
    Calls Try.prog 4 #[.agg #[.int .i64 W, .int .i64 H, .int .i64 E, .slice A n c]] w fun e w' => e = .returned (.bool (decide ((n : Int) ≤ 5000))) ∧ Below w.heap.size w w' := by
  have K := Blk.new w 24 #[.int .i64 W, .int .i64 H, .int .i64 E, .slice A n c]
  have B := Lib.hid ((Below.refl w.heap.size w).alloc (Nat.le_refl _) (.cells #[.int .i64 W, .int .i64 H, .int .i64 E, .slice A n c] 24))
  obtain ⟨k0, k1, k2, k3, k4⟩ := K.four
  clear K
  by_cases h : (n : Int) ≤ 5000
  · rw [decide_eq_true h]
    go_enter Try.func4, Try.ntmps4
    go_wp2
    go_ret
    exact ⟨rfl, B.out⟩
  · rw [decide_eq_false h]
    go_enter Try.func4, Try.ntmps4
    go_wp2
    go_ret
    exact ⟨rfl, B.out⟩
section
variable (A B : Option Addr) (c d : Nat) (C D : Gr) (w : World)
set_option maxRecDepth 100000 in
set_option maxHeartbeats 4000000 in
theorem lawg_any (h : Reads w w.heap.size A C.l.length (il C.l)) (h' : Reads w w.heap.size B D.l.length (il D.l)) :
    Calls Try.prog 3 #[.agg #[.int .i64 C.W, .int .i64 C.H, .int .i64 C.E, .slice A C.l.length c], .agg #[.int .i64 D.W, .int .i64 D.H, .int .i64 D.E, .slice B D.l.length d]] w fun e w' => e = .returned (.bool true) ∧ Below w.heap.size w w' := by
  obtain ⟨w1, hw1, K1, K2, B1⟩ := box2g A B c d w C.W C.H C.E D.W D.H D.E C.l.length D.l.length
  have FA := Lib.hid (fun w => few21_any A C.W C.H C.E C.l.length c w)
  have FB := Lib.hid (fun w => few21_any B D.W D.H D.E D.l.length d w)
  have AW := Lib.hid (fun w => alive21_any w)
  have K1 := Lib.hid K1
  have K2 := Lib.hid K2
  have B1 := Lib.hid B1
  obtain ⟨a0, a1, a2, a3, a4⟩ := K1.out.four
  obtain ⟨b0, b1, b2, b3, b4⟩ := K2.out.four
  by_cases h1 : (C.l.length : Int) ≤ 5000
  · by_cases h2 : (D.l.length : Int) ≤ 5000
    · simp only [decide_eq_true h1] at FA
      simp only [decide_eq_true h2] at FB
      have D1 := Lib.hid (fun w' (hb : Below w.heap.size w w') => gsame_any A B c d C D w' (h.later hb) (h'.later hb) (by omega) (by omega))
      have D2 := Lib.hid (fun w' (hb : Below w.heap.size w w') => grsame_any A B c d C D w' (h.later hb) (h'.later hb) (by omega) (by omega))
      have D3 := Lib.hid (fun w' (hb : Below w.heap.size w w') => by have := gsame_any A A c c C C w' (h.later hb) (h.later hb) (by omega) (by omega); rwa [gq_self] at this)
      generalize gq C D = b at *
      clear h h' h1 h2
      obtain ⟨W, H, E, l⟩ := C
      obtain ⟨W', H', E', l'⟩ := D
      simp only at *
      generalize l.length = q at *
      generalize l'.length = r at *
      have hbb : (b == b) = true := by cases b <;> rfl
      go_enter Try.func3, Try.ntmps3
      go_upto_region 1 with (fail)
      rw [← hw1]
      clear hw1
      go_upto_region 3 with (first
        | (go_at_call 4; (with_reducible refine (FB.out _).mono ?_); rintro e w3 ⟨rfl, hb⟩; have B3 := Lib.hid (B2.out.trans (hb.mono B2.out.size)); have K5 := Lib.hid (K3.out.below hb K3.out.lt); have K6 := Lib.hid (K4.out.below hb K4.out.lt); clear hb)
        | (go_at_call 4; (with_reducible refine (FA.out _).mono ?_); rintro e w2 ⟨rfl, hb⟩; have B2 := Lib.hid (B1.out.trans (hb.mono B1.out.size)); have K3 := Lib.hid (K1.out.below hb K1.out.lt); have K4 := Lib.hid (K2.out.below hb K2.out.lt); clear a0 a1 a2 a3 a4 b0 b1 b2 b3 b4; obtain ⟨b0, b1, b2, b3, b4⟩ := K4.out.four; clear hb))
      clear b0 b1 b2 b3 b4
      have E1 := Lib.hid (fun p : LowW w3.heap.size w3 => D1.out p.w (B3.out.trans (p.below.mono B3.out.size)))
      have E2 := Lib.hid (fun p : LowW w3.heap.size w3 => D2.out p.w (B3.out.trans (p.below.mono B3.out.size)))
      have E3 := Lib.hid (fun p : LowW w3.heap.size w3 => D3.out p.w (B3.out.trans (p.below.mono B3.out.size)))
      have E4 := Lib.hid (fun p : LowW w3.heap.size w3 => AW.out p.w)
      have a0 := fun p : LowW w3.heap.size w3 => (K5.out.below p.below K5.out.lt).four.1
      have a1 := fun p : LowW w3.heap.size w3 => (K5.out.below p.below K5.out.lt).four.2.1
      have a2 := fun p : LowW w3.heap.size w3 => (K5.out.below p.below K5.out.lt).four.2.2.1
      have a3 := fun p : LowW w3.heap.size w3 => (K5.out.below p.below K5.out.lt).four.2.2.2.1
      have b0 := fun p : LowW w3.heap.size w3 => (K6.out.below p.below K6.out.lt).four.1
      have b1 := fun p : LowW w3.heap.size w3 => (K6.out.below p.below K6.out.lt).four.2.1
      have b2 := fun p : LowW w3.heap.size w3 => (K6.out.below p.below K6.out.lt).four.2.2.1
      have b3 := fun p : LowW w3.heap.size w3 => (K6.out.below p.below K6.out.lt).four.2.2.2.1
      refine wp_region_low w3.heap.size w3 (by kernel_rfl) (by kernel_rfl) (Below.refl _ _) ?_
      repeat (quiet_step (first | (go_at_call 6; with_reducible exact LowW.of_call _ (Nat.le_refl _) (E1.out _)) | (go_at_call 7; with_reducible exact LowW.of_call _ (Nat.le_refl _) (E2.out _)) | (go_at_call 6; with_reducible exact LowW.of_call _ (Nat.le_refl _) (E3.out _)) | (go_at_call 5; with_reducible exact LowW.of_call _ (Nat.le_refl _) (E4.out _))))
      refine wpQuiet_nil ?_
      rintro w' ⟨p, rfl⟩
      go_wp2
      go_ret
      exact ⟨rfl, B3.out.trans (p.below.mono B3.out.size)⟩
    · simp only [decide_eq_true h1] at FA
      simp only [decide_eq_false h2] at FB
      clear h h' h1 h2
      go_enter Try.func3, Try.ntmps3
      go_upto_region 1 with (fail)
      rw [← hw1]
      clear hw1
      go_wp2_with (first
        | (go_at_call 5; (with_reducible refine (AW.out _).mono ?_); rintro e w4 ⟨rfl, hb⟩; have B4 := Lib.hid (B3.out.trans (hb.mono B3.out.size)); clear hb)
        | (go_at_call 4; (with_reducible refine (FB.out _).mono ?_); rintro e w3 ⟨rfl, hb⟩; have B3 := Lib.hid (B2.out.trans (hb.mono B2.out.size)); clear hb)
        | (go_at_call 4; (with_reducible refine (FA.out _).mono ?_); rintro e w2 ⟨rfl, hb⟩; have B2 := Lib.hid (B1.out.trans (hb.mono B1.out.size)); have K4 := Lib.hid (K2.out.below hb K2.out.lt); clear a0 a1 a2 a3 a4 b0 b1 b2 b3 b4; obtain ⟨b0, b1, b2, b3, b4⟩ := K4.out.four; clear hb))
      go_ret
      exact ⟨rfl, B4.out⟩
  · simp only [decide_eq_false h1] at FA
    clear h h' h1 FB
    go_enter Try.func3, Try.ntmps3
    go_upto_region 1 with (fail)
    rw [← hw1]
    clear hw1
    go_wp2_with (first
      | (go_at_call 5; (with_reducible refine (AW.out _).mono ?_); rintro e w4 ⟨rfl, hb⟩; have B4 := Lib.hid (B2.out.trans (hb.mono B2.out.size)); clear hb)
      | (go_at_call 4; (with_reducible refine (FA.out _).mono ?_); rintro e w2 ⟨rfl, hb⟩; have B2 := Lib.hid (B1.out.trans (hb.mono B1.out.size)); clear hb))
    go_ret
    exact ⟨rfl, B4.out⟩
end
end Go.Proofs.Ytbbehbgfdlamfaa
