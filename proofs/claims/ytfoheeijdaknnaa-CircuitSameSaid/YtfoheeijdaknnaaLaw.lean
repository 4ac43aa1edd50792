/- The walk of the law. -/
import Derived.Test.YtfoheeijdaknnaaAwk
namespace Go.Proofs.Ytfoheeijdaknnaa
open Go.RowKit

section
variable (AG AO BG BO : Option Addr) (cG cO dG dO : Nat) (C D : Cr) (w : World)
set_option maxRecDepth 100000 in
set_option maxHeartbeats 4000000 in
theorem law_long (hbig : 2000 < C.n ∨ 2000 < D.n ∨ 1100 < C.o.length ∨ 1100 < D.o.length) (hn : C.n < 9223372036854775808) (hm : D.n < 9223372036854775808) (hq : C.o.length < 9223372036854775808) (hr : D.o.length < 9223372036854775808) :
    Calls Try.prog 3 #[.agg #[.int .i64 C.ins, .slice AG C.n cG, .slice AO C.o.length cO], .agg #[.int .i64 D.ins, .slice BG D.n dG, .slice BO D.o.length dO]] w fun e w' => e = .returned (.bool true) ∧ Below w.heap.size w w' := by
  obtain ⟨w1, hw1, K1, K2, B1⟩ := box2c AG AO BG BO cG cO dG dO w C.ins D.ins C.n D.n C.o.length D.o.length
  obtain ⟨I, n, g, o⟩ := C
  obtain ⟨J, m, g', o'⟩ := D
  simp only at *
  generalize o.length = q at *
  generalize o'.length = r at *
  have AW := Lib.hid (awake_any w1)
  have B1 := Lib.hid B1
  obtain ⟨a0, a1, a2, _, _, _, a6⟩ := K1.three6
  obtain ⟨b0, b1, b2, _, _, _, b6⟩ := K2.three6
  clear K1 K2
  by_cases h1 : (2000 : Int) < (n : Int)
  · clear hbig
    go_enter Try.func3, Try.ntmps3
    go_upto_region 1 with (fail)
    rw [← hw1]
    clear hw1
    go_wp2_with (go_at_call 4; (with_reducible refine AW.out.mono ?_); rintro e w2 ⟨rfl, hb⟩; have B2 := Lib.hid (B1.out.trans (hb.mono B1.out.size)); clear hb)
    go_ret
    exact ⟨rfl, B2.out⟩
  by_cases h2 : (2000 : Int) < (m : Int)
  · clear hbig
    go_enter Try.func3, Try.ntmps3
    go_upto_region 1 with (fail)
    rw [← hw1]
    clear hw1
    go_wp2_with (go_at_call 4; (with_reducible refine AW.out.mono ?_); rintro e w2 ⟨rfl, hb⟩; have B2 := Lib.hid (B1.out.trans (hb.mono B1.out.size)); clear hb)
    go_ret
    exact ⟨rfl, B2.out⟩
  by_cases h3 : (1100 : Int) < (q : Int)
  · clear hbig
    go_enter Try.func3, Try.ntmps3
    go_upto_region 1 with (fail)
    rw [← hw1]
    clear hw1
    go_wp2_with (go_at_call 4; (with_reducible refine AW.out.mono ?_); rintro e w2 ⟨rfl, hb⟩; have B2 := Lib.hid (B1.out.trans (hb.mono B1.out.size)); clear hb)
    go_ret
    exact ⟨rfl, B2.out⟩
  have h4 : (1100 : Int) < (r : Int) := by omega
  clear hbig
  go_enter Try.func3, Try.ntmps3
  go_upto_region 1 with (fail)
  rw [← hw1]
  clear hw1
  go_wp2_with (go_at_call 4; (with_reducible refine AW.out.mono ?_); rintro e w2 ⟨rfl, hb⟩; have B2 := Lib.hid (B1.out.trans (hb.mono B1.out.size)); clear hb)
  go_ret
  exact ⟨rfl, B2.out⟩
set_option maxRecDepth 100000 in
set_option maxHeartbeats 4000000 in
theorem law_in (h : CS w AG AO C) (h' : CS w BG BO D) (hn : C.n ≤ 2000) (hm : D.n ≤ 2000) (hq : C.o.length ≤ 1100) (hr : D.o.length ≤ 1100) :
    Calls Try.prog 3 #[.agg #[.int .i64 C.ins, .slice AG C.n cG, .slice AO C.o.length cO], .agg #[.int .i64 D.ins, .slice BG D.n dG, .slice BO D.o.length dO]] w fun e w' => e = .returned (.bool true) ∧ Below w.heap.size w w' := by
  obtain ⟨w1, hw1, K1, K2, B1⟩ := box2c AG AO BG BO cG cO dG dO w C.ins D.ins C.n D.n C.o.length D.o.length
  have D1 := fun p : LowW w1.heap.size w1 => csame_any AG AO BG BO cG cO dG dO C D p.w (h.later (B1.trans (p.below.mono B1.size))) (h'.later (B1.trans (p.below.mono B1.size))) (by omega) (by omega) (by omega) (by omega)
  have D2 := fun p : LowW w1.heap.size w1 => rsame_any AG AO BG BO cG cO dG dO C D p.w (h.later (B1.trans (p.below.mono B1.size))) (h'.later (B1.trans (p.below.mono B1.size))) (by omega) (by omega) (by omega) (by omega)
  have D3 := fun p : LowW w1.heap.size w1 => csame_any AG AO AG AO cG cO cG cO C C p.w (h.later (B1.trans (p.below.mono B1.size))) (h.later (B1.trans (p.below.mono B1.size))) (by omega) (by omega) (by omega) (by omega)
  rw [qs_self] at D3
  generalize qs C D = b at D1 D2
  clear h h'
  obtain ⟨I, n, g, o⟩ := C
  obtain ⟨J, m, g', o'⟩ := D
  simp only at *
  generalize o.length = q at *
  generalize o'.length = r at *
  have D1 := Lib.hid D1
  have D2 := Lib.hid D2
  have D3 := Lib.hid D3
  have D4 := Lib.hid (fun p : LowW w1.heap.size w1 => awake_any p.w)
  have h1 : ¬ (2000 : Int) < (n : Int) := by omega
  have h2 : ¬ (2000 : Int) < (m : Int) := by omega
  have h3 : ¬ (1100 : Int) < (q : Int) := by omega
  have h4 : ¬ (1100 : Int) < (r : Int) := by omega
  have B1 := Lib.hid B1
  obtain ⟨a0, a1, a2, _, _, _, a6⟩ := K1.three6
  obtain ⟨b0, b1, b2, _, _, _, b6⟩ := K2.three6
  have K1 := Lib.hid K1
  have K2 := Lib.hid K2
  have hbb : (b == b) = true := by cases b <;> rfl
  go_enter Try.func3, Try.ntmps3
  go_upto_region 1 with (fail)
  rw [← hw1]
  clear hw1
  go_upto_region 3 with (fail)
  clear a0 a1 a2 b0 b1 b2
  have a0 := fun p : LowW w1.heap.size w1 => (K1.out.below p.below K1.out.lt).three6.1
  have a1 := fun p : LowW w1.heap.size w1 => (K1.out.below p.below K1.out.lt).three6.2.1
  have a2 := fun p : LowW w1.heap.size w1 => (K1.out.below p.below K1.out.lt).three6.2.2.1
  have b0 := fun p : LowW w1.heap.size w1 => (K2.out.below p.below K2.out.lt).three6.1
  have b1 := fun p : LowW w1.heap.size w1 => (K2.out.below p.below K2.out.lt).three6.2.1
  have b2 := fun p : LowW w1.heap.size w1 => (K2.out.below p.below K2.out.lt).three6.2.2.1
  refine wp_region_low w1.heap.size w1 (by kernel_rfl) (by kernel_rfl) (Below.refl _ _) ?_
  repeat (quiet_step (first | (go_at_call 5; with_reducible exact LowW.of_call _ (Nat.le_refl _) (D1.out _)) | (go_at_call 6; with_reducible exact LowW.of_call _ (Nat.le_refl _) (D2.out _)) | (go_at_call 5; with_reducible exact LowW.of_call _ (Nat.le_refl _) (D3.out _)) | (go_at_call 4; with_reducible exact LowW.of_call _ (Nat.le_refl _) (D4.out _))))
  refine wpQuiet_nil ?_
  rintro w' ⟨p, rfl⟩
  go_wp2
  go_ret
  exact ⟨rfl, B1.out.trans (p.below.mono B1.out.size)⟩
theorem law_any (h : CS w AG AO C) (h' : CS w BG BO D) (hn : C.n < 9223372036854775808) (hm : D.n < 9223372036854775808) (hq : C.o.length < 9223372036854775808) (hr : D.o.length < 9223372036854775808) :
    Calls Try.prog 3 #[.agg #[.int .i64 C.ins, .slice AG C.n cG, .slice AO C.o.length cO], .agg #[.int .i64 D.ins, .slice BG D.n dG, .slice BO D.o.length dO]] w fun e w' => e = .returned (.bool true) ∧ Below w.heap.size w w' := by
  by_cases hbig : 2000 < C.n ∨ 2000 < D.n ∨ 1100 < C.o.length ∨ 1100 < D.o.length
  · exact law_long AG AO BG BO cG cO dG dO C D w hbig hn hm hq hr
  · exact law_in AG AO BG BO cG cO dG dO C D w h h' (by omega) (by omega) (by omega) (by omega)
end
end Go.Proofs.Ytfoheeijdaknnaa
