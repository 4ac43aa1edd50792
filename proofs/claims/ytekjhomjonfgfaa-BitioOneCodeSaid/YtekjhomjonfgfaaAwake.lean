/- The walk of the chapter's examples. -/
import Derived.Test.YtekjhomjonfgfaaAw
namespace Go.Proofs.Ytekjhomjonfgfaa
open Go.RowKit

set_option maxRecDepth 100000 in
set_option maxHeartbeats 4000000 in
theorem awake_any (w : World) :
    Calls Try.prog 4 #[] w fun e w' => e = .returned (.bool true) ∧ Below w.heap.size w w' := by
  have h0 := Wr.new_ (w.alloc (.cells #[.slice none 0 0, .int .i64 0] 32)) (w.heap.size + 1) w.heap.size (Blk.new w _ _)
  have hb0 : Below w.heap.size w (w.alloc (.cells #[.slice none 0 0, .int .i64 0] 32)) := (Below.refl _ _).alloc (Nat.le_refl _) _
  have hs0 : w.heap.size + 1 ≤ (w.alloc (.cells #[.slice none 0 0, .int .i64 0] 32)).heap.size := by simp
  have H0 := Lib.hid h0
  have B0 := Lib.hid hb0
  have S0 := Lib.hid hs0
  clear h0 hb0 hs0
  go_enter Try.func4, Try.ntmps4
  go_wp2_with (first
    | (go_at_call 11; (with_reducible refine (aw_bits w.heap.size (w.heap.size + 1) _ H0.out S0.out (Nat.lt_succ_self _)).mono ?_); rintro e w1 ⟨rfl, h1, t1⟩; have S1 := Lib.hid (Nat.le_trans S0.out t1.size); have B1 := Lib.hid (B0.out.trans (t1.below (Nat.le_succ _) (Nat.le_refl _))); have H1 := Lib.hid h1; clear h1 t1)
    | (go_at_call 8; (with_reducible refine (aw_gamma w.heap.size (w.heap.size + 1) w1 H1.out S1.out (Nat.lt_succ_self _)).mono ?_); rintro e w2 ⟨rfl, h2, t2⟩; have S2 := Lib.hid (Nat.le_trans S1.out t2.size); have B2 := Lib.hid (B1.out.trans (t2.below (Nat.le_succ _) (Nat.le_refl _))); have H2 := Lib.hid h2; clear h2 t2)
    | (go_at_call 14; (with_reducible refine (aw_signed w.heap.size (w.heap.size + 1) w2 H2.out S2.out (Nat.lt_succ_self _)).mono ?_); rintro e w3 ⟨rfl, h3, t3⟩; have S3 := Lib.hid (Nat.le_trans S2.out t3.size); have B3 := Lib.hid (B2.out.trans (t3.below (Nat.le_succ _) (Nat.le_refl _))); have H3 := Lib.hid h3; clear h3 t3)
    | (go_at_call 9; (with_reducible refine (aw_len w.heap.size (w.heap.size + 1) w3 H3.out).mono ?_); rintro e w4 ⟨rfl, rfl⟩)
    | (go_at_call 13; (with_reducible refine (aw_bytes w.heap.size (w.heap.size + 1) w3 H3.out).mono ?_); rintro e w4 ⟨A4, c4, rfl, r4, b4⟩; have R4 := Lib.hid r4; have B4 := Lib.hid (B3.out.trans (b4.mono B3.out.size)); clear r4 b4)
    | (go_at_call 12; (with_reducible refine (aw_same A4 c4 w4 R4.out).mono ?_); rintro e w5 ⟨rfl, b5⟩; have B5 := Lib.hid (B4.out.trans (b5.mono B4.out.size)); clear b5)
    | (go_at_call 5; (with_reducible refine (aw_new40 w5).mono ?_); rintro e w6 ⟨g1, rfl, r1, l1, b6⟩; have R1 := Lib.hid r1; have L1 := Lib.hid l1; have B6 := Lib.hid (B5.out.trans (b6.mono B5.out.size)); clear r1 l1 b6)
    | (go_at_call 5; (with_reducible refine (aw_new1 w6).mono ?_); rintro e w7 ⟨g2, rfl, r2, l2, b7⟩; have R2 := Lib.hid r2; have L2 := Lib.hid l2; have Q1 := Lib.hid (R1.out.frame (Fr.of_below b7) R1.out.lt (fun k _ hk => Nat.lt_trans hk R1.out.lt)); have B7 := Lib.hid (B6.out.trans (b7.mono B6.out.size)); clear r2 l2 b7)
    | (go_at_call 6; (with_reducible refine (aw_read (w5.heap.size + 1) g1 w7 Q1.out).mono ?_); rintro e w8 ⟨rfl, r3, f3⟩; have R3 := Lib.hid r3; have Q2 := Lib.hid (R2.out.frame f3 (by have h1 := R1.out.lt; have h2 := L2.out; omega) (fun k hk _ => by have h1 := R1.out.lt; omega)); have B8 := Lib.hid (B7.out.trans (f3.below (fun k hk => by have h1 := L1.out; have h2 := B5.out.size; omega))); clear r3 f3)
    | (go_at_call 10; (with_reducible refine (aw_short (w6.heap.size + 1) g2 w8 Q2.out).mono ?_); rintro e w9 ⟨rfl, k9, rfl⟩)
    | (go_at_call 10; (with_reducible refine (aw_eight (w6.heap.size + 1) g2 (w8.drewN k9) (Q2.out.drewN k9)).mono ?_); rintro e w9 ⟨rfl, r4, f4⟩; have Q3 := Lib.hid ((R3.out.drewN k9).frame f4 (by have h1 := R1.out.lt; have h2 := L2.out; omega) (fun k _ hk => by have h1 := R1.out.lt; have h2 := L2.out; omega)); have B9 := Lib.hid ((below_drewN B8.out k9).trans (f4.below (fun k hk => by have h1 := L2.out; have h2 := B6.out.size; omega))); clear r4 f4)
    | (go_at_call 7; (with_reducible refine (aw_left (w5.heap.size + 1) g1 w9 Q3.out).mono ?_); rintro e w10 ⟨rfl, k10, rfl⟩)
    | (go_at_call 15; (with_reducible refine (aw_end (w5.heap.size + 1) g1 (w9.drewN k10) (Q3.out.drewN k10)).mono ?_); rintro e w10 ⟨rfl, k11, rfl⟩)
    | (go_at_call 11; (with_reducible refine (wbits_range w.heap.size _).mono ?_); rintro e w10 ⟨rfl, rfl⟩)
    | (go_at_call 8; (with_reducible refine (wgamma_neg w.heap.size _).mono ?_); rintro e w10 ⟨rfl, rfl⟩))
  go_ret
  exact ⟨rfl, below_drewN B9.out _⟩
end Go.Proofs.Ytekjhomjonfgfaa
