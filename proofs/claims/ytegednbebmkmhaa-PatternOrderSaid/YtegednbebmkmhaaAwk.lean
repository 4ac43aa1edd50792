/- The walk of the chapter's examples, in one piece. -/
import Derived.Test.YtegednbebmkmhaaAwake
namespace Go.Proofs.Ytegednbebmkmhaa
open Go.RowKit

/-- the world behind the box's store and the wanted list -/
theorem aw_seven {w0 w : World} {g g5 : Nat} (B : Below w0.heap.size w0 w) (P : Row2 w g (0, 0, 2) (1, 1, 1)) (Q : CReads w w.heap.size (some ⟨g5, 0, none⟩) 1 (fun _ => (1, 1, 1))) :
    Hid (Blk ((w.alloc (.cells #[.int .i64 0, .int .i64 0, .int .i64 2, .int .i64 2] 37)).alloc (.cells litW 34)) w.heap.size 37 #[.int .i64 0, .int .i64 0, .int .i64 2, .int .i64 2]) ∧
    Hid (Row2 ((w.alloc (.cells #[.int .i64 0, .int .i64 0, .int .i64 2, .int .i64 2] 37)).alloc (.cells litW 34)) (w.heap.size + 1) (0, 0, 2) (1, 1, 1)) ∧
    Hid (Row2 ((w.alloc (.cells #[.int .i64 0, .int .i64 0, .int .i64 2, .int .i64 2] 37)).alloc (.cells litW 34)) g (0, 0, 2) (1, 1, 1)) ∧
    Hid (CReads ((w.alloc (.cells #[.int .i64 0, .int .i64 0, .int .i64 2, .int .i64 2] 37)).alloc (.cells litW 34)) ((w.alloc (.cells #[.int .i64 0, .int .i64 0, .int .i64 2, .int .i64 2] 37)).alloc (.cells litW 34)).heap.size (some ⟨g5, 0, none⟩) 1 (fun _ => (1, 1, 1))) ∧
    Hid (Below w0.heap.size w0 ((w.alloc (.cells #[.int .i64 0, .int .i64 0, .int .i64 2, .int .i64 2] 37)).alloc (.cells litW 34))) := by
  have b1 : Below w.heap.size w ((w.alloc (.cells #[.int .i64 0, .int .i64 0, .int .i64 2, .int .i64 2] 37)).alloc (.cells litW 34)) := ((Below.refl _ _).alloc (Nat.le_refl _) _).alloc (by simp) _
  have x := want_row (w.alloc (.cells #[.int .i64 0, .int .i64 0, .int .i64 2, .int .i64 2] 37))
  rw [show (w.alloc (.cells #[.int .i64 0, .int .i64 0, .int .i64 2, .int .i64 2] 37)).heap.size = w.heap.size + 1 by simp] at x
  exact ⟨Lib.hid ((Blk.new w _ _).alloc _), Lib.hid x, Lib.hid (P.later b1), Lib.hid (Q.later b1), Lib.hid (B.trans (b1.mono B.size))⟩

set_option maxRecDepth 100000 in
set_option maxHeartbeats 4000000 in
theorem awake_any (w : World) :
    Calls Try.prog 5 #[] w fun e w' => e = .returned (.bool true) ∧ Below w.heap.size w w' := by
  have F1 := Lib.hid aw_from1
  have F2 := Lib.hid aw_from2
  have F3 := Lib.hid aw_from3
  have F4 := Lib.hid aw_shift
  go_enter Try.func5, Try.ntmps5
  go_wp2_with (first
    | (go_at_call 9; (with_reducible refine (F1.out _).mono ?_); rintro e w1 ⟨g, c, rfl, h1, h2, hb⟩; have B1 := Lib.hid hb; have P1 := Lib.hid h2; have C1 := Lib.hid h1; clear hb h1 h2)
    | (go_at_call 9; (with_reducible refine (F2.out _).mono ?_); rintro e w2 ⟨rfl, hb⟩; have B2 := Lib.hid (B1.out.trans (hb.mono B1.out.size)); have P2 := Lib.hid (P1.out.later hb); clear hb)
    | (go_at_call 9; (with_reducible refine (F3.out _).mono ?_); rintro e w3 ⟨rfl, hb⟩; have B3 := Lib.hid (B2.out.trans (hb.mono B2.out.size)); have P3 := Lib.hid (P2.out.later hb); clear hb)
    | (go_at_call 8; (with_reducible refine (F4.out _).mono ?_); rintro e w4 ⟨rfl, hb⟩; have B4 := Lib.hid (B3.out.trans (hb.mono B3.out.size)); have P4 := Lib.hid (P3.out.later hb); clear hb)
    | (go_at_call 10; (with_reducible refine (set_ex _ _ _ P4.out C1.out).mono ?_); rintro e w5 ⟨g5, c5, rfl, hq, hb⟩; have B5 := Lib.hid (B4.out.trans (hb.mono B4.out.size)); have P5 := Lib.hid (P4.out.later hb); have Q5 := Lib.hid hq; clear hb hq)
    | (go_at_call 11; (with_reducible refine (box_ex _ _ _ P5.out.reads).mono ?_); rintro e w6 ⟨rfl, hb⟩; have B6 := B5.out.trans (hb.mono B5.out.size); have P6 := P5.out.later hb; have Q6 := Q5.out.later hb; obtain ⟨K7, X7, P7, Q7, B7⟩ := aw_seven B6 P6 Q6; clear hb B6 P6 Q6)
    | (go_at_call 12; (with_reducible refine (rsame_yes _ _ 2 _ _ _ _ _ P7.out.reads X7.out.reads (by decide) (fun _ _ => rfl)).mono ?_); rintro e w8 ⟨rfl, hb⟩; have K8 := Lib.hid (K7.out.below hb K7.out.lt); have X8 := Lib.hid (X7.out.later hb); have Q8 := Lib.hid (Q7.out.later hb); have B8 := Lib.hid (B7.out.trans (hb.mono B7.out.size)); clear hb)
    | (go_at_call 12; (with_reducible refine (rsame_yes _ _ 1 _ _ _ _ _ Q8.out X8.out.second (by decide) (fun _ _ => rfl)).mono ?_); rintro e w9 ⟨rfl, hb⟩; obtain ⟨k0, k1, k2, k3, k4⟩ := (K8.out.below hb K8.out.lt).four; have X9 := Lib.hid (X8.out.later hb); have B9 := Lib.hid (B8.out.trans (hb.mono B8.out.size)); clear hb)
    | (go_at_call 13; (with_reducible refine (top_ex _ _ _ X9.out.reads).mono ?_); rintro e w10 ⟨rfl, hb⟩; have X10 := Lib.hid (X9.out.later hb); have B10 := Lib.hid (B9.out.trans (hb.mono B9.out.size)); clear hb k0 k1 k2 k3)
    | (go_at_call 6; (with_reducible refine (aw_compare X10.out _ _).mono ?_); rintro e w11 ⟨rfl, hb⟩; have X11 := Lib.hid (X10.out.later hb); have B11 := Lib.hid (B10.out.trans (hb.mono B10.out.size)); clear hb)
    | (go_at_call 14; (with_reducible refine (get_ex _ _ _ X11.out.reads).mono ?_); rintro e w12 ⟨rfl, hb⟩; have X12 := Lib.hid (X11.out.later hb); have B12 := Lib.hid (B11.out.trans (hb.mono B11.out.size)); clear hb)
    | (go_at_call 15; (with_reducible refine (aw_right X12.out _).mono ?_); rintro e w13 ⟨rfl, hb⟩; have X13 := Lib.hid (X12.out.later hb); have B13 := Lib.hid (B12.out.trans (hb.mono B12.out.size)); clear hb)
    | (go_at_call 15; (with_reducible refine (aw_zero _).mono ?_); rintro e w14 ⟨rfl, hb⟩; have X14 := Lib.hid (X13.out.later hb); have B14 := Lib.hid (B13.out.trans (hb.mono B13.out.size)); clear hb)
    | (go_at_call 7; (with_reducible refine (aw_same X14.out _ _).mono ?_); rintro e w15 ⟨rfl, hb⟩; have B15 := Lib.hid (B14.out.trans (hb.mono B14.out.size)); clear hb))
  go_ret
  exact ⟨rfl, B15.out⟩
end Go.Proofs.Ytegednbebmkmhaa
