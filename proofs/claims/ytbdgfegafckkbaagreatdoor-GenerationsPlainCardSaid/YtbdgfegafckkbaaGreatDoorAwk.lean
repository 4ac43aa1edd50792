/- The walk of the chapter's examples. -/
import Derived.Test.YtbdgfegafckkbaaGreatDoorGtext
namespace Go.Proofs.YtbdgfegafckkbaaGreatDoor
open Go.RowKit

theorem rt_ex : rt (lf M1) 9 (3 : Nat) [2] [] = true := by decide +kernel
theorem gt_ex : tx (gt (kd (lf M1) 9) [2] [] 3) = ⟨#[66, 50, 47, 83, 47, 67, 51]⟩ := by decide +kernel
section
variable (A : Option Addr) (c : Nat) (Ab : Option Addr) (cb : Nat) (As : Option Addr) (cs : Nat)
theorem text_ex (w : World) (h : TR w A 9 (lf M1) Ab 1 [2] As 0 []) :
    Calls Tryz.prog 10 #[.agg #[.slice A 9 c, .int .i64 3, .slice Ab 1 cb, .slice As 0 cs]] w fun e w' => e = .returned (.string ⟨#[66, 50, 47, 83, 47, 67, 51]⟩) ∧ Below w.heap.size w w' := by
  have := gtext_any A 9 c (lf M1) 3 Ab 1 cb [2] As 0 cs [] w h (by omega) (by omega) (by omega) (by omega) rt_ex
  rw [gt_ex] at this
  exact this
theorem next_ex0 (w : World) (h : TR w A 9 (lf M1) Ab 1 [2] As 0 []) :
    Calls Tryz.prog 8 #[.agg #[.slice A 9 c, .int .i64 3, .slice Ab 1 cb, .slice As 0 cs], .int .i64 0, .int .i64 2] w fun e w' => e = .returned (.int .i64 1) ∧ Below w.heap.size w w' := by
  have := next0_any A 9 c (lf M1) 3 Ab 1 cb [2] As 0 cs [] 2 w h (by omega) (by omega) (by omega) rt_ex
  rwa [show nx0 9 [2] 2 = 1 by decide +kernel] at this
theorem next_ex1 (w : World) (h : TR w A 9 (lf M1) Ab 1 [2] As 0 []) :
    Calls Tryz.prog 8 #[.agg #[.slice A 9 c, .int .i64 3, .slice Ab 1 cb, .slice As 0 cs], .int .i64 1, .int .i64 5] w fun e w' => e = .returned (.int .i64 2) ∧ Below w.heap.size w w' := by
  have := next1_any A 9 c (lf M1) 3 Ab 1 cb [2] As 0 cs [] 5 w h (by omega) (by omega) (by omega) rt_ex
  rwa [show nx1 9 [] 3 5 = 2 by decide +kernel] at this
theorem next_ex2 (w : World) (h : TR w A 9 (lf M1) Ab 1 [2] As 0 []) :
    Calls Tryz.prog 8 #[.agg #[.slice A 9 c, .int .i64 3, .slice Ab 1 cb, .slice As 0 cs], .int .i64 2, .int .i64 2] w fun e w' => e = .returned (.int .i64 0) ∧ Below w.heap.size w w' :=
  next2_any A 9 c (lf M1) 3 Ab 1 cb [2] As 0 cs [] w h (by omega) (by omega) (by omega) rt_ex rfl (by omega)
theorem plain_ex (w : World) (h : TR w A 9 (lf M1) Ab 1 [2] As 0 []) :
    Calls Tryz.prog 7 #[.agg #[.slice A 9 c, .int .i64 3, .slice Ab 1 cb, .slice As 0 cs]] w fun e w' => (∃ A1 c1 A2 c2 A3 c3, e = .returned (.agg #[.slice A1 9 c1, .int .i64 2, .slice A2 1 c2, .slice A3 0 c3])) ∧ Below w.heap.size w w' :=
  (gplain_any A 9 c (lf M1) 3 Ab 1 cb [2] As 0 cs [] w h (by omega) (by omega) (by omega) rt_ex).mono fun e w' ⟨A1, c1, A2, c2, A3, c3, he, _, hb⟩ => ⟨⟨A1, c1, A2, c2, A3, c3, he⟩, hb⟩
end
set_option maxRecDepth 100000 in
set_option maxHeartbeats 8000000 in
theorem awake_any (m : Int) (u : TypeId) (x : Value) (w : World) (hv : Vr m u x w) : Calls Tryz.prog 6 #[] w fun e w' => e = .returned (.bool true) ∧ Below w.heap.size w w' := by
  have E1 := Lib.hid (show ∀ w, Vr m u x w → Calls Tryz.prog 13 #[.string ⟨#[47, 50, 47, 51]⟩] w fun e w' => ∃ A c A1 c1 A2 c2, e = .returned (.tuple #[.agg #[.slice A 9 c, .int .i64 3, .slice A1 1 c1, .slice A2 0 c2], .int .i64 0]) ∧ TR w' A 9 (lf M1) A1 1 [2] A2 0 [] ∧ Below w.heap.size w w' from fun w h => gex0 m u x w h)
  have E2 := Lib.hid (show ∀ w, Vr m u x w → Calls Tryz.prog 13 #[.string ⟨#[66, 50, 47, 83, 47, 67, 51]⟩] w fun e w' => ∃ A c A1 c1 A2 c2, e = .returned (.tuple #[.agg #[.slice A 9 c, .int .i64 3, .slice A1 1 c1, .slice A2 0 c2], .int .i64 0]) ∧ TR w' A 9 (lf M1) A1 1 [2] A2 0 [] ∧ Below w.heap.size w w' from fun w h => gex1 m u x w h)
  have E3 := Lib.hid (show ∀ w, Vr m u x w → Calls Tryz.prog 13 #[.string ⟨#[66, 50, 47, 83, 47, 67, 50]⟩] w fun e w' => e = .returned (.tuple #[.agg #[.slice none 0 0, .int .i64 0, .slice none 0 0, .slice none 0 0], .int .i64 5]) ∧ Below w.heap.size w w' from fun w h => gex2 m u x w h)
  have E4 := Lib.hid (show ∀ w, Vr m u x w → Calls Tryz.prog 13 #[.string ⟨#[66, 51, 47, 83, 50, 51]⟩] w fun e w' => e = .returned (.tuple #[.agg #[.slice none 0 0, .int .i64 0, .slice none 0 0, .slice none 0 0], .int .i64 15]) ∧ Below w.heap.size w w' from fun w h => gex3 m u x w h)
  have E5 := Lib.hid (show ∀ w, Vr m u x w → Calls Tryz.prog 13 #[.string ⟨#[66, 50, 47, 83, 51, 52, 53, 47, 67, 52, 86]⟩] w fun e w' => e = .returned (.tuple #[.agg #[.slice none 0 0, .int .i64 0, .slice none 0 0, .slice none 0 0], .int .i64 5]) ∧ Below w.heap.size w w' from fun w h => gex4 m u x w h)
  have hfd : ∀ (a b c d : Value) (w : World), (Instr.field 25 (.agg #[a, b, c, d]) 1).run Tryz.prog w = .ok b w := fun _ _ _ _ _ => by kernel_rfl
  have HV := Lib.hid hv
  clear hv
  go_enter Tryz.func6, Tryz.ntmps6
  go_wp2_with fail
  go_at_call 13
  with_reducible refine (E1.out _ HV.out).mono ?_
  rintro e w1 ⟨A1, c1, Ab1, cb1, As1, cs1, rfl, hr, hb⟩
  have K1 := Blk.new w1 25 #[.slice A1 9 c1, .int .i64 3, .slice Ab1 1 cb1, .slice As1 0 cs1]
  have X1 := hb.alloc hb.size (.cells #[.slice A1 9 c1, .int .i64 3, .slice Ab1 1 cb1, .slice As1 0 cs1] 25)
  have T1 := hr.later ((Below.refl w1.heap.size w1).alloc (Nat.le_refl _) (.cells #[.slice A1 9 c1, .int .i64 3, .slice Ab1 1 cb1, .slice As1 0 cs1] 25))
  clear hr hb
  go_wp2_with fail
  generalize w1.alloc (.cells #[.slice A1 9 c1, .int .i64 3, .slice Ab1 1 cb1, .slice As1 0 cs1] 25) = W1 at K1 X1 T1 ⊢
  generalize w1.heap.size = g1 at K1 ⊢
  have HX1 := Lib.hid X1
  have HV1 := Lib.hid (HV.out.later X1)
  have HK1 := Lib.hid (fun w' (hb : Below W1.heap.size W1 w') => K1.below' hb)
  have HT1 := Lib.hid (fun w' (hb : Below W1.heap.size W1 w') => T1.later hb)
  clear K1 X1 T1
  go_at_call 13
  with_reducible refine (E2.out _ HV1.out).mono ?_
  rintro e w2 ⟨A2, c2, Ab2, cb2, As2, cs2, rfl, hr, hb⟩
  have K2 := Blk.new w2 25 #[.slice A2 9 c2, .int .i64 3, .slice Ab2 1 cb2, .slice As2 0 cs2]
  have X2 := hb.alloc hb.size (.cells #[.slice A2 9 c2, .int .i64 3, .slice Ab2 1 cb2, .slice As2 0 cs2] 25)
  have T2 := hr.later ((Below.refl w2.heap.size w2).alloc (Nat.le_refl _) (.cells #[.slice A2 9 c2, .int .i64 3, .slice Ab2 1 cb2, .slice As2 0 cs2] 25))
  clear hr hb
  go_wp2_with fail
  generalize w2.alloc (.cells #[.slice A2 9 c2, .int .i64 3, .slice Ab2 1 cb2, .slice As2 0 cs2] 25) = W2 at K2 X2 T2 ⊢
  generalize w2.heap.size = g2 at K2 ⊢
  have HX2 := Lib.hid X2
  have HV2 := Lib.hid (HV1.out.later X2)
  have HK2 := Lib.hid (fun w' (hb : Below W2.heap.size W2 w') => K2.below' hb)
  have HT2 := Lib.hid (fun w' (hb : Below W2.heap.size W2 w') => T2.later hb)
  clear K2 X2 T2
  have C12 := Lib.hid (fun w' (hb : Below W2.heap.size W2 w') => HX2.out.trans (hb.mono HX2.out.size))
  go_upto_region 8 with (first
    | (go_at_call 13; (with_reducible refine (E5.out _ (HV2.out.later X4.out)).mono ?_); rintro e w5 ⟨rfl, hb⟩; have X5 := Lib.hid ((X4.out.trans (hb.mono X4.out.size)).alloc (X4.out.trans (hb.mono X4.out.size)).size (.cells #[.slice none 0 0, .int .i64 0, .slice none 0 0, .slice none 0 0] 25)); obtain ⟨k0, k1, k2, k3, k4⟩ := (HK1.out _ (C12.out _ (X4.out.trans (hb.mono X4.out.size)))).four; clear hb)
    | (go_at_call 13; (with_reducible refine (E4.out _ (HV2.out.later X3.out)).mono ?_); rintro e w4 ⟨rfl, hb⟩; have X4 := Lib.hid ((X3.out.trans (hb.mono X3.out.size)).alloc (X3.out.trans (hb.mono X3.out.size)).size (.cells #[.slice none 0 0, .int .i64 0, .slice none 0 0, .slice none 0 0] 25)); clear hb)
    | (go_at_call 13; (with_reducible refine (E3.out _ HV2.out).mono ?_); rintro e w3 ⟨rfl, hb⟩; have X3 := Lib.hid (hb.alloc hb.size (.cells #[.slice none 0 0, .int .i64 0, .slice none 0 0, .slice none 0 0] 25)); clear hb))
  have Y5 := X5.out
  clear k0 k1 k2 k3 k4
  generalize w5.alloc (.cells #[.slice none 0 0, .int .i64 0, .slice none 0 0, .slice none 0 0] 25) = W5 at Y5 ⊢
  have HY5 := Lib.hid Y5
  clear Y5
  have D2 := Lib.hid (fun w' (hb : Below W5.heap.size W5 w') => HY5.out.trans (hb.mono HY5.out.size))
  have D1 := Lib.hid (fun w' (hb : Below W5.heap.size W5 w') => C12.out w' (D2.out w' hb))
  have SA := Lib.hid (fun w' (hb : Below W5.heap.size W5 w') => rsameT_yes A1 A2 9 c1 c2 (lf M1) 3 Ab1 Ab2 1 cb1 cb2 [2] As1 As2 0 cs1 cs2 [] w' (HT1.out w' (D1.out w' hb)) (HT2.out w' (D2.out w' hb)) (by omega) (by omega) (by omega))
  have TA := Lib.hid (fun w' (hb : Below W5.heap.size W5 w') => text_ex A1 c1 Ab1 cb1 As1 cs1 w' (HT1.out w' (D1.out w' hb)))
  have N0 := Lib.hid (fun w' (hb : Below W5.heap.size W5 w') => next_ex0 A1 c1 Ab1 cb1 As1 cs1 w' (HT1.out w' (D1.out w' hb)))
  have N1 := Lib.hid (fun w' (hb : Below W5.heap.size W5 w') => next_ex1 A1 c1 Ab1 cb1 As1 cs1 w' (HT1.out w' (D1.out w' hb)))
  have N2 := Lib.hid (fun w' (hb : Below W5.heap.size W5 w') => next_ex2 A1 c1 Ab1 cb1 As1 cs1 w' (HT1.out w' (D1.out w' hb)))
  have PA := Lib.hid (fun w' (hb : Below W5.heap.size W5 w') => plain_ex A1 c1 Ab1 cb1 As1 cs1 w' (HT1.out w' (D1.out w' hb)))
  clear E1 E2 E3 E4 E5
  obtain ⟨p0, p1, p2, p3, p4⟩ := (HK1.out W5 (D1.out W5 (Below.refl _ _))).four
  obtain ⟨v0, v1, v2, v3, v4⟩ := (HK2.out W5 (D2.out W5 (Below.refl _ _))).four
  go_wp2_with (first
    | (go_at_call 7; (with_reducible refine (PA.out _ Y5.out).mono ?_); rintro e x6 ⟨⟨A9, c9, Ab9, cb9, As9, cs9, rfl⟩, hb⟩; have Y6 := Lib.hid (Y5.out.trans (hb.mono Y5.out.size)); clear hb)
    | (go_at_call 8; (with_reducible refine (N2.out _ Y4.out).mono ?_); rintro e x5 ⟨rfl, hb⟩; have Y5 := Lib.hid (Y4.out.trans (hb.mono Y4.out.size)); obtain ⟨p0, p1, p2, p3, p4⟩ := (HK1.out _ (D1.out _ Y5.out)).four; clear hb)
    | (go_at_call 8; (with_reducible refine (N1.out _ Y3.out).mono ?_); rintro e x4 ⟨rfl, hb⟩; have Y4 := Lib.hid (Y3.out.trans (hb.mono Y3.out.size)); obtain ⟨p0, p1, p2, p3, p4⟩ := (HK1.out _ (D1.out _ Y4.out)).four; clear hb)
    | (go_at_call 8; (with_reducible refine (N0.out _ Y2.out).mono ?_); rintro e x3 ⟨rfl, hb⟩; have Y3 := Lib.hid (Y2.out.trans (hb.mono Y2.out.size)); obtain ⟨p0, p1, p2, p3, p4⟩ := (HK1.out _ (D1.out _ Y3.out)).four; clear hb)
    | (go_at_call 10; (with_reducible refine (TA.out _ Y1.out).mono ?_); rintro e x2 ⟨rfl, hb⟩; have Y2 := Lib.hid (Y1.out.trans (hb.mono Y1.out.size)); obtain ⟨p0, p1, p2, p3, p4⟩ := (HK1.out _ (D1.out _ Y2.out)).four; clear hb)
    | (go_at_call 14; (with_reducible refine (SA.out _ (Below.refl _ _)).mono ?_); rintro e x1 ⟨rfl, hb⟩; have Y1 := Lib.hid (hb); obtain ⟨p0, p1, p2, p3, p4⟩ := (HK1.out _ (D1.out _ Y1.out)).four; clear hb))
  go_ret
  have Z2 := D2.out _ Y6.out
  exact ⟨rfl, HX1.out.trans ((HX2.out.trans (Z2.mono HX2.out.size)).mono HX1.out.size)⟩
end Go.Proofs.YtbdgfegafckkbaaGreatDoor
