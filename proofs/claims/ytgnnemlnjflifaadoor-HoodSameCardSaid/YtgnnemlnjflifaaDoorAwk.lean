/- The walk of the chapter's examples. -/
import Derived.Test.YtgnnemlnjflifaaDoorIs
namespace Go.Proofs.YtgnnemlnjflifaaDoor
open Go.RowKit

set_option maxRecDepth 100000 in
set_option maxHeartbeats 4000000 in
theorem awake_any (w : World) (hM : Mat w) : Calls Tryd.prog 4 #[] w fun e w' => e = .returned (.bool true) ∧ Below w.heap.size w w' := by
  have MH := Lib.hid (fun w' (hb : Below w.heap.size w w') => hM.below hb hM.1)
  have N1H := Lib.hid neumann1
  have N2H := Lib.hid neumann2
  have M1H := Lib.hid moore1
  have M2H := Lib.hid moore2
  have HXH := Lib.hid hex_any
  have NIL := Lib.hid hright_nil
  clear hM
  go_enter Tryd.func4, Tryd.ntmps4
  go_wp2_with fail
  go_at_call 7
  with_reducible refine (N1H.out _).mono ?_
  rintro e w1 ⟨A1, c1, rfl, hr, hb⟩
  have R1 := Lib.hid hr
  have B1 := Lib.hid hb
  obtain ⟨g, o, rfl, hg, hc⟩ := hr (by omega)
  obtain ⟨q0, q1⟩ := hc 1 (by omega)
  rw [at_N1] at q0 q1
  simp only [Nat.one_mul] at q0 q1
  clear hr hb hc
  have RN := Lib.hid (fun w' (hb : Below w1.heap.size w1 w') => hright_any (some ⟨g, o, none⟩) 5 c1 (lf N1) w' (R1.out.later hb) hd_N1)
  have SN := Lib.hid (fun w' A c (hb : Below w1.heap.size w1 w') (h : QReads w' w'.heap.size A 5 (lf N1)) => by
    have := hsame_any (some ⟨g, o, none⟩) A 5 5 c1 c (lf N1) (lf N1) w' (R1.out.later hb) h (by omega) (by omega)
    rwa [sm_self] at this)
  have SH := Lib.hid (fun w' A c (hb : Below w1.heap.size w1 w') (h : QReads w' w'.heap.size A 7 (lf HX)) => by
    have := hsame_any (some ⟨g, o, none⟩) A 5 7 c1 c (lf N1) (lf HX) w' (R1.out.later hb) h (by omega) (by omega)
    rwa [sm_NH] at this)
  clear R1
  have RAD := Lib.hid (fun A c w (h : QReads w w.heap.size A 25 (lf M2)) => by
    have := radius_any A 25 c (lf M2) w h hd_M2
    rwa [rd_M2] at this)
  go_wp2_with (first
    | (go_at_call 5; (with_reducible refine (SH.out w18 A18 c18 B18.out R18.out).mono ?_); rintro e w19 ⟨rfl, hb⟩; have B19 := Lib.hid (B18.out.trans (hb.mono B18.out.size)); clear hb)
    | (go_at_call 9; (with_reducible refine (HXH.out _).mono ?_); rintro e w18 ⟨A18, c18, rfl, hr, hb⟩; have R18 := Lib.hid hr; have B18 := Lib.hid (B17.out.trans (hb.mono B17.out.size)); clear hr hb)
    | (go_at_call 5; (with_reducible refine (SN.out w16 A16 c16 B16.out R16.out).mono ?_); rintro e w17 ⟨rfl, hb⟩; have B17 := Lib.hid (B16.out.trans (hb.mono B16.out.size)); clear hb)
    | (go_at_call 7; (with_reducible refine (N1H.out _).mono ?_); rintro e w16 ⟨A16, c16, rfl, hr, hb⟩; have R16 := Lib.hid hr; have B16 := Lib.hid (B15.out.trans (hb.mono B15.out.size)); clear hr hb)
    | (go_at_call 13; (with_reducible refine (isame_new A14 c14 2 [0, 6] #[.int .i64 0, .int .i64 6] w14 rfl rfl R14.out (by omega)).mono ?_); rintro e w15 ⟨rfl, hb⟩; have B15 := Lib.hid (B14.out.trans (hb.mono B14.out.size)); clear hb)
    | (go_at_call 14; (with_reducible refine (syms_one 1 w13 (MH.out _ (B1.out.trans (B13.out.mono B1.out.size)))).mono ?_); rintro e w14 ⟨A14, c14, rfl, hr, hb⟩; have R14 := Lib.hid hr; have B14 := Lib.hid (B13.out.trans (hb.mono B13.out.size)); clear hr hb)
    | (go_at_call 13; (with_reducible refine (isame_new A12 c12 4 [0, 2, 5, 7] #[.int .i64 0, .int .i64 2, .int .i64 5, .int .i64 7] w12 rfl rfl R12.out (by omega)).mono ?_); rintro e w13 ⟨rfl, hb⟩; have B13 := Lib.hid (B12.out.trans (hb.mono B12.out.size)); clear hb)
    | (go_at_call 14; (with_reducible refine (syms_hex A11 c11 w11 (MH.out _ (B1.out.trans (B11.out.mono B1.out.size))) R11.out).mono ?_); rintro e w12 ⟨A12, c12, rfl, hr, hb⟩; have R12 := Lib.hid hr; have B12 := Lib.hid (B11.out.trans (hb.mono B11.out.size)); clear hr hb)
    | (go_at_call 9; (with_reducible refine (HXH.out _).mono ?_); rintro e w11 ⟨A11, c11, rfl, hr, hb⟩; have R11 := Lib.hid hr; have B11 := Lib.hid (B10.out.trans (hb.mono B10.out.size)); clear hr hb)
    | (go_at_call 12; (with_reducible refine (NIL.out w9).mono ?_); rintro e w10 ⟨rfl, hb⟩; have B10 := Lib.hid (B9.out.trans (hb.mono B9.out.size)); clear hb)
    | (go_at_call 12; (with_reducible refine (RN.out w8 B8.out).mono ?_); rintro e w9 ⟨rfl, hb⟩; have B9 := Lib.hid (B8.out.trans (hb.mono B8.out.size)); clear hb)
    | (go_at_call 11; (with_reducible refine (RAD.out A7 c7 w7 R7.out).mono ?_); rintro e w8 ⟨rfl, hb⟩; have B8 := Lib.hid (B7.out.trans (hb.mono B7.out.size)); clear hb)
    | (go_at_call 8; (with_reducible refine (M2H.out _).mono ?_); rintro e w7 ⟨A7, c7, rfl, hr, hb⟩; have R7 := Lib.hid hr; have B7 := Lib.hid (B6.out.trans (hb.mono B6.out.size)); clear hr hb)
    | (go_at_call 10; (with_reducible refine (centre_any A5 9 c5 4 (lf M1) w5 R5.out hd_M1 (by omega) ce_M1 ce_M1').mono ?_); rintro e w6 ⟨rfl, hb⟩; have B6 := Lib.hid (B5.out.trans (hb.mono B5.out.size)); clear hb)
    | (go_at_call 8; (with_reducible refine (M1H.out _).mono ?_); rintro e w5 ⟨A5, c5, rfl, hr, hb⟩; have R5 := Lib.hid hr; have B5 := Lib.hid (B4.out.trans (hb.mono B4.out.size)); clear hr hb)
    | (go_at_call 9; (with_reducible refine (HXH.out _).mono ?_); rintro e w4 ⟨A4, c4, rfl, hr, hb⟩; have B4 := Lib.hid (B3.out.trans (hb.mono B3.out.size)); clear hr hb)
    | (go_at_call 7; (with_reducible refine (N2H.out _).mono ?_); rintro e w3 ⟨A3, c3, rfl, hr, hb⟩; have B3 := Lib.hid (B2.out.trans (hb.mono B2.out.size)); clear hr hb)
    | (go_at_call 8; (with_reducible refine (M2H.out _).mono ?_); rintro e w2 ⟨A2, c2, rfl, hr, hb⟩; have B2 := Lib.hid hb; clear hr hb)
    | fail)
  go_ret
  exact ⟨rfl, B1.out.trans (B19.out.mono B1.out.size)⟩
end Go.Proofs.YtgnnemlnjflifaaDoor
