/- The walk of the examples. -/
import Derived.Test.YtbbehbgfdlamfaaGex
namespace Go.Proofs.Ytbbehbgfdlamfaa
open Go.RowKit

set_option maxRecDepth 100000 in
set_option maxHeartbeats 8000000 in
theorem alive21_any (w : World) : Calls Try.prog 5 #[] w fun e w' => e = .returned (.bool true) ∧ Below w.heap.size w w' := by
  obtain ⟨H1, K1, B1, S1⟩ := two_blks w #[.int .i64 1, .int .i64 2, .int .i64 0] #[.int .i64 3, .int .i64 1, .int .i64 0, .slice (some ⟨w.heap.size, 0, none⟩) 3 3] 3 24
  go_enter Try.func5, Try.ntmps5
  go_upto_region 2 with (fail)
  generalize hga : w.heap.size = ga at *
  generalize hw1 : (w.alloc (.cells #[.int .i64 1, .int .i64 2, .int .i64 0] 3)).alloc (.cells #[.int .i64 3, .int .i64 1, .int .i64 0, .slice (some ⟨ga, 0, none⟩) 3 3] 24) = w1 at *
  have HG := Lib.hid hga
  clear hga hw1
  obtain ⟨k0, k1, k2, k3, k4⟩ := K1.four
  have q0 : ∀ o1, (w1.alloc o1).cell? ⟨ga + 1, 0, none⟩ = some (.int .i64 3) := fun o1 => (World.cell?_alloc_lt w1 o1 _ (by show ga + 1 < _; omega)).trans k0
  have r0 : ∀ o1 o2, ((w1.alloc o1).alloc o2).cell? ⟨ga + 1, 0, none⟩ = some (.int .i64 3) := fun o1 o2 => (World.cell?_alloc_lt _ o2 _ (by show ga + 1 < _; simp; omega)).trans (q0 o1)
  have q1 : ∀ o1, (w1.alloc o1).cell? ⟨ga + 1, 1, none⟩ = some (.int .i64 1) := fun o1 => (World.cell?_alloc_lt w1 o1 _ (by show ga + 1 < _; omega)).trans k1
  have r1 : ∀ o1 o2, ((w1.alloc o1).alloc o2).cell? ⟨ga + 1, 1, none⟩ = some (.int .i64 1) := fun o1 o2 => (World.cell?_alloc_lt _ o2 _ (by show ga + 1 < _; simp; omega)).trans (q1 o1)
  have q2 : ∀ o1, (w1.alloc o1).cell? ⟨ga + 1, 2, none⟩ = some (.int .i64 0) := fun o1 => (World.cell?_alloc_lt w1 o1 _ (by show ga + 1 < _; omega)).trans k2
  have r2 : ∀ o1 o2, ((w1.alloc o1).alloc o2).cell? ⟨ga + 1, 2, none⟩ = some (.int .i64 0) := fun o1 o2 => (World.cell?_alloc_lt _ o2 _ (by show ga + 1 < _; simp; omega)).trans (q2 o1)
  have q3 : ∀ o1, (w1.alloc o1).cell? ⟨ga + 1, 3, none⟩ = some (.slice (some ⟨ga, 0, none⟩) 3 3) := fun o1 => (World.cell?_alloc_lt w1 o1 _ (by show ga + 1 < _; omega)).trans k3
  have r3 : ∀ o1 o2, ((w1.alloc o1).alloc o2).cell? ⟨ga + 1, 3, none⟩ = some (.slice (some ⟨ga, 0, none⟩) 3 3) := fun o1 o2 => (World.cell?_alloc_lt _ o2 _ (by show ga + 1 < _; simp; omega)).trans (q3 o1)
  have H1 := Lib.hid H1
  have K1 := Lib.hid K1
  have B1 := Lib.hid B1
  go_cut [2, 3] from 16 to 17 (fun s2 s3 wx => ∃ gt gf : Nat, s2 = .pointer (some ⟨gt, 0, none⟩) ∧ s3 = .pointer (some ⟨gf, 0, none⟩) ∧ Blk wx gt 24 #[.int .i64 3, .int .i64 1, .int .i64 0, .slice (some ⟨ga, 0, none⟩) 3 3] ∧ Blk wx gf 24 #[.int .i64 3, .int .i64 1, .int .i64 0, .slice (some ⟨ga, 0, none⟩) 3 3] ∧ gt ≠ gf ∧ ga + 2 ≤ gt ∧ ga + 2 ≤ gf ∧ Below (ga + 2) w1 wx)
  case first =>
    go_region
    all_goals
      go_wp2_with fail
      go_meet
      obtain ⟨b1, b2, b3, b4⟩ := two_blks w1 #[.int .i64 3, .int .i64 1, .int .i64 0, .slice (some ⟨ga, 0, none⟩) 3 3] #[.int .i64 3, .int .i64 1, .int .i64 0, .slice (some ⟨ga, 0, none⟩) 3 3] 24 24
      rw [S1] at b1 b2 b3 b4
      first
        | exact ⟨_, _, rfl, rfl, b1.drew, b2.drew, by omega, by omega, by omega, b3.drew⟩
        | exact ⟨_, _, rfl, rfl, b2.drew, b1.drew, by omega, by omega, by omega, b3.drew⟩
  case rest =>
    obtain ⟨gt, gf, rfl, rfl, T2, F2, hne, ht, hf, hb2⟩ := hcut
    obtain ⟨w2, rfl⟩ : ∃ w2, w2 = wc := ⟨_, rfl⟩
    clear k0 k1 k2 k3 k4 q0 q1 q2 q3 r0 r1 r2 r3
    have B2 := Lib.hid (B1.out.trans (hb2.mono (by omega)))
    have H2 := Lib.hid (H1.out.below hb2 (by omega))
    have K2 := Lib.hid (K1.out.below hb2 (by omega))
    clear hb2 H1 K1 B1
    obtain ⟨t0, t1, t2, t3, t4, t5, t6, t7, t8⟩ := T2.four8
    go_upto_region 4 with (fail)
    have T3 : Blk (w2.setCell ⟨gt, 2, none⟩ (.int .i64 1)) gt 24 #[.int .i64 3, .int .i64 1, .int .i64 1, .slice (some ⟨ga, 0, none⟩) 3 3] := by simpa using T2.set_ 2 (.int .i64 1)
    have F3 := F2.far (p := ⟨gt, 2, none⟩) (show gf ≠ gt by omega) (.int .i64 1)
    have H3 := Lib.hid (H2.out.far (p := ⟨gt, 2, none⟩) (show ga ≠ gt by omega) (.int .i64 1))
    have K3 := Lib.hid (K2.out.far (p := ⟨gt, 2, none⟩) (show ga + 1 ≠ gt by omega) (.int .i64 1))
    have B3 := Lib.hid (B2.out.setCell (p := ⟨gt, 2, none⟩) (show ga ≤ gt by omega) (.int .i64 1))
    clear t0 t1 t2 t3 t4 t5 t6 t7 t8 T2 F2 H2 K2 B2
    generalize w2.setCell ⟨gt, 2, none⟩ (.int .i64 1) = w3 at *
    obtain ⟨t0, t1, t2, t3, t4, t5, t6, t7, t8⟩ := F3.four8
    go_upto_region 5 with (fail)
    have F4 : Blk (w3.setCell ⟨gf, 2, none⟩ (.int .i64 2)) gf 24 #[.int .i64 3, .int .i64 1, .int .i64 2, .slice (some ⟨ga, 0, none⟩) 3 3] := by simpa using F3.set_ 2 (.int .i64 2)
    have T4 := Lib.hid (T3.far (p := ⟨gf, 2, none⟩) (show gt ≠ gf by omega) (.int .i64 2))
    have H4 := Lib.hid (H3.out.far (p := ⟨gf, 2, none⟩) (show ga ≠ gf by omega) (.int .i64 2))
    have K4 := Lib.hid (K3.out.far (p := ⟨gf, 2, none⟩) (show ga + 1 ≠ gf by omega) (.int .i64 2))
    have B4 := Lib.hid (B3.out.setCell (p := ⟨gf, 2, none⟩) (show ga ≤ gf by omega) (.int .i64 2))
    clear t0 t1 t2 t3 t4 t5 t6 t7 t8 T3 F3 H3 K3 B3
    have F4 := Lib.hid F4
    generalize w3.setCell ⟨gf, 2, none⟩ (.int .i64 2) = w4 at *
    have RT := Lib.hid (fun W (hH : Blk W ga 3 #[.int .i64 1, .int .i64 2, .int .i64 0]) => roll_t ga W hH)
    have RD := Lib.hid (fun W (hH : Blk W ga 3 #[.int .i64 1, .int .i64 2, .int .i64 0]) => roll_d ga W hH)
    obtain ⟨t0, t1, t2, t3, t4⟩ := T4.out.four
    go_upto_region 6 with (go_at_call 8; (with_reducible refine (RT.out _ H4.out).mono ?_); rintro e w5 ⟨⟨A5, c5, rfl, hr⟩, hb⟩; have R5 := Lib.hid hr; have H5 := Lib.hid (H4.out.below hb H4.out.lt); have K5 := Lib.hid (K4.out.below hb K4.out.lt); have T5 := Lib.hid (T4.out.below hb T4.out.lt); have F5 := Lib.hid (F4.out.below hb F4.out.lt); have B5 := Lib.hid (B4.out.trans (hb.mono (Nat.le_of_lt H4.out.lt))); clear hr hb)
    clear t0 t1 t2 t3 t4 H4 K4 T4 F4 B4
    have L := (Below.refl w5.heap.size w5).alloc (Nat.le_refl _) (.cells #[.int .i64 3, .int .i64 1, .int .i64 1, .slice A5 3 c5] 24)
    have Q6 := Lib.hid (Blk.new w5 24 #[.int .i64 3, .int .i64 1, .int .i64 1, .slice A5 3 c5])
    have R6 := Lib.hid (R5.out.later L)
    have H6 := Lib.hid (H5.out.below L H5.out.lt)
    have K6 := Lib.hid (K5.out.below L K5.out.lt)
    have T6 := Lib.hid (T5.out.below L T5.out.lt)
    have F6 := Lib.hid (F5.out.below L F5.out.lt)
    have B6 := Lib.hid (B5.out.trans (L.mono (Nat.le_of_lt H5.out.lt)))
    clear L R5 H5 K5 T5 F5 B5
    generalize w5.alloc (.cells #[.int .i64 3, .int .i64 1, .int .i64 1, .slice A5 3 c5] 24) = w6 at *
    generalize w5.heap.size = gr at *
    obtain ⟨t0, t1, t2, t3, t4⟩ := K6.out.four
    go_upto_region 7 with (go_at_call 8; (with_reducible refine (RD.out _ H6.out).mono ?_); rintro e w7 ⟨rfl, hb⟩; have Q7 := Lib.hid (Q6.out.below hb Q6.out.lt); have R7 := Lib.hid (R6.out.later hb); have H7 := Lib.hid (H6.out.below hb H6.out.lt); have K7 := Lib.hid (K6.out.below hb K6.out.lt); have T7 := Lib.hid (T6.out.below hb T6.out.lt); have F7 := Lib.hid (F6.out.below hb F6.out.lt); have B7 := Lib.hid (B6.out.trans (hb.mono (Nat.le_of_lt H6.out.lt))); clear hb)
    clear t0 t1 t2 t3 t4 H6 K6 T6 F6 B6 R6 Q6 RT RD
    have L := (Below.refl w7.heap.size w7).alloc (Nat.le_refl _) (.cells #[.int .i64 0, .int .i64 0, .int .i64 0, .slice none 0 0] 24)
    have Q8 := Lib.hid (Q7.out.below L Q7.out.lt)
    have R8 := Lib.hid (R7.out.later L)
    have H8 := Lib.hid (H7.out.below L H7.out.lt)
    have K8 := Lib.hid (K7.out.below L K7.out.lt)
    have T8 := Lib.hid (T7.out.below L T7.out.lt)
    have F8 := Lib.hid (F7.out.below L F7.out.lt)
    have B8 := Lib.hid (B7.out.trans (L.mono (Nat.le_of_lt H7.out.lt)))
    clear L Q7 R7 H7 K7 T7 F7 B7
    generalize w7.alloc (.cells #[.int .i64 0, .int .i64 0, .int .i64 0, .slice none 0 0] 24) = w8 at *
    generalize w7.heap.size = gz at *
    have FR := Lib.hid (fun g W (hH : Blk W g 33 #[.int .i64 3, .int .i64 0, .int .i64 1]) => gfrom_no g W hH)
    go_upto_region 8 with (go_at_call 9; (with_reducible refine (FR.out _ _ (Blk.new _ _ _)).mono ?_); rintro e w9 ⟨rfl, hb⟩; have hb := ((Below.refl w8.heap.size w8).alloc (Nat.le_refl _) (.cells #[.int .i64 3, .int .i64 0, .int .i64 1] 33)).trans (hb.mono (by simp)); have Q9 := Lib.hid (Q8.out.below hb Q8.out.lt); have R9 := Lib.hid (R8.out.later hb); have H9 := Lib.hid (H8.out.below hb H8.out.lt); have K9 := Lib.hid (K8.out.below hb K8.out.lt); have T9 := Lib.hid (T8.out.below hb T8.out.lt); have F9 := Lib.hid (F8.out.below hb F8.out.lt); have B9 := Lib.hid (B8.out.trans (hb.mono (Nat.le_of_lt H8.out.lt))); clear hb)
    clear Q8 R8 H8 K8 T8 F8 B8 FR
    have L := (Below.refl w9.heap.size w9).alloc (Nat.le_refl _) (.cells #[.int .i64 0, .int .i64 0, .int .i64 0, .slice none 0 0] 24)
    have Q10 := Lib.hid (Q9.out.below L Q9.out.lt)
    have H10 := Lib.hid (H9.out.below L H9.out.lt)
    have K10 := Lib.hid (K9.out.below L K9.out.lt)
    have T10 := Lib.hid (T9.out.below L T9.out.lt)
    have F10 := Lib.hid (F9.out.below L F9.out.lt)
    have R10 := Lib.hid (R9.out.later L)
    have B10 := Lib.hid (B9.out.trans (L.mono (Nat.le_of_lt H9.out.lt)))
    clear L Q9 H9 K9 T9 F9 R9 B9
    generalize w9.alloc (.cells #[.int .i64 0, .int .i64 0, .int .i64 0, .slice none 0 0] 24) = w10 at *
    generalize w9.heap.size = gy at *
    have NW := Lib.hid (fun W => new_3 W)
    go_upto_region 9 with (go_at_call 10; (with_reducible refine (NW.out _).mono ?_); rintro e w11 ⟨⟨gn, rfl, hr⟩, hb⟩; have N11 := Lib.hid hr; have Q11 := Lib.hid (Q10.out.below hb Q10.out.lt); have H11 := Lib.hid (H10.out.below hb H10.out.lt); have K11 := Lib.hid (K10.out.below hb K10.out.lt); have T11 := Lib.hid (T10.out.below hb T10.out.lt); have F11 := Lib.hid (F10.out.below hb F10.out.lt); have R11 := Lib.hid (R10.out.later hb); have B11 := Lib.hid (B10.out.trans (hb.mono (Nat.le_of_lt H10.out.lt))); clear hr hb)
    clear Q10 H10 K10 T10 F10 R10 B10 NW
    have M12 := Lib.hid (Blk.new w11 24 #[.int .i64 3, .int .i64 1, .int .i64 0, .slice (some ⟨gn, 0, none⟩) 3 3])
    have L := (Below.refl w11.heap.size w11).alloc (Nat.le_refl _) (.cells #[.int .i64 3, .int .i64 1, .int .i64 0, .slice (some ⟨gn, 0, none⟩) 3 3] 24)
    have Q12 := Lib.hid (Q11.out.below L Q11.out.lt)
    have H12 := Lib.hid (H11.out.below L H11.out.lt)
    have K12 := Lib.hid (K11.out.below L K11.out.lt)
    have T12 := Lib.hid (T11.out.below L T11.out.lt)
    have F12 := Lib.hid (F11.out.below L F11.out.lt)
    have R12 := Lib.hid (R11.out.later L)
    have N12 := Lib.hid (N11.out.later L)
    have B12 := Lib.hid (B11.out.trans (L.mono (Nat.le_of_lt H11.out.lt)))
    clear L Q11 H11 K11 T11 F11 R11 N11 B11
    generalize w11.alloc (.cells #[.int .i64 3, .int .i64 1, .int .i64 0, .slice (some ⟨gn, 0, none⟩) 3 3] 24) = w12 at *
    generalize w11.heap.size = gm at *
    have ST := Lib.hid (fun W (hH : Reads W W.heap.size (some ⟨gn, 0, none⟩) 3 (il [0, 0, 0])) => set_3 gn W hH)
    obtain ⟨t0, t1, t2, t3, t4⟩ := M12.out.four
    go_upto_region 10 with (go_at_call 11; (with_reducible refine (ST.out _ N12.out).mono ?_); rintro e w13 ⟨⟨A13, c13, rfl, hr⟩, hb⟩; have S13 := Lib.hid hr; have Q13 := Lib.hid (Q12.out.below hb Q12.out.lt); have H13 := Lib.hid (H12.out.below hb H12.out.lt); have K13 := Lib.hid (K12.out.below hb K12.out.lt); have T13 := Lib.hid (T12.out.below hb T12.out.lt); have F13 := Lib.hid (F12.out.below hb F12.out.lt); have R13 := Lib.hid (R12.out.later hb); have B13 := Lib.hid (B12.out.trans (hb.mono (Nat.le_of_lt H12.out.lt))); clear hr hb)
    clear t0 t1 t2 t3 t4 Q12 H12 K12 T12 F12 R12 N12 B12 M12 ST
    have M14 := Lib.hid (Blk.new w13 24 #[.int .i64 3, .int .i64 1, .int .i64 0, .slice A13 3 c13])
    have L := (Below.refl w13.heap.size w13).alloc (Nat.le_refl _) (.cells #[.int .i64 3, .int .i64 1, .int .i64 0, .slice A13 3 c13] 24)
    have Q14 := Lib.hid (Q13.out.below L Q13.out.lt)
    have H14 := Lib.hid (H13.out.below L H13.out.lt)
    have K14 := Lib.hid (K13.out.below L K13.out.lt)
    have T14 := Lib.hid (T13.out.below L T13.out.lt)
    have F14 := Lib.hid (F13.out.below L F13.out.lt)
    have R14 := Lib.hid (R13.out.later L)
    have S14 := Lib.hid (S13.out.later L)
    have B14 := Lib.hid (B13.out.trans (L.mono (Nat.le_of_lt H13.out.lt)))
    clear L Q13 H13 K13 T13 F13 R13 S13 B13
    generalize w13.alloc (.cells #[.int .i64 3, .int .i64 1, .int .i64 0, .slice A13 3 c13] 24) = w14 at *
    generalize w13.heap.size = gs at *
    obtain ⟨ad5, rfl, _, _⟩ := il_at R14.out (show 0 < 3 by decide)
    have RC := Lib.hid (fun W (hr : Reads W W.heap.size (some ad5) 3 (il [0, 1, 2])) => show W.cell? ad5 = some (.int .i64 0) ∧ W.cell? (ad5.add 0) = some (.int .i64 0) ∧ W.cell? ⟨ad5.block, ad5.off + 1, none⟩ = some (.int .i64 1) from by
      obtain ⟨a0, e0, _, h0⟩ := il_at hr (show 0 < 3 by decide)
      obtain ⟨a1, e1, _, h1⟩ := il_at hr (show 1 < 3 by decide)
      injection e0 with e0
      injection e1 with e1
      subst e0
      subst e1
      exact ⟨by simpa [ig, Addr.add] using h0, by simpa [ig] using h0, by simpa [ig, Addr.add] using h1⟩)
    have Xget_d1 := Lib.hid (fun W hH => get_d1 ga W hH)
    have Xget_f1 := Lib.hid (fun W hH => get_f1 ga W hH)
    have Xget_d4 := Lib.hid (fun W hH => get_d4 ga W hH)
    have Xget_t4 := Lib.hid (fun W hH => get_t4 ga W hH)
    have Xget_f4 := Lib.hid (fun W hH => get_f4 ga W hH)
    have Xpat_d := Lib.hid (fun W hH => pat_d ga W hH)
    have Xright_d := Lib.hid (fun W hH => right_d ga W hH)
    have Xsame_dd := Lib.hid (fun W hH => same_dd ga W hH)
    have Xsame_dt := Lib.hid (fun W hH => same_dt ga W hH)
    have Xget_s := Lib.hid (fun W hS => get_s A13 c13 W hS)
    have Xright_z := Lib.hid (fun W => right_z W)
    clear hb
    obtain ⟨x0, x1, x2, x3, x4⟩ := K14.out.four
    go_wp2_with (first | (go_at_call 6; (with_reducible refine (Xsame_dt.out _ H24.out).mono ?_); rintro e v25 ⟨rfl, hb⟩; have Q25 := Lib.hid (Q24.out.below hb Q24.out.lt); have H25 := Lib.hid (H24.out.below hb H24.out.lt); have K25 := Lib.hid (K24.out.below hb K24.out.lt); have T25 := Lib.hid (T24.out.below hb T24.out.lt); have F25 := Lib.hid (F24.out.below hb F24.out.lt); have M25 := Lib.hid (M24.out.below hb M24.out.lt); have R25 := Lib.hid (R24.out.later hb); have S25 := Lib.hid (S24.out.later hb); have B25 := Lib.hid (B24.out.trans (hb.mono (Nat.le_of_lt H24.out.lt))); clear hb) | (go_at_call 6; (with_reducible refine (Xsame_dd.out _ H23.out).mono ?_); rintro e v24 ⟨rfl, hb⟩; have Q24 := Lib.hid (Q23.out.below hb Q23.out.lt); have H24 := Lib.hid (H23.out.below hb H23.out.lt); have K24 := Lib.hid (K23.out.below hb K23.out.lt); have T24 := Lib.hid (T23.out.below hb T23.out.lt); have F24 := Lib.hid (F23.out.below hb F23.out.lt); have M24 := Lib.hid (M23.out.below hb M23.out.lt); have R24 := Lib.hid (R23.out.later hb); have S24 := Lib.hid (S23.out.later hb); have B24 := Lib.hid (B23.out.trans (hb.mono (Nat.le_of_lt H23.out.lt))); obtain ⟨K24a, K24b, K24c, K24d, K24e⟩ := K24.out.four; obtain ⟨T24a, T24b, T24c, T24d, T24e⟩ := T24.out.four; clear hb) | (go_at_call 14; (with_reducible refine (Xright_z.out _).mono ?_); rintro e v23 ⟨rfl, hb⟩; have Q23 := Lib.hid (Q22.out.below hb Q22.out.lt); have H23 := Lib.hid (H22.out.below hb H22.out.lt); have K23 := Lib.hid (K22.out.below hb K22.out.lt); have T23 := Lib.hid (T22.out.below hb T22.out.lt); have F23 := Lib.hid (F22.out.below hb F22.out.lt); have M23 := Lib.hid (M22.out.below hb M22.out.lt); have R23 := Lib.hid (R22.out.later hb); have S23 := Lib.hid (S22.out.later hb); have B23 := Lib.hid (B22.out.trans (hb.mono (Nat.le_of_lt H22.out.lt))); obtain ⟨K23a, K23b, K23c, K23d, K23e⟩ := K23.out.four; clear hb) | (go_at_call 14; (with_reducible refine (Xright_d.out _ H21.out).mono ?_); rintro e v22 ⟨rfl, hb⟩; have Q22 := Lib.hid (Q21.out.below hb Q21.out.lt); have H22 := Lib.hid (H21.out.below hb H21.out.lt); have K22 := Lib.hid (K21.out.below hb K21.out.lt); have T22 := Lib.hid (T21.out.below hb T21.out.lt); have F22 := Lib.hid (F21.out.below hb F21.out.lt); have M22 := Lib.hid (M21.out.below hb M21.out.lt); have R22 := Lib.hid (R21.out.later hb); have S22 := Lib.hid (S21.out.later hb); have B22 := Lib.hid (B21.out.trans (hb.mono (Nat.le_of_lt H21.out.lt))); clear hb) | (go_at_call 13; (with_reducible refine (Xpat_d.out _ H20.out).mono ?_); rintro e v21 ⟨⟨XP, dP, rfl⟩, hb⟩; have Q21 := Lib.hid (Q20.out.below hb Q20.out.lt); have H21 := Lib.hid (H20.out.below hb H20.out.lt); have K21 := Lib.hid (K20.out.below hb K20.out.lt); have T21 := Lib.hid (T20.out.below hb T20.out.lt); have F21 := Lib.hid (F20.out.below hb F20.out.lt); have M21 := Lib.hid (M20.out.below hb M20.out.lt); have R21 := Lib.hid (R20.out.later hb); have S21 := Lib.hid (S20.out.later hb); have B21 := Lib.hid (B20.out.trans (hb.mono (Nat.le_of_lt H20.out.lt))); obtain ⟨K21a, K21b, K21c, K21d, K21e⟩ := K21.out.four; clear hb) | (go_at_call 12; (with_reducible refine (Xget_s.out _ S19.out).mono ?_); rintro e v20 ⟨rfl, hb⟩; have Q20 := Lib.hid (Q19.out.below hb Q19.out.lt); have H20 := Lib.hid (H19.out.below hb H19.out.lt); have K20 := Lib.hid (K19.out.below hb K19.out.lt); have T20 := Lib.hid (T19.out.below hb T19.out.lt); have F20 := Lib.hid (F19.out.below hb F19.out.lt); have M20 := Lib.hid (M19.out.below hb M19.out.lt); have R20 := Lib.hid (R19.out.later hb); have S20 := Lib.hid (S19.out.later hb); have B20 := Lib.hid (B19.out.trans (hb.mono (Nat.le_of_lt H19.out.lt))); obtain ⟨K20a, K20b, K20c, K20d, K20e⟩ := K20.out.four; clear hb) | (go_at_call 12; (with_reducible refine (Xget_f4.out _ H18.out).mono ?_); rintro e v19 ⟨rfl, hb⟩; have Q19 := Lib.hid (Q18.out.below hb Q18.out.lt); have H19 := Lib.hid (H18.out.below hb H18.out.lt); have K19 := Lib.hid (K18.out.below hb K18.out.lt); have T19 := Lib.hid (T18.out.below hb T18.out.lt); have F19 := Lib.hid (F18.out.below hb F18.out.lt); have M19 := Lib.hid (M18.out.below hb M18.out.lt); have R19 := Lib.hid (R18.out.later hb); have S19 := Lib.hid (S18.out.later hb); have B19 := Lib.hid (B18.out.trans (hb.mono (Nat.le_of_lt H18.out.lt))); obtain ⟨Q19a, Q19b, Q19c, Q19d, Q19e⟩ := Q19.out.four; obtain ⟨rr19a, rr19b, rr19c⟩ := RC.out _ R19.out; obtain ⟨M19a, M19b, M19c, M19d, M19e⟩ := M19.out.four; clear hb) | (go_at_call 12; (with_reducible refine (Xget_t4.out _ H17.out).mono ?_); rintro e v18 ⟨rfl, hb⟩; have Q18 := Lib.hid (Q17.out.below hb Q17.out.lt); have H18 := Lib.hid (H17.out.below hb H17.out.lt); have K18 := Lib.hid (K17.out.below hb K17.out.lt); have T18 := Lib.hid (T17.out.below hb T17.out.lt); have F18 := Lib.hid (F17.out.below hb F17.out.lt); have M18 := Lib.hid (M17.out.below hb M17.out.lt); have R18 := Lib.hid (R17.out.later hb); have S18 := Lib.hid (S17.out.later hb); have B18 := Lib.hid (B17.out.trans (hb.mono (Nat.le_of_lt H17.out.lt))); obtain ⟨F18a, F18b, F18c, F18d, F18e⟩ := F18.out.four; clear hb) | (go_at_call 12; (with_reducible refine (Xget_d4.out _ H16.out).mono ?_); rintro e v17 ⟨rfl, hb⟩; have Q17 := Lib.hid (Q16.out.below hb Q16.out.lt); have H17 := Lib.hid (H16.out.below hb H16.out.lt); have K17 := Lib.hid (K16.out.below hb K16.out.lt); have T17 := Lib.hid (T16.out.below hb T16.out.lt); have F17 := Lib.hid (F16.out.below hb F16.out.lt); have M17 := Lib.hid (M16.out.below hb M16.out.lt); have R17 := Lib.hid (R16.out.later hb); have S17 := Lib.hid (S16.out.later hb); have B17 := Lib.hid (B16.out.trans (hb.mono (Nat.le_of_lt H16.out.lt))); obtain ⟨T17a, T17b, T17c, T17d, T17e⟩ := T17.out.four; clear hb) | (go_at_call 12; (with_reducible refine (Xget_f1.out _ H15.out).mono ?_); rintro e v16 ⟨rfl, hb⟩; have Q16 := Lib.hid (Q15.out.below hb Q15.out.lt); have H16 := Lib.hid (H15.out.below hb H15.out.lt); have K16 := Lib.hid (K15.out.below hb K15.out.lt); have T16 := Lib.hid (T15.out.below hb T15.out.lt); have F16 := Lib.hid (F15.out.below hb F15.out.lt); have M16 := Lib.hid (M15.out.below hb M15.out.lt); have R16 := Lib.hid (R15.out.later hb); have S16 := Lib.hid (S15.out.later hb); have B16 := Lib.hid (B15.out.trans (hb.mono (Nat.le_of_lt H15.out.lt))); obtain ⟨K16a, K16b, K16c, K16d, K16e⟩ := K16.out.four; clear hb) | (go_at_call 12; (with_reducible refine (Xget_d1.out _ H14.out).mono ?_); rintro e v15 ⟨rfl, hb⟩; have Q15 := Lib.hid (Q14.out.below hb Q14.out.lt); have H15 := Lib.hid (H14.out.below hb H14.out.lt); have K15 := Lib.hid (K14.out.below hb K14.out.lt); have T15 := Lib.hid (T14.out.below hb T14.out.lt); have F15 := Lib.hid (F14.out.below hb F14.out.lt); have M15 := Lib.hid (M14.out.below hb M14.out.lt); have R15 := Lib.hid (R14.out.later hb); have S15 := Lib.hid (S14.out.later hb); have B15 := Lib.hid (B14.out.trans (hb.mono (Nat.le_of_lt H14.out.lt))); obtain ⟨F15a, F15b, F15c, F15d, F15e⟩ := F15.out.four; clear hb))
    go_ret
    exact ⟨rfl, by rw [HG.out]; exact B25.out⟩
end Go.Proofs.Ytbbehbgfdlamfaa
