/- The walk of the examples. -/
import Derived.Test.YtaicehkphokacaaMbk
import Derived.Deep.RegionHeldLaw
namespace Go.Proofs.Ytaicehkphokacaa
open Go.RowKit

set_option maxRecDepth 100000 in
set_option maxHeartbeats 16000000 in
theorem awake20_any (w : World) : Calls Try.prog 9 #[] w fun e w' => e = .returned (.bool true) ∧ Below w.heap.size w w' := by
  have PA := Lib.hid (parity_any w)
  go_enter Try.func9, Try.ntmps9
  go_upto_region 2 with (go_at_call 22; (with_reducible refine (PA.out).mono ?_); rintro e w1 ⟨gh, gn, rfl, hts, hb⟩; have T1 := Lib.hid hts; have B1 := Lib.hid hb; clear hts hb)
  have KT := Blk.new w1 25 #[.int .i64 2, .slice (some ⟨gh, 0, none⟩) 2 2, .slice (some ⟨gn, 0, none⟩) 3 3]
  have B2 := Lib.hid (B1.out.alloc B1.out.size (.cells #[.int .i64 2, .slice (some ⟨gh, 0, none⟩) 2 2, .slice (some ⟨gn, 0, none⟩) 3 3] 25))
  have A2 := (Below.refl w1.heap.size w1).alloc (Nat.le_refl _) (.cells #[.int .i64 2, .slice (some ⟨gh, 0, none⟩) 2 2, .slice (some ⟨gn, 0, none⟩) 3 3] 25)
  have T2 := Lib.hid (T1.out.later A2)
  clear A2 PA T1
  generalize w1.alloc (.cells #[.int .i64 2, .slice (some ⟨gh, 0, none⟩) 2 2, .slice (some ⟨gn, 0, none⟩) 3 3] 25) = w2 at *
  generalize w1.heap.size = g at *
  obtain ⟨t0, t1, t2, _, _, _, t3⟩ := KT.three6
  have KT := Lib.hid KT
  have Z2 := Lib.hid (Below.refl w2.heap.size w2)
  have KP := Lib.hid (fun W (hb : Below w2.heap.size w2 W) => show W.cell? ⟨g, 0, none⟩ = some (.int .i64 2) ∧ W.cell? ⟨g, 1, none⟩ = some (.slice (some ⟨gh, 0, none⟩) 2 2) ∧ W.cell? ⟨g, 2, none⟩ = some (.slice (some ⟨gn, 0, none⟩) 3 3) from by
    obtain ⟨k0, k1, k2, _, _, _, _⟩ := (KT.out.below hb KT.out.lt).three6
    exact ⟨k0, k1, k2⟩)
  have L1 := Lib.hid (fun gx W (hb : Below w2.heap.size w2 W) (hk : Blk W gx 52 #[.int .i64 3, .int .i64 0]) => show Calls Try.prog 23 #[.slice (some ⟨gx, 0, none⟩) 1 1] W fun e W' => ∃ X d, e = .returned (.slice X 1 d) ∧ CReads W' W'.heap.size X 1 (fun k => ([(3, 0, 1)] : List C3).getD k (0, 0, 0)) ∧ Below w2.heap.size w2 W' from (life_1 gx 3 0 W hk).mono fun e W' ⟨X, d, h1, h2, h3⟩ => ⟨X, d, h1, h2, hb.trans (h3.mono hb.size)⟩)
  have XS := Lib.hid (fun W X c (hb : Below w2.heap.size w2 W) (hp : CReads W W.heap.size X 1 (fun k => ([(3, 0, 1)] : List C3).getD k (0, 0, 0))) => show Calls Try.prog 11 #[.agg #[.int .i64 2, .slice (some ⟨gh, 0, none⟩) 2 2, .slice (some ⟨gn, 0, none⟩) 3 3], .slice X 1 c] W fun e W' => ∃ Y d, e = .returned (.tuple #[.slice Y 2 d, .int .i64 0]) ∧ CReads W' W'.heap.size Y 2 (fun k => ([(2, 0, 1), (3, 0, 1)] : List C3).getD k (0, 0, 0)) ∧ Below w2.heap.size w2 W' from (x_step _ _ X 2 3 c W (T2.out.later hb) hp).mono fun e W' ⟨Y, d, h1, h2, h3⟩ => ⟨Y, d, h1, h2, hb.trans (h3.mono hb.size)⟩)
  go_cut [2, 3] from 15 to 22 (fun s2 s3 wx => ∃ Y d, s2 = .slice Y 2 d ∧ s3 = .int .i64 0 ∧ CReads wx wx.heap.size Y 2 (fun k => ([(2, 0, 1), (3, 0, 1)] : List C3).getD k (0, 0, 0)) ∧ Below w2.heap.size w2 wx)
  case first =>
    go_region_held_law (fun W => W.cell? ⟨g, 0, none⟩ = some (.int .i64 2) ∧ W.cell? ⟨g, 1, none⟩ = some (.slice (some ⟨gh, 0, none⟩) 2 2) ∧ W.cell? ⟨g, 2, none⟩ = some (.slice (some ⟨gn, 0, none⟩) 3 3))
      (first | exact ⟨t0, t1, t2⟩ | exact KP.out _ Z2.out | exact KP.out _ Z2.out.drew | exact KP.out _ Z3.out | exact KP.out _ Z4.out | (refine KP.out _ ?_; (first | exact Z2.out | exact Z2.out.drew | exact Below.alloc' Z2.out _ | exact (Below.alloc' Z2.out _).drew | exact Below.alloc' Z2.out.drew _)) | go_keep)
      (first
      | (go_at_call 11; (with_reducible refine (XS.out _ _ _ Z3.out C3.out).mono ?_); rintro e w4 ⟨Y4, d4, rfl, hr, hb⟩; have C4 := Lib.hid hr; have Z4 := Lib.hid hb; clear hr hb)
      | (go_at_call 23; (with_reducible refine (L1.out _ _ (by first | exact Z2.out | exact Z2.out.drew | exact Below.alloc' Z2.out _ | exact (Below.alloc' Z2.out _).drew | exact Below.alloc' Z2.out.drew _) (by first | exact Blk.new _ _ _ | exact (Blk.new _ _ _).drew)).mono ?_); rintro e w3 ⟨X3, d3, rfl, hr, hb⟩; have C3 := Lib.hid hr; have Z3 := Lib.hid hb; clear hr hb))
    all_goals
      go_wp2_with fail
      go_meet
      exact ⟨Y4, d4, rfl, rfl, C4.out, Z4.out⟩
  case rest =>
    obtain ⟨w5, hwn⟩ : ∃ w0, w0 = wc := ⟨_, rfl⟩
    subst hwn
    obtain ⟨Y1, e1, rfl, rfl, hc, hb⟩ := hcut
    have KT := Lib.hid (KT.out.below hb KT.out.lt)
    have T2 := Lib.hid (T2.out.later hb)
    have B2 := Lib.hid (B2.out.trans (hb.mono B2.out.size))
    have CP := Lib.hid hc
    clear hc L1 XS
    clear hb t0 t1 t2 t3 KP Z2
    obtain ⟨t0, t1, t2, _, _, _, t3⟩ := KT.out.three6
    have Z2 := Lib.hid (Below.refl w5.heap.size w5)
    have KP := Lib.hid (fun W (hb : Below w5.heap.size w5 W) => show W.cell? ⟨g, 0, none⟩ = some (.int .i64 2) ∧ W.cell? ⟨g, 1, none⟩ = some (.slice (some ⟨gh, 0, none⟩) 2 2) ∧ W.cell? ⟨g, 2, none⟩ = some (.slice (some ⟨gn, 0, none⟩) 3 3) from by
      obtain ⟨k0, k1, k2, _, _, _, _⟩ := (KT.out.below hb KT.out.lt).three6
      exact ⟨k0, k1, k2⟩)
    have L1 := Lib.hid (fun gx W (hb : Below w5.heap.size w5 W) (hk : Blk W gx 52 #[.int .i64 3, .int .i64 0]) => show Calls Try.prog 23 #[.slice (some ⟨gx, 0, none⟩) 1 1] W fun e W' => ∃ X d, e = .returned (.slice X 1 d) ∧ CReads W' W'.heap.size X 1 (fun k => ([(3, 0, 1)] : List C3).getD k (0, 0, 0)) ∧ Below w5.heap.size w5 W' from (life_1 gx 3 0 W hk).mono fun e W' ⟨X, d, h1, h2, h3⟩ => ⟨X, d, h1, h2, hb.trans (h3.mono hb.size)⟩)
    have XR := Lib.hid (fun W X c (hb : Below w5.heap.size w5 W) (hp : CReads W W.heap.size X 1 (fun k => ([(3, 0, 1)] : List C3).getD k (0, 0, 0))) => show Calls Try.prog 24 #[.agg #[.int .i64 2, .slice (some ⟨gh, 0, none⟩) 2 2, .slice (some ⟨gn, 0, none⟩) 3 3], .slice X 1 c, .int .i64 2] W fun e W' => ∃ Y d, e = .returned (.tuple #[.slice Y 2 d, .int .i64 0]) ∧ CReads W' W'.heap.size Y 2 (fun k => ([(1, 0, 1), (3, 0, 1)] : List C3).getD k (0, 0, 0)) ∧ Below w5.heap.size w5 W' from (x_run _ _ X 2 3 c W (T2.out.later hb) hp).mono fun e W' ⟨Y, d, h1, h2, h3⟩ => ⟨Y, d, h1, h2, hb.trans (h3.mono hb.size)⟩)
    go_upto_region 3 with (fail)
    go_cut [4, 5] from 23 to 30 (fun s4 s5 wx => ∃ Y d, s4 = .slice Y 2 d ∧ s5 = .int .i64 0 ∧ CReads wx wx.heap.size Y 2 (fun k => ([(1, 0, 1), (3, 0, 1)] : List C3).getD k (0, 0, 0)) ∧ Below w5.heap.size w5 wx)
    case first =>
      go_region_held_law (fun W => W.cell? ⟨g, 0, none⟩ = some (.int .i64 2) ∧ W.cell? ⟨g, 1, none⟩ = some (.slice (some ⟨gh, 0, none⟩) 2 2) ∧ W.cell? ⟨g, 2, none⟩ = some (.slice (some ⟨gn, 0, none⟩) 3 3))
        (first | exact ⟨t0, t1, t2⟩ | exact KP.out _ Z2.out | exact KP.out _ Z2.out.drew | exact KP.out _ Z3.out | exact KP.out _ Z4.out | (refine KP.out _ ?_; (first | exact Z2.out | exact Z2.out.drew | exact Below.alloc' Z2.out _ | exact (Below.alloc' Z2.out _).drew | exact Below.alloc' Z2.out.drew _)) | go_keep)
        (first
        | (go_at_call 24; (with_reducible refine (XR.out _ _ _ Z3.out C3.out).mono ?_); rintro e w4 ⟨Y4, d4, rfl, hr, hb⟩; have C4 := Lib.hid hr; have Z4 := Lib.hid hb; clear hr hb)
        | (go_at_call 23; (with_reducible refine (L1.out _ _ (by first | exact Z2.out | exact Z2.out.drew | exact Below.alloc' Z2.out _ | exact (Below.alloc' Z2.out _).drew | exact Below.alloc' Z2.out.drew _) (by first | exact Blk.new _ _ _ | exact (Blk.new _ _ _).drew)).mono ?_); rintro e w3 ⟨X3, d3, rfl, hr, hb⟩; have C3 := Lib.hid hr; have Z3 := Lib.hid hb; clear hr hb))
      all_goals
        go_wp2_with fail
        go_meet
        exact ⟨Y4, d4, rfl, rfl, C4.out, Z4.out⟩
    case rest =>
      obtain ⟨w6, hwn⟩ : ∃ w0, w0 = wc := ⟨_, rfl⟩
      subst hwn
      obtain ⟨Y2, e2, rfl, rfl, hc, hb⟩ := hcut
      have KT := Lib.hid (KT.out.below hb KT.out.lt)
      have T2 := Lib.hid (T2.out.later hb)
      have B2 := Lib.hid (B2.out.trans (hb.mono B2.out.size))
      have CP := Lib.hid (CP.out.later hb)
      have CQ := Lib.hid hc
      clear hc L1 XR
      clear hb t0 t1 t2 t3 KP Z2
      obtain ⟨t0, t1, t2, _, _, _, t3⟩ := KT.out.three6
      have Z2 := Lib.hid (Below.refl w6.heap.size w6)
      have KP := Lib.hid (fun W (hb : Below w6.heap.size w6 W) => show W.cell? ⟨g, 0, none⟩ = some (.int .i64 2) ∧ W.cell? ⟨g, 1, none⟩ = some (.slice (some ⟨gh, 0, none⟩) 2 2) ∧ W.cell? ⟨g, 2, none⟩ = some (.slice (some ⟨gn, 0, none⟩) 3 3) from by
        obtain ⟨k0, k1, k2, _, _, _, _⟩ := (KT.out.below hb KT.out.lt).three6
        exact ⟨k0, k1, k2⟩)
      have XH := Lib.hid (fun W (hb : Below w6.heap.size w6 W) => show Calls Try.prog 25 #[.agg #[.int .i64 2, .slice (some ⟨gh, 0, none⟩) 2 2, .slice (some ⟨gn, 0, none⟩) 3 3], .slice none 0 0, .int .i64 3] W fun e W' => ∃ Y d, e = .returned (.tuple #[.slice Y 4 d, .int .i64 0]) ∧ Below w6.heap.size w6 W' from (x_hist _ _ 2 3 W (T2.out.later hb)).mono fun e W' ⟨Y, d, h1, h3⟩ => ⟨Y, d, h1, hb.trans (h3.mono hb.size)⟩)
      go_upto_region 5 with (go_at_call 25; (with_reducible refine (XH.out _ Z2.out).mono ?_); rintro e w7 ⟨Y3, e3, rfl, hb⟩; have Z7 := Lib.hid hb; have KT := Lib.hid (KT.out.below hb KT.out.lt); have T2 := Lib.hid (T2.out.later hb); have B2 := Lib.hid (B2.out.trans (hb.mono B2.out.size)); have CP := Lib.hid (CP.out.later hb); have CQ := Lib.hid (CQ.out.later hb); clear hb)
      clear t0 t1 t2 t3 KP Z2 XH Z7
      obtain ⟨t0, t1, t2, _, _, _, t3⟩ := KT.out.three6
      have Z2 := Lib.hid (Below.refl w7.heap.size w7)
      have KP := Lib.hid (fun W (hb : Below w7.heap.size w7 W) => show W.cell? ⟨g, 0, none⟩ = some (.int .i64 2) ∧ W.cell? ⟨g, 1, none⟩ = some (.slice (some ⟨gh, 0, none⟩) 2 2) ∧ W.cell? ⟨g, 2, none⟩ = some (.slice (some ⟨gn, 0, none⟩) 3 3) from by
        obtain ⟨k0, k1, k2, _, _, _, _⟩ := (KT.out.below hb KT.out.lt).three6
        exact ⟨k0, k1, k2⟩)
      have L1 := Lib.hid (fun gx W (hb : Below w7.heap.size w7 W) (hk : Blk W gx 52 #[.int .i64 3, .int .i64 0]) => show Calls Try.prog 23 #[.slice (some ⟨gx, 0, none⟩) 1 1] W fun e W' => ∃ X d, e = .returned (.slice X 1 d) ∧ CReads W' W'.heap.size X 1 (fun k => ([(3, 0, 1)] : List C3).getD k (0, 0, 0)) ∧ Below w7.heap.size w7 W' from (life_1 gx 3 0 W hk).mono fun e W' ⟨X, d, h1, h2, h3⟩ => ⟨X, d, h1, h2, hb.trans (h3.mono hb.size)⟩)
      have XN := Lib.hid (fun W X c (hb : Below w7.heap.size w7 W) (hp : CReads W W.heap.size X 1 (fun k => ([(3, 0, 1)] : List C3).getD k (0, 0, 0))) => show Calls Try.prog 26 #[.agg #[.int .i64 2, .slice (some ⟨gh, 0, none⟩) 2 2, .slice (some ⟨gn, 0, none⟩) 3 3], .slice X 1 c, .int .i64 2, .int .i64 0] W fun e W' => e = .returned (.tuple #[.int .i64 1, .int .i64 0]) ∧ Below w7.heap.size w7 W' from (next_ex _ _ X 2 3 c W (T2.out.later hb) hp).mono fun e W' ⟨h1, h3⟩ => ⟨h1, hb.trans (h3.mono hb.size)⟩)
      go_cut [8, 9] from 36 to 43 (fun s8 s9 wx => s8 = .int .i64 1 ∧ s9 = .int .i64 0 ∧ Below w7.heap.size w7 wx)
      case first =>
        go_region_held_law (fun W => W.cell? ⟨g, 0, none⟩ = some (.int .i64 2) ∧ W.cell? ⟨g, 1, none⟩ = some (.slice (some ⟨gh, 0, none⟩) 2 2) ∧ W.cell? ⟨g, 2, none⟩ = some (.slice (some ⟨gn, 0, none⟩) 3 3))
          (first | exact ⟨t0, t1, t2⟩ | exact KP.out _ Z2.out | exact KP.out _ Z2.out.drew | exact KP.out _ Z3.out | exact KP.out _ Z4.out | (refine KP.out _ ?_; (first | exact Z2.out | exact Z2.out.drew | exact Below.alloc' Z2.out _ | exact (Below.alloc' Z2.out _).drew | exact Below.alloc' Z2.out.drew _)) | go_keep)
          (first
          | (go_at_call 26; (with_reducible refine (XN.out _ _ _ Z3.out C3.out).mono ?_); rintro e w4 ⟨rfl, hb⟩; have Z4 := Lib.hid hb; clear hb)
          | (go_at_call 23; (with_reducible refine (L1.out _ _ (by first | exact Z2.out | exact Z2.out.drew | exact Below.alloc' Z2.out _ | exact (Below.alloc' Z2.out _).drew | exact Below.alloc' Z2.out.drew _) (by first | exact Blk.new _ _ _ | exact (Blk.new _ _ _).drew)).mono ?_); rintro e w3 ⟨X3, d3, rfl, hr, hb⟩; have C3 := Lib.hid hr; have Z3 := Lib.hid hb; clear hr hb))
        all_goals
          go_wp2_with fail
          go_meet
          exact ⟨rfl, rfl, Z4.out⟩
      case rest =>
        obtain ⟨w8, hwn⟩ : ∃ w0, w0 = wc := ⟨_, rfl⟩
        subst hwn
        obtain ⟨rfl, rfl, hb⟩ := hcut
        have KT := Lib.hid (KT.out.below hb KT.out.lt)
        have T2 := Lib.hid (T2.out.later hb)
        have B2 := Lib.hid (B2.out.trans (hb.mono B2.out.size))
        have CP := Lib.hid (CP.out.later hb)
        have CQ := Lib.hid (CQ.out.later hb)
        clear L1 XN
        clear hb t0 t1 t2 t3 KP Z2
        obtain ⟨t0, t1, t2, _, _, _, t3⟩ := KT.out.three6
        have Z2 := Lib.hid (Below.refl w8.heap.size w8)
        have XG := Lib.hid (fun W (hb : Below w8.heap.size w8 W) => show Calls Try.prog 24 #[.agg #[.int .i64 2, .slice (some ⟨gh, 0, none⟩) 2 2, .slice (some ⟨gn, 0, none⟩) 3 3], .slice none 0 0, .int .i64 (-1)] W fun e W' => e = .returned (.tuple #[.slice none 0 0, .int .i64 2]) ∧ Below w8.heap.size w8 W' from (x_neg _ _ 2 3 W (T2.out.later hb)).mono fun e W' ⟨h1, h3⟩ => ⟨h1, hb.trans (h3.mono hb.size)⟩)
        have XZ := Lib.hid (fun W (hb : Below w8.heap.size w8 W) => show Calls Try.prog 11 #[.agg #[.int .i64 0, .slice none 0 0, .slice none 0 0], .slice none 0 0] W fun e W' => e = .returned (.tuple #[.slice none 0 0, .int .i64 11]) ∧ Below w8.heap.size w8 W' from (step_z W).mono fun e W' ⟨h1, h3⟩ => ⟨h1, hb.trans (h3.mono hb.size)⟩)
        go_upto_region 7 with (go_at_call 11; (with_reducible refine (XZ.out _ Z2.out).mono ?_); rintro e w9 ⟨rfl, hb⟩; have Z9 := Lib.hid hb; clear hb)
        clear t0 t1 t2 t3
        obtain ⟨t0, t1, t2, _, _, _, t3⟩ := (KT.out.below Z9.out KT.out.lt).three6
        go_upto_region 8 with (go_at_call 24; (with_reducible refine (XG.out _ Z9.out).mono ?_); rintro e wa ⟨rfl, hb⟩; have Za := Lib.hid hb; have CP := Lib.hid (CP.out.later hb); have CQ := Lib.hid (CQ.out.later hb); have B2 := Lib.hid (B2.out.trans (hb.mono B2.out.size)); clear hb)
        clear t0 t1 t2 t3 KT T2 Z2 Z9 Za XG XZ
        have L2 := Lib.hid (fun gx W x (hb : Below wa.heap.size wa W) (hk : Blk W gx 52 #[.int .i64 x, .int .i64 0, .int .i64 3, .int .i64 0]) => show Calls Try.prog 23 #[.slice (some ⟨gx, 0, none⟩) 2 2] W fun e W' => ∃ X d, e = .returned (.slice X 2 d) ∧ CReads W' W'.heap.size X 2 (fun k => ([(x, 0, 1), (3, 0, 1)] : List C3).getD k (0, 0, 0)) ∧ Below wa.heap.size wa W' from (life_2 gx x 0 3 0 W hk).mono fun e W' ⟨X, d, h1, h2, h3⟩ => ⟨X, d, h1, h2, hb.trans (h3.mono hb.size)⟩)
        have SP := Lib.hid (fun X d W (hb : Below wa.heap.size wa W) (hr : CReads W W.heap.size X 2 (fun k => ([(2, 0, 1), (3, 0, 1)] : List C3).getD k (0, 0, 0))) => show Calls Try.prog 12 #[.slice Y1 2 e1, .slice X 2 d] W fun e W' => e = .returned (.bool true) ∧ Below wa.heap.size wa W' from (rsame_yes Y1 X 2 e1 d (fun k => ([(2, 0, 1), (3, 0, 1)] : List C3).getD k (0, 0, 0)) (fun k => ([(2, 0, 1), (3, 0, 1)] : List C3).getD k (0, 0, 0)) W (CP.out.later hb) hr (by decide) (fun _ _ => rfl)).mono fun e W' ⟨h1, h3⟩ => ⟨h1, hb.trans (h3.mono hb.size)⟩)
        have SQ := Lib.hid (fun X d W (hb : Below wa.heap.size wa W) (hr : CReads W W.heap.size X 2 (fun k => ([(1, 0, 1), (3, 0, 1)] : List C3).getD k (0, 0, 0))) => show Calls Try.prog 12 #[.slice Y2 2 e2, .slice X 2 d] W fun e W' => e = .returned (.bool true) ∧ Below wa.heap.size wa W' from (rsame_yes Y2 X 2 e2 d (fun k => ([(1, 0, 1), (3, 0, 1)] : List C3).getD k (0, 0, 0)) (fun k => ([(1, 0, 1), (3, 0, 1)] : List C3).getD k (0, 0, 0)) W (CQ.out.later hb) hr (by decide) (fun _ _ => rfl)).mono fun e W' ⟨h1, h3⟩ => ⟨h1, hb.trans (h3.mono hb.size)⟩)
        clear CP CQ
        have Z2 := Lib.hid (Below.refl wa.heap.size wa)
        go_wp2_with (first
          | (go_at_call 12; (with_reducible refine (SQ.out _ _ _ Z5.out C5.out).mono ?_); rintro e w6 ⟨rfl, hb⟩; have Z6 := Lib.hid hb; clear hb)
          | (go_at_call 23; (with_reducible refine (L2.out _ _ _ (Below.alloc' Z4.out _) (Blk.new _ _ _)).mono ?_); rintro e w5 ⟨X5, d5, rfl, hr, hb⟩; have C5 := Lib.hid hr; have Z5 := Lib.hid hb; clear hr hb)
          | (go_at_call 12; (with_reducible refine (SP.out _ _ _ Z3.out C3.out).mono ?_); rintro e w4 ⟨rfl, hb⟩; have Z4 := Lib.hid hb; clear hb)
          | (go_at_call 23; (with_reducible refine (L2.out _ _ _ (Below.alloc' Z2.out _) (Blk.new _ _ _)).mono ?_); rintro e w3 ⟨X3, d3, rfl, hr, hb⟩; have C3 := Lib.hid hr; have Z3 := Lib.hid hb; clear hr hb))
        go_ret
        exact ⟨rfl, B2.out.trans (Z6.out.mono B2.out.size)⟩
end Go.Proofs.Ytaicehkphokacaa
