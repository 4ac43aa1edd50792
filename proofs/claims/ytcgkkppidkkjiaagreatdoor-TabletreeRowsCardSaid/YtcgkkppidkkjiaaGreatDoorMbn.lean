/- awake, the answers of Dead and Table given. -/
import Derived.Test.YtcgkkppidkkjiaaGreatDoorMbm
import Derived.Test.YtcgkkppidkkjiaaGreatDoorMac
import Derived.Deep.RegionHeldLaw
namespace Go.Proofs.YtcgkkppidkkjiaaGreatDoor
open Go.RowKit

theorem bt {w w' w'' : World} (h1 : Below w.heap.size w w') (h2 : Below w'.heap.size w' w'') : Below w.heap.size w w'' := h1.trans (h2.mono h1.size)
theorem ba (w : World) (o : Obj) : Below w.heap.size w (w.alloc o) := (Below.refl _ _).alloc (Nat.le_refl _) o
theorem tr0_new (w : World) (A : Option Addr) (c : Nat) (hq : QReads w w.heap.size A 3 lnf) (w2 : World) (e : w2 = (((w.alloc (.cells #[.int .i64 1, .int .i64 0, .int .i64 0] 3)).alloc (.cells #[.int .i64 1, .int .i64 0, .int .i64 0] 3)).alloc (.cells #[.slice (some ⟨w.heap.size, 0, none⟩) 3 3, .int .i64 1, .slice (some ⟨w.heap.size + 1, 0, none⟩) 3 3, .int .i64 0] 41)).alloc (.cells #[.int .i64 2, .int .i64 0, .slice A 3 c, .slice none 0 0, .slice (some ⟨w.heap.size + 1 + 1, 0, none⟩) 2 2] 26)) :
    TR w2 A none (some ⟨w.heap.size + 1 + 1, 0, none⟩) T0 ∧ Blk w2 (w.heap.size + 1 + 1 + 1) 26 #[.int .i64 2, .int .i64 0, .slice A 3 c, .slice none 0 0, .slice (some ⟨w.heap.size + 1 + 1, 0, none⟩) 2 2] ∧ Below w.heap.size w w2 := by
  subst e
  have X1 := ba w (.cells #[.int .i64 1, .int .i64 0, .int .i64 0] 3)
  have K1 := Blk.new w 3 #[.int .i64 1, .int .i64 0, .int .i64 0]
  have z1 : (w.alloc (.cells #[.int .i64 1, .int .i64 0, .int .i64 0] 3)).heap.size = w.heap.size + 1 := by simp
  generalize w.alloc (.cells #[.int .i64 1, .int .i64 0, .int .i64 0] 3) = w1 at *
  have X2 := bt X1 (ba w1 (.cells #[.int .i64 1, .int .i64 0, .int .i64 0] 3))
  have K2 := Blk.new w1 3 #[.int .i64 1, .int .i64 0, .int .i64 0]
  have K1 := K1.alloc (.cells #[.int .i64 1, .int .i64 0, .int .i64 0] 3)
  rw [z1] at K2
  have z2 : (w1.alloc (.cells #[.int .i64 1, .int .i64 0, .int .i64 0] 3)).heap.size = w.heap.size + 1 + 1 := by simp [z1]
  generalize w1.alloc (.cells #[.int .i64 1, .int .i64 0, .int .i64 0] 3) = w2 at *
  have X3 := bt X2 (ba w2 (.cells #[.slice (some ⟨w.heap.size, 0, none⟩) 3 3, .int .i64 1, .slice (some ⟨w.heap.size + 1, 0, none⟩) 3 3, .int .i64 0] 41))
  have K3 := Blk.new w2 41 #[.slice (some ⟨w.heap.size, 0, none⟩) 3 3, .int .i64 1, .slice (some ⟨w.heap.size + 1, 0, none⟩) 3 3, .int .i64 0]
  rw [z2] at K3
  have K1 := K1.alloc (.cells #[.slice (some ⟨w.heap.size, 0, none⟩) 3 3, .int .i64 1, .slice (some ⟨w.heap.size + 1, 0, none⟩) 3 3, .int .i64 0] 41)
  have K2 := K2.alloc (.cells #[.slice (some ⟨w.heap.size, 0, none⟩) 3 3, .int .i64 1, .slice (some ⟨w.heap.size + 1, 0, none⟩) 3 3, .int .i64 0] 41)
  have z3 : (w2.alloc (.cells #[.slice (some ⟨w.heap.size, 0, none⟩) 3 3, .int .i64 1, .slice (some ⟨w.heap.size + 1, 0, none⟩) 3 3, .int .i64 0] 41)).heap.size = w.heap.size + 1 + 1 + 1 := by simp [z2]
  generalize w2.alloc (.cells #[.slice (some ⟨w.heap.size, 0, none⟩) 3 3, .int .i64 1, .slice (some ⟨w.heap.size + 1, 0, none⟩) 3 3, .int .i64 0] 41) = w3 at *
  have X4 := bt X3 (ba w3 (.cells #[.int .i64 2, .int .i64 0, .slice A 3 c, .slice none 0 0, .slice (some ⟨w.heap.size + 1 + 1, 0, none⟩) 2 2] 26))
  have K4 := Blk.new w3 26 #[.int .i64 2, .int .i64 0, .slice A 3 c, .slice none 0 0, .slice (some ⟨w.heap.size + 1 + 1, 0, none⟩) 2 2]
  rw [z3] at K4
  have K1 := K1.alloc (.cells #[.int .i64 2, .int .i64 0, .slice A 3 c, .slice none 0 0, .slice (some ⟨w.heap.size + 1 + 1, 0, none⟩) 2 2] 26)
  have K2 := K2.alloc (.cells #[.int .i64 2, .int .i64 0, .slice A 3 c, .slice none 0 0, .slice (some ⟨w.heap.size + 1 + 1, 0, none⟩) 2 2] 26)
  have K3 := K3.alloc (.cells #[.int .i64 2, .int .i64 0, .slice A 3 c, .slice none 0 0, .slice (some ⟨w.heap.size + 1 + 1, 0, none⟩) 2 2] 26)
  generalize w3.alloc (.cells #[.int .i64 2, .int .i64 0, .slice A 3 c, .slice none 0 0, .slice (some ⟨w.heap.size + 1 + 1, 0, none⟩) 2 2] 26) = w4 at *
  refine ⟨⟨hq.later X4, fun h => absurd h (by decide), fun _ => ⟨w.heap.size + 1 + 1, 0, rfl, K3.lt, fun k hk => ?_⟩⟩, K4, X4⟩
  match k, hk with
  | 0, _ => exact ⟨some ⟨w.heap.size, 0, none⟩, 3, (K3.cell 0).trans rfl, Reads.of_blk1 (l := [1, 0, 0]) K1, (K3.cell 1).trans rfl⟩
  | 1, _ => exact ⟨some ⟨w.heap.size + 1, 0, none⟩, 3, (K3.cell 2).trans rfl, Reads.of_blk1 (l := [1, 0, 0]) K2, (K3.cell 3).trans rfl⟩
section
variable (DC : ∀ (w : World) (AH : Option Addr) (cH : Nat) (AR : Option Addr) (cR : Nat), Mat w → TR w AH none AR T0 → 2 ≤ cR → Calls Tryz.prog 12 #[.agg #[.int .i64 2, .int .i64 0, .slice AH 3 cH, .slice none 0 0, .slice AR 2 cR]] w fun e w' => ∃ A c, e = .returned (.tuple #[.slice A 1 c, .int .i64 0]) ∧ Reads w' w'.heap.size A 1 (il [1]) ∧ Below w.heap.size w w')
variable (TA : ∀ (w : World) (AH : Option Addr) (cH : Nat) (AN : Option Addr) (cN : Nat), TS w AH AN (TRd lnf) → Calls Tryz.prog 15 #[.agg #[.int .i64 2, .slice AH 3 cH, .slice AN 4 cN]] w fun e w' => ∃ (x y : Int) (H : Option Addr) (n h : Nat) (V : Option Addr) (v : Nat) (R : Option Addr) (r : Nat), e = .returned (.tuple #[.agg #[.int .i64 x, .int .i64 y, .slice H n h, .slice V 3 v, .slice R 0 r], .int .i64 0]) ∧ Below w.heap.size w w')
variable (TB : ∀ (w : World) (AH : Option Addr) (cH : Nat) (AN : Option Addr) (cN : Nat), TS w AH AN (TCn 2 3 lnf 0) → Calls Tryz.prog 15 #[.agg #[.int .i64 2, .slice AH 3 cH, .slice AN 3 cN]] w fun e w' => ∃ (x y : Int) (H : Option Addr) (n h : Nat) (V : Option Addr) (nv v g o r : Nat) (X : Option Addr) (xc : Nat), e = .returned (.tuple #[.agg #[.int .i64 x, .int .i64 y, .slice H n h, .slice V nv v, .slice (some ⟨g, o, none⟩) 1 r], .int .i64 0]) ∧ g < w'.heap.size ∧ w'.cell? ⟨g, o, none⟩ = some (.slice X 3 xc) ∧ Reads w' w'.heap.size X 3 (il [-1, -2, -3]) ∧ w'.cell? ⟨g, o + 1, none⟩ = some (.int .i64 0) ∧ Below w.heap.size w w')
include DC TA TB
set_option maxRecDepth 100000 in
set_option maxHeartbeats 40000000 in
theorem awake_from (w : World) (hM : Mat w) : Calls Tryz.prog 5 #[] w fun e w' => e = .returned (.bool true) ∧ Below w.heap.size w w' := by
  have DC := Lib.hid DC
  have TA := Lib.hid TA
  have TB := Lib.hid TB
  have HM := Lib.hid (fun w' (hb : Below w.heap.size w w') => hM.below hb hM.1)
  clear hM
  go_enter Tryz.func5, Tryz.ntmps5
  go_upto_region 2 with (go_at_call 11; (with_reducible refine (line_any _).mono ?_); rintro e w1 ⟨A1, c1, rfl, hq, hb⟩; have B1 := Lib.hid hb; have Q1 := Lib.hid hq; clear hb hq)
  obtain ⟨p, hp⟩ : ∃ p, p = w1.heap.size := ⟨_, rfl⟩
  obtain ⟨w2, hw2⟩ : ∃ w2, w2 = (((w1.alloc (.cells #[.int .i64 1, .int .i64 0, .int .i64 0] 3)).alloc (.cells #[.int .i64 1, .int .i64 0, .int .i64 0] 3)).alloc (.cells #[.slice (some ⟨w1.heap.size, 0, none⟩) 3 3, .int .i64 1, .slice (some ⟨w1.heap.size + 1, 0, none⟩) 3 3, .int .i64 0] 41)).alloc (.cells #[.int .i64 2, .int .i64 0, .slice A1 3 c1, .slice none 0 0, .slice (some ⟨w1.heap.size + 1 + 1, 0, none⟩) 2 2] 26) := ⟨_, rfl⟩
  obtain ⟨hT2, hK2, hX2⟩ := tr0_new w1 A1 c1 Q1.out w2 hw2
  rw [← hw2]
  clear hw2
  have B2 := Lib.hid (bt B1.out hX2)
  rw [← hp] at hT2 hK2 ⊢
  have T2 := Lib.hid hT2
  have K2 := Lib.hid hK2
  clear hT2 hK2 hX2 Q1 B1 hp
  obtain ⟨t0, t1, t2, t3, t4, t5⟩ := K2.out.five
  have CN := Lib.hid (fun A c w (h : QReads w w.heap.size A 3 lnf) => show Calls Tryz.prog 14 #[.int .i64 2, .slice A 3 c, .int .i64 0] w fun e w' => ∃ AN cN, e = .returned (.tuple #[.agg #[.int .i64 2, .slice A 3 c, .slice AN 3 cN], .int .i64 0]) ∧ TS w' A AN (TCn 2 3 lnf 0) ∧ Below w.heap.size w w' from rconst_any A c 2 3 lnf 0 w h hd_lnf (by omega) (by omega) (by omega) (by decide))
  go_upto_region 9 with (first
    | (go_at_call 6; (with_reducible refine (tree0 _ _ _ _ _ (HM.out _ B2.out) T2.out).mono ?_); rintro e w3 ⟨H3, h3, N3, n3, d3, rfl, hb, hv⟩; have X3 := Lib.hid (bt hb (ba w3 (.cells #[.int .i64 2, .slice H3 3 h3, .slice N3 n3 d3] 32))); have G3 := Lib.hid (Blk.new w3 32 #[.int .i64 2, .slice H3 3 h3, .slice N3 n3 d3]); have V3 := Lib.hid (fun l A c w'' (hb' : Below (w3.alloc (.cells #[.int .i64 2, .slice H3 3 h3, .slice N3 n3 d3] 32)).heap.size (w3.alloc (.cells #[.int .i64 2, .slice H3 3 h3, .slice N3 n3 d3] 32)) w'') => hv l A c w'' (bt (ba _ _) hb')); have K3 := Lib.hid (K2.out.below X3.out K2.out.lt); have T3 := Lib.hid (T2.out.later X3.out); clear hb hv t0 t1 t2 t3 t4 t5; obtain ⟨t0, t1, t2, t3, t4, t5⟩ := K3.out.five)
    | (go_at_call 12; (with_reducible refine (DC.out _ _ _ _ _ (HM.out _ (bt B2.out X3.out)) T3.out (by omega)).mono ?_); rintro e w4 ⟨DA, dc, rfl, hr, hb⟩; have X4 := Lib.hid hb; have R4 := Lib.hid hr; have K4 := Lib.hid (K3.out.below X4.out K3.out.lt); have T4 := Lib.hid (T3.out.later X4.out); clear hb hr t0 t1 t2 t3 t4 t5; obtain ⟨t0, t1, t2, t3, t4, t5⟩ := K4.out.five)
    | (go_at_call 8; (with_reducible refine (row0 _ _ _ _ _ (HM.out _ (bt (bt B2.out X3.out) X4.out)) T4.out (by omega)).mono ?_); rintro e w5 ⟨H5, h5, N5, n5, d5, rfl, hb, hv⟩; have X5 := Lib.hid (bt hb (ba w5 (.cells #[.int .i64 2, .slice H5 3 h5, .slice N5 n5 d5] 32))); have G5 := Lib.hid (Blk.new w5 32 #[.int .i64 2, .slice H5 3 h5, .slice N5 n5 d5]); have V5 := Lib.hid (fun l A c w'' (hb' : Below (w5.alloc (.cells #[.int .i64 2, .slice H5 3 h5, .slice N5 n5 d5] 32)).heap.size (w5.alloc (.cells #[.int .i64 2, .slice H5 3 h5, .slice N5 n5 d5] 32)) w'') => hv l A c w'' (bt (ba _ _) hb')); clear hb hv t0 t1 t2 t3 t4 t5)
    | (go_at_call 14; (with_reducible refine (CN.out _ _ _ Q8.out).mono ?_); rintro e w9 ⟨N9, d9, rfl, hts, hb⟩; have X9 := Lib.hid (bt hb (ba w9 (.cells #[.int .i64 2, .slice A8 3 c8, .slice N9 3 d9] 32))); have G9 := Lib.hid (Blk.new w9 32 #[.int .i64 2, .slice A8 3 c8, .slice N9 3 d9]); have S9 := Lib.hid (hts.later (ba w9 (.cells #[.int .i64 2, .slice A8 3 c8, .slice N9 3 d9] 32))); have S79 := Lib.hid (S7.out.later (bt X8.out X9.out)); have G79 := Lib.hid (G7.out.below (bt X8.out X9.out) G7.out.lt); clear hb hts; obtain ⟨p0, p1, p2, p3⟩ := G79.out.three)
    | (go_at_call 13; (with_reducible refine (rread_ex _ _ lnf _ Q6.out hd_lnf).mono ?_); rintro e w7 ⟨N7, d7, rfl, hts, hb⟩; have X7 := Lib.hid (bt hb (ba w7 (.cells #[.int .i64 2, .slice A6 3 c6, .slice N7 4 d7] 32))); have G7 := Lib.hid (Blk.new w7 32 #[.int .i64 2, .slice A6 3 c6, .slice N7 4 d7]); have S7 := Lib.hid (hts.later (ba w7 (.cells #[.int .i64 2, .slice A6 3 c6, .slice N7 4 d7] 32))); clear hb hts)
    | (go_at_call 11; have := G7; (with_reducible refine (line_any _).mono ?_); rintro e w8 ⟨A8, c8, rfl, hq, hb⟩; have X8 := Lib.hid hb; have Q8 := Lib.hid hq; clear hb hq)
    | (go_at_call 11; (with_reducible refine (line_any _).mono ?_); rintro e w6 ⟨A6, c6, rfl, hq, hb⟩; have X6 := Lib.hid hb; have Q6 := Lib.hid hq; clear hb hq)
    | (go_at_call 15; (with_reducible refine (TB.out _ _ _ _ _ S90.out).mono ?_); rintro e w11 ⟨x2, y2, HH2, n2, h2, VV2, nv2, v2, gR, oR, r2, XR, xc, rfl, hgR, hc0, hrr, hc1, hb⟩; have X11 := Lib.hid (bt hb (ba w11 (.cells #[.int .i64 x2, .int .i64 y2, .slice HH2 n2 h2, .slice VV2 nv2 v2, .slice (some ⟨gR, oR, none⟩) 1 r2] 26))); have G11 := Lib.hid (Blk.new w11 26 #[.int .i64 x2, .int .i64 y2, .slice HH2 n2 h2, .slice VV2 nv2 v2, .slice (some ⟨gR, oR, none⟩) 1 r2]); have RW := Lib.hid (And.intro hgR (And.intro hc0 (And.intro hrr hc1))); clear hb hgR hc0 hrr hc1 p0 p1 p2 p3)
    | (go_at_call 15; (with_reducible refine (TA.out _ _ _ _ _ S79.out).mono ?_); rintro e w10 ⟨x1, y1, HH1, n1, h1, VV1, v1, R1, r1, rfl, hb⟩; have X10 := Lib.hid (bt hb (ba w10 (.cells #[.int .i64 x1, .int .i64 y1, .slice HH1 n1 h1, .slice VV1 3 v1, .slice R1 0 r1] 26))); have G10 := Lib.hid (Blk.new w10 26 #[.int .i64 x1, .int .i64 y1, .slice HH1 n1 h1, .slice VV1 3 v1, .slice R1 0 r1]); have S90 := Lib.hid (S9.out.later X10.out); have G90 := Lib.hid (G9.out.below X10.out G9.out.lt); clear hb p0 p1 p2 p3; obtain ⟨p0, p1, p2, p3⟩ := G90.out.three))
  have B12 := Lib.hid (bt (bt (bt (bt (bt (bt (bt (bt (bt B2.out X3.out) X4.out) X5.out) X6.out) X7.out) X8.out) X9.out) X10.out) X11.out)
  have V3E := Lib.hid (bt (bt (bt (bt (bt (bt (bt X4.out X5.out) X6.out) X7.out) X8.out) X9.out) X10.out) X11.out)
  have E4 := Lib.hid (bt (bt (bt (bt (bt (bt X5.out X6.out) X7.out) X8.out) X9.out) X10.out) X11.out)
  have V5E := Lib.hid (bt (bt (bt (bt (bt X6.out X7.out) X8.out) X9.out) X10.out) X11.out)
  have F3 := Lib.hid (G3.out.below V3E.out G3.out.lt)
  have F5 := Lib.hid (G5.out.below V5E.out G5.out.lt)
  have F10 := Lib.hid (G10.out.below X11.out G10.out.lt)
  have R12 := Lib.hid (R4.out.later E4.out)
  obtain ⟨hgR, hc0, hrr, hc1⟩ := RW.out
  have HC0 := Lib.hid (((ba w11 (.cells #[.int .i64 x2, .int .i64 y2, .slice HH2 n2 h2, .slice VV2 nv2 v2, .slice (some ⟨gR, oR, none⟩) 1 r2] 26)).cell (p := ⟨gR, oR, none⟩) hgR).trans hc0)
  have HC1 := Lib.hid (((ba w11 (.cells #[.int .i64 x2, .int .i64 y2, .slice HH2 n2 h2, .slice VV2 nv2 v2, .slice (some ⟨gR, oR, none⟩) 1 r2] 26)).cell (p := ⟨gR, oR + 1, none⟩) hgR).trans hc1)
  have HRR := Lib.hid (hrr.later (ba w11 (.cells #[.int .i64 x2, .int .i64 y2, .slice HH2 n2 h2, .slice VV2 nv2 v2, .slice (some ⟨gR, oR, none⟩) 1 r2] 26)))
  have hgF : gR < (w11.alloc (.cells #[.int .i64 x2, .int .i64 y2, .slice HH2 n2 h2, .slice VV2 nv2 v2, .slice (some ⟨gR, oR, none⟩) 1 r2] 26)).heap.size := by rw [World.size_alloc]; omega
  clear hc0 hc1 hrr RW hgR X3 X4 X5 X6 X7 X8 X9 X10 X11 S7 S9 S79 S90 G7 G9 G79 G90 G3 G5 G10 R4 E4 Q6 Q8 K2 K3 K4 T2 T3 T4 B2 HM DC TA TB CN
  generalize w11.alloc (.cells #[.int .i64 x2, .int .i64 y2, .slice HH2 n2 h2, .slice VV2 nv2 v2, .slice (some ⟨gR, oR, none⟩) 1 r2] 26) = wf at *
  have Pa := Lib.hid (show ∀ V g, Below wf.heap.size wf V → Blk V g 3 #[.int .i64 1, .int .i64 0, .int .i64 0] → Calls Tryz.prog 9 #[.agg #[.int .i64 2, .slice H3 3 h3, .slice N3 n3 d3], .slice (some ⟨g, 0, none⟩) 3 3] V fun e V' => e = .returned (.int .i64 1) ∧ Below wf.heap.size wf V' ∧ Below V.heap.size V V' from fun V g hb hk =>
    (V3.out [1, 0, 0] (some ⟨g, 0, none⟩) 3 V (bt V3E.out hb) (Reads.of_blk1 (l := [1, 0, 0]) hk) (by decide)).mono fun e V' ⟨he, hx⟩ => ⟨by rw [he, nx0_a] <;> rfl, hb.trans (hx.mono hb.size), hx⟩)
  have Pb := Lib.hid (show ∀ V g, Below wf.heap.size wf V → Blk V g 3 #[.int .i64 0, .int .i64 1, .int .i64 0] → Calls Tryz.prog 9 #[.agg #[.int .i64 2, .slice H3 3 h3, .slice N3 n3 d3], .slice (some ⟨g, 0, none⟩) 3 3] V fun e V' => e = .returned (.int .i64 1) ∧ Below wf.heap.size wf V' ∧ Below V.heap.size V V' from fun V g hb hk =>
    (V3.out [0, 1, 0] (some ⟨g, 0, none⟩) 3 V (bt V3E.out hb) (Reads.of_blk1 (l := [0, 1, 0]) hk) (by decide)).mono fun e V' ⟨he, hx⟩ => ⟨by rw [he, nx0_b] <;> rfl, hb.trans (hx.mono hb.size), hx⟩)
  have Pc := Lib.hid (show ∀ V g, Below wf.heap.size wf V → Blk V g 3 #[.int .i64 0, .int .i64 0, .int .i64 0] → Calls Tryz.prog 9 #[.agg #[.int .i64 2, .slice H3 3 h3, .slice N3 n3 d3], .slice (some ⟨g, 0, none⟩) 3 3] V fun e V' => e = .returned (.int .i64 0) ∧ Below wf.heap.size wf V' ∧ Below V.heap.size V V' from fun V g hb hk =>
    (V3.out [0, 0, 0] (some ⟨g, 0, none⟩) 3 V (bt V3E.out hb) (Reads.of_blk1 (l := [0, 0, 0]) hk) (by decide)).mono fun e V' ⟨he, hx⟩ => ⟨by rw [he, nx0_c] <;> rfl, hb.trans (hx.mono hb.size), hx⟩)
  have Pd := Lib.hid (show ∀ V g, Below wf.heap.size wf V → Blk V g 3 #[.int .i64 1, .int .i64 0, .int .i64 0] → Calls Tryz.prog 9 #[.agg #[.int .i64 2, .slice H5 3 h5, .slice N5 n5 d5], .slice (some ⟨g, 0, none⟩) 3 3] V fun e V' => e = .returned (.int .i64 1) ∧ Below wf.heap.size wf V' ∧ Below V.heap.size V V' from fun V g hb hk =>
    (V5.out [1, 0, 0] (some ⟨g, 0, none⟩) 3 V (bt V5E.out hb) (Reads.of_blk1 (l := [1, 0, 0]) hk) (by decide)).mono fun e V' ⟨he, hx⟩ => ⟨by rw [he, vr0_a] <;> rfl, hb.trans (hx.mono hb.size), hx⟩)
  have Pe := Lib.hid (show ∀ V g, Below wf.heap.size wf V → Blk V g 3 #[.int .i64 0, .int .i64 1, .int .i64 0] → Calls Tryz.prog 9 #[.agg #[.int .i64 2, .slice H5 3 h5, .slice N5 n5 d5], .slice (some ⟨g, 0, none⟩) 3 3] V fun e V' => e = .returned (.int .i64 0) ∧ Below wf.heap.size wf V' ∧ Below V.heap.size V V' from fun V g hb hk =>
    (V5.out [0, 1, 0] (some ⟨g, 0, none⟩) 3 V (bt V5E.out hb) (Reads.of_blk1 (l := [0, 1, 0]) hk) (by decide)).mono fun e V' ⟨he, hx⟩ => ⟨by rw [he, vr0_b] <;> rfl, hb.trans (hx.mono hb.size), hx⟩)
  have Pf := Lib.hid (show ∀ V g, Below wf.heap.size wf V → Blk V g 3 #[.int .i64 1] → Calls Tryz.prog 16 #[.slice DA 1 dc, .slice (some ⟨g, 0, none⟩) 1 1] V fun e V' => e = .returned (.bool true) ∧ Below wf.heap.size wf V' ∧ Below V.heap.size V V' from fun V g hb hk =>
    (lints_yes DA (some ⟨g, 0, none⟩) 1 dc 1 [1] V (R12.out.later hb) (Reads.of_blk1 (l := [1]) hk) (by omega)).mono fun e V' ⟨he, hx⟩ => ⟨he, hb.trans (hx.mono hb.size), hx⟩)
  have Pg := Lib.hid (show ∀ V g, Below wf.heap.size wf V → Blk V g 3 #[.int .i64 (-1), .int .i64 (-2), .int .i64 (-3)] → Calls Tryz.prog 16 #[.slice XR 3 xc, .slice (some ⟨g, 0, none⟩) 3 3] V fun e V' => e = .returned (.bool true) ∧ Below wf.heap.size wf V' ∧ Below V.heap.size V V' from fun V g hb hk =>
    (lints_yes XR (some ⟨g, 0, none⟩) 3 xc 3 [-1, -2, -3] V (HRR.out.later hb) (Reads.of_blk1 (l := [-1, -2, -3]) hk) (by omega)).mono fun e V' ⟨he, hx⟩ => ⟨he, hb.trans (hx.mono hb.size), hx⟩)
  have KP := Lib.hid (fun W (hb : Below wf.heap.size wf W) => show W.cell? ⟨w3.heap.size, 0, none⟩ = some (.int .i64 2) ∧ W.cell? ⟨w3.heap.size, 1, none⟩ = some (.slice H3 3 h3) ∧ W.cell? ⟨w3.heap.size, 2, none⟩ = some (.slice N3 n3 d3) ∧ W.cell? ⟨w5.heap.size, 0, none⟩ = some (.int .i64 2) ∧ W.cell? ⟨w5.heap.size, 1, none⟩ = some (.slice H5 3 h5) ∧ W.cell? ⟨w5.heap.size, 2, none⟩ = some (.slice N5 n5 d5) ∧ W.cell? ⟨w10.heap.size, 4, none⟩ = some (.slice R1 0 r1) ∧ W.cell? ⟨w10.heap.size, 3, none⟩ = some (.slice VV1 3 v1) ∧ W.cell? ⟨w11.heap.size, 4, none⟩ = some (.slice (some ⟨gR, oR, none⟩) 1 r2) ∧ W.cell? ⟨gR, oR, none⟩ = some (.slice XR 3 xc) ∧ W.cell? ⟨gR, oR + 1, none⟩ = some (.int .i64 0) from by
    obtain ⟨a0, a1, a2, _⟩ := (F3.out.below hb F3.out.lt).three
    obtain ⟨b0, b1, b2, _⟩ := (F5.out.below hb F5.out.lt).three
    obtain ⟨_, _, _, c3, c4, _⟩ := (F10.out.below hb F10.out.lt).five
    obtain ⟨_, _, _, _, e4, _⟩ := (G11.out.below hb G11.out.lt).five
    exact ⟨a0, a1, a2, b0, b1, b2, c4, c3, e4, (hb.cell (p := ⟨gR, oR, none⟩) hgF).trans HC0.out, (hb.cell (p := ⟨gR, oR + 1, none⟩) hgF).trans HC1.out⟩)
  have S0 := KP.out wf (Below.refl _ _)
  clear F3 F5 F10 R12 HC0 HC1 HRR V3 V5 V3E V5E G11
  obtain ⟨k0, k1, k2, k3, k4, k5, k6, k7, k8, k9, k10⟩ := S0
  go_wp2_with (first
    | (go_at_call 9; (with_reducible refine (Pa.out _ _ ?_ ?_).mono ?_); (with_reducible (repeat (first | assumption | exact Below.refl _ _ | refine Below.drew' ?_ | refine Below.alloc' ?_ _))); (first | exact Blk.new _ _ _ | exact Blk.drew (Blk.new _ _ _) | exact Blk.drew (Blk.alloc (Blk.new _ _ _) _)); rintro e wz ⟨rfl, hz, hy⟩; clear hy k0 k1 k2 k3 k4 k5 k6 k7 k8 k9 k10; obtain ⟨k0, k1, k2, k3, k4, k5, k6, k7, k8, k9, k10⟩ := KP.out _ hz)
    | (go_at_call 9; (with_reducible refine (Pb.out _ _ ?_ ?_).mono ?_); (with_reducible (repeat (first | assumption | exact Below.refl _ _ | refine Below.drew' ?_ | refine Below.alloc' ?_ _))); (first | exact Blk.new _ _ _ | exact Blk.drew (Blk.new _ _ _) | exact Blk.drew (Blk.alloc (Blk.new _ _ _) _)); rintro e wz ⟨rfl, hz, hy⟩; clear hy k0 k1 k2 k3 k4 k5 k6 k7 k8 k9 k10; obtain ⟨k0, k1, k2, k3, k4, k5, k6, k7, k8, k9, k10⟩ := KP.out _ hz)
    | (go_at_call 9; (with_reducible refine (Pc.out _ _ ?_ ?_).mono ?_); (with_reducible (repeat (first | assumption | exact Below.refl _ _ | refine Below.drew' ?_ | refine Below.alloc' ?_ _))); (first | exact Blk.new _ _ _ | exact Blk.drew (Blk.new _ _ _) | exact Blk.drew (Blk.alloc (Blk.new _ _ _) _)); rintro e wz ⟨rfl, hz, hy⟩; clear hy k0 k1 k2 k3 k4 k5 k6 k7 k8 k9 k10; obtain ⟨k0, k1, k2, k3, k4, k5, k6, k7, k8, k9, k10⟩ := KP.out _ hz)
    | (go_at_call 9; (with_reducible refine (Pd.out _ _ ?_ ?_).mono ?_); (with_reducible (repeat (first | assumption | exact Below.refl _ _ | refine Below.drew' ?_ | refine Below.alloc' ?_ _))); (first | exact Blk.new _ _ _ | exact Blk.drew (Blk.new _ _ _) | exact Blk.drew (Blk.alloc (Blk.new _ _ _) _)); rintro e wz ⟨rfl, hz, hy⟩; clear hy k0 k1 k2 k3 k4 k5 k6 k7 k8 k9 k10; obtain ⟨k0, k1, k2, k3, k4, k5, k6, k7, k8, k9, k10⟩ := KP.out _ hz)
    | (go_at_call 9; (with_reducible refine (Pe.out _ _ ?_ ?_).mono ?_); (with_reducible (repeat (first | assumption | exact Below.refl _ _ | refine Below.drew' ?_ | refine Below.alloc' ?_ _))); (first | exact Blk.new _ _ _ | exact Blk.drew (Blk.new _ _ _) | exact Blk.drew (Blk.alloc (Blk.new _ _ _) _)); rintro e wz ⟨rfl, hz, hy⟩; clear hy k0 k1 k2 k3 k4 k5 k6 k7 k8 k9 k10; obtain ⟨k0, k1, k2, k3, k4, k5, k6, k7, k8, k9, k10⟩ := KP.out _ hz)
    | (go_at_call 16; (with_reducible refine (Pf.out _ _ ?_ ?_).mono ?_); (with_reducible (repeat (first | assumption | exact Below.refl _ _ | refine Below.drew' ?_ | refine Below.alloc' ?_ _))); (first | exact Blk.new _ _ _ | exact Blk.drew (Blk.new _ _ _) | exact Blk.drew (Blk.alloc (Blk.new _ _ _) _)); rintro e wz ⟨rfl, hz, hy⟩; clear hy k0 k1 k2 k3 k4 k5 k6 k7 k8 k9 k10; obtain ⟨k0, k1, k2, k3, k4, k5, k6, k7, k8, k9, k10⟩ := KP.out _ hz)
    | (go_at_call 16; (with_reducible refine (Pg.out _ _ ?_ ?_).mono ?_); (with_reducible (repeat (first | assumption | exact Below.refl _ _ | refine Below.drew' ?_ | refine Below.alloc' ?_ _))); (first | exact Blk.new _ _ _ | exact Blk.drew (Blk.new _ _ _) | exact Blk.drew (Blk.alloc (Blk.new _ _ _) _)); rintro e wz ⟨rfl, hz, hy⟩; clear hy k0 k1 k2 k3 k4 k5 k6 k7 k8 k9 k10; obtain ⟨k0, k1, k2, k3, k4, k5, k6, k7, k8, k9, k10⟩ := KP.out _ hz))
  go_ret
  exact ⟨rfl, bt B12.out hz⟩
end
end Go.Proofs.YtcgkkppidkkjiaaGreatDoor
