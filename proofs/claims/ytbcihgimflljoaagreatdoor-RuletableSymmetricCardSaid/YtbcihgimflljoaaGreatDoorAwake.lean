/- The walk of awake: the chapter's examples hold. -/
import Derived.Test.YtbcihgimflljoaaGreatDoorTxw
import Derived.Test.YtbcihgimflljoaaGreatDoorSam
import Derived.Test.YtbcihgimflljoaaGreatDoorMatch
import Derived.Test.YtbcihgimflljoaaGreatDoorRef
namespace Go.Proofs.YtbcihgimflljoaaGreatDoor
open Go.RowKit Go.Shelf

theorem example_any (w : World) : Calls Tryz.prog 17 #[] w fun e w' => e = .returned (.string (tx ex1)) ∧ w = w' := by
  go_enter Tryz.func17, Tryz.ntmps17
  go_wp2
  go_ret
  exact ⟨by kernel_rfl, rfl⟩
theorem parse_a (m : Int) (u : TypeId) (x : Value) (w : World) (V : Vr m u x w) :
    Calls Tryz.prog 16 #[.string (tx ex1)] w fun e w' => ∃ H gV cV gW cW, e = .returned (.tuple #[.agg #[.int .i64 2, .int .i64 0, .slice (some ⟨H, 0, none⟩) 3 3, .slice (some ⟨gV, 0, none⟩) 1 cV, .slice (some ⟨gW, 0, none⟩) 2 cW], .int .i64 0, .int .i64 0]) ∧ TR w' (some ⟨H, 0, none⟩) (some ⟨gV, 0, none⟩) (some ⟨gW, 0, none⟩) T0 ∧ Below w.heap.size w w' :=
  (parse1 m u x w V).mono fun e w' ⟨R, H, X, Y, Z, he, hR, hM, hb⟩ => ⟨H, X.gV, X.cV, Z.gW, Z.cW, he, made_tr hM, hb⟩
theorem parse_b (m : Int) (u : TypeId) (x : Value) (w : World) (V : Vr m u x w) :
    Calls Tryz.prog 16 #[.string ⟨#[115, 116, 97, 116, 101, 115, 32, 50, 10, 104, 111, 111, 100, 32, 104, 101, 120, 10, 115, 121, 109, 109, 101, 116, 114, 121, 32, 114, 111, 116, 97, 116, 101]⟩] w fun e w' => e = .returned (.tuple #[.agg #[.int .i64 0, .int .i64 0, .slice none 0 0, .slice none 0 0, .slice none 0 0], .int .i64 3, .int .i64 2]) ∧ Below w.heap.size w w' := by
  rw [show (⟨#[115, 116, 97, 116, 101, 115, 32, 50, 10, 104, 111, 111, 100, 32, 104, 101, 120, 10, 115, 121, 109, 109, 101, 116, 114, 121, 32, 114, 111, 116, 97, 116, 101]⟩ : ByteArray) = tx ex2 by kernel_rfl]
  exact parse2 m u x w V
theorem parse_c (m : Int) (u : TypeId) (x : Value) (w : World) (V : Vr m u x w) :
    Calls Tryz.prog 16 #[.string ⟨#[]⟩] w fun e w' => e = .returned (.tuple #[.agg #[.int .i64 0, .int .i64 0, .slice none 0 0, .slice none 0 0, .slice none 0 0], .int .i64 0, .int .i64 4]) ∧ Below w.heap.size w w' :=
  parse3 m u x w V
theorem below_alloc {w0 w : World} (hb : Below w0.heap.size w0 w) (o : Obj) : Below w0.heap.size w0 (w.alloc o) := hb.alloc hb.size o
theorem reads3 (w : World) (a b c : Int) : Reads (w.alloc (.cells #[.int .i64 a, .int .i64 b, .int .i64 c] 3)) (w.alloc (.cells #[.int .i64 a, .int .i64 b, .int .i64 c] 3)).heap.size (some ⟨w.heap.size, 0, none⟩) 3 (il [a, b, c]) :=
  Reads.of_blk (xs := il [a, b, c]) (Blk.new w 3 #[.int .i64 a, .int .i64 b, .int .i64 c])
theorem next_t {w0 w : World} {H gV cV gW cW : Nat} (hM : Mat w0) (hT : TR w0 (some ⟨H, 0, none⟩) (some ⟨gV, 0, none⟩) (some ⟨gW, 0, none⟩) T0) (a b c r : Int) (ha : als 2 [a, b, c] = true) (hr : nx T0 [a, b, c] = r) (hb : Below w0.heap.size w0 w) :
    Calls Tryz.prog 7 #[.agg #[.int .i64 2, .int .i64 0, .slice (some ⟨H, 0, none⟩) 3 3, .slice (some ⟨gV, 0, none⟩) 1 cV, .slice (some ⟨gW, 0, none⟩) 2 cW], .slice (some ⟨w.heap.size, 0, none⟩) 3 3] (w.alloc (.cells #[.int .i64 a, .int .i64 b, .int .i64 c] 3)) fun e w'' => e = .returned (.tuple #[.int .i64 r, .int .i64 0]) ∧ Below w0.heap.size w0 w'' := by
  subst hr
  have hb2 := below_alloc hb (.cells #[.int .i64 a, .int .i64 b, .int .i64 c] 3)
  exact (next_ok (some ⟨H, 0, none⟩) 3 (some ⟨gV, 0, none⟩) cV (some ⟨gW, 0, none⟩) cW T0 (some ⟨w.heap.size, 0, none⟩) 3 [a, b, c] _ (hM.below hb2 hM.1) (hT.later hb2) t0_bd ((rt_iff T0).1 t0_rt) (reads3 w a b c) (Nat.le_refl _) ha).mono fun e w'' ⟨he, h⟩ => ⟨he, hb2.trans (h.mono hb2.size)⟩
theorem match_t {w0 w : World} {H gV cV gW cW : Nat} (hM : Mat w0) (hT : TR w0 (some ⟨H, 0, none⟩) (some ⟨gV, 0, none⟩) (some ⟨gW, 0, none⟩) T0) (hb : Below w0.heap.size w0 w) :
    Calls Tryz.prog 18 #[.agg #[.int .i64 2, .int .i64 0, .slice (some ⟨H, 0, none⟩) 3 3, .slice (some ⟨gV, 0, none⟩) 1 cV, .slice (some ⟨gW, 0, none⟩) 2 cW], .int .i64 1, .slice (some ⟨w.heap.size, 0, none⟩) 3 3] (w.alloc (.cells #[.int .i64 0, .int .i64 1, .int .i64 0] 3)) fun e w'' => e = .returned (.tuple #[.int .i64 0, .bool true]) ∧ Below w0.heap.size w0 w'' := by
  have hb2 := below_alloc hb (.cells #[.int .i64 0, .int .i64 1, .int .i64 0] 3)
  have h := match_any (some ⟨H, 0, none⟩) 3 (some ⟨gV, 0, none⟩) cV (some ⟨gW, 0, none⟩) cW T0 (some ⟨w.heap.size, 0, none⟩) 3 1 [0, 1, 0] _ (hM.below hb2 hM.1) (hT.later hb2) t0_bd ((rt_iff T0).1 t0_rt) (reads3 w 0 1 0) (Nat.le_refl _) (by decide) (by decide)
  rw [t0_5] at h
  exact h.mono fun e w'' ⟨he, h⟩ => ⟨he, hb2.trans (h.mono hb2.size)⟩
theorem next_u {w0 w : World} {A : Option Addr} {c gI gR : Nat} (hM : Mat w0) (h : QReads w0 w0.heap.size A 5 (lf N1)) (KI : Blk w0 gI 3 #[.int .i64 1, .int .i64 0, .int .i64 0, .int .i64 0, .int .i64 0]) (KR : Blk w0 gR 40 #[.slice (some ⟨gI, 0, none⟩) 5 5, .int .i64 1]) (hb : Below w0.heap.size w0 w) :
    Calls Tryz.prog 7 #[.agg #[.int .i64 2, .int .i64 1, .slice A 5 c, .slice none 0 0, .slice (some ⟨gR, 0, none⟩) 1 1], .slice (some ⟨w.heap.size, 0, none⟩) 5 5] (w.alloc (.cells #[.int .i64 0, .int .i64 0, .int .i64 0, .int .i64 1, .int .i64 0] 3)) fun e w'' => e = .returned (.tuple #[.int .i64 1, .int .i64 0]) ∧ Below w0.heap.size w0 w'' := by
  have hb2 := below_alloc hb (.cells #[.int .i64 0, .int .i64 0, .int .i64 0, .int .i64 1, .int .i64 0] 3)
  have hT := one_tr h KI KR
  have h := next_ok A c none 0 (some ⟨gR, 0, none⟩) 1 T1 (some ⟨w.heap.size, 0, none⟩) 5 [0, 0, 0, 1, 0] _ (hM.below hb2 hM.1) (hT.later hb2) t1_bd ((rt_iff T1).1 t1_rt) (Reads.of_blk (xs := il [0, 0, 0, 1, 0]) (Blk.new w 3 #[.int .i64 0, .int .i64 0, .int .i64 0, .int .i64 1, .int .i64 0])) (Nat.le_refl _) (by decide)
  rw [t1_1] at h
  exact h.mono fun e w'' ⟨he, h⟩ => ⟨he, hb2.trans (h.mono hb2.size)⟩
theorem right_u {w0 w : World} {A : Option Addr} {c gI gR : Nat} (hM : Mat w0) (h : QReads w0 w0.heap.size A 5 (lf N1)) (KI : Blk w0 gI 3 #[.int .i64 1, .int .i64 0, .int .i64 0, .int .i64 0, .int .i64 0]) (KR : Blk w0 gR 40 #[.slice (some ⟨gI, 0, none⟩) 5 5, .int .i64 1]) (hb : Below w0.heap.size w0 w) :
    Calls Tryz.prog 5 #[.agg #[.int .i64 2, .int .i64 1, .slice A 5 c, .slice none 0 0, .slice (some ⟨gR, 0, none⟩) 1 1]] w fun e w'' => e = .returned (.bool true) ∧ Below w0.heap.size w0 w'' := by
  have h := rt_any A c none 0 (some ⟨gR, 0, none⟩) 1 T1 w (hM.below hb hM.1) ((one_tr h KI KR).later hb) t1_bd
  rw [t1_rt] at h
  exact h.mono fun e w'' ⟨he, h⟩ => ⟨he, hb.trans (h.mono hb.size)⟩
theorem right_z {w0 w : World} (hM : Mat w0) (hb : Below w0.heap.size w0 w) :
    Calls Tryz.prog 5 #[.agg #[.int .i64 0, .int .i64 0, .slice none 0 0, .slice none 0 0, .slice none 0 0]] w fun e w'' => e = .returned (.bool false) ∧ Below w0.heap.size w0 w'' := by
  have h := rt_any none 0 none 0 none 0 T2 w (hM.below hb hM.1) ⟨fun hn => absurd hn (Nat.lt_irrefl 0), fun hn => absurd hn (Nat.lt_irrefl 0), fun hn => absurd hn (Nat.lt_irrefl 0)⟩ ⟨by decide, by decide, by decide, fun k hk => absurd hk (Nat.not_lt_zero k), fun k hk => absurd hk (Nat.not_lt_zero k)⟩
  rw [t2_rt] at h
  exact h.mono fun e w'' ⟨he, h⟩ => ⟨he, hb.trans (h.mono hb.size)⟩
theorem same_t {w0 w : World} {H gV cV gW cW : Nat} (hT : TR w0 (some ⟨H, 0, none⟩) (some ⟨gV, 0, none⟩) (some ⟨gW, 0, none⟩) T0) (hb : Below w0.heap.size w0 w) :
    Calls Tryz.prog 20 #[.agg #[.int .i64 2, .int .i64 0, .slice (some ⟨H, 0, none⟩) 3 3, .slice (some ⟨gV, 0, none⟩) 1 cV, .slice (some ⟨gW, 0, none⟩) 2 cW], .agg #[.int .i64 2, .int .i64 0, .slice (some ⟨H, 0, none⟩) 3 3, .slice (some ⟨gV, 0, none⟩) 1 cV, .slice (some ⟨gW, 0, none⟩) 2 cW]] w fun e w'' => e = .returned (.bool true) ∧ Below w0.heap.size w0 w'' :=
  (same_self (some ⟨H, 0, none⟩) 3 (some ⟨gV, 0, none⟩) cV (some ⟨gW, 0, none⟩) cW T0 w (hT.later hb) t0_bd).mono fun e w'' ⟨he, h⟩ => ⟨he, hb.trans (h.mono hb.size)⟩
theorem text_u {m : Int} {u : TypeId} {x : Value} {w0 w : World} {A : Option Addr} {c gI gR : Nat} (V : Vr m u x w0) (h : QReads w0 w0.heap.size A 5 (lf N1)) (KI : Blk w0 gI 3 #[.int .i64 1, .int .i64 0, .int .i64 0, .int .i64 0, .int .i64 0]) (KR : Blk w0 gR 40 #[.slice (some ⟨gI, 0, none⟩) 5 5, .int .i64 1]) (hb : Below w0.heap.size w0 w) :
    Calls Tryz.prog 21 #[.agg #[.int .i64 2, .int .i64 1, .slice A 5 c, .slice none 0 0, .slice (some ⟨gR, 0, none⟩) 1 1]] w fun e w'' => e = .returned (.string (tx xt)) ∧ Below w0.heap.size w0 w'' :=
  (text1 m u x A c gI gR w (V.later hb) (h.later hb) (KI.below hb KI.lt) (KR.below hb KR.lt)).mono fun e w'' ⟨he, h⟩ => ⟨he, hb.trans (h.mono hb.size)⟩
set_option maxRecDepth 100000 in
set_option maxHeartbeats 8000000 in
theorem awake_any (m : Int) (u : TypeId) (x : Value) (w : World) (V : Vr m u x w) :
    Calls Tryz.prog 6 #[] w fun e w' => e = .returned (.bool true) ∧ Below w.heap.size w w' := by
  have EX := fun w => Lib.hid (example_any w)
  have PA := fun w V => Lib.hid (parse_a m u x w V)
  have PB := fun w V => Lib.hid (parse_b m u x w V)
  have PC := fun w V => Lib.hid (parse_c m u x w V)
  have VV := Lib.hid V
  clear V
  generalize tx ex1 = se1 at EX PA
  go_enter Tryz.func6, Tryz.ntmps6
  go_upto_region 2 with (first
    | (go_at_call 16; (with_reducible refine (PA _ VV.out).out.mono ?_); rintro e w1 ⟨H, gV, cV, gW, cW, rfl, hT, hb⟩; have B1 := Lib.hid hb; have T1 := Lib.hid hT; clear hb hT)
    | (go_at_call 17; (with_reducible refine (EX _).out.mono ?_); rintro e wx ⟨rfl, rfl⟩))
  have K1 := Lib.hid (Blk.new w1 26 #[.int .i64 2, .int .i64 0, .slice (some ⟨H, 0, none⟩) 3 3, .slice (some ⟨gV, 0, none⟩) 1 cV, .slice (some ⟨gW, 0, none⟩) 2 cW])
  have T2 := Lib.hid (T1.out.later (below_alloc (Below.refl _ w1) (.cells #[.int .i64 2, .int .i64 0, .slice (some ⟨H, 0, none⟩) 3 3, .slice (some ⟨gV, 0, none⟩) 1 cV, .slice (some ⟨gW, 0, none⟩) 2 cW] 26)))
  have B2 := Lib.hid (below_alloc B1.out (.cells #[.int .i64 2, .int .i64 0, .slice (some ⟨H, 0, none⟩) 3 3, .slice (some ⟨gV, 0, none⟩) 1 cV, .slice (some ⟨gW, 0, none⟩) 2 cW] 26))
  obtain ⟨gt, hgt⟩ : ∃ gt, gt = w1.heap.size := ⟨_, rfl⟩
  rw [← hgt] at K1 ⊢
  clear hgt
  generalize w1.alloc (.cells #[.int .i64 2, .int .i64 0, .slice (some ⟨H, 0, none⟩) 3 3, .slice (some ⟨gV, 0, none⟩) 1 cV, .slice (some ⟨gW, 0, none⟩) 2 cW] 26) = w2 at K1 T2 B2 ⊢
  have V2 := Lib.hid (VV.out.later B2.out)
  clear PA EX T1 B1 VV
  go_upto_region 3 with (go_at_call 16; (with_reducible refine (PB _ V2.out).out.mono ?_); rintro e w3 ⟨rfl, hb⟩; have B3 := Lib.hid hb; clear hb)
  have Z3 : (.agg #[.int .i64 0, .int .i64 0, .slice none 0 0, .slice none 0 0, .slice none 0 0] : Value) = .agg #[.int .i64 0, .int .i64 0, .slice none 0 0, .slice none 0 0, .slice none 0 0] := rfl
  have B4 := Lib.hid (below_alloc B3.out (.cells #[.int .i64 0, .int .i64 0, .slice none 0 0, .slice none 0 0, .slice none 0 0] 26))
  generalize w3.alloc (.cells #[.int .i64 0, .int .i64 0, .slice none 0 0, .slice none 0 0, .slice none 0 0] 26) = w4 at B4 ⊢
  have V4 := Lib.hid (V2.out.later B4.out)
  clear B3 PB Z3
  go_upto_region 4 with (go_at_call 16; (with_reducible refine (PC _ V4.out).out.mono ?_); rintro e w5 ⟨rfl, hb⟩; have B5 := Lib.hid (B4.out.trans (hb.mono B4.out.size)); clear hb)
  have B6 := Lib.hid (below_alloc B5.out (.cells #[.int .i64 0, .int .i64 0, .slice none 0 0, .slice none 0 0, .slice none 0 0] 26))
  generalize w5.alloc (.cells #[.int .i64 0, .int .i64 0, .slice none 0 0, .slice none 0 0, .slice none 0 0] 26) = w6 at B6 ⊢
  have V6 := Lib.hid (V2.out.later B6.out)
  have T6 := Lib.hid (T2.out.later B6.out)
  have K6 := Lib.hid (K1.out.below B6.out K1.out.lt)
  have D6 := Lib.hid (B2.out.trans (B6.out.mono B2.out.size))
  clear B5 B6 V4 PC K1 T2 B2 V2 B4
  obtain ⟨t0, t1, t2, t3, t4, t5⟩ := K6.out.five
  go_upto_region 6 with (fail)
  have BR := Below.refl w6.heap.size w6
  have BRH := Lib.hid BR
  clear BR
  have N0 := fun w' (hb : Below w6.heap.size w6 w') => Lib.hid (next_t (cV := cV) (cW := cW) V6.out.mat T6.out (1) (0) (0) 1 (by decide) t0_1 hb)
  have N1 := fun w' (hb : Below w6.heap.size w6 w') => Lib.hid (next_t (cV := cV) (cW := cW) V6.out.mat T6.out (1) (1) (1) 0 (by decide) t0_2 hb)
  have N2 := fun w' (hb : Below w6.heap.size w6 w') => Lib.hid (next_t (cV := cV) (cW := cW) V6.out.mat T6.out (0) (0) (1) 0 (by decide) t0_3 hb)
  have N3 := fun w' (hb : Below w6.heap.size w6 w') => Lib.hid (next_t (cV := cV) (cW := cW) V6.out.mat T6.out (0) (1) (1) 1 (by decide) t0_4 hb)
  have M0 := fun w' (hb : Below w6.heap.size w6 w') => Lib.hid (match_t (cV := cV) (cW := cW) V6.out.mat T6.out hb)
  have RN := fun w' => Lib.hid (rneumann1 w')
  go_upto_region 7 with (go_at_call 7; (with_reducible refine (N0 _ BRH.out).out.mono ?_); rintro e w7 ⟨rfl, hb⟩; have B7 := Lib.hid hb; clear hb t0 t1 t2 t3 t4 t5; obtain ⟨t0, t1, t2, t3, t4, t5⟩ := (K6.out.below B7.out K6.out.lt).five)
  go_upto_region 8 with (go_at_call 7; (with_reducible refine (N1 _ B7.out).out.mono ?_); rintro e w8 ⟨rfl, hb⟩; have B8 := Lib.hid hb; clear hb t0 t1 t2 t3 t4 t5; obtain ⟨t0, t1, t2, t3, t4, t5⟩ := (K6.out.below B8.out K6.out.lt).five)
  go_upto_region 9 with (go_at_call 7; (with_reducible refine (N2 _ B8.out).out.mono ?_); rintro e w9 ⟨rfl, hb⟩; have B9 := Lib.hid hb; clear hb t0 t1 t2 t3 t4 t5; obtain ⟨t0, t1, t2, t3, t4, t5⟩ := (K6.out.below B9.out K6.out.lt).five)
  go_upto_region 10 with (go_at_call 7; (with_reducible refine (N3 _ B9.out).out.mono ?_); rintro e w10 ⟨rfl, hb⟩; have B10 := Lib.hid hb; clear hb t0 t1 t2 t3 t4 t5; obtain ⟨t0, t1, t2, t3, t4, t5⟩ := (K6.out.below B10.out K6.out.lt).five)
  go_upto_region 11 with (go_at_call 18; (with_reducible refine (M0 _ B10.out).out.mono ?_); rintro e w11 ⟨rfl, hb⟩; have B11 := Lib.hid hb; clear hb t0 t1 t2 t3 t4 t5; obtain ⟨t0, t1, t2, t3, t4, t5⟩ := (K6.out.below B11.out K6.out.lt).five)
  go_upto_region 12 with (go_at_call 19; (with_reducible refine (RN _).out.mono ?_); rintro e w12 ⟨A, c, rfl, hq, hb⟩; have B12 := Lib.hid (B11.out.trans (hb.mono B11.out.size)); have Q12 := Lib.hid hq; clear hb hq)
  have KI := (Blk.new w12 3 #[.int .i64 1, .int .i64 0, .int .i64 0, .int .i64 0, .int .i64 0]).alloc (.cells #[.slice (some ⟨w12.heap.size, 0, none⟩) 5 5, .int .i64 1] 40)
  have KI2 := KI.alloc (.cells #[.int .i64 2, .int .i64 1, .slice A 5 c, .slice none 0 0, .slice (some ⟨w12.heap.size + 1, 0, none⟩) 1 1] 26)
  have KR := Blk.new (w12.alloc (.cells #[.int .i64 1, .int .i64 0, .int .i64 0, .int .i64 0, .int .i64 0] 3)) 40 #[.slice (some ⟨w12.heap.size, 0, none⟩) 5 5, .int .i64 1]
  rw [World.size_alloc] at KR
  have KR2 := KR.alloc (.cells #[.int .i64 2, .int .i64 1, .slice A 5 c, .slice none 0 0, .slice (some ⟨w12.heap.size + 1, 0, none⟩) 1 1] 26)
  have KU := Blk.new ((w12.alloc (.cells #[.int .i64 1, .int .i64 0, .int .i64 0, .int .i64 0, .int .i64 0] 3)).alloc (.cells #[.slice (some ⟨w12.heap.size, 0, none⟩) 5 5, .int .i64 1] 40)) 26 #[.int .i64 2, .int .i64 1, .slice A 5 c, .slice none 0 0, .slice (some ⟨w12.heap.size + 1, 0, none⟩) 1 1]
  rw [World.size_alloc, World.size_alloc] at KU
  have B13 := below_alloc (below_alloc (below_alloc B12.out (.cells #[.int .i64 1, .int .i64 0, .int .i64 0, .int .i64 0, .int .i64 0] 3)) (.cells #[.slice (some ⟨w12.heap.size, 0, none⟩) 5 5, .int .i64 1] 40)) (.cells #[.int .i64 2, .int .i64 1, .slice A 5 c, .slice none 0 0, .slice (some ⟨w12.heap.size + 1, 0, none⟩) 1 1] 26)
  have Q13 := Q12.out.later (below_alloc (below_alloc (below_alloc (Below.refl _ w12) (.cells #[.int .i64 1, .int .i64 0, .int .i64 0, .int .i64 0, .int .i64 0] 3)) (.cells #[.slice (some ⟨w12.heap.size, 0, none⟩) 5 5, .int .i64 1] 40)) (.cells #[.int .i64 2, .int .i64 1, .slice A 5 c, .slice none 0 0, .slice (some ⟨w12.heap.size + 1, 0, none⟩) 1 1] 26))
  clear KI KR
  generalize ((w12.alloc (.cells #[.int .i64 1, .int .i64 0, .int .i64 0, .int .i64 0, .int .i64 0] 3)).alloc (.cells #[.slice (some ⟨w12.heap.size, 0, none⟩) 5 5, .int .i64 1] 40)).alloc (.cells #[.int .i64 2, .int .i64 1, .slice A 5 c, .slice none 0 0, .slice (some ⟨w12.heap.size + 1, 0, none⟩) 1 1] 26) = w13 at KI2 KR2 KU B13 Q13 ⊢
  have VH := Lib.hid (V6.out.later B13)
  have TH := Lib.hid (T6.out.later B13)
  have KH := Lib.hid (K6.out.below B13 K6.out.lt)
  have DH := Lib.hid (D6.out.trans (B13.mono D6.out.size))
  generalize w12.heap.size + 1 + 1 = gu at *
  generalize w12.heap.size + 1 = gR at *
  generalize w12.heap.size = gI at *
  clear B7 B8 B9 B10 B11 B12 B13 Q12 t0 t1 t2 t3 t4 t5 V6 T6 K6 D6 N0 N1 N2 N3 M0 RN BRH
  have NU := fun w' (hb : Below w13.heap.size w13 w') => Lib.hid (next_u VH.out.mat Q13 KI2 KR2 (c := c) hb)
  have RU := fun w' (hb : Below w13.heap.size w13 w') => Lib.hid (right_u VH.out.mat Q13 KI2 KR2 (c := c) hb)
  have ST := fun w' (hb : Below w13.heap.size w13 w') => Lib.hid (same_t (cV := cV) (cW := cW) TH.out hb)
  have TU := fun w' (hb : Below w13.heap.size w13 w') => Lib.hid (text_u VH.out Q13 KI2 KR2 (c := c) hb)
  have RZ := fun w' (hb : Below w13.heap.size w13 w') => Lib.hid (right_z VH.out.mat hb)
  have et : ((tx xt).toList == [115, 116, 97, 116, 101, 115, 32, 50, 10, 104, 111, 111, 100, 32, 110, 101, 117, 109, 97, 110, 110, 10, 115, 121, 109, 109, 101, 116, 114, 121, 32, 114, 111, 116, 97, 116, 101, 10, 49, 32, 48, 32, 48, 32, 48, 32, 48, 32, 45, 62, 32, 49, 10]) = true := teqs xt [115, 116, 97, 116, 101, 115, 32, 50, 10, 104, 111, 111, 100, 32, 110, 101, 117, 109, 97, 110, 110, 10, 115, 121, 109, 109, 101, 116, 114, 121, 32, 114, 111, 116, 97, 116, 101, 10, 49, 32, 48, 32, 48, 32, 48, 32, 48, 32, 45, 62, 32, 49, 10] true (by decide)
  generalize tx xt = sxt at TU et
  have KU := Lib.hid KU
  have BR := Lib.hid (Below.refl w13.heap.size w13)
  clear KI2 KR2 Q13
  obtain ⟨u0, u1, u2, u3, u4, u5⟩ := KU.out.five
  go_wp2_with (first
    | (go_at_call 5; (with_reducible refine (RZ _ B17.out).out.mono ?_); rintro e w18 ⟨rfl, hb⟩; have B18 := Lib.hid hb; clear hb)
    | (go_at_call 21; (with_reducible refine (TU _ B16.out).out.mono ?_); rintro e w17 ⟨rfl, hb⟩; have B17 := Lib.hid hb; clear hb)
    | (go_at_call 20; (with_reducible refine (ST _ B15.out).out.mono ?_); rintro e w16 ⟨rfl, hb⟩; have B16 := Lib.hid hb; obtain ⟨i0, i1, i2, i3, i4, i5⟩ := (KU.out.below hb KU.out.lt).five; clear hb)
    | (go_at_call 5; (with_reducible refine (RU _ B14.out).out.mono ?_); rintro e w15 ⟨rfl, hb⟩; have B15 := Lib.hid hb; obtain ⟨h0, h1, h2, h3, h4, h5⟩ := (KH.out.below hb KH.out.lt).five; clear hb)
    | (go_at_call 7; (with_reducible refine (NU _ BR.out).out.mono ?_); rintro e w14 ⟨rfl, hb⟩; have B14 := Lib.hid hb; obtain ⟨v0, v1, v2, v3, v4, v5⟩ := (KU.out.below hb KU.out.lt).five; clear hb))
  go_ret
  exact ⟨rfl, DH.out.trans (B18.out.mono DH.out.size)⟩
end Go.Proofs.YtbcihgimflljoaaGreatDoor
