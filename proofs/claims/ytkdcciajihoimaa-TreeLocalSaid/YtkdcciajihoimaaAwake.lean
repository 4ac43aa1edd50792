/- The walk of awake: the chapter's examples hold. -/
import Derived.Test.YtkdcciajihoimaaQui
namespace Go.Proofs.Ytkdcciajihoimaa
open Go.RowKit

theorem two_reads {w : World} {g : Nat} {a b : Int} (K : Blk w g 3 #[.int .i64 a, .int .i64 b]) : Reads w w.heap.size (some ⟨g, 0, none⟩) 2 (il [a, b]) :=
  ⟨by simp [il], fun _ => ⟨_, rfl, K.lt, fun j u hj => by
    match j, hj with
    | 0, hj => simp [il] at hj; subst hj; exact K.two.1
    | 1, hj => simp [il] at hj; subst hj; exact K.two.2.1⟩⟩
section
variable (AH AN : Option Addr) (cH cN g : Nat) (w : World)
theorem eval_p1 (h : TS w AH AN TP) (K : Blk w g 3 #[.int .i64 1, .int .i64 0]) :
    Calls Try.prog 7 #[.agg #[.int .i64 2, .slice AH 2 cH, .slice AN 3 cN], .slice (some ⟨g, 0, none⟩) 2 2] w fun e w' => e = .returned (.tuple #[.int .i64 1, .int .i64 0]) ∧ Below w.heap.size w w' := by
  have := eval_any AH cH AN cN TP (some ⟨g, 0, none⟩) 2 [1, 0] w 2 h tp_rt (two_reads K) (by omega)
  rwa [show ev TP.st TP.n [1, 0] (fo TP.nx ((TP.m - 1 : Nat) : Int) [1, 0]) = (1, 0) by decide +kernel] at this
theorem eval_p2 (h : TS w AH AN TP) (K : Blk w g 3 #[.int .i64 2, .int .i64 0]) :
    Calls Try.prog 7 #[.agg #[.int .i64 2, .slice AH 2 cH, .slice AN 3 cN], .slice (some ⟨g, 0, none⟩) 2 2] w fun e w' => e = .returned (.tuple #[.int .i64 0, .int .i64 10]) ∧ Below w.heap.size w w' := by
  have := eval_any AH cH AN cN TP (some ⟨g, 0, none⟩) 2 [2, 0] w 2 h tp_rt (two_reads K) (by omega)
  rwa [show ev TP.st TP.n [2, 0] (fo TP.nx ((TP.m - 1 : Nat) : Int) [2, 0]) = (0, 10) by decide +kernel] at this
theorem eval_c1 (h : TS w AH AN TC) (K : Blk w g 3 #[.int .i64 1, .int .i64 0]) :
    Calls Try.prog 7 #[.agg #[.int .i64 3, .slice AH 2 cH, .slice AN 2 cN], .slice (some ⟨g, 0, none⟩) 2 2] w fun e w' => e = .returned (.tuple #[.int .i64 2, .int .i64 0]) ∧ Below w.heap.size w w' := by
  have := eval_any AH cH AN cN TC (some ⟨g, 0, none⟩) 2 [1, 0] w 2 h tc_rt (two_reads K) (by omega)
  rwa [show ev TC.st TC.n [1, 0] (fo TC.nx ((TC.m - 1 : Nat) : Int) [1, 0]) = (2, 0) by decide +kernel] at this
theorem right_p (h : TS w AH AN TP) : Calls Try.prog 8 #[.agg #[.int .i64 2, .slice AH 2 cH, .slice AN 3 cN]] w fun e w' => e = .returned (.bool true) ∧ Below w.heap.size w w' := tright_yes AH cH AN cN TP w h tp_rt
theorem quiet_p (h : TS w AH AN TP) : Calls Try.prog 13 #[.agg #[.int .i64 2, .slice AH 2 cH, .slice AN 3 cN]] w fun e w' => e = .returned (.bool true) ∧ Below w.heap.size w w' := quiet_ex TP tp_rt rfl true (by decide +kernel) AH AN cH cN w h
theorem quiet_c (h : TS w AH AN TC) : Calls Try.prog 13 #[.agg #[.int .i64 3, .slice AH 2 cH, .slice AN 2 cN]] w fun e w' => e = .returned (.bool false) ∧ Below w.heap.size w w' := quiet_ex TC tc_rt rfl false (by decide +kernel) AH AN cH cN w h
theorem same_p (AH2 AN2 : Option Addr) (cH2 cN2 : Nat) (h : TS w AH AN TP) (h2 : TS w AH2 AN2 TP) :
    Calls Try.prog 12 #[.agg #[.int .i64 2, .slice AH 2 cH, .slice AN 3 cN], .agg #[.int .i64 2, .slice AH2 2 cH2, .slice AN2 3 cN2]] w fun e w' => e = .returned (.bool true) ∧ Below w.heap.size w w' :=
  tsame_yes AH AH2 AN AN2 cH cH2 cN cN2 TP w h h2 (by decide) (by decide) (by decide +kernel)
theorem ints_p (g2 : Nat) (h : Reads w w.heap.size (some ⟨g, 0, none⟩) 2 (il [2, 1])) (K : Blk w g2 3 #[.int .i64 2, .int .i64 1]) :
    Calls Try.prog 14 #[.slice (some ⟨g, 0, none⟩) 2 2, .slice (some ⟨g2, 0, none⟩) 2 2] w fun e w' => e = .returned (.bool true) ∧ Below w.heap.size w w' :=
  lints_yes _ _ 2 2 2 [2, 1] w h (two_reads K) (by omega)
theorem read_p (h : QReads w w.heap.size AH 2 line) : Calls Try.prog 10 #[.int .i64 2, .slice AH 2 cH, .int .i64 0] w fun e w' => ∃ AH cH AN cN, e = .returned (.tuple #[.agg #[.int .i64 2, .slice AH 2 cH, .slice AN 3 cN], .int .i64 0]) ∧ TS w' AH AN TP ∧ Below w.heap.size w w' := read_ex AH cH w h
theorem constant_p (h : QReads w w.heap.size AH 2 line) : Calls Try.prog 11 #[.int .i64 3, .slice AH 2 cH, .int .i64 2] w fun e w' => ∃ AH cH AN cN, e = .returned (.tuple #[.agg #[.int .i64 3, .slice AH 2 cH, .slice AN 2 cN], .int .i64 0]) ∧ TS w' AH AN TC ∧ Below w.heap.size w w' := constant_ex AH cH w h
end
theorem line_reads {w : World} {g : Nat} (K : Blk w g 37 #[.int .i64 (-1), .int .i64 0, .int .i64 0, .int .i64 0]) : QReads w w.heap.size (some ⟨g, 0, none⟩) 2 line := fun _ => ⟨g, 0, rfl, K.lt, fun k hk => by
  match k, hk with
  | 0, _ => exact ⟨K.cell 0, K.cell 1⟩
  | 1, _ => exact ⟨K.cell 2, K.cell 3⟩⟩
theorem want_reads {w : World} {g a b c : Nat} (K : Blk w g 30 #[.int .i64 1, .slice (some ⟨a, 0, none⟩) 2 2, .int .i64 1, .slice (some ⟨b, 0, none⟩) 2 2, .int .i64 2, .slice (some ⟨c, 0, none⟩) 2 2])
    (Ka : Blk w a 3 #[.int .i64 0, .int .i64 0]) (Kb : Blk w b 3 #[.int .i64 1, .int .i64 1]) (Kc : Blk w c 3 #[.int .i64 0, .int .i64 1]) : NR w w.heap.size (some ⟨g, 0, none⟩) 3 TP.lv TP.nx := fun _ => ⟨g, 0, rfl, K.lt, fun k hk => by
  match k, hk with
  | 0, _ => exact ⟨_, _, K.cell 0, K.cell 1, two_reads Ka⟩
  | 1, _ => exact ⟨_, _, K.cell 2, K.cell 3, two_reads Kb⟩
  | 2, _ => exact ⟨_, _, K.cell 4, K.cell 5, two_reads Kc⟩⟩

set_option maxRecDepth 100000 in
set_option maxHeartbeats 4000000 in
theorem awake_any (w : World) : Calls Try.prog 6 #[] w fun e w' => e = .returned (.bool true) ∧ Below w.heap.size w w' := by
  have RD := Lib.hid (fun A c w h => read_p A c w h)
  have CO := Lib.hid (fun A c w h => constant_p A c w h)
  have E1 := Lib.hid (fun A B c d g w h K => eval_p1 A B c d g w h K)
  have E2 := Lib.hid (fun A B c d g w h K => eval_p2 A B c d g w h K)
  have E3 := Lib.hid (fun A B c d g w h K => eval_c1 A B c d g w h K)
  have K0 := Blk.new w 37 #[.int .i64 (-1), .int .i64 0, .int .i64 0, .int .i64 0]
  have B0 := (Below.refl w.heap.size w).alloc (Nat.le_refl _) (.cells #[.int .i64 (-1), .int .i64 0, .int .i64 0, .int .i64 0] 37)
  go_enter Try.func6, Try.ntmps6
  go_upto_region 2 with (fail)
  generalize w.alloc (.cells #[.int .i64 (-1), .int .i64 0, .int .i64 0, .int .i64 0] 37) = w0 at *
  have L0 := Lib.hid (line_reads K0)
  have B0 := Lib.hid B0
  clear K0
  obtain ⟨gl, hgl⟩ : ∃ gl, gl = w.heap.size := ⟨_, rfl⟩
  rw [← hgl] at L0 ⊢
  clear hgl
  go_upto_region 3 with (go_at_call 10; (with_reducible refine (RD.out _ _ _ L0.out).mono ?_); rintro e w1 ⟨AH, cH, AN, cN, rfl, hts, hb⟩; have B1 := Lib.hid (B0.out.trans (hb.mono B0.out.size)); have T1 := Lib.hid hts; have L1 := Lib.hid (L0.out.later hb); clear hb hts)
  have X := (Below.refl w1.heap.size w1).alloc (Nat.le_refl _) (.cells #[.int .i64 2, .slice AH 2 cH, .slice AN 3 cN] 25)
  have K2 := Lib.hid (Blk.new w1 25 #[.int .i64 2, .slice AH 2 cH, .slice AN 3 cN])
  have T2 := Lib.hid (T1.out.later X)
  have L2 := Lib.hid (L1.out.later X)
  have B2 := Lib.hid (B1.out.trans (X.mono B1.out.size))
  have KT := K2.out.lt
  clear X T1 L1 L0
  generalize w1.alloc (.cells #[.int .i64 2, .slice AH 2 cH, .slice AN 3 cN] 25) = w2 at *
  generalize w1.heap.size = gt at *
  go_upto_region 4 with (go_at_call 11; (with_reducible refine (CO.out _ _ _ L2.out).mono ?_); rintro e w3 ⟨AH2, cH2, AN2, cN2, rfl, hts, hb⟩; have B3 := Lib.hid (B2.out.trans (hb.mono B2.out.size)); have C3 := Lib.hid hts; have L3 := Lib.hid (L2.out.later hb); have T3 := Lib.hid (T2.out.later hb); have K3 := Lib.hid (K2.out.below hb K2.out.lt); clear hb hts)
  have X := (Below.refl w3.heap.size w3).alloc (Nat.le_refl _) (.cells #[.int .i64 3, .slice AH2 2 cH2, .slice AN2 2 cN2] 25)
  have J4 := Lib.hid (Blk.new w3 25 #[.int .i64 3, .slice AH2 2 cH2, .slice AN2 2 cN2])
  have K4 := Lib.hid (K3.out.below X K3.out.lt)
  have T4 := Lib.hid (T3.out.later X)
  have C4 := Lib.hid (C3.out.later X)
  have L4 := Lib.hid (L3.out.later X)
  have B4 := Lib.hid (B3.out.trans (X.mono B3.out.size))
  clear X T3 L3 C3 K3 T2 L2 K2 KT B3 B2 B1 B0
  generalize w3.alloc (.cells #[.int .i64 3, .slice AH2 2 cH2, .slice AN2 2 cN2] 25) = w4 at *
  generalize w3.heap.size = gc at *
  obtain ⟨a0, a1, a2, a3⟩ := K4.out.three
  have X := (Below.refl w4.heap.size w4).alloc (Nat.le_refl _) (.cells #[.int .i64 1, .int .i64 0] 3)
  have KI := Lib.hid (Blk.new w4 3 #[.int .i64 1, .int .i64 0])
  have TX := Lib.hid (T4.out.later X)
  have X := Lib.hid X
  go_upto_region 5 with (go_at_call 7; (with_reducible refine (E1.out _ _ _ _ _ _ TX.out KI.out).mono ?_); rintro e w5 ⟨rfl, hb⟩; have Z := Lib.hid (X.out.trans (hb.mono X.out.size)); clear hb)
  have J5 := Lib.hid (J4.out.below Z.out J4.out.lt)
  have K5 := Lib.hid (K4.out.below Z.out K4.out.lt)
  have T5 := Lib.hid (T4.out.later Z.out)
  have C5 := Lib.hid (C4.out.later Z.out)
  have L5 := Lib.hid (L4.out.later Z.out)
  have B5 := Lib.hid (B4.out.trans (Z.out.mono B4.out.size))
  clear X Z TX KI a0 a1 a2 a3 J4 K4 T4 C4 L4 B4
  obtain ⟨a0, a1, a2, a3⟩ := J5.out.three
  have X := (Below.refl w5.heap.size w5).alloc (Nat.le_refl _) (.cells #[.int .i64 1, .int .i64 0] 3)
  have KI := Lib.hid (Blk.new w5 3 #[.int .i64 1, .int .i64 0])
  have TX := Lib.hid (C5.out.later X)
  have X := Lib.hid X
  go_upto_region 6 with (go_at_call 7; (with_reducible refine (E3.out _ _ _ _ _ _ TX.out KI.out).mono ?_); rintro e w6 ⟨rfl, hb⟩; have Z := Lib.hid (X.out.trans (hb.mono X.out.size)); clear hb)
  have J6 := Lib.hid (J5.out.below Z.out J5.out.lt)
  have K6 := Lib.hid (K5.out.below Z.out K5.out.lt)
  have T6 := Lib.hid (T5.out.later Z.out)
  have C6 := Lib.hid (C5.out.later Z.out)
  have L6 := Lib.hid (L5.out.later Z.out)
  have B6 := Lib.hid (B5.out.trans (Z.out.mono B5.out.size))
  clear X Z TX KI a0 a1 a2 a3 J5 K5 T5 C5 L5 B5
  obtain ⟨a0, a1, a2, a3⟩ := K6.out.three
  have X := (Below.refl w6.heap.size w6).alloc (Nat.le_refl _) (.cells #[.int .i64 2, .int .i64 0] 3)
  have KI := Lib.hid (Blk.new w6 3 #[.int .i64 2, .int .i64 0])
  have TX := Lib.hid (T6.out.later X)
  have X := Lib.hid X
  go_upto_region 7 with (go_at_call 7; (with_reducible refine (E2.out _ _ _ _ _ _ TX.out KI.out).mono ?_); rintro e w7 ⟨rfl, hb⟩; have Z := Lib.hid (X.out.trans (hb.mono X.out.size)); clear hb)
  have J7 := Lib.hid (J6.out.below Z.out J6.out.lt)
  have K7 := Lib.hid (K6.out.below Z.out K6.out.lt)
  have T7 := Lib.hid (T6.out.later Z.out)
  have C7 := Lib.hid (C6.out.later Z.out)
  have L7 := Lib.hid (L6.out.later Z.out)
  have B7 := Lib.hid (B6.out.trans (Z.out.mono B6.out.size))
  clear X Z TX KI a0 a1 a2 a3 J6 K6 T6 C6 L6 B6
  go_upto_region 8 with (fail)
  have X := Lib.hid ((((((Below.refl w7.heap.size w7).alloc (Nat.le_refl _) (.cells #[.int .i64 0, .int .i64 0] 3)).alloc (by simp) (.cells #[.int .i64 1, .int .i64 1] 3)).alloc (by simp; omega) (.cells #[.int .i64 0, .int .i64 1] 3)).alloc (by simp; omega) (.cells #[.int .i64 1, .slice (some ⟨w7.heap.size, 0, none⟩) 2 2, .int .i64 1, .slice (some ⟨w7.heap.size + 1, 0, none⟩) 2 2, .int .i64 2, .slice (some ⟨w7.heap.size + 1 + 1, 0, none⟩) 2 2] 30)).alloc (by simp; omega) (.cells #[.int .i64 2, .slice (some ⟨gl, 0, none⟩) 2 2, .slice (some ⟨w7.heap.size + 1 + 1 + 1, 0, none⟩) 3 3] 25))
  have Ka := ((((Blk.new w7 3 #[.int .i64 0, .int .i64 0]).alloc (.cells #[.int .i64 1, .int .i64 1] 3)).alloc (.cells #[.int .i64 0, .int .i64 1] 3)).alloc (.cells #[.int .i64 1, .slice (some ⟨w7.heap.size, 0, none⟩) 2 2, .int .i64 1, .slice (some ⟨w7.heap.size + 1, 0, none⟩) 2 2, .int .i64 2, .slice (some ⟨w7.heap.size + 1 + 1, 0, none⟩) 2 2] 30)).alloc (.cells #[.int .i64 2, .slice (some ⟨gl, 0, none⟩) 2 2, .slice (some ⟨w7.heap.size + 1 + 1 + 1, 0, none⟩) 3 3] 25)
  have Kb := (((Blk.new (w7.alloc (.cells #[.int .i64 0, .int .i64 0] 3)) 3 #[.int .i64 1, .int .i64 1]).alloc (.cells #[.int .i64 0, .int .i64 1] 3)).alloc (.cells #[.int .i64 1, .slice (some ⟨w7.heap.size, 0, none⟩) 2 2, .int .i64 1, .slice (some ⟨w7.heap.size + 1, 0, none⟩) 2 2, .int .i64 2, .slice (some ⟨w7.heap.size + 1 + 1, 0, none⟩) 2 2] 30)).alloc (.cells #[.int .i64 2, .slice (some ⟨gl, 0, none⟩) 2 2, .slice (some ⟨w7.heap.size + 1 + 1 + 1, 0, none⟩) 3 3] 25)
  have Kc := ((Blk.new ((w7.alloc (.cells #[.int .i64 0, .int .i64 0] 3)).alloc (.cells #[.int .i64 1, .int .i64 1] 3)) 3 #[.int .i64 0, .int .i64 1]).alloc (.cells #[.int .i64 1, .slice (some ⟨w7.heap.size, 0, none⟩) 2 2, .int .i64 1, .slice (some ⟨w7.heap.size + 1, 0, none⟩) 2 2, .int .i64 2, .slice (some ⟨w7.heap.size + 1 + 1, 0, none⟩) 2 2] 30)).alloc (.cells #[.int .i64 2, .slice (some ⟨gl, 0, none⟩) 2 2, .slice (some ⟨w7.heap.size + 1 + 1 + 1, 0, none⟩) 3 3] 25)
  have Kn := (Blk.new (((w7.alloc (.cells #[.int .i64 0, .int .i64 0] 3)).alloc (.cells #[.int .i64 1, .int .i64 1] 3)).alloc (.cells #[.int .i64 0, .int .i64 1] 3)) 30 #[.int .i64 1, .slice (some ⟨w7.heap.size, 0, none⟩) 2 2, .int .i64 1, .slice (some ⟨w7.heap.size + 1, 0, none⟩) 2 2, .int .i64 2, .slice (some ⟨w7.heap.size + 1 + 1, 0, none⟩) 2 2]).alloc (.cells #[.int .i64 2, .slice (some ⟨gl, 0, none⟩) 2 2, .slice (some ⟨w7.heap.size + 1 + 1 + 1, 0, none⟩) 3 3] 25)
  have Kw := Blk.new ((((w7.alloc (.cells #[.int .i64 0, .int .i64 0] 3)).alloc (.cells #[.int .i64 1, .int .i64 1] 3)).alloc (.cells #[.int .i64 0, .int .i64 1] 3)).alloc (.cells #[.int .i64 1, .slice (some ⟨w7.heap.size, 0, none⟩) 2 2, .int .i64 1, .slice (some ⟨w7.heap.size + 1, 0, none⟩) 2 2, .int .i64 2, .slice (some ⟨w7.heap.size + 1 + 1, 0, none⟩) 2 2] 30)) 25 #[.int .i64 2, .slice (some ⟨gl, 0, none⟩) 2 2, .slice (some ⟨w7.heap.size + 1 + 1 + 1, 0, none⟩) 3 3]
  have ez : w7.heap.size + 1 + 1 + 1 + 1 = ((((w7.alloc (.cells #[.int .i64 0, .int .i64 0] 3)).alloc (.cells #[.int .i64 1, .int .i64 1] 3)).alloc (.cells #[.int .i64 0, .int .i64 1] 3)).alloc (.cells #[.int .i64 1, .slice (some ⟨w7.heap.size, 0, none⟩) 2 2, .int .i64 1, .slice (some ⟨w7.heap.size + 1, 0, none⟩) 2 2, .int .i64 2, .slice (some ⟨w7.heap.size + 1 + 1, 0, none⟩) 2 2] 30)).heap.size := by simp
  simp only [World.size_alloc] at Kb Kc Kn
  rw [← ez] at Kw
  clear ez
  generalize (((((w7.alloc (.cells #[.int .i64 0, .int .i64 0] 3)).alloc (.cells #[.int .i64 1, .int .i64 1] 3)).alloc (.cells #[.int .i64 0, .int .i64 1] 3)).alloc (.cells #[.int .i64 1, .slice (some ⟨w7.heap.size, 0, none⟩) 2 2, .int .i64 1, .slice (some ⟨w7.heap.size + 1, 0, none⟩) 2 2, .int .i64 2, .slice (some ⟨w7.heap.size + 1 + 1, 0, none⟩) 2 2] 30)).alloc (.cells #[.int .i64 2, .slice (some ⟨gl, 0, none⟩) 2 2, .slice (some ⟨w7.heap.size + 1 + 1 + 1, 0, none⟩) 3 3] 25)) = w8 at X Ka Kb Kc Kn Kw ⊢
  have NW := want_reads Kn Ka Kb Kc
  have J8 := Lib.hid (J7.out.below X.out J7.out.lt)
  have K8 := Lib.hid (K7.out.below X.out K7.out.lt)
  have T8 := Lib.hid (T7.out.later X.out)
  have C8 := Lib.hid (C7.out.later X.out)
  have TW := Lib.hid (show TS w8 (some ⟨gl, 0, none⟩) (some ⟨w7.heap.size + 1 + 1 + 1, 0, none⟩) TP from ⟨L7.out.later X.out, NW⟩)
  have B8 := Lib.hid (B7.out.trans (X.out.mono B7.out.size))
  have W8 := Lib.hid Kw
  clear X Ka Kb Kc Kn Kw NW J7 K7 T7 C7 L7 B7 E1 E2 E3 RD CO
  generalize w7.heap.size + 1 + 1 + 1 = gn at *
  generalize gn + 1 = gw at *
  obtain ⟨a0, a1, a2, a3⟩ := K8.out.three
  obtain ⟨b0, b1, b2, b3⟩ := J8.out.three
  obtain ⟨c0, c1, c2, c3⟩ := W8.out.three
  have SA := Lib.hid (fun A B c d w A2 B2 c2 d2 h h2 => same_p A B c d w A2 B2 c2 d2 h h2)
  have RT := Lib.hid (fun A B c d w h => right_p A B c d w h)
  have QT := Lib.hid (fun A B c d w h => quiet_p A B c d w h)
  have QC := Lib.hid (fun A B c d w h => quiet_c A B c d w h)
  have SZ := Lib.hid (fun A B c d w h => size_ex A B c d w h)
  have IN := Lib.hid (fun g w g2 h K => ints_p g w g2 h K)
  have RZ := Lib.hid (fun w' (_ : Below w.heap.size w w') => right_zero w')
  go_wp2_with (first
    | (go_at_call 8; (with_reducible refine (RZ.out _ B14.out).mono ?_); rintro e w15 ⟨rfl, hb⟩; have B15 := Lib.hid (B14.out.trans (hb.mono B14.out.size)); clear hb)
    | (go_at_call 14; (with_reducible refine (IN.out _ _ _ RI.out KI.out).mono ?_); rintro e w14 ⟨rfl, hb⟩; have B14 := Lib.hid (BI.out.trans (hb.mono BI.out.size)); clear hb)
    | (go_at_call 15; (with_reducible refine (SZ.out _ _ _ _ _ T12.out).mono ?_); rintro e w13 ⟨gz, rfl, hrd, hb⟩; have B13 := Lib.hid (B12.out.trans (hb.mono B12.out.size)); have K13 := Lib.hid (K12.out.below hb K12.out.lt); have J13 := Lib.hid (J12.out.below hb J12.out.lt); have T13 := Lib.hid (T12.out.later hb); have C13 := Lib.hid (C12.out.later hb); obtain ⟨a0, a1, a2, a3⟩ := K13.out.three; obtain ⟨b0, b1, b2, b3⟩ := J13.out.three; have KI := Lib.hid (Blk.new w13 3 #[.int .i64 2, .int .i64 1]); have BJ := (Below.refl w13.heap.size w13).alloc (Nat.le_refl _) (.cells #[.int .i64 2, .int .i64 1] 3); have RI := Lib.hid (hrd.later BJ); have BI := Lib.hid (B13.out.trans (BJ.mono B13.out.size)); clear hrd BJ; clear hb)
    | (go_at_call 13; (with_reducible refine (QC.out _ _ _ _ _ C11.out).mono ?_); rintro e w12 ⟨rfl, hb⟩; have B12 := Lib.hid (B11.out.trans (hb.mono B11.out.size)); have K12 := Lib.hid (K11.out.below hb K11.out.lt); have J12 := Lib.hid (J11.out.below hb J11.out.lt); have T12 := Lib.hid (T11.out.later hb); have C12 := Lib.hid (C11.out.later hb); obtain ⟨a0, a1, a2, a3⟩ := K12.out.three; obtain ⟨b0, b1, b2, b3⟩ := J12.out.three; clear hb)
    | (go_at_call 13; (with_reducible refine (QT.out _ _ _ _ _ T10.out).mono ?_); rintro e w11 ⟨rfl, hb⟩; have B11 := Lib.hid (B10.out.trans (hb.mono B10.out.size)); have K11 := Lib.hid (K10.out.below hb K10.out.lt); have J11 := Lib.hid (J10.out.below hb J10.out.lt); have T11 := Lib.hid (T10.out.later hb); have C11 := Lib.hid (C10.out.later hb); obtain ⟨a0, a1, a2, a3⟩ := K11.out.three; obtain ⟨b0, b1, b2, b3⟩ := J11.out.three; clear hb)
    | (go_at_call 8; (with_reducible refine (RT.out _ _ _ _ _ T9.out).mono ?_); rintro e w10 ⟨rfl, hb⟩; have B10 := Lib.hid (B9.out.trans (hb.mono B9.out.size)); have K10 := Lib.hid (K9.out.below hb K9.out.lt); have J10 := Lib.hid (J9.out.below hb J9.out.lt); have T10 := Lib.hid (T9.out.later hb); have C10 := Lib.hid (C9.out.later hb); obtain ⟨a0, a1, a2, a3⟩ := K10.out.three; obtain ⟨b0, b1, b2, b3⟩ := J10.out.three; clear hb)
    | (go_at_call 12; (with_reducible refine (SA.out _ _ _ _ _ _ _ _ _ T8.out TW.out).mono ?_); rintro e w9 ⟨rfl, hb⟩; have B9 := Lib.hid (B8.out.trans (hb.mono B8.out.size)); have K9 := Lib.hid (K8.out.below hb K8.out.lt); have J9 := Lib.hid (J8.out.below hb J8.out.lt); have T9 := Lib.hid (T8.out.later hb); have C9 := Lib.hid (C8.out.later hb); obtain ⟨a0, a1, a2, a3⟩ := K9.out.three; obtain ⟨b0, b1, b2, b3⟩ := J9.out.three; clear hb))
  go_ret
  exact ⟨rfl, B15.out⟩
end Go.Proofs.Ytkdcciajihoimaa
