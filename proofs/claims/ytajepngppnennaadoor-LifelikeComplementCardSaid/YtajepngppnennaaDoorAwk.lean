/- The walk of the chapter's examples. -/
import Derived.Test.YtajepngppnennaaDoorEx
namespace Go.Proofs.YtajepngppnennaaDoor
open Go.RowKit

theorem Reads.of_blk {w : World} {g : Nat} {t : TypeId} {xs : List Value} (h : Blk w g t xs.toArray) : Reads w w.heap.size (some ⟨g, 0, none⟩) xs.length xs := by
  refine ⟨rfl, fun _ => ⟨_, rfl, h.lt, fun j u hj => ?_⟩⟩
  have e : ((⟨g, 0, none⟩ : Addr).add j) = ⟨g, j, none⟩ := by
    unfold Addr.add
    split
    · next e => subst e; rfl
    · simp
  rw [e, h.cell]
  simpa using hj
theorem comp_ex (A : Option Addr) (c : Nat) (Ab : Option Addr) (cb : Nat) (As : Option Addr) (cs : Nat) (w : World) (h : TR w A 9 (lf M1) Ab 1 [3] As 2 [2, 3]) :
    Calls Tryd.prog 6 #[.agg #[.slice A 9 c, .int .i64 2, .slice Ab 1 cb, .slice As 2 cs]] w fun e w' => ∃ A' c' A1 c1 A2 c2, e = .returned (.tuple #[.agg #[.slice A' 9 c', .int .i64 2, .slice A1 7 c1, .slice A2 8 c2], .int .i64 0]) ∧ TR w' A' 9 (lf M1) A1 7 [0, 1, 2, 3, 4, 7, 8] A2 8 [0, 1, 2, 3, 4, 6, 7, 8] ∧ Below w.heap.size w w' := by
  have := complement_yes A 9 c (lf M1) Ab 1 cb [3] As 2 cs [2, 3] 8 w h (by omega) rfl (by omega) (by omega) rt_one
  rwa [ex_birth, ex_survive] at this
theorem text_ex1 (A : Option Addr) (c : Nat) (Ab : Option Addr) (cb : Nat) (As : Option Addr) (cs : Nat) (w : World) (h : TR w A 9 (lf M1) Ab 1 [3] As 2 [2, 3]) :
    Calls Tryd.prog 13 #[.agg #[.slice A 9 c, .int .i64 2, .slice Ab 1 cb, .slice As 2 cs]] w fun e w' => e = .returned (.string ⟨#[66, 51, 47, 83, 50, 51]⟩) ∧ Below w.heap.size w w' := by
  have := text_any A 9 c (lf M1) Ab 1 cb [3] As 2 cs [2, 3] w h (by omega) (by omega) (by omega) rt_one
  rw [tt_one] at this
  exact this
theorem text_ex2 (A : Option Addr) (c : Nat) (Ab : Option Addr) (cb : Nat) (As : Option Addr) (cs : Nat) (w : World) (h : TR w A 9 (lf M1) Ab 7 [0, 1, 2, 3, 4, 7, 8] As 8 [0, 1, 2, 3, 4, 6, 7, 8]) :
    Calls Tryd.prog 13 #[.agg #[.slice A 9 c, .int .i64 2, .slice Ab 7 cb, .slice As 8 cs]] w fun e w' => e = .returned (.string ⟨#[66, 48, 49, 50, 51, 52, 55, 56, 47, 83, 48, 49, 50, 51, 52, 54, 55, 56]⟩) ∧ Below w.heap.size w w' := by
  have := text_any A 9 c (lf M1) Ab 7 cb [0, 1, 2, 3, 4, 7, 8] As 8 cs [0, 1, 2, 3, 4, 6, 7, 8] w h (by omega) (by omega) (by omega) rt_two
  rw [tt_two] at this
  exact this
theorem right_ex (A : Option Addr) (c : Nat) (Ab : Option Addr) (cb : Nat) (As : Option Addr) (cs : Nat) (w : World) (h : TR w A 9 (lf M1) Ab 1 [3] As 2 [2, 3]) :
    Calls Tryd.prog 12 #[.agg #[.slice A 9 c, .int .i64 2, .slice Ab 1 cb, .slice As 2 cs]] w fun e w' => e = .returned (.bool true) ∧ Below w.heap.size w w' := by
  have := right_any A 9 c (lf M1) 2 Ab 1 cb [3] As 2 cs [2, 3] w h (by omega) (by omega) (by omega)
  rwa [rt_one] at this
theorem right_zero (w : World) :
    Calls Tryd.prog 12 #[.agg #[.slice none 0 0, .int .i64 0, .slice none 0 0, .slice none 0 0]] w fun e w' => e = .returned (.bool false) ∧ Below w.heap.size w w' := by
  have := right_any none 0 0 (lf []) 0 none 0 0 [] none 0 0 [] w ⟨QReads.nil, Reads.none_, Reads.none_⟩ (by omega) (by omega) (by omega)
  rwa [rt_none] at this

set_option maxRecDepth 100000 in
set_option maxHeartbeats 8000000 in
theorem awake_any (w : World) : Calls Tryd.prog 5 #[] w fun e w' => e = .returned (.bool true) ∧ Below w.heap.size w w' := by
  have E1 := Lib.hid ex1
  have E2 := Lib.hid ex2
  have E3 := Lib.hid ex3
  have E4 := Lib.hid ex4
  have E5 := Lib.hid ex5
  have MO := Lib.hid rmoore1
  have RZ := Lib.hid right_zero
  go_enter Tryd.func5, Tryd.ntmps5
  go_wp2_with fail
  go_at_call 10
  with_reducible refine (E1.out _).mono ?_
  rintro e w1 ⟨A1, c1, Ab1, cb1, As1, cs1, rfl, hr, hb⟩
  have K1 := Blk.new w1 25 #[.slice A1 9 c1, .int .i64 2, .slice Ab1 1 cb1, .slice As1 2 cs1]
  have X1 := hb.alloc hb.size (.cells #[.slice A1 9 c1, .int .i64 2, .slice Ab1 1 cb1, .slice As1 2 cs1] 25)
  have T1 := hr.later ((Below.refl w1.heap.size w1).alloc (Nat.le_refl _) (.cells #[.slice A1 9 c1, .int .i64 2, .slice Ab1 1 cb1, .slice As1 2 cs1] 25))
  clear hr hb
  go_wp2_with fail
  generalize w1.alloc (.cells #[.slice A1 9 c1, .int .i64 2, .slice Ab1 1 cb1, .slice As1 2 cs1] 25) = W1 at K1 X1 T1 ⊢
  generalize w1.heap.size = g1 at K1 ⊢
  have HX1 := Lib.hid X1
  have HK1 := Lib.hid (fun w' (hb : Below W1.heap.size W1 w') => K1.below' hb)
  have HT1 := Lib.hid (fun w' (hb : Below W1.heap.size W1 w') => T1.later hb)
  clear K1 X1 T1
  go_at_call 10
  with_reducible refine (E2.out _).mono ?_
  rintro e w2 ⟨A2, c2, Ab2, cb2, As2, cs2, rfl, hr, hb⟩
  have K2 := Blk.new w2 25 #[.slice A2 7 c2, .int .i64 2, .slice Ab2 1 cb2, .slice As2 2 cs2]
  have X2 := hb.alloc hb.size (.cells #[.slice A2 7 c2, .int .i64 2, .slice Ab2 1 cb2, .slice As2 2 cs2] 25)
  clear hr hb
  go_wp2_with fail
  generalize w2.alloc (.cells #[.slice A2 7 c2, .int .i64 2, .slice Ab2 1 cb2, .slice As2 2 cs2] 25) = W2 at K2 X2 ⊢
  generalize w2.heap.size = g2 at K2 ⊢
  have HX2 := Lib.hid X2
  have HK2 := Lib.hid (fun w' (hb : Below W2.heap.size W2 w') => K2.below' hb)
  clear K2 X2
  have C12 := Lib.hid (fun w' (hb : Below W2.heap.size W2 w') => HX2.out.trans (hb.mono HX2.out.size))
  have CO := Lib.hid (fun w' (hb : Below W2.heap.size W2 w') => comp_ex A1 c1 Ab1 cb1 As1 cs1 w' (HT1.out w' (C12.out w' hb)))
  go_wp2_with (first
    | (go_at_call 6; (with_reducible refine (CO.out _ X5.out).mono ?_); rintro e w6 ⟨A6, c6, Ab6, cb6, As6, cs6, rfl, hr6, hb6⟩)
    | (go_at_call 10; (with_reducible refine (E5.out _).mono ?_); rintro e w5 ⟨rfl, hb⟩; have X5 := Lib.hid ((X4.out.trans (hb.mono X4.out.size)).alloc (X4.out.trans (hb.mono X4.out.size)).size (.cells #[.slice none 0 0, .int .i64 0, .slice none 0 0, .slice none 0 0] 25)); obtain ⟨k0, k1, k2, k3, k4⟩ := (HK1.out _ (C12.out _ (X4.out.trans (hb.mono X4.out.size)))).four; clear hb)
    | (go_at_call 10; (with_reducible refine (E4.out _).mono ?_); rintro e w4 ⟨rfl, hb⟩; have X4 := Lib.hid ((X3.out.trans (hb.mono X3.out.size)).alloc (X3.out.trans (hb.mono X3.out.size)).size (.cells #[.slice none 0 0, .int .i64 0, .slice none 0 0, .slice none 0 0] 25)); clear hb)
    | (go_at_call 10; (with_reducible refine (E3.out _).mono ?_); rintro e w3 ⟨rfl, hb⟩; have X3 := Lib.hid (hb.alloc hb.size (.cells #[.slice none 0 0, .int .i64 0, .slice none 0 0, .slice none 0 0] 25)); clear hb))
  have X6 := hb6.alloc hb6.size (.cells #[.slice A6 9 c6, .int .i64 2, .slice Ab6 7 cb6, .slice As6 8 cs6] 25)
  have K6 := Blk.new w6 25 #[.slice A6 9 c6, .int .i64 2, .slice Ab6 7 cb6, .slice As6 8 cs6]
  have T6 := hr6.later ((Below.refl w6.heap.size w6).alloc (Nat.le_refl _) (.cells #[.slice A6 9 c6, .int .i64 2, .slice Ab6 7 cb6, .slice As6 8 cs6] 25))
  have X6 := X5.out.trans (X6.mono X5.out.size)
  generalize w6.alloc (.cells #[.slice A6 9 c6, .int .i64 2, .slice Ab6 7 cb6, .slice As6 8 cs6] 25) = W6 at X6 K6 T6 ⊢
  generalize w6.heap.size = g6 at K6 ⊢
  have HX6 := Lib.hid X6
  have HK6 := Lib.hid (fun w' (hb : Below W6.heap.size W6 w') => K6.below' hb)
  have HT6 := Lib.hid (fun w' (hb : Below W6.heap.size W6 w') => T6.later hb)
  clear X6 K6 T6 hr6 hb6 k0 k1 k2 k3 k4
  go_at_call 11
  with_reducible refine (MO.out _).mono ?_
  rintro e w7 ⟨A7, c7, rfl, hr, hb⟩
  have C26 := Lib.hid (fun w' (hb : Below W6.heap.size W6 w') => HX6.out.trans (hb.mono HX6.out.size))
  obtain ⟨p0, p1, p2, p3, p4⟩ := (HK1.out _ (C12.out _ (C26.out _ hb))).four
  have X7 := ((hb.alloc hb.size (.cells #[.int .i64 3] 3)).alloc (hb.alloc hb.size (.cells #[.int .i64 3] 3)).size (.cells #[.int .i64 2, .int .i64 3] 3))
  have X7 := X7.alloc X7.size (.cells #[.slice A7 9 c7, .int .i64 2, .slice (some ⟨w7.heap.size, 0, none⟩) 1 1, .slice (some ⟨w7.heap.size + 1, 0, none⟩) 2 2] 25)
  have Y7 := (((Below.refl w7.heap.size w7).alloc (Nat.le_refl _) (.cells #[.int .i64 3] 3)).alloc (by simp) (.cells #[.int .i64 2, .int .i64 3] 3)).alloc (by simp; omega) (.cells #[.slice A7 9 c7, .int .i64 2, .slice (some ⟨w7.heap.size, 0, none⟩) 1 1, .slice (some ⟨w7.heap.size + 1, 0, none⟩) 2 2] 25)
  have R7 := hr.later Y7
  have L1 := ((Reads.of_blk (xs := il [3]) (Blk.new w7 3 (il [3]).toArray)).later (((Below.refl _ _).alloc (Nat.le_refl _) (.cells #[.int .i64 2, .int .i64 3] 3)).alloc (by simp) (.cells #[.slice A7 9 c7, .int .i64 2, .slice (some ⟨w7.heap.size, 0, none⟩) 1 1, .slice (some ⟨w7.heap.size + 1, 0, none⟩) 2 2] 25)))
  have L2 := ((Reads.of_blk (xs := il [2, 3]) (Blk.new (w7.alloc (.cells #[.int .i64 3] 3)) 3 (il [2, 3]).toArray)).later ((Below.refl _ _).alloc (Nat.le_refl _) (.cells #[.slice A7 9 c7, .int .i64 2, .slice (some ⟨w7.heap.size, 0, none⟩) 1 1, .slice (some ⟨w7.heap.size + 1, 0, none⟩) 2 2] 25)))
  have K7 := Blk.new ((w7.alloc (.cells #[.int .i64 3] 3)).alloc (.cells #[.int .i64 2, .int .i64 3] 3)) 25 #[.slice A7 9 c7, .int .i64 2, .slice (some ⟨w7.heap.size, 0, none⟩) 1 1, .slice (some ⟨w7.heap.size + 1, 0, none⟩) 2 2]
  rw [show (w7.alloc (.cells #[.int .i64 3] 3)).heap.size = w7.heap.size + 1 by simp] at L2
  rw [show ((w7.alloc (.cells #[.int .i64 3] 3)).alloc (.cells #[.int .i64 2, .int .i64 3] 3)).heap.size = w7.heap.size + 1 + 1 by simp] at K7
  have T7 : TR (((w7.alloc (.cells #[.int .i64 3] 3)).alloc (.cells #[.int .i64 2, .int .i64 3] 3)).alloc (.cells #[.slice A7 9 c7, .int .i64 2, .slice (some ⟨w7.heap.size, 0, none⟩) 1 1, .slice (some ⟨w7.heap.size + 1, 0, none⟩) 2 2] 25)) A7 9 (lf M1) (some ⟨w7.heap.size, 0, none⟩) 1 [3] (some ⟨w7.heap.size + 1, 0, none⟩) 2 [2, 3] := ⟨R7, L1, L2⟩
  clear hr hb Y7 R7 L1 L2
  go_upto_region 8 with (fail)
  generalize ((w7.alloc (.cells #[.int .i64 3] 3)).alloc (.cells #[.int .i64 2, .int .i64 3] 3)).alloc (.cells #[.slice A7 9 c7, .int .i64 2, .slice (some ⟨w7.heap.size, 0, none⟩) 1 1, .slice (some ⟨w7.heap.size + 1, 0, none⟩) 2 2] 25) = W7 at X7 K7 T7 ⊢
  generalize w7.heap.size = g7 at K7 T7 ⊢
  have HX7 := Lib.hid X7
  have HK7 := Lib.hid (fun w' (hb : Below W7.heap.size W7 w') => K7.below' hb)
  have HT7 := Lib.hid (fun w' (hb : Below W7.heap.size W7 w') => T7.later hb)
  have D6 := Lib.hid (fun w' (hb : Below W7.heap.size W7 w') => HX7.out.trans (hb.mono HX7.out.size))
  have D2 := Lib.hid (fun w' (hb : Below W7.heap.size W7 w') => C26.out w' (D6.out w' hb))
  have D1 := Lib.hid (fun w' (hb : Below W7.heap.size W7 w') => C12.out w' (D2.out w' hb))
  have SA := Lib.hid (fun w' (hb : Below W7.heap.size W7 w') => rsameT_yes A1 A7 9 c1 c7 (lf M1) 2 Ab1 (some ⟨g7, 0, none⟩) 1 cb1 1 [3] As1 (some ⟨g7 + 1, 0, none⟩) 2 cs1 2 [2, 3] w' (HT1.out w' (D1.out w' hb)) (HT7.out w' hb) (by omega) (by omega) (by omega))
  have SB := Lib.hid (fun w' (hb : Below W7.heap.size W7 w') => sameT_yes A1 A7 9 c1 c7 (lf M1) 2 Ab1 (some ⟨g7, 0, none⟩) 1 cb1 1 [3] As1 (some ⟨g7 + 1, 0, none⟩) 2 cs1 2 [2, 3] w' (HT1.out w' (D1.out w' hb)) (HT7.out w' hb) (by omega) (by omega) (by omega))
  have RA := Lib.hid (fun w' (hb : Below W7.heap.size W7 w') => right_ex A1 c1 Ab1 cb1 As1 cs1 w' (HT1.out w' (D1.out w' hb)))
  have TA := Lib.hid (fun w' (hb : Below W7.heap.size W7 w') => text_ex1 A1 c1 Ab1 cb1 As1 cs1 w' (HT1.out w' (D1.out w' hb)))
  have TB := Lib.hid (fun w' (hb : Below W7.heap.size W7 w') => text_ex2 A6 c6 Ab6 cb6 As6 cs6 w' (HT6.out w' (D6.out w' hb)))
  clear K7 T7 X7 p0 p1 p2 p3 p4 CO E1 E2 E3 E4 E5 MO
  obtain ⟨p0, p1, p2, p3, p4⟩ := (HK1.out W7 (D1.out W7 (Below.refl _ _))).four
  obtain ⟨v0, v1, v2, v3, v4⟩ := (HK7.out W7 (Below.refl _ _)).four
  go_wp2_with (first
    | (go_at_call 12; (with_reducible refine (RZ.out _).mono ?_); rintro e x6 ⟨rfl, hb⟩; have Y6 := Lib.hid (Y5.out.trans (hb.mono Y5.out.size)); clear hb)
    | (go_at_call 13; (with_reducible refine (TB.out _ Y4.out).mono ?_); rintro e x5 ⟨rfl, hb⟩; have Y5 := Lib.hid (Y4.out.trans (hb.mono Y4.out.size)); clear hb)
    | (go_at_call 13; (with_reducible refine (TA.out _ Y3.out).mono ?_); rintro e x4 ⟨rfl, hb⟩; have Y4 := Lib.hid (Y3.out.trans (hb.mono Y3.out.size)); obtain ⟨r0, r1, r2, r3, r4⟩ := (HK2.out _ (D2.out _ Y4.out)).four; obtain ⟨s0, s1, s2, s3, s4⟩ := (HK6.out _ (D6.out _ Y4.out)).four; clear hb)
    | (go_at_call 9; (with_reducible refine (SB.out _ Y2.out).mono ?_); rintro e x3 ⟨rfl, hb⟩; have Y3 := Lib.hid (Y2.out.trans (hb.mono Y2.out.size)); obtain ⟨p0, p1, p2, p3, p4⟩ := (HK1.out _ (D1.out _ Y3.out)).four; obtain ⟨v0, v1, v2, v3, v4⟩ := (HK7.out _ Y3.out).four; clear hb)
    | (go_at_call 12; (with_reducible refine (RA.out _ Y1.out).mono ?_); rintro e x2 ⟨rfl, hb⟩; have Y2 := Lib.hid (Y1.out.trans (hb.mono Y1.out.size)); obtain ⟨p0, p1, p2, p3, p4⟩ := (HK1.out _ (D1.out _ Y2.out)).four; obtain ⟨v0, v1, v2, v3, v4⟩ := (HK7.out _ Y2.out).four; clear hb)
    | (go_at_call 8; (with_reducible refine (SA.out _ (Below.refl _ _)).mono ?_); rintro e x1 ⟨rfl, hb⟩; have Y1 := Lib.hid (hb); obtain ⟨p0, p1, p2, p3, p4⟩ := (HK1.out _ (D1.out _ Y1.out)).four; obtain ⟨v0, v1, v2, v3, v4⟩ := (HK7.out _ Y1.out).four; clear hb))
  go_ret
  have Z2 := D2.out _ Y6.out
  exact ⟨rfl, HX1.out.trans ((HX2.out.trans (Z2.mono HX2.out.size)).mono HX1.out.size)⟩
end Go.Proofs.YtajepngppnennaaDoor
