/- The walk of the law. -/
import Derived.Test.YtajepngppnennaaDoorAwk
namespace Go.Proofs.YtajepngppnennaaDoor
open Go.RowKit

section
variable (A : Option Addr) (n c : Nat) (f : Nat → P2) (s : Int) (Ab : Option Addr) (nb cb : Nat) (b : List Int) (As : Option Addr) (ns cs : Nat) (l : List Int) (w : World)
theorem short_yes (h1 : n ≤ 60) (h2 : nb ≤ 60) (h3 : ns ≤ 60) :
    Calls Tryd.prog 4 #[.agg #[.slice A n c, .int .i64 s, .slice Ab nb cb, .slice As ns cs]] w fun e w' => e = .returned (.bool true) ∧ Below w.heap.size w w' := by
  have K := Blk.new w 25 #[.slice A n c, .int .i64 s, .slice Ab nb cb, .slice As ns cs]
  obtain ⟨k0, k1, k2, k3, k4⟩ := K.four
  have B := Lib.hid ((Below.refl w.heap.size w).alloc (Nat.le_refl _) (.cells #[.slice A n c, .int .i64 s, .slice Ab nb cb, .slice As ns cs] 25))
  clear K
  go_enter Tryd.func4, Tryd.ntmps4
  go_wp2
  go_ret
  exact ⟨ret_bool (by simp; omega), B.out⟩
theorem short_no (h : ¬ (n ≤ 60 ∧ nb ≤ 60 ∧ ns ≤ 60)) :
    Calls Tryd.prog 4 #[.agg #[.slice A n c, .int .i64 s, .slice Ab nb cb, .slice As ns cs]] w fun e w' => e = .returned (.bool false) ∧ Below w.heap.size w w' := by
  have K := Blk.new w 25 #[.slice A n c, .int .i64 s, .slice Ab nb cb, .slice As ns cs]
  obtain ⟨k0, k1, k2, k3, k4⟩ := K.four
  have B := Lib.hid ((Below.refl w.heap.size w).alloc (Nat.le_refl _) (.cells #[.slice A n c, .int .i64 s, .slice Ab nb cb, .slice As ns cs] 25))
  clear K
  by_cases h1 : n ≤ 60
  · by_cases h2 : nb ≤ 60
    · have h3 : ¬ ns ≤ 60 := fun h3 => h ⟨h1, h2, h3⟩
      clear h
      go_enter Tryd.func4, Tryd.ntmps4
      go_wp2
      go_ret
      exact ⟨ret_bool (by simp; omega), B.out⟩
    · clear h
      go_enter Tryd.func4, Tryd.ntmps4
      go_wp2
      go_ret
      exact ⟨rfl, B.out⟩
  · clear h
    go_enter Tryd.func4, Tryd.ntmps4
    go_wp2
    go_ret
    exact ⟨rfl, B.out⟩
set_option maxRecDepth 100000 in
set_option maxHeartbeats 2000000 in
theorem law_long (h : ¬ (n ≤ 60 ∧ nb ≤ 60 ∧ ns ≤ 60)) :
    Calls Tryd.prog 3 #[.agg #[.slice A n c, .int .i64 s, .slice Ab nb cb, .slice As ns cs]] w fun e w' => e = .returned (.bool true) ∧ Below w.heap.size w w' := by
  have SH := Lib.hid (fun w => short_no A n c s Ab nb cb As ns cs w h)
  have AW := Lib.hid awake_any
  have K := Blk.new w 25 #[.slice A n c, .int .i64 s, .slice Ab nb cb, .slice As ns cs]
  obtain ⟨k0, k1, k2, k3, k4⟩ := K.four
  have B0 := Lib.hid ((Below.refl w.heap.size w).alloc (Nat.le_refl _) (.cells #[.slice A n c, .int .i64 s, .slice Ab nb cb, .slice As ns cs] 25))
  clear K h
  go_enter Tryd.func3, Tryd.ntmps3
  go_wp2_with (first
    | (go_at_call 5; (with_reducible refine (AW.out _).mono ?_); rintro e w2 ⟨rfl, hb⟩; have B2 := Lib.hid (B1.out.trans (hb.mono B1.out.size)); clear hb)
    | (go_at_call 4; (with_reducible refine (SH.out _).mono ?_); rintro e w1 ⟨rfl, hb⟩; have B1 := Lib.hid (B0.out.trans (hb.mono B0.out.size)); clear hb))
  go_ret
  exact ⟨rfl, B2.out⟩
set_option maxRecDepth 100000 in
set_option maxHeartbeats 4000000 in
theorem law_no (h : TR w A n f Ab nb b As ns l) (h1 : n ≤ 60) (h2 : nb ≤ 60) (h3 : ns ≤ 60) (hq : (rt f n s b l && (s == 2)) = false) :
    Calls Tryd.prog 3 #[.agg #[.slice A n c, .int .i64 s, .slice Ab nb cb, .slice As ns cs]] w fun e w' => e = .returned (.bool true) ∧ Below w.heap.size w w' := by
  have SH := Lib.hid (fun w => short_yes A n c s Ab nb cb As ns cs w h1 h2 h3)
  have AW := Lib.hid awake_any
  have CN := Lib.hid (fun w' (hb : Below w.heap.size w w') => complement_no A n c f s Ab nb cb b As ns cs l w' (h.later hb) (by omega) (by omega) (by omega) hq)
  have RN := Lib.hid (fun w' (hb : Below w.heap.size w w') => rcomplement_no A n c f s Ab nb cb b As ns cs l w' (h.later hb) (by omega) (by omega) (by omega) hq)
  have SM := Lib.hid (fun w' => rsameT_yes none none 0 0 0 (lf []) 0 none none 0 0 0 [] none none 0 0 0 [] w' ⟨QReads.nil, Reads.none_, Reads.none_⟩ ⟨QReads.nil, Reads.none_, Reads.none_⟩ (by omega) (by omega) (by omega))
  have K := Blk.new w 25 #[.slice A n c, .int .i64 s, .slice Ab nb cb, .slice As ns cs]
  have B0 := (Below.refl w.heap.size w).alloc (Nat.le_refl _) (.cells #[.slice A n c, .int .i64 s, .slice Ab nb cb, .slice As ns cs] 25)
  clear h hq
  go_enter Tryd.func3, Tryd.ntmps3
  go_upto_region 1 with (fail)
  generalize w.alloc (.cells #[.slice A n c, .int .i64 s, .slice Ab nb cb, .slice As ns cs] 25) = w0 at K B0 ⊢
  obtain ⟨k0, k1, k2, k3, k4⟩ := K.four
  have HK := Lib.hid K
  have HB0 := Lib.hid B0
  clear K B0
  go_upto_region 5 with (first
    | (go_at_call 7; (with_reducible refine (RN.out _ B3.out).mono ?_); rintro e w4 ⟨rfl, hb⟩; have B4 := Lib.hid (B3.out.trans (hb.mono B3.out.size)); have K4 := Lib.hid (K3.out.below' hb); clear hb)
    | (go_at_call 6; (with_reducible refine (CN.out _ B1.out).mono ?_); rintro e w2 ⟨rfl, hb⟩; have B2 := Lib.hid (B1.out.trans (hb.mono B1.out.size)); have K2 := Lib.hid (K1.out.below' hb); have B3 := Lib.hid (B2.out.alloc B2.out.size (.cells #[.slice none 0 0, .int .i64 0, .slice none 0 0, .slice none 0 0] 25)); have K3 := Lib.hid (Blk.new w2 25 #[.slice none 0 0, .int .i64 0, .slice none 0 0, .slice none 0 0]); obtain ⟨q0, q1, q2, q3, q4⟩ := (K2.out.alloc (.cells #[.slice none 0 0, .int .i64 0, .slice none 0 0, .slice none 0 0] 25)).four; clear hb)
    | (go_at_call 4; (with_reducible refine (SH.out _).mono ?_); rintro e w1 ⟨rfl, hb⟩; have B1 := Lib.hid (HB0.out.trans (hb.mono HB0.out.size)); have K1 := Lib.hid (HK.out.below' hb); obtain ⟨p0, p1, p2, p3, p4⟩ := (HK.out.below' hb).four; clear hb))
  obtain ⟨g3, hg3⟩ : ∃ g3, g3 = w2.heap.size := ⟨_, rfl⟩
  have KA := K4.out.alloc (.cells #[.slice none 0 0, .int .i64 0, .slice none 0 0, .slice none 0 0] 25)
  have KB := Blk.new w4 25 #[.slice none 0 0, .int .i64 0, .slice none 0 0, .slice none 0 0]
  have B5 := B4.out.alloc B4.out.size (.cells #[.slice none 0 0, .int .i64 0, .slice none 0 0, .slice none 0 0] 25)
  generalize w4.alloc (.cells #[.slice none 0 0, .int .i64 0, .slice none 0 0, .slice none 0 0] 25) = w5 at KA KB B5 ⊢
  obtain ⟨x0, x1, x2, x3, x4⟩ := KA.four
  obtain ⟨y0, y1, y2, y3, y4⟩ := KB.four
  have HB5 := Lib.hid B5
  clear KA KB B5
  go_wp2_with (first
    | (go_at_call 5; (with_reducible refine (AW.out _).mono ?_); rintro e w7 ⟨rfl, hb⟩; have B7 := Lib.hid (B6.out.trans (hb.mono B6.out.size)); clear hb)
    | (go_at_call 8; (with_reducible refine (SM.out _).mono ?_); rintro e w6 ⟨rfl, hb⟩; have B6 := Lib.hid (HB5.out.trans (hb.mono HB5.out.size)); clear hb))
  go_ret
  exact ⟨rfl, B7.out⟩
theorem rt_ex {f : Nat → P2} {n m : Nat} {b l : List Int} (hn : n = m + 1) (hm : m ≤ 8) (h : rt f n 2 b l = true) : rt f n 2 (ex l m) (ex b m) = true := by
  obtain ⟨hk, _, _⟩ := rt_parts h
  have a1 := ex_asc l m hm
  have a2 := ex_asc b m hm
  rw [← hn] at a1 a2
  simp only [rt, Bool.and_eq_true, decide_eq_true_eq]
  exact ⟨hk, by decide, by decide, a1, a2⟩
set_option maxRecDepth 100000 in
set_option maxHeartbeats 4000000 in
theorem law_yes (h : TR w A n f Ab nb b As ns l) (h1 : n ≤ 60) (h2 : nb ≤ 60) (h3 : ns ≤ 60) (hq : rt f n 2 b l = true) :
    Calls Tryd.prog 3 #[.agg #[.slice A n c, .int .i64 2, .slice Ab nb cb, .slice As ns cs]] w fun e w' => e = .returned (.bool true) ∧ Below w.heap.size w w' := by
  obtain ⟨m, hn, hm⟩ : ∃ m, n = m + 1 ∧ m ≤ 8 := by
    rcases kd_len (rt_parts hq).1 with h | h | h
    · exact ⟨8, h, by omega⟩
    · exact ⟨4, h, by omega⟩
    · exact ⟨6, h, by omega⟩
  have hab : ex (ex b m) m = b := ex_ex b m hm (by rw [← hn]; exact (rt_parts hq).2.1)
  have hal : ex (ex l m) m = l := ex_ex l m hm (by rw [← hn]; exact (rt_parts hq).2.2)
  have hlb := reads_len h.2.1
  have hll := reads_len h.2.2
  have z1 := ex_len l m
  have z2 := ex_len b m
  have SH := Lib.hid (fun w => short_yes A n c 2 Ab nb cb As ns cs w h1 h2 h3)
  have AW := Lib.hid awake_any
  have CY := Lib.hid (fun w' (hb : Below w.heap.size w w') => complement_yes A n c f Ab nb cb b As ns cs l m w' (h.later hb) hm hn (by omega) (by omega) hq)
  have RY := Lib.hid (fun w' (hb : Below w.heap.size w w') => rcomplement_yes A n c f Ab nb cb b As ns cs l m w' (h.later hb) hm hn (by omega) (by omega) hq)
  have CX := Lib.hid (fun A1 c1 Ab1 cb1 As1 cs1 w' (h' : TR w' A1 n f Ab1 (ex l m).length (ex l m) As1 (ex b m).length (ex b m)) => (by
    have h9 := complement_yes A1 n c1 f Ab1 (ex l m).length cb1 (ex l m) As1 (ex b m).length cs1 (ex b m) m w' h' hm hn (by omega) (by omega) (rt_ex hn hm hq)
    rw [hab, hal, hlb, hll] at h9
    exact h9 : Calls Tryd.prog 6 #[.agg #[.slice A1 n c1, .int .i64 2, .slice Ab1 (ex l m).length cb1, .slice As1 (ex b m).length cs1]] w' fun e w'' => ∃ A' c' A1 c1 A2 c2, e = .returned (.tuple #[.agg #[.slice A' n c', .int .i64 2, .slice A1 nb c1, .slice A2 ns c2], .int .i64 0]) ∧ TR w'' A' n f A1 nb b A2 ns l ∧ Below w'.heap.size w' w''))
  have SM := Lib.hid (fun A1 c1 Ab1 cb1 As1 cs1 Ab2 cb2 As2 cs2 w' (h' : TR w' A1 n f Ab1 (ex l m).length (ex l m) As1 (ex b m).length (ex b m)) (h'' : TR w' A n f Ab2 (ex l m).length (ex l m) As2 (ex b m).length (ex b m)) => rsameT_yes A1 A n c1 c f 2 Ab1 Ab2 (ex l m).length cb1 cb2 (ex l m) As1 As2 (ex b m).length cs1 cs2 (ex b m) w' h' h'' (by omega) (by omega) (by omega))
  have SB := Lib.hid (fun A3 c3 Ab3 cb3 As3 cs3 w' (h' : TR w' A3 n f Ab3 nb b As3 ns l) (hb : Below w.heap.size w w') => sameT_yes A3 A n c3 c f 2 Ab3 Ab nb cb3 cb b As3 As ns cs3 cs l w' h' (h.later hb) (by omega) (by omega) (by omega))
  have K := Blk.new w 25 #[.slice A n c, .int .i64 2, .slice Ab nb cb, .slice As ns cs]
  have B0 := (Below.refl w.heap.size w).alloc (Nat.le_refl _) (.cells #[.slice A n c, .int .i64 2, .slice Ab nb cb, .slice As ns cs] 25)
  clear h hq hab hal hlb hll z1 z2 hm hn
  generalize hLl : (ex l m).length = nl' at CY RY CX SM
  generalize hLb : (ex b m).length = nb' at CY RY CX SM
  clear hLl hLb
  generalize ex l m = el at CY RY CX SM
  generalize ex b m = eb at CY RY CX SM
  go_enter Tryd.func3, Tryd.ntmps3
  go_upto_region 1 with (fail)
  generalize w.alloc (.cells #[.slice A n c, .int .i64 2, .slice Ab nb cb, .slice As ns cs] 25) = w0 at K B0 ⊢
  obtain ⟨k0, k1, k2, k3, k4⟩ := K.four
  have HK := Lib.hid K
  have HB0 := Lib.hid B0
  clear K B0
  go_upto_region 4 with (first
    | (go_at_call 6; (with_reducible refine (CY.out _ B1.out).mono ?_); rintro e w2 ⟨A1, c1, Ab1, cb1, As1, cs1, rfl, hr, hb⟩; have B2 := B1.out.trans (hb.mono B1.out.size); have K2 := K1.out.below' hb)
    | (go_at_call 4; (with_reducible refine (SH.out _).mono ?_); rintro e w1 ⟨rfl, hb⟩; have B1 := Lib.hid (HB0.out.trans (hb.mono HB0.out.size)); have K1 := Lib.hid (HK.out.below' hb); obtain ⟨p0, p1, p2, p3, p4⟩ := (HK.out.below' hb).four; clear hb))
  have KA := K2.alloc (.cells #[.slice A1 n c1, .int .i64 2, .slice Ab1 nl' cb1, .slice As1 nb' cs1] 25)
  have KB := Blk.new w2 25 #[.slice A1 n c1, .int .i64 2, .slice Ab1 nl' cb1, .slice As1 nb' cs1]
  have B3 := B2.alloc B2.size (.cells #[.slice A1 n c1, .int .i64 2, .slice Ab1 nl' cb1, .slice As1 nb' cs1] 25)
  have T3 := hr.later ((Below.refl w2.heap.size w2).alloc (Nat.le_refl _) (.cells #[.slice A1 n c1, .int .i64 2, .slice Ab1 nl' cb1, .slice As1 nb' cs1] 25))
  clear hr hb B2 K2 k0 k1 k2 k3 k4 p0 p1 p2 p3 p4 SH CY HK HB0 B1 K1
  generalize w2.alloc (.cells #[.slice A1 n c1, .int .i64 2, .slice Ab1 nl' cb1, .slice As1 nb' cs1] 25) = W3 at KA KB B3 T3 ⊢
  generalize w2.heap.size = g3 at KB ⊢
  obtain ⟨x0, x1, x2, x3, x4⟩ := KA.four
  have HKA := Lib.hid KA
  have HKB := Lib.hid KB
  have HB3 := Lib.hid B3
  have HT3 := Lib.hid T3
  clear KA KB B3 T3
  go_upto_region 5 with (go_at_call 7; (with_reducible refine (RY.out _ HB3.out).mono ?_); rintro e w4 ⟨Ab2, cb2, As2, cs2, rfl, hr, hb⟩)
  have KA := (HKA.out.below' hb).alloc (.cells #[.slice A n c, .int .i64 2, .slice Ab2 nl' cb2, .slice As2 nb' cs2] 25)
  have KB := (HKB.out.below' hb).alloc (.cells #[.slice A n c, .int .i64 2, .slice Ab2 nl' cb2, .slice As2 nb' cs2] 25)
  have KC := Blk.new w4 25 #[.slice A n c, .int .i64 2, .slice Ab2 nl' cb2, .slice As2 nb' cs2]
  have B4 := HB3.out.trans (hb.mono HB3.out.size)
  have B5 := B4.alloc B4.size (.cells #[.slice A n c, .int .i64 2, .slice Ab2 nl' cb2, .slice As2 nb' cs2] 25)
  have T5 := (HT3.out.later hb).later ((Below.refl w4.heap.size w4).alloc (Nat.le_refl _) (.cells #[.slice A n c, .int .i64 2, .slice Ab2 nl' cb2, .slice As2 nb' cs2] 25))
  have U5 := hr.later ((Below.refl w4.heap.size w4).alloc (Nat.le_refl _) (.cells #[.slice A n c, .int .i64 2, .slice Ab2 nl' cb2, .slice As2 nb' cs2] 25))
  clear hr hb B4 x0 x1 x2 x3 x4 HKA HKB HB3 HT3 RY
  generalize w4.alloc (.cells #[.slice A n c, .int .i64 2, .slice Ab2 nl' cb2, .slice As2 nb' cs2] 25) = W5 at KA KB KC B5 T5 U5 ⊢
  generalize w4.heap.size = g5 at KC ⊢
  obtain ⟨x0, x1, x2, x3, x4⟩ := KB.four
  obtain ⟨y0, y1, y2, y3, y4⟩ := KC.four
  have HKA := Lib.hid KA
  have HKB := Lib.hid KB
  have HB5 := Lib.hid B5
  have HT5 := Lib.hid T5
  have HU5 := Lib.hid U5
  clear KA KB KC B5 T5 U5
  go_upto_region 9 with (first
    | (go_at_call 6; (with_reducible refine (CX.out _ _ _ _ _ _ _ T6.out).mono ?_); rintro e w7 ⟨A3, c3, Ab3, cb3, As3, cs3, rfl, hr7, hb7⟩)
    | (go_at_call 8; (with_reducible refine (SM.out _ _ _ _ _ _ _ _ _ _ _ HT5.out HU5.out).mono ?_); rintro e w6 ⟨rfl, hb⟩; have B6 := Lib.hid (HB5.out.trans (hb.mono HB5.out.size)); have T6 := Lib.hid (HT5.out.later hb); have K6 := Lib.hid (HKA.out.below' hb); obtain ⟨z0, z1, z2, z3, z4⟩ := (HKB.out.below' hb).four; clear hb))
  have KA := (K6.out.below' hb7).alloc (.cells #[.slice A3 n c3, .int .i64 2, .slice Ab3 nb cb3, .slice As3 ns cs3] 25)
  have KC := Blk.new w7 25 #[.slice A3 n c3, .int .i64 2, .slice Ab3 nb cb3, .slice As3 ns cs3]
  have B7 := B6.out.trans (hb7.mono B6.out.size)
  have B8 := B7.alloc B7.size (.cells #[.slice A3 n c3, .int .i64 2, .slice Ab3 nb cb3, .slice As3 ns cs3] 25)
  have T8 := hr7.later ((Below.refl w7.heap.size w7).alloc (Nat.le_refl _) (.cells #[.slice A3 n c3, .int .i64 2, .slice Ab3 nb cb3, .slice As3 ns cs3] 25))
  clear hr7 hb7 B7 z0 z1 z2 z3 z4 x0 x1 x2 x3 x4 y0 y1 y2 y3 y4 HKA HKB HB5 HT5 HU5 T6 K6 B6 SM CX
  generalize w7.alloc (.cells #[.slice A3 n c3, .int .i64 2, .slice Ab3 nb cb3, .slice As3 ns cs3] 25) = W8 at KA KC B8 T8 ⊢
  generalize w7.heap.size = g7 at KC ⊢
  obtain ⟨x0, x1, x2, x3, x4⟩ := KA.four
  obtain ⟨y0, y1, y2, y3, y4⟩ := KC.four
  have HB8 := Lib.hid B8
  have HT8 := Lib.hid T8
  clear KA KC B8 T8
  go_wp2_with (first
    | (go_at_call 5; (with_reducible refine (AW.out _).mono ?_); rintro e wz ⟨rfl, hb⟩; have BZ := Lib.hid (B9.out.trans (hb.mono B9.out.size)); clear hb)
    | (go_at_call 9; (with_reducible refine (SB.out _ _ _ _ _ _ _ HT8.out HB8.out).mono ?_); rintro e w9 ⟨rfl, hb⟩; have B9 := Lib.hid (HB8.out.trans (hb.mono HB8.out.size)); clear hb))
  go_ret
  exact ⟨rfl, BZ.out⟩
theorem law_all (h : TR w A n f Ab nb b As ns l) :
    Calls Tryd.prog 3 #[.agg #[.slice A n c, .int .i64 s, .slice Ab nb cb, .slice As ns cs]] w fun e w' => e = .returned (.bool true) ∧ Below w.heap.size w w' := by
  by_cases hs : n ≤ 60 ∧ nb ≤ 60 ∧ ns ≤ 60
  · cases hq : rt f n s b l && (s == 2) with
    | false => exact law_no A n c f s Ab nb cb b As ns cs l w h hs.1 hs.2.1 hs.2.2 hq
    | true =>
      simp only [Bool.and_eq_true, beq_iff_eq] at hq
      obtain ⟨h1, rfl⟩ := hq
      exact law_yes A n c f Ab nb cb b As ns cs l w h hs.1 hs.2.1 hs.2.2 h1
  · exact law_long A n c s Ab nb cb As ns cs w hs
end
end Go.Proofs.YtajepngppnennaaDoor
