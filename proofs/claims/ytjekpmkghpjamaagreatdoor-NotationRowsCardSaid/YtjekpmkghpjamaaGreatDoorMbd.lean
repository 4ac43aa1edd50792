/- The walk of Parse, over contracts of what it calls. -/
import Derived.Test.YtjekpmkghpjamaaGreatDoorMbb
import Derived.Test.YtjekpmkghpjamaaGreatDoorMav
import Derived.Test.YtjekpmkghpjamaaGreatDoorMbc
import Derived.Test.YtjekpmkghpjamaaGreatDoorMab
import Derived.Test.YtjekpmkghpjamaaGreatDoorMaa
import Derived.Below
import Derived.BigQuiet
import Derived.Deep.AppendLies
import Derived.Deep.CutRange
import Derived.Deep.DrawnRows
import Derived.Deep.Draws
import Derived.Deep.QuietTactic
import Derived.Deep.RegionHeld3
import Derived.IntWalk
import Derived.Laws.OwnMore
import Derived.Laws.Rows
import Derived.Lib.Hide
import Derived.Lib.SliceRun
import Derived.Lib.Strings
import Derived.LoopN
import Derived.OwnWalk
import Derived.Shelf.Abstract
import Derived.Sort.Statements
import Derived.StillTail
import Derived.StillTailTactics
import Derived.Test.YtjekpmkghpjamaaGreatDoorRows
import Derived.WalkKit
namespace Go.Proofs.YtjekpmkghpjamaaGreatDoor
open Go.RowKit
theorem Tryz.info_numbers : (Tryz.prog.info? 75).map (·.size) = some 10 := by kernel_rfl
theorem QReads.far {w : World} {B n : Nat} {A : Option Addr} {f : Nat → P2} (h : QReads w B A n f) {p : Addr} (hp : ∀ ad, 0 < n → A = some ad → ¬ ad.block = p.block) (u : Value) : QReads (w.setCell p u) B A n f := fun hn => by
  obtain ⟨g, o, e, hg, hc⟩ := h hn
  have hne := hp _ hn e
  refine ⟨g, o, e, hg, fun k hk => ?_⟩
  rw [World.cell?_setCell_other w p _ u (fun e' => hne (by rw [e'])), World.cell?_setCell_other w p _ u (fun e' => hne (by rw [e']))]
  exact hc k hk
theorem TR.far {w : World} {A : Option Addr} {n : Nat} {f : Nat → P2} {Ab : Option Addr} {nb : Nat} {b : List Int} {As : Option Addr} {ns : Nat} {l : List Int} (h : TR w A n f Ab nb b As ns l) {g i : Nat}
    (h0 : ∀ ad, 0 < n → A = some ad → ¬ ad.block = g) (h1 : ∀ ad, 0 < nb → Ab = some ad → ¬ ad.block = g) (h2 : ∀ ad, 0 < ns → As = some ad → ¬ ad.block = g) (u : Value) : TR (w.setCell ⟨g, i, none⟩ u) A n f Ab nb b As ns l := by
  have hs : (w.setCell ⟨g, i, none⟩ u).heap.size = w.heap.size := by simp [World.setCell]
  unfold TR
  rw [hs]
  exact ⟨h.1.far (p := ⟨g, i, none⟩) h0 u, h.2.1.far (p := ⟨g, i, none⟩) h1 u, h.2.2.far (p := ⟨g, i, none⟩) h2 u⟩
theorem TR.far4 {w : World} {A : Option Addr} {n : Nat} {f : Nat → P2} {Ab : Option Addr} {nb : Nat} {b : List Int} {As : Option Addr} {ns : Nat} {l : List Int} (h : TR w A n f Ab nb b As ns l) {g : Nat}
    (h0 : ∀ ad, 0 < n → A = some ad → ¬ ad.block = g) (h1 : ∀ ad, 0 < nb → Ab = some ad → ¬ ad.block = g) (h2 : ∀ ad, 0 < ns → As = some ad → ¬ ad.block = g) (a b' c d : Value) : TR ((((w.setCell ⟨g, 0, none⟩ a).setCell ⟨g, 1, none⟩ b').setCell ⟨g, 2, none⟩ c).setCell ⟨g, 3, none⟩ d) A n f Ab nb b As ns l :=
  (((h.far h0 h1 h2 a).far h0 h1 h2 b').far h0 h1 h2 c).far h0 h1 h2 d
section
variable (s0 s1 s2 s3 s4 : ByteArray) (p1 p2 : Nat → Bool)
set_option maxRecDepth 100000 in
set_option maxHeartbeats 4000000 in
theorem parse_syn2 (w : World)
    (C1 : ∀ w, Calls Tryz.prog 33 #[.string s0, .string ⟨#[66]⟩] w fun e w' => e = .returned (.tuple #[.string s1, .bool true]) ∧ w = w')
    (L1 : ∀ w, Calls Tryz.prog 34 #[.string s1] w fun e w' => e = .returned (.tuple #[.agg (bls p1), .string s2]) ∧ Below w.heap.size w w')
    (C2 : ∀ w, Calls Tryz.prog 33 #[.string s2, .string ⟨#[47, 83]⟩] w fun e w' => e = .returned (.tuple #[.string s3, .bool false]) ∧ w = w')
    (L2 : ∀ w, Calls Tryz.prog 34 #[.string s3] w fun e w' => e = .returned (.tuple #[.agg (bls p2), .string s4]) ∧ Below w.heap.size w w')
    (O : ∀ w, Calls Tryz.prog 35 #[.string s4] w fun e w' => e = .returned (.slice none 0 0) ∧ w = w') :
    Calls Tryz.prog 14 #[.string s0] w fun e w' => e = .returned (.tuple #[.agg #[.slice none 0 0, .int .i64 0, .slice none 0 0, .slice none 0 0], .int .i64 15]) ∧ Below w.heap.size w w' := by
  have K0 := Lib.hid (Blk.new w 44 #[.slice none 0 0, .int .i64 0, .slice none 0 0, .slice none 0 0])
  have B0 := Lib.hid ((Below.refl w.heap.size w).alloc (Nat.le_refl _) (.cells #[.slice none 0 0, .int .i64 0, .slice none 0 0, .slice none 0 0] 44))
  simp only [bls] at L1 L2
  have zz := Lib.hid L1
  (try clear L1)
  have L1 := zz
  clear zz
  have zz := Lib.hid L2
  (try clear L2)
  have L2 := zz
  clear zz
  have zz := Lib.hid C1
  (try clear C1)
  have C1 := zz
  clear zz
  have zz := Lib.hid C2
  (try clear C2)
  have C2 := zz
  clear zz
  have zz := Lib.hid O
  (try clear O)
  have O := zz
  clear zz
  go_enter Tryz.func14, Tryz.ntmps14
  go_wp2_with (first
    | (go_at_call 35; (with_reducible refine (O.out _).mono ?_); rintro e w5 ⟨rfl, rfl⟩)
    | (go_at_call 34; (with_reducible refine (L2.out _).mono ?_); rintro e w4 ⟨rfl, hb⟩; have B4 := Lib.hid (B2.out.trans (hb.mono B2.out.size)); have B5 := Lib.hid (B4.out.alloc B4.out.size (.cells #[.bool (p2 0), .bool (p2 1), .bool (p2 2), .bool (p2 3), .bool (p2 4), .bool (p2 5), .bool (p2 6), .bool (p2 7), .bool (p2 8), .bool (p2 9)] 75)); have K5 := Lib.hid ((K2.out.below' hb).alloc (.cells #[.bool (p2 0), .bool (p2 1), .bool (p2 2), .bool (p2 3), .bool (p2 4), .bool (p2 5), .bool (p2 6), .bool (p2 7), .bool (p2 8), .bool (p2 9)] 75)); obtain ⟨y0, y1, y2, y3, y4, y5, y6, y7, y8⟩ := K5.out.four8; clear hb)
    | (go_at_call 34; (with_reducible refine (L1.out _).mono ?_); rintro e w2 ⟨rfl, hb⟩; have B1 := Lib.hid (B0.out.trans (hb.mono B0.out.size)); have B2 := Lib.hid (B1.out.alloc B1.out.size (.cells #[.bool (p1 0), .bool (p1 1), .bool (p1 2), .bool (p1 3), .bool (p1 4), .bool (p1 5), .bool (p1 6), .bool (p1 7), .bool (p1 8), .bool (p1 9)] 75)); have K2 := Lib.hid ((K0.out.below' hb).alloc (.cells #[.bool (p1 0), .bool (p1 1), .bool (p1 2), .bool (p1 3), .bool (p1 4), .bool (p1 5), .bool (p1 6), .bool (p1 7), .bool (p1 8), .bool (p1 9)] 75)); clear hb)
    | (go_at_call 33; (with_reducible refine (C1.out _).mono ?_); rintro e w1 ⟨rfl, rfl⟩)
    | (go_at_call 33; (with_reducible refine (C2.out _).mono ?_); rintro e w3 ⟨rfl, rfl⟩))
  have E := K5.out.all4 (.slice none 0 0) (.int .i64 0) (.slice none 0 0) (.slice none 0 0)
  have E2 := Below.all4 B5.out (Nat.le_refl _) (.slice none 0 0) (.int .i64 0) (.slice none 0 0) (.slice none 0 0)
  generalize (((((w4.alloc (.cells #[.bool (p2 0), .bool (p2 1), .bool (p2 2), .bool (p2 3), .bool (p2 4), .bool (p2 5), .bool (p2 6), .bool (p2 7), .bool (p2 8), .bool (p2 9)] 75)).setCell ⟨w.heap.size, 0, none⟩ (.slice none 0 0)).setCell ⟨w.heap.size, 1, none⟩ (.int .i64 0)).setCell ⟨w.heap.size, 2, none⟩ (.slice none 0 0)).setCell ⟨w.heap.size, 3, none⟩ (.slice none 0 0)) = wz at E E2 ⊢
  obtain ⟨j0, j1, j2, j3, j4⟩ := E.four
  exact bodyPost_ret (v := .tuple #[.agg #[.slice none 0 0, .int .i64 0, .slice none 0 0, .slice none 0 0], .int .i64 15]) (by simp [results, Tryz.results14, go_sem, j0, j1, j2, j3]) rfl ⟨rfl, E2⟩
set_option maxRecDepth 100000 in
set_option maxHeartbeats 4000000 in
theorem parse_main (q : Bool) (n : Nat) (f : Nat → P2) (w : World) (hn : 0 < n) (hn2 : n ≤ 100) (hq : rt f n 2 (nl p1 10) (nl p2 10) = q)
    (C1 : ∀ w, Calls Tryz.prog 33 #[.string s0, .string ⟨#[66]⟩] w fun e w' => e = .returned (.tuple #[.string s1, .bool true]) ∧ w = w')
    (L1 : ∀ w, Calls Tryz.prog 34 #[.string s1] w fun e w' => e = .returned (.tuple #[.agg (bls p1), .string s2]) ∧ Below w.heap.size w w')
    (C2 : ∀ w, Calls Tryz.prog 33 #[.string s2, .string ⟨#[47, 83]⟩] w fun e w' => e = .returned (.tuple #[.string s3, .bool true]) ∧ w = w')
    (L2 : ∀ w, Calls Tryz.prog 34 #[.string s3] w fun e w' => e = .returned (.tuple #[.agg (bls p2), .string s4]) ∧ Below w.heap.size w w')
    (O : ∀ w, Calls Tryz.prog 35 #[.string s4] w fun e w' => ∃ A c, e = .returned (.slice A n c) ∧ QReads w' w'.heap.size A n f ∧ Below w.heap.size w w') :
    Calls Tryz.prog 14 #[.string s0] w fun e w' => if q = true then ∃ A c A1 c1 A2 c2, e = .returned (.tuple #[.agg #[.slice A n c, .int .i64 2, .slice A1 (nl p1 10).length c1, .slice A2 (nl p2 10).length c2], .int .i64 0]) ∧ TR w' A n f A1 (nl p1 10).length (nl p1 10) A2 (nl p2 10).length (nl p2 10) ∧ Below w.heap.size w w' ∧ (∀ ad, A1 = some ad → w.heap.size ≤ ad.block) ∧ (∀ ad, A2 = some ad → w.heap.size ≤ ad.block)
      else e = .returned (.tuple #[.agg #[.slice none 0 0, .int .i64 0, .slice none 0 0, .slice none 0 0], .int .i64 5]) ∧ Below w.heap.size w w' := by
  have K0 := Lib.hid (Blk.new w 44 #[.slice none 0 0, .int .i64 0, .slice none 0 0, .slice none 0 0])
  have B0 := Lib.hid ((Below.refl w.heap.size w).alloc (Nat.le_refl _) (.cells #[.slice none 0 0, .int .i64 0, .slice none 0 0, .slice none 0 0] 44))
  have LI := fun p w => list_any p w
  have hlen1 := nl_len p1 10
  have hlen2 := nl_len p2 10
  have RI := fun A c A1 c1 A2 c2 w' (h : TR w' A n f A1 (nl p1 10).length (nl p1 10) A2 (nl p2 10).length (nl p2 10)) => (by have := right_any A n c f 2 A1 (nl p1 10).length c1 (nl p1 10) A2 (nl p2 10).length c2 (nl p2 10) w' h (by omega) (by omega) (by omega); rwa [hq] at this : Calls Tryz.prog 37 #[.agg #[.slice A n c, .int .i64 2, .slice A1 (nl p1 10).length c1, .slice A2 (nl p2 10).length c2]] w' fun e w'' => e = .returned (.bool q) ∧ Below w'.heap.size w' w'')
  have q22 : ∀ (w : World) (a : Option Addr) (n c n' c' : Nat), (binOp .eql 22 (.slice a n c) (.slice none n' c')).run Tryz.prog w = .ok (.bool a.isNone) w := fun w a n c n' c' => Lib.run_eql_slice_nil w _ _ a n c n' c' Tryz.underlying22
  have X1 := list_any p1
  have X2 := list_any p2
  simp only [bls] at L1 L2 X1 X2
  clear LI hq
  have zz := Lib.hid L1
  (try clear L1)
  have L1 := zz
  clear zz
  have zz := Lib.hid L2
  (try clear L2)
  have L2 := zz
  clear zz
  have zz := Lib.hid C1
  (try clear C1)
  have C1 := zz
  clear zz
  have zz := Lib.hid C2
  (try clear C2)
  have C2 := zz
  clear zz
  have zz := Lib.hid O
  (try clear O)
  have O := zz
  clear zz
  have zz := Lib.hid RI
  (try clear RI)
  have RI := zz
  clear zz
  have zz := Lib.hid X1
  (try clear X1)
  have X1 := zz
  clear zz
  have zz := Lib.hid X2
  (try clear X2)
  have X2 := zz
  clear zz
  go_enter Tryz.func14, Tryz.ntmps14
  go_upto_region 8 with (first
    | (go_at_call 35; (with_reducible refine (O.out _).mono ?_); rintro e w6 ⟨A6, c6, rfl, hr, hb⟩; obtain ⟨g6, o6, rfl, _⟩ := hr hn; have R6 := Lib.hid hr; have B6 := Lib.hid (B5.out.trans (hb.mono B5.out.size)); have K6 := Lib.hid (K5.out.below' hb); have K6a := Lib.hid (K5a.out.below' hb); have K6b := Lib.hid (K5b.out.below' hb); clear hb hr)
    | (go_at_call 34; (with_reducible refine (L2.out _).mono ?_); rintro e w4 ⟨rfl, hb⟩; have B4 := Lib.hid (B2.out.trans (hb.mono B2.out.size)); have B5 := Lib.hid (B4.out.alloc B4.out.size (.cells #[.bool (p2 0), .bool (p2 1), .bool (p2 2), .bool (p2 3), .bool (p2 4), .bool (p2 5), .bool (p2 6), .bool (p2 7), .bool (p2 8), .bool (p2 9)] 75)); have K5 := Lib.hid ((K2.out.below' hb).alloc (.cells #[.bool (p2 0), .bool (p2 1), .bool (p2 2), .bool (p2 3), .bool (p2 4), .bool (p2 5), .bool (p2 6), .bool (p2 7), .bool (p2 8), .bool (p2 9)] 75)); have K5a := Lib.hid ((K2a.out.below' hb).alloc (.cells #[.bool (p2 0), .bool (p2 1), .bool (p2 2), .bool (p2 3), .bool (p2 4), .bool (p2 5), .bool (p2 6), .bool (p2 7), .bool (p2 8), .bool (p2 9)] 75)); have K5b := Lib.hid (Blk.new w4 75 #[.bool (p2 0), .bool (p2 1), .bool (p2 2), .bool (p2 3), .bool (p2 4), .bool (p2 5), .bool (p2 6), .bool (p2 7), .bool (p2 8), .bool (p2 9)]); clear hb)
    | (go_at_call 34; (with_reducible refine (L1.out _).mono ?_); rintro e w2 ⟨rfl, hb⟩; have B1 := Lib.hid (B0.out.trans (hb.mono B0.out.size)); have B2 := Lib.hid (B1.out.alloc B1.out.size (.cells #[.bool (p1 0), .bool (p1 1), .bool (p1 2), .bool (p1 3), .bool (p1 4), .bool (p1 5), .bool (p1 6), .bool (p1 7), .bool (p1 8), .bool (p1 9)] 75)); have K2 := Lib.hid ((K0.out.below' hb).alloc (.cells #[.bool (p1 0), .bool (p1 1), .bool (p1 2), .bool (p1 3), .bool (p1 4), .bool (p1 5), .bool (p1 6), .bool (p1 7), .bool (p1 8), .bool (p1 9)] 75)); have K2a := Lib.hid (Blk.new w2 75 #[.bool (p1 0), .bool (p1 1), .bool (p1 2), .bool (p1 3), .bool (p1 4), .bool (p1 5), .bool (p1 6), .bool (p1 7), .bool (p1 8), .bool (p1 9)]); clear hb)
    | (go_at_call 33; (with_reducible refine (C1.out _).mono ?_); rintro e w1 ⟨rfl, rfl⟩)
    | (go_at_call 33; (with_reducible refine (C2.out _).mono ?_); rintro e w3 ⟨rfl, rfl⟩))
  obtain ⟨ga, hga⟩ : ∃ ga, ga = w2.heap.size := ⟨_, rfl⟩
  obtain ⟨gb, hgb⟩ : ∃ gb, gb = w4.heap.size := ⟨_, rfl⟩
  rw [← hga] at K6a
  rw [← hgb] at K6b
  obtain ⟨cs1, hcs1⟩ : ∃ cs1, cs1 = (bls p1).toList := ⟨_, rfl⟩
  obtain ⟨cs2, hcs2⟩ : ∃ cs2, cs2 = (bls p2).toList := ⟨_, rfl⟩
  have hl1 : cs1.length = 10 := by rw [hcs1]; rfl
  have hl2 : cs2.length = 10 := by rw [hcs2]; rfl
  have KP := Lib.hid (show ∀ w', Below w6.heap.size w6 w' → w'.rangeAt ga 0 cs1 ∧ w'.rangeAt gb 0 cs2 from
    fun w' hb => by
      have h1 : Blk w' ga 75 (bls p1) := K6a.out.below' hb
      have h2 : Blk w' gb 75 (bls p2) := K6b.out.below' hb
      rw [hcs1, hcs2]
      exact ⟨fun j v hj => by rw [Nat.zero_add, h1.cell]; simpa using hj, fun j v hj => by rw [Nat.zero_add, h2.cell]; simpa using hj⟩)
  have Q1 := Lib.hid (show ∀ w', Below w6.heap.size w6 w' → Calls Tryz.prog 36 #[.agg cs1.toArray] w' fun e w'' => ∃ A c, e = .returned (.slice A (nl p1 10).length c) ∧ w''.ownsRow w'.heap.size 3 1 (.slice A (nl p1 10).length c) (nl p1 10).length (il (nl p1 10)) ∧ Below w6.heap.size w6 w'' ∧ Below w'.heap.size w' w'' from
    fun w' hb => by
      rw [hcs1]
      exact (X1.out w').mono fun e w'' ⟨A, c, he, hr, hx⟩ => ⟨A, c, he, hr, hb.trans (hx.mono hb.size), hx⟩)
  have Q2 := Lib.hid (show ∀ w', Below w6.heap.size w6 w' → Calls Tryz.prog 36 #[.agg cs2.toArray] w' fun e w'' => ∃ A c, e = .returned (.slice A (nl p2 10).length c) ∧ w''.ownsRow w'.heap.size 3 1 (.slice A (nl p2 10).length c) (nl p2 10).length (il (nl p2 10)) ∧ Below w6.heap.size w6 w'' ∧ Below w'.heap.size w' w'' from
    fun w' hb => by
      rw [hcs2]
      exact (X2.out w').mono fun e w'' ⟨A, c, he, hr, hx⟩ => ⟨A, c, he, hr, hb.trans (hx.mono hb.size), hx⟩)
  obtain ⟨i9, hi9, hz9⟩ : ∃ i9, Tryz.prog.info? 75 = some i9 ∧ i9.size = 10 := by
    have h := Tryz.info_numbers
    cases hx : Tryz.prog.info? 75 with
    | none => rw [hx] at h; cases h
    | some i9 => rw [hx] at h; exact ⟨i9, rfl, by simpa using h⟩
  have hi1 : (Tryz.prog.info? 75).map (·.size) = some cs1.length := by rw [hl1, hi9, ← hz9]; rfl
  have hi2 : (Tryz.prog.info? 75).map (·.size) = some cs2.length := by rw [hl2, hi9, ← hz9]; rfl
  have hu := Tryz.underlying75
  rw [← hga, ← hgb]
  clear K0 B0 L1 L2 C1 C2 O X1 X2 B1 B2 K2 K2a B4 B5 K5 K5a K5b hga hgb hcs1 hcs2 K6a K6b hi9 hz9
  obtain ⟨l1, hll1⟩ : ∃ l1, l1 = nl p1 10 := ⟨_, rfl⟩
  obtain ⟨l2, hll2⟩ : ∃ l2, l2 = nl p2 10 := ⟨_, rfl⟩
  rw [← hll1] at hlen1 RI Q1
  rw [← hll2] at hlen2 RI Q2
  have HLL1 := Lib.hid hll1
  have HLL2 := Lib.hid hll2
  clear hll1 hll2
  go_cut [10] from 44 to 49 (fun s10 wx => ∃ (g : Nat) (A1 : Option Addr) (c1 : Nat) (A2 : Option Addr) (c2 : Nat), s10 = .pointer (some ⟨g, 0, none⟩) ∧ Blk wx g 44 #[.slice (some ⟨g6, o6, none⟩) n c6, .int .i64 2, .slice A1 l1.length c1, .slice A2 l2.length c2] ∧ Reads wx wx.heap.size A1 l1.length (il l1) ∧ Reads wx wx.heap.size A2 l2.length (il l2) ∧ (∀ ad, A1 = some ad → w6.heap.size ≤ ad.block) ∧ (∀ ad, A2 = some ad → w6.heap.size ≤ ad.block) ∧ Below w6.heap.size w6 wx)
  case first =>
    refine wp_region_held_drew (S := fun w' => w'.rangeAt ga 0 cs1 ∧ w'.rangeAt gb 0 cs2) (by kernel_rfl) (KP.out _ (Below.drew' (Below.refl _ _))) (fun hHeld => ?_)
    refine' wpAnyH_take (i := 1) (v := _) rfl (by kernel_rfl) (by kernel_rfl) (by kernel_rfl) (fun _ _ _ h => h) (yieldsIf_load_mid (by rfl) _ _ rfl _ _ rfl cs1 _ (fun w h => h.1) hu rfl hi1) hHeld ?_
    try simp only [Act.put, List.setIfInBounds_toArray, List.set_cons_zero, List.set_cons_succ]
    refine' wpAnyH_take (i := 3) (v := _) rfl (by kernel_rfl) (by kernel_rfl) (by kernel_rfl) (fun _ _ _ h => h) (yieldsIf_load_mid (by rfl) _ _ rfl _ _ rfl cs2 _ (fun w h => h.2) hu rfl hi2) hHeld ?_
    try simp only [Act.put, List.setIfInBounds_toArray, List.set_cons_zero, List.set_cons_succ]
    refine' wpAnyH_take (i := 0) (v := .slice (some ⟨g6, o6, none⟩) n c6) rfl (by kernel_rfl) (by kernel_rfl) (by kernel_rfl) (fun _ _ _ h => h) (Or.inl ⟨by rfl, by intro w hSw; go_simp⟩) hHeld ?_
    try simp only [Act.put, List.setIfInBounds_toArray, List.set_cons_zero, List.set_cons_succ]
    refine wpAnyH_ready (rs := [2, 6]) (by kernel_rfl) (by simp) ?_
    refine AllReadyH.cons rfl (fun K hK => ?_) (AllReadyH.cons rfl (fun K hK => ?_) (AllReadyH.nil))
    · go_simp
      refine (Q1.out _ (Below.drew' (Below.refl _ _))).mono ?_
      rintro e wa ⟨A1, c1, rfl, ra, ha1, ha2⟩
      refine hK.out _ _ (KP.out _ ha1) (fun hHeld => ?_)
      clear hK K
      try simp only [Act.put, List.setIfInBounds_toArray, List.set_cons_zero, List.set_cons_succ]
      refine wpAnyH_ready (rs := [4, 6]) (by kernel_rfl) (by simp) ?_
      refine AllReadyH.cons rfl (fun K hK => ?_) (AllReadyH.cons rfl (fun K hK => ?_) (AllReadyH.nil))
      · go_simp
        refine (Q2.out _ ha1).mono ?_
        rintro e wb ⟨A2, c2, rfl, rb, hb1, hb2⟩
        refine hK.out _ _ (KP.out _ hb1) (fun hHeld => ?_)
        clear hK K
        try simp only [Act.put, List.setIfInBounds_toArray, List.set_cons_zero, List.set_cons_succ]
        refine' wpAnyH_take (i := 5) (v := .agg #[.slice (some ⟨g6, o6, none⟩) n c6, .int .i64 2, .slice A1 l1.length c1, .slice A2 l2.length c2]) rfl (by kernel_rfl) (by kernel_rfl) (by kernel_rfl) (fun _ _ _ h => h) (Or.inl ⟨by rfl, by intro w hSw; go_simp⟩) hHeld ?_
        try simp only [Act.put, List.setIfInBounds_toArray, List.set_cons_zero, List.set_cons_succ]
        refine wpAnyH_ready (rs := [6]) (by kernel_rfl) (by simp) ?_
        refine AllReadyH.cons rfl (fun K hK => ?_) (AllReadyH.nil)
        · go_simp
          refine hK.out _ _ (KP.out _ (Below.alloc' hb1 _)) (fun hHeld => ?_)
          clear hK K
          try simp only [Act.put, List.setIfInBounds_toArray, List.set_cons_zero, List.set_cons_succ]
          refine wpAnyH_ready (rs := [7]) (by kernel_rfl) (by simp) ?_
          refine AllReadyH.cons rfl (fun K hK => ?_) (AllReadyH.nil)
          · go_simp
            refine hK.out _ _ (KP.out _ (Below.alloc' hb1 _)) (fun hHeld => ?_)
            clear hK K
            refine wpAnyH_done (by kernel_rfl) ?_ _
            go_wp2_with fail
            go_meet
            exact ⟨wb.heap.size, A1, c1, A2, c2, rfl, Blk.new _ _ _, (((Reads.of_own ra).later hb2).later ((Below.refl _ _).alloc (Nat.le_refl _) _)), ((Reads.of_own rb).later ((Below.refl _ _).alloc (Nat.le_refl _) _)), (fun ad h => Nat.le_trans (Nat.le_refl _) (ra.lt _ (by rw [h]; rfl)).1), (fun ad h => Nat.le_trans ha1.size (rb.lt _ (by rw [h]; rfl)).1), (Below.alloc' hb1 _)⟩
      · have hk := Blk.new wa 44 #[.slice none 0 0, .int .i64 0, .slice none 0 0, .slice none 0 0]
        go_simp
        refine hK.out _ _ (KP.out _ (Below.alloc' ha1 _)) (fun hHeld => ?_)
        clear hK K
        try simp only [Act.put, List.setIfInBounds_toArray, List.set_cons_zero, List.set_cons_succ]
        refine wpAnyH_ready (rs := [4]) (by kernel_rfl) (by simp) ?_
        refine AllReadyH.cons rfl (fun K hK => ?_) (AllReadyH.nil)
        · go_simp
          refine (Q2.out _ (Below.alloc' ha1 _)).mono ?_
          rintro e wb ⟨A2, c2, rfl, rb, hb1, hb2⟩
          refine hK.out _ _ (KP.out _ hb1) (fun hHeld => ?_)
          clear hK K
          try simp only [Act.put, List.setIfInBounds_toArray, List.set_cons_zero, List.set_cons_succ]
          have hk := Blk.below' hk hb2
          refine' wpAnyH_take (i := 5) (v := .agg #[.slice (some ⟨g6, o6, none⟩) n c6, .int .i64 2, .slice A1 l1.length c1, .slice A2 l2.length c2]) rfl (by kernel_rfl) (by kernel_rfl) (by kernel_rfl) (fun _ _ _ h => h) (Or.inl ⟨by rfl, by intro w hSw; go_simp⟩) hHeld ?_
          try simp only [Act.put, List.setIfInBounds_toArray, List.set_cons_zero, List.set_cons_succ]
          obtain ⟨k0, k1, k2, k3, k4, k5, k6, k7, k8⟩ := hk.four8
          refine wpAnyH_ready (rs := [7]) (by kernel_rfl) (by simp) ?_
          refine AllReadyH.cons rfl (fun K hK => ?_) (AllReadyH.nil)
          · go_simp
            have hsz9 : (wa.alloc (.cells #[.slice none 0 0, .int .i64 0, .slice none 0 0, .slice none 0 0] 44)).heap.size = wa.heap.size + 1 := by simp
            have hge : w6.heap.size ≤ wa.heap.size := ha1.size
            have rA := (((Reads.of_own ra).alloc (Nat.le_refl _) (.cells #[.slice none 0 0, .int .i64 0, .slice none 0 0, .slice none 0 0] 44)).below (hb2.mono (by simp)))
            have rA := ((((rA.setCell (p := ⟨wa.heap.size, 0, none⟩) (Nat.le_refl _) (.slice (some ⟨g6, o6, none⟩) n c6)).setCell (p := ⟨wa.heap.size, 1, none⟩) (Nat.le_refl _) (.int .i64 2)).setCell (p := ⟨wa.heap.size, 2, none⟩) (Nat.le_refl _) (.slice A1 l1.length c1)).setCell (p := ⟨wa.heap.size, 3, none⟩) (Nat.le_refl _) (.slice A2 l2.length c2))
            have rB := Reads.of_own (own_far4 rb (show wa.heap.size < _ by simp) (.slice (some ⟨g6, o6, none⟩) n c6) (.int .i64 2) (.slice A1 l1.length c1) (.slice A2 l2.length c2))
            have bl9 := Below.all4 hb1 hge (.slice (some ⟨g6, o6, none⟩) n c6) (.int .i64 2) (.slice A1 l1.length c1) (.slice A2 l2.length c2)
            have hk9 := hk.all4 (.slice (some ⟨g6, o6, none⟩) n c6) (.int .i64 2) (.slice A1 l1.length c1) (.slice A2 l2.length c2)
            have rA := rA.more (Nat.le_of_lt hk9.lt)
            refine hK.out _ _ (KP.out _ bl9) (fun hHeld => ?_)
            clear hK K
            refine wpAnyH_done (by kernel_rfl) ?_ _
            go_wp2_with fail
            go_meet
            exact ⟨wa.heap.size, A1, c1, A2, c2, rfl, hk9, rA, rB, (fun ad h => Nat.le_trans (Nat.le_refl _) (ra.lt _ (by rw [h]; rfl)).1), (fun ad h => Nat.le_trans (by have h1 := ha1.size; simp; omega) (rb.lt _ (by rw [h]; rfl)).1), bl9⟩
    · have hk := (Blk.new w6 44 #[.slice none 0 0, .int .i64 0, .slice none 0 0, .slice none 0 0]).drew
      go_simp
      refine hK.out _ _ (KP.out _ (Below.drew' (Below.alloc' (Below.refl _ _) _))) (fun hHeld => ?_)
      clear hK K
      try simp only [Act.put, List.setIfInBounds_toArray, List.set_cons_zero, List.set_cons_succ]
      refine wpAnyH_ready (rs := [2]) (by kernel_rfl) (by simp) ?_
      refine AllReadyH.cons rfl (fun K hK => ?_) (AllReadyH.nil)
      · go_simp
        refine (Q1.out _ (Below.drew' (Below.alloc' (Below.refl _ _) _))).mono ?_
        rintro e wa ⟨A1, c1, rfl, ra, ha1, ha2⟩
        refine hK.out _ _ (KP.out _ ha1) (fun hHeld => ?_)
        clear hK K
        try simp only [Act.put, List.setIfInBounds_toArray, List.set_cons_zero, List.set_cons_succ]
        have hk := Blk.below' hk ha2
        refine wpAnyH_ready (rs := [4]) (by kernel_rfl) (by simp) ?_
        refine AllReadyH.cons rfl (fun K hK => ?_) (AllReadyH.nil)
        · go_simp
          refine (Q2.out _ ha1).mono ?_
          rintro e wb ⟨A2, c2, rfl, rb, hb1, hb2⟩
          refine hK.out _ _ (KP.out _ hb1) (fun hHeld => ?_)
          clear hK K
          try simp only [Act.put, List.setIfInBounds_toArray, List.set_cons_zero, List.set_cons_succ]
          have hk := Blk.below' hk hb2
          refine' wpAnyH_take (i := 5) (v := .agg #[.slice (some ⟨g6, o6, none⟩) n c6, .int .i64 2, .slice A1 l1.length c1, .slice A2 l2.length c2]) rfl (by kernel_rfl) (by kernel_rfl) (by kernel_rfl) (fun _ _ _ h => h) (Or.inl ⟨by rfl, by intro w hSw; go_simp⟩) hHeld ?_
          try simp only [Act.put, List.setIfInBounds_toArray, List.set_cons_zero, List.set_cons_succ]
          obtain ⟨k0, k1, k2, k3, k4, k5, k6, k7, k8⟩ := hk.four8
          refine wpAnyH_ready (rs := [7]) (by kernel_rfl) (by simp) ?_
          refine AllReadyH.cons rfl (fun K hK => ?_) (AllReadyH.nil)
          · go_simp
            have hge : w6.heap.size < wa.heap.size := by (have := ha2.size; simp at this; omega)
            have rA := Reads.of_own (own_far4 (own_below ra hb2) (show w6.heap.size < _ by simp) (.slice (some ⟨g6, o6, none⟩) n c6) (.int .i64 2) (.slice A1 l1.length c1) (.slice A2 l2.length c2))
            have rB := Reads.of_own (own_far4 rb hge (.slice (some ⟨g6, o6, none⟩) n c6) (.int .i64 2) (.slice A1 l1.length c1) (.slice A2 l2.length c2))
            have bl9 := Below.all4 hb1 (Nat.le_refl _) (.slice (some ⟨g6, o6, none⟩) n c6) (.int .i64 2) (.slice A1 l1.length c1) (.slice A2 l2.length c2)
            have hk9 := hk.all4 (.slice (some ⟨g6, o6, none⟩) n c6) (.int .i64 2) (.slice A1 l1.length c1) (.slice A2 l2.length c2)
            refine hK.out _ _ (KP.out _ bl9) (fun hHeld => ?_)
            clear hK K
            refine wpAnyH_done (by kernel_rfl) ?_ _
            go_wp2_with fail
            go_meet
            exact ⟨w6.heap.size, A1, c1, A2, c2, rfl, hk9, rA, rB, (fun ad h => Nat.le_trans (by simp) (ra.lt _ (by rw [h]; rfl)).1), (fun ad h => Nat.le_trans (Nat.le_of_lt hge) (rb.lt _ (by rw [h]; rfl)).1), bl9⟩
  case rest =>
    have HG : ¬ g6 = w.heap.size := by
      intro e
      obtain ⟨g, o, ha, hg, hc⟩ := R6.out hn
      simp only [Option.some.injEq, Addr.mk.injEq, and_true] at ha
      obtain ⟨rfl, rfl⟩ := ha
      obtain ⟨d0, d1⟩ := hc 0 hn
      rw [e, K6.out.cell] at d0 d1
      match o6, d0, d1 with
      | 0, d0, _ => simp at d0
      | 1, _, d1 => simp at d1
      | 2, d0, _ => simp at d0
      | 3, d0, _ => simp at d0
      | k + 4, d0, _ => simp at d0
    obtain ⟨g, A1, c1, A2, c2, rfl, KB, r1, r2, lo1, lo2, hbel⟩ := hcut
    have TT := Lib.hid (show TR wc (some ⟨g6, o6, none⟩) n f A1 l1.length l1 A2 l2.length l2 from ⟨R6.out.later hbel, r1, r2⟩)
    have BB := Lib.hid (B6.out.trans (hbel.mono B6.out.size))
    have KZ := Lib.hid (K6.out.below' hbel)
    have KG := Lib.hid KB
    obtain ⟨b0, b1, b2, b3, b4⟩ := KB.four
    clear KB r1 r2 hbel
    cases q
    · go_wp2_with (go_at_call 37; (with_reducible refine (RI.out _ _ _ _ _ _ _ TT.out).mono ?_); rintro e wz ⟨rfl, hb⟩; have BZ := Lib.hid (BB.out.trans (hb.mono BB.out.size)); have KY := Lib.hid (KZ.out.below' hb); obtain ⟨u0, u1, u2, u3, u4, u5, u6, u7, u8⟩ := KY.out.four8; clear hb)
      have E := KY.out.all4 (.slice none 0 0) (.int .i64 0) (.slice none 0 0) (.slice none 0 0)
      have E2 := Below.all4 BZ.out (Nat.le_refl _) (.slice none 0 0) (.int .i64 0) (.slice none 0 0) (.slice none 0 0)
      generalize ((((wz.setCell ⟨w.heap.size, 0, none⟩ (.slice none 0 0)).setCell ⟨w.heap.size, 1, none⟩ (.int .i64 0)).setCell ⟨w.heap.size, 2, none⟩ (.slice none 0 0)).setCell ⟨w.heap.size, 3, none⟩ (.slice none 0 0)) = wy at E E2 ⊢
      obtain ⟨j0, j1, j2, j3, j4⟩ := E.four
      exact bodyPost_ret (v := .tuple #[.agg #[.slice none 0 0, .int .i64 0, .slice none 0 0, .slice none 0 0], .int .i64 5]) (by simp [results, Tryz.results14, go_sem, j0, j1, j2, j3]) rfl ⟨rfl, E2⟩
    · go_wp2_with (go_at_call 37; (with_reducible refine (RI.out _ _ _ _ _ _ _ TT.out).mono ?_); rintro e wz ⟨rfl, hb⟩; have BZ := Lib.hid (BB.out.trans (hb.mono BB.out.size)); have KY := Lib.hid (KZ.out.below' hb); have TY := Lib.hid (TT.out.later hb); obtain ⟨z0, z1, z2, z3, z4⟩ := (KG.out.below' hb).four; obtain ⟨u0, u1, u2, u3, u4, u5, u6, u7, u8⟩ := KY.out.four8; clear hb)
      have E := KY.out.all4 (.slice (some ⟨g6, o6, none⟩) n c6) (.int .i64 2) (.slice A1 l1.length c1) (.slice A2 l2.length c2)
      have E2 := Below.all4 BZ.out (Nat.le_refl _) (.slice (some ⟨g6, o6, none⟩) n c6) (.int .i64 2) (.slice A1 l1.length c1) (.slice A2 l2.length c2)
      have F := TY.out.far4 (g := w.heap.size) (fun ad _ h => by obtain rfl := Option.some.inj h; exact HG) (fun ad _ h => by have := lo1 ad h; have := K6.out.lt; omega) (fun ad _ h => by have := lo2 ad h; have := K6.out.lt; omega) (.slice (some ⟨g6, o6, none⟩) n c6) (.int .i64 2) (.slice A1 l1.length c1) (.slice A2 l2.length c2)
      generalize ((((wz.setCell ⟨w.heap.size, 0, none⟩ (.slice (some ⟨g6, o6, none⟩) n c6)).setCell ⟨w.heap.size, 1, none⟩ (.int .i64 2)).setCell ⟨w.heap.size, 2, none⟩ (.slice A1 l1.length c1)).setCell ⟨w.heap.size, 3, none⟩ (.slice A2 l2.length c2)) = wy at E E2 F ⊢
      obtain ⟨j0, j1, j2, j3, j4⟩ := E.four
      have e1 := HLL1.out
      have e2 := HLL2.out
      clear HLL1 HLL2
      subst e1 e2
      exact bodyPost_ret (v := .tuple #[.agg #[.slice (some ⟨g6, o6, none⟩) n c6, .int .i64 2, .slice A1 (nl p1 10).length c1, .slice A2 (nl p2 10).length c2], .int .i64 0]) (by simp [results, Tryz.results14, go_sem, j0, j1, j2, j3]) rfl ⟨some ⟨g6, o6, none⟩, c6, A1, c1, A2, ⟨c2, rfl⟩, F, E2, fun ad h => Nat.le_trans B6.out.size (lo1 ad h), fun ad h => Nat.le_trans B6.out.size (lo2 ad h)⟩
end
end Go.Proofs.YtjekpmkghpjamaaGreatDoor
