/- The walks of Fold, Share, Trim and All at a valid circuit. -/
import Derived.Test.YtnhkgkpjkgifoaaMbo
namespace Go.Proofs.Ytnhkgkpjkgifoaa
open Go.RowKit

/-- what they answer -/
def OptOut (N : Nat) (gs : List C3) (os : List Int) (w : World) (e : Ending) (w' : World) : Prop :=
  ∃ A O cA cO, e = .returned (.agg #[.int .i64 (N : Int), .slice A gs.length cA, .slice O os.length cO]) ∧ CS w' A O (crL N gs os) ∧ Below w.heap.size w w'
set_option maxRecDepth 100000 in
set_option maxHeartbeats 4000000 in
theorem oFold_any (N : Nat) (gs : List C3) (os : List Int) (A O : Option Addr) (cA cO : Nat) (w : World) (h : CS w A O (crL N gs os)) (hc : COk N gs os) (hol : os.length ≤ 1000) :
    Calls Try.prog 24 #[.agg #[.int .i64 (N : Int), .slice A gs.length cA, .slice O os.length cO]] w fun e w' => OptOut N (foldC N gs os).1 (foldC N gs os).2 w e w' := by
  obtain ⟨w2, hw⟩ : ∃ w2, w2 = (w.alloc (.cells #[.int .i64 (N : Int), .slice A gs.length cA, .slice O os.length cO] 34)).alloc (.cells #[.int .i64 0, .slice none 0 0, .slice none 0 0] 34) := ⟨_, rfl⟩
  have K1 : Blk w2 w.heap.size 34 #[.int .i64 (N : Int), .slice A gs.length cA, .slice O os.length cO] := by rw [hw]; exact (Blk.new w _ _).alloc _
  have K2 : Blk w2 (w.heap.size + 1) 34 #[.int .i64 0, .slice none 0 0, .slice none 0 0] := by
    have := Blk.new (w.alloc (.cells #[.int .i64 (N : Int), .slice A gs.length cA, .slice O os.length cO] 34)) 34 #[.int .i64 0, .slice none 0 0, .slice none 0 0]
    rw [World.size_alloc] at this
    rw [hw]; exact this
  have B2 : Below w.heap.size w w2 := by rw [hw]; exact ((Below.refl _ w).alloc (Nat.le_refl _) _).alloc (by simp) _
  have WO := Lib.hid (workOn_any N gs os A O cA cO w2 (h.later B2) hc hol)
  have K2 := Lib.hid K2
  have B2 := Lib.hid B2
  have HC := Lib.hid hc
  obtain ⟨Q, hQ⟩ : ∃ Q, (fun e w' => OptOut N (foldC N gs os).1 (foldC N gs os).2 w e w') = Q := ⟨_, rfl⟩
  have HQ := Lib.hid hQ
  rw [hQ]
  obtain ⟨a0, a1, a2, _, _, _, a6⟩ := K1.three6
  clear h hc hQ K1
  go_enter Try.func24, Try.ntmps24
  go_upto_region 1 with (fail)
  rw [← hw]
  clear hw
  go_upto_region 2 with (go_at_call 37; (with_reducible refine (WO.out).mono ?_); rintro e w3 ⟨wk, mb, A3, O3, c3, d3, rfl, hw3, hm3, l1, l2, hb⟩; have W3 := Lib.hid hw3; have M3 := Lib.hid hm3; have B3 := Lib.hid hb; clear hw3 hm3 hb)
  have OP := Lib.hid (fold_any W3.out M3.out HC.out hol)
  clear a0 a1 a2 a6 WO
  exact (by
    go_upto_region 3 with (go_at_call 52; (with_reducible refine (OP.out).mono ?_); rintro e w4 ⟨rfl, ws4, V4, cV4, hw, ⟨S4, hm⟩, hf⟩; have W4 := Lib.hid hw; have F4 := Lib.hid hf; clear hw hm hf)
    obtain ⟨⟨gs4, os4⟩, h4⟩ : ∃ p, (foldC N gs os) = p := ⟨_, rfl⟩
    have W4 := Lib.hid (show WK wk (wk + 1) N gs4 os4 ws4 A3 O3 V4 c3 d3 cV4 mb w4 from by have := W4.out; rwa [h4] at this)
    have H4 := Lib.hid h4
    have GE : ∀ k, TS5 wk mb A3 O3 none k → w2.heap.size ≤ k := fun k hk => by
      rcases hk with hk | rfl
      · exact Nat.le_trans l1 (W3.out.ge k hk).1
      · exact l2
    have B4 := Lib.hid (B3.out.trans (F4.out.below (B := w2.heap.size) GE B3.out.size))
    have K4 := Lib.hid (K2.out.below B4.out K2.out.lt)
    obtain ⟨c0, c1, c2, _, _, c5⟩ := W4.out.blk.five
    obtain ⟨b0, b1, b2, _, _, _, b6⟩ := K4.out.three6
    have bf0 := K4.out.frozen 0
    have bf1 := K4.out.frozen 1
    have bf2 := K4.out.frozen 2
    have l3 := K2.out.lt
    clear h4 GE OP
    go_wp2_with fail
    have K5 := K4.out.tri (.int .i64 (N : Int)) (.slice A3 gs4.length c3) (.slice O3 os4.length d3)
    have B5 := (((B2.out.trans (B4.out.mono B2.out.size)).setCell (p := ⟨w.heap.size + 1, 0, none⟩) (Nat.le_succ _) (.int .i64 (N : Int))).setCell (p := ⟨w.heap.size + 1, 1, none⟩) (Nat.le_succ _) (.slice A3 gs4.length c3)).setCell (p := ⟨w.heap.size + 1, 2, none⟩) (Nat.le_succ _) (.slice O3 os4.length d3)
    have ng : (Value.slice A3 gs4.length c3).ownBlock ≠ some (w.heap.size + 1) := fun e => by have := (W4.out.g.lt _ e).1; omega
    have no : (Value.slice O3 os4.length d3).ownBlock ≠ some (w.heap.size + 1) := fun e => by have := (W4.out.o.lt _ e).1; omega
    have G5 := own_set (p := ⟨w.heap.size + 1, 2, none⟩) (own_set (p := ⟨w.heap.size + 1, 1, none⟩) (own_set (p := ⟨w.heap.size + 1, 0, none⟩) W4.out.g ng (.int .i64 (N : Int))) ng (.slice A3 gs4.length c3)) ng (.slice O3 os4.length d3)
    have O5 := own_set (p := ⟨w.heap.size + 1, 2, none⟩) (own_set (p := ⟨w.heap.size + 1, 1, none⟩) (own_set (p := ⟨w.heap.size + 1, 0, none⟩) W4.out.o no (.int .i64 (N : Int))) no (.slice A3 gs4.length c3)) no (.slice O3 os4.length d3)
    generalize ((w4.setCell ⟨w.heap.size + 1, 0, none⟩ (.int .i64 (N : Int))).setCell ⟨w.heap.size + 1, 1, none⟩ (.slice A3 gs4.length c3)).setCell ⟨w.heap.size + 1, 2, none⟩ (.slice O3 os4.length d3) = w5 at K5 B5 G5 O5 ⊢
    obtain ⟨j0, j1, j2, _, _, _, _⟩ := K5.three6
    refine bodyPost_ret (v := .agg #[.int .i64 (N : Int), .slice A3 gs4.length c3, .slice O3 os4.length d3]) (by simp [results, Try.results24, go_sem, j0, j1, j2]) rfl ?_
    rw [← HQ.out]
    exact (by rw [H4.out]; exact ⟨A3, O3, c3, d3, rfl, ⟨creads_cg G5, Reads.of_own O5⟩, B5⟩))
set_option maxRecDepth 100000 in
set_option maxHeartbeats 4000000 in
theorem oShare_any (N : Nat) (gs : List C3) (os : List Int) (A O : Option Addr) (cA cO : Nat) (w : World) (h : CS w A O (crL N gs os)) (hc : COk N gs os) (hol : os.length ≤ 1000) :
    Calls Try.prog 26 #[.agg #[.int .i64 (N : Int), .slice A gs.length cA, .slice O os.length cO]] w fun e w' => OptOut N (shareC N gs os).1 (shareC N gs os).2 w e w' := by
  obtain ⟨w2, hw⟩ : ∃ w2, w2 = (w.alloc (.cells #[.int .i64 (N : Int), .slice A gs.length cA, .slice O os.length cO] 34)).alloc (.cells #[.int .i64 0, .slice none 0 0, .slice none 0 0] 34) := ⟨_, rfl⟩
  have K1 : Blk w2 w.heap.size 34 #[.int .i64 (N : Int), .slice A gs.length cA, .slice O os.length cO] := by rw [hw]; exact (Blk.new w _ _).alloc _
  have K2 : Blk w2 (w.heap.size + 1) 34 #[.int .i64 0, .slice none 0 0, .slice none 0 0] := by
    have := Blk.new (w.alloc (.cells #[.int .i64 (N : Int), .slice A gs.length cA, .slice O os.length cO] 34)) 34 #[.int .i64 0, .slice none 0 0, .slice none 0 0]
    rw [World.size_alloc] at this
    rw [hw]; exact this
  have B2 : Below w.heap.size w w2 := by rw [hw]; exact ((Below.refl _ w).alloc (Nat.le_refl _) _).alloc (by simp) _
  have WO := Lib.hid (workOn_any N gs os A O cA cO w2 (h.later B2) hc hol)
  have K2 := Lib.hid K2
  have B2 := Lib.hid B2
  have HC := Lib.hid hc
  obtain ⟨Q, hQ⟩ : ∃ Q, (fun e w' => OptOut N (shareC N gs os).1 (shareC N gs os).2 w e w') = Q := ⟨_, rfl⟩
  have HQ := Lib.hid hQ
  rw [hQ]
  obtain ⟨a0, a1, a2, _, _, _, a6⟩ := K1.three6
  clear h hc hQ K1
  go_enter Try.func26, Try.ntmps26
  go_upto_region 1 with (fail)
  rw [← hw]
  clear hw
  go_upto_region 2 with (go_at_call 37; (with_reducible refine (WO.out).mono ?_); rintro e w3 ⟨wk, mb, A3, O3, c3, d3, rfl, hw3, hm3, l1, l2, hb⟩; have W3 := Lib.hid hw3; have M3 := Lib.hid hm3; have B3 := Lib.hid hb; clear hw3 hm3 hb)
  have OP := Lib.hid (share_any W3.out M3.out HC.out hol)
  clear a0 a1 a2 a6 WO
  exact (by
    go_upto_region 3 with (go_at_call 54; (with_reducible refine (OP.out).mono ?_); rintro e w4 ⟨rfl, ws4, V4, cV4, hw, ⟨S4, hm⟩, hf⟩; have W4 := Lib.hid hw; have F4 := Lib.hid hf; clear hw hm hf)
    obtain ⟨⟨gs4, os4⟩, h4⟩ : ∃ p, (shareC N gs os) = p := ⟨_, rfl⟩
    have W4 := Lib.hid (show WK wk (wk + 1) N gs4 os4 ws4 A3 O3 V4 c3 d3 cV4 mb w4 from by have := W4.out; rwa [h4] at this)
    have H4 := Lib.hid h4
    have GE : ∀ k, TS5 wk mb A3 O3 none k → w2.heap.size ≤ k := fun k hk => by
      rcases hk with hk | rfl
      · exact Nat.le_trans l1 (W3.out.ge k hk).1
      · exact l2
    have B4 := Lib.hid (B3.out.trans (F4.out.below (B := w2.heap.size) GE B3.out.size))
    have K4 := Lib.hid (K2.out.below B4.out K2.out.lt)
    obtain ⟨c0, c1, c2, _, _, c5⟩ := W4.out.blk.five
    obtain ⟨b0, b1, b2, _, _, _, b6⟩ := K4.out.three6
    have bf0 := K4.out.frozen 0
    have bf1 := K4.out.frozen 1
    have bf2 := K4.out.frozen 2
    have l3 := K2.out.lt
    clear h4 GE OP
    go_wp2_with fail
    have K5 := K4.out.tri (.int .i64 (N : Int)) (.slice A3 gs4.length c3) (.slice O3 os4.length d3)
    have B5 := (((B2.out.trans (B4.out.mono B2.out.size)).setCell (p := ⟨w.heap.size + 1, 0, none⟩) (Nat.le_succ _) (.int .i64 (N : Int))).setCell (p := ⟨w.heap.size + 1, 1, none⟩) (Nat.le_succ _) (.slice A3 gs4.length c3)).setCell (p := ⟨w.heap.size + 1, 2, none⟩) (Nat.le_succ _) (.slice O3 os4.length d3)
    have ng : (Value.slice A3 gs4.length c3).ownBlock ≠ some (w.heap.size + 1) := fun e => by have := (W4.out.g.lt _ e).1; omega
    have no : (Value.slice O3 os4.length d3).ownBlock ≠ some (w.heap.size + 1) := fun e => by have := (W4.out.o.lt _ e).1; omega
    have G5 := own_set (p := ⟨w.heap.size + 1, 2, none⟩) (own_set (p := ⟨w.heap.size + 1, 1, none⟩) (own_set (p := ⟨w.heap.size + 1, 0, none⟩) W4.out.g ng (.int .i64 (N : Int))) ng (.slice A3 gs4.length c3)) ng (.slice O3 os4.length d3)
    have O5 := own_set (p := ⟨w.heap.size + 1, 2, none⟩) (own_set (p := ⟨w.heap.size + 1, 1, none⟩) (own_set (p := ⟨w.heap.size + 1, 0, none⟩) W4.out.o no (.int .i64 (N : Int))) no (.slice A3 gs4.length c3)) no (.slice O3 os4.length d3)
    generalize ((w4.setCell ⟨w.heap.size + 1, 0, none⟩ (.int .i64 (N : Int))).setCell ⟨w.heap.size + 1, 1, none⟩ (.slice A3 gs4.length c3)).setCell ⟨w.heap.size + 1, 2, none⟩ (.slice O3 os4.length d3) = w5 at K5 B5 G5 O5 ⊢
    obtain ⟨j0, j1, j2, _, _, _, _⟩ := K5.three6
    refine bodyPost_ret (v := .agg #[.int .i64 (N : Int), .slice A3 gs4.length c3, .slice O3 os4.length d3]) (by simp [results, Try.results26, go_sem, j0, j1, j2]) rfl ?_
    rw [← HQ.out]
    exact (by rw [H4.out]; exact ⟨A3, O3, c3, d3, rfl, ⟨creads_cg G5, Reads.of_own O5⟩, B5⟩))
set_option maxRecDepth 100000 in
set_option maxHeartbeats 4000000 in
theorem oTrim_any (N : Nat) (gs : List C3) (os : List Int) (A O : Option Addr) (cA cO : Nat) (w : World) (h : CS w A O (crL N gs os)) (hc : COk N gs os) (hol : os.length ≤ 1000) :
    Calls Try.prog 25 #[.agg #[.int .i64 (N : Int), .slice A gs.length cA, .slice O os.length cO]] w fun e w' => OptOut N (trimC N gs os).1 (trimC N gs os).2 w e w' := by
  obtain ⟨w2, hw⟩ : ∃ w2, w2 = (w.alloc (.cells #[.int .i64 (N : Int), .slice A gs.length cA, .slice O os.length cO] 34)).alloc (.cells #[.int .i64 0, .slice none 0 0, .slice none 0 0] 34) := ⟨_, rfl⟩
  have K1 : Blk w2 w.heap.size 34 #[.int .i64 (N : Int), .slice A gs.length cA, .slice O os.length cO] := by rw [hw]; exact (Blk.new w _ _).alloc _
  have K2 : Blk w2 (w.heap.size + 1) 34 #[.int .i64 0, .slice none 0 0, .slice none 0 0] := by
    have := Blk.new (w.alloc (.cells #[.int .i64 (N : Int), .slice A gs.length cA, .slice O os.length cO] 34)) 34 #[.int .i64 0, .slice none 0 0, .slice none 0 0]
    rw [World.size_alloc] at this
    rw [hw]; exact this
  have B2 : Below w.heap.size w w2 := by rw [hw]; exact ((Below.refl _ w).alloc (Nat.le_refl _) _).alloc (by simp) _
  have WO := Lib.hid (workOn_any N gs os A O cA cO w2 (h.later B2) hc hol)
  have K2 := Lib.hid K2
  have B2 := Lib.hid B2
  have HC := Lib.hid hc
  obtain ⟨Q, hQ⟩ : ∃ Q, (fun e w' => OptOut N (trimC N gs os).1 (trimC N gs os).2 w e w') = Q := ⟨_, rfl⟩
  have HQ := Lib.hid hQ
  rw [hQ]
  obtain ⟨a0, a1, a2, _, _, _, a6⟩ := K1.three6
  clear h hc hQ K1
  go_enter Try.func25, Try.ntmps25
  go_upto_region 1 with (fail)
  rw [← hw]
  clear hw
  go_upto_region 2 with (go_at_call 37; (with_reducible refine (WO.out).mono ?_); rintro e w3 ⟨wk, mb, A3, O3, c3, d3, rfl, hw3, hm3, l1, l2, hb⟩; have W3 := Lib.hid hw3; have M3 := Lib.hid hm3; have B3 := Lib.hid hb; clear hw3 hm3 hb)
  have OP := Lib.hid (trim_any W3.out M3.out HC.out hol)
  clear a0 a1 a2 a6 WO
  exact (by
    go_upto_region 3 with (go_at_call 53; (with_reducible refine (OP.out).mono ?_); rintro e w4 ⟨rfl, ws4, V4, cV4, hw, ⟨S4, hm⟩, hf⟩; have W4 := Lib.hid hw; have F4 := Lib.hid hf; clear hw hm hf)
    obtain ⟨⟨gs4, os4⟩, h4⟩ : ∃ p, (trimC N gs os) = p := ⟨_, rfl⟩
    have W4 := Lib.hid (show WK wk (wk + 1) N gs4 os4 ws4 A3 O3 V4 c3 d3 cV4 mb w4 from by have := W4.out; rwa [h4] at this)
    have H4 := Lib.hid h4
    have GE : ∀ k, TS5 wk mb A3 O3 none k → w2.heap.size ≤ k := fun k hk => by
      rcases hk with hk | rfl
      · exact Nat.le_trans l1 (W3.out.ge k hk).1
      · exact l2
    have B4 := Lib.hid (B3.out.trans (F4.out.below (B := w2.heap.size) GE B3.out.size))
    have K4 := Lib.hid (K2.out.below B4.out K2.out.lt)
    obtain ⟨c0, c1, c2, _, _, c5⟩ := W4.out.blk.five
    obtain ⟨b0, b1, b2, _, _, _, b6⟩ := K4.out.three6
    have bf0 := K4.out.frozen 0
    have bf1 := K4.out.frozen 1
    have bf2 := K4.out.frozen 2
    have l3 := K2.out.lt
    clear h4 GE OP
    go_wp2_with fail
    have K5 := K4.out.tri (.int .i64 (N : Int)) (.slice A3 gs4.length c3) (.slice O3 os4.length d3)
    have B5 := (((B2.out.trans (B4.out.mono B2.out.size)).setCell (p := ⟨w.heap.size + 1, 0, none⟩) (Nat.le_succ _) (.int .i64 (N : Int))).setCell (p := ⟨w.heap.size + 1, 1, none⟩) (Nat.le_succ _) (.slice A3 gs4.length c3)).setCell (p := ⟨w.heap.size + 1, 2, none⟩) (Nat.le_succ _) (.slice O3 os4.length d3)
    have ng : (Value.slice A3 gs4.length c3).ownBlock ≠ some (w.heap.size + 1) := fun e => by have := (W4.out.g.lt _ e).1; omega
    have no : (Value.slice O3 os4.length d3).ownBlock ≠ some (w.heap.size + 1) := fun e => by have := (W4.out.o.lt _ e).1; omega
    have G5 := own_set (p := ⟨w.heap.size + 1, 2, none⟩) (own_set (p := ⟨w.heap.size + 1, 1, none⟩) (own_set (p := ⟨w.heap.size + 1, 0, none⟩) W4.out.g ng (.int .i64 (N : Int))) ng (.slice A3 gs4.length c3)) ng (.slice O3 os4.length d3)
    have O5 := own_set (p := ⟨w.heap.size + 1, 2, none⟩) (own_set (p := ⟨w.heap.size + 1, 1, none⟩) (own_set (p := ⟨w.heap.size + 1, 0, none⟩) W4.out.o no (.int .i64 (N : Int))) no (.slice A3 gs4.length c3)) no (.slice O3 os4.length d3)
    generalize ((w4.setCell ⟨w.heap.size + 1, 0, none⟩ (.int .i64 (N : Int))).setCell ⟨w.heap.size + 1, 1, none⟩ (.slice A3 gs4.length c3)).setCell ⟨w.heap.size + 1, 2, none⟩ (.slice O3 os4.length d3) = w5 at K5 B5 G5 O5 ⊢
    obtain ⟨j0, j1, j2, _, _, _, _⟩ := K5.three6
    refine bodyPost_ret (v := .agg #[.int .i64 (N : Int), .slice A3 gs4.length c3, .slice O3 os4.length d3]) (by simp [results, Try.results25, go_sem, j0, j1, j2]) rfl ?_
    rw [← HQ.out]
    exact (by rw [H4.out]; exact ⟨A3, O3, c3, d3, rfl, ⟨creads_cg G5, Reads.of_own O5⟩, B5⟩))
set_option maxRecDepth 100000 in
set_option maxHeartbeats 4000000 in
theorem oAll_any (N : Nat) (gs : List C3) (os : List Int) (A O : Option Addr) (cA cO : Nat) (w : World) (h : CS w A O (crL N gs os)) (hc : COk N gs os) (hol : os.length ≤ 1000) :
    Calls Try.prog 12 #[.agg #[.int .i64 (N : Int), .slice A gs.length cA, .slice O os.length cO]] w fun e w' => ∃ k, rndC N (itC N k (gs, os)).1 (itC N k (gs, os)).2 = itC N k (gs, os) ∧ OptOut N (itC N k (gs, os)).1 (itC N k (gs, os)).2 w e w' := by
  obtain ⟨w2, hw⟩ : ∃ w2, w2 = (w.alloc (.cells #[.int .i64 (N : Int), .slice A gs.length cA, .slice O os.length cO] 34)).alloc (.cells #[.int .i64 0, .slice none 0 0, .slice none 0 0] 34) := ⟨_, rfl⟩
  have K1 : Blk w2 w.heap.size 34 #[.int .i64 (N : Int), .slice A gs.length cA, .slice O os.length cO] := by rw [hw]; exact (Blk.new w _ _).alloc _
  have K2 : Blk w2 (w.heap.size + 1) 34 #[.int .i64 0, .slice none 0 0, .slice none 0 0] := by
    have := Blk.new (w.alloc (.cells #[.int .i64 (N : Int), .slice A gs.length cA, .slice O os.length cO] 34)) 34 #[.int .i64 0, .slice none 0 0, .slice none 0 0]
    rw [World.size_alloc] at this
    rw [hw]; exact this
  have B2 : Below w.heap.size w w2 := by rw [hw]; exact ((Below.refl _ w).alloc (Nat.le_refl _) _).alloc (by simp) _
  have WO := Lib.hid (workOn_any N gs os A O cA cO w2 (h.later B2) hc hol)
  have K2 := Lib.hid K2
  have B2 := Lib.hid B2
  have HC := Lib.hid hc
  obtain ⟨Q, hQ⟩ : ∃ Q, (fun e w' => ∃ k, rndC N (itC N k (gs, os)).1 (itC N k (gs, os)).2 = itC N k (gs, os) ∧ OptOut N (itC N k (gs, os)).1 (itC N k (gs, os)).2 w e w') = Q := ⟨_, rfl⟩
  have HQ := Lib.hid hQ
  rw [hQ]
  obtain ⟨a0, a1, a2, _, _, _, a6⟩ := K1.three6
  clear h hc hQ K1
  go_enter Try.func12, Try.ntmps12
  go_upto_region 1 with (fail)
  rw [← hw]
  clear hw
  go_upto_region 2 with (go_at_call 37; (with_reducible refine (WO.out).mono ?_); rintro e w3 ⟨wk, mb, A3, O3, c3, d3, rfl, hw3, hm3, l1, l2, hb⟩; have W3 := Lib.hid hw3; have M3 := Lib.hid hm3; have B3 := Lib.hid hb; clear hw3 hm3 hb)
  have OP := Lib.hid (all_any W3.out M3.out HC.out hol)
  clear a0 a1 a2 a6 WO
  exact (by
    go_upto_region 3 with (go_at_call 38; (with_reducible refine (OP.out).mono ?_); rintro e w4 ⟨k, hkf, rfl, ws4, V4, cV4, hw, ⟨S4, hm⟩, hf⟩; have W4 := Lib.hid hw; have F4 := Lib.hid hf; clear hw hm hf; have HKF := Lib.hid hkf; clear hkf)
    obtain ⟨⟨gs4, os4⟩, h4⟩ : ∃ p, (itC N k (gs, os)) = p := ⟨_, rfl⟩
    have W4 := Lib.hid (show WK wk (wk + 1) N gs4 os4 ws4 A3 O3 V4 c3 d3 cV4 mb w4 from by have := W4.out; rwa [h4] at this)
    have H4 := Lib.hid h4
    have GE : ∀ k, TS5 wk mb A3 O3 none k → w2.heap.size ≤ k := fun k hk => by
      rcases hk with hk | rfl
      · exact Nat.le_trans l1 (W3.out.ge k hk).1
      · exact l2
    have B4 := Lib.hid (B3.out.trans (F4.out.below (B := w2.heap.size) GE B3.out.size))
    have K4 := Lib.hid (K2.out.below B4.out K2.out.lt)
    obtain ⟨c0, c1, c2, _, _, c5⟩ := W4.out.blk.five
    obtain ⟨b0, b1, b2, _, _, _, b6⟩ := K4.out.three6
    have bf0 := K4.out.frozen 0
    have bf1 := K4.out.frozen 1
    have bf2 := K4.out.frozen 2
    have l3 := K2.out.lt
    clear h4 GE OP
    go_wp2_with fail
    have K5 := K4.out.tri (.int .i64 (N : Int)) (.slice A3 gs4.length c3) (.slice O3 os4.length d3)
    have B5 := (((B2.out.trans (B4.out.mono B2.out.size)).setCell (p := ⟨w.heap.size + 1, 0, none⟩) (Nat.le_succ _) (.int .i64 (N : Int))).setCell (p := ⟨w.heap.size + 1, 1, none⟩) (Nat.le_succ _) (.slice A3 gs4.length c3)).setCell (p := ⟨w.heap.size + 1, 2, none⟩) (Nat.le_succ _) (.slice O3 os4.length d3)
    have ng : (Value.slice A3 gs4.length c3).ownBlock ≠ some (w.heap.size + 1) := fun e => by have := (W4.out.g.lt _ e).1; omega
    have no : (Value.slice O3 os4.length d3).ownBlock ≠ some (w.heap.size + 1) := fun e => by have := (W4.out.o.lt _ e).1; omega
    have G5 := own_set (p := ⟨w.heap.size + 1, 2, none⟩) (own_set (p := ⟨w.heap.size + 1, 1, none⟩) (own_set (p := ⟨w.heap.size + 1, 0, none⟩) W4.out.g ng (.int .i64 (N : Int))) ng (.slice A3 gs4.length c3)) ng (.slice O3 os4.length d3)
    have O5 := own_set (p := ⟨w.heap.size + 1, 2, none⟩) (own_set (p := ⟨w.heap.size + 1, 1, none⟩) (own_set (p := ⟨w.heap.size + 1, 0, none⟩) W4.out.o no (.int .i64 (N : Int))) no (.slice A3 gs4.length c3)) no (.slice O3 os4.length d3)
    generalize ((w4.setCell ⟨w.heap.size + 1, 0, none⟩ (.int .i64 (N : Int))).setCell ⟨w.heap.size + 1, 1, none⟩ (.slice A3 gs4.length c3)).setCell ⟨w.heap.size + 1, 2, none⟩ (.slice O3 os4.length d3) = w5 at K5 B5 G5 O5 ⊢
    obtain ⟨j0, j1, j2, _, _, _, _⟩ := K5.three6
    refine bodyPost_ret (v := .agg #[.int .i64 (N : Int), .slice A3 gs4.length c3, .slice O3 os4.length d3]) (by simp [results, Try.results12, go_sem, j0, j1, j2]) rfl ?_
    rw [← HQ.out]
    refine ⟨k, HKF.out, ?_⟩
    exact (by rw [H4.out]; exact ⟨A3, O3, c3, d3, rfl, ⟨creads_cg G5, Reads.of_own O5⟩, B5⟩))
end Go.Proofs.Ytnhkgkpjkgifoaa
