/- The walks of Meet, Join and In at the chapter's examples. -/
import Derived.Test.YtpcpelfjhpdndaaMix
import Derived.Test.YtpcpelfjhpdndaaGrow
import Derived.Test.YtpcpelfjhpdndaaAround
namespace Go.Proofs.Ytpcpelfjhpdndaa
open Go.RowKit
attribute [local go_sem] GDoes GUpon

theorem ok_a : Ok 0 0 4 4 := by unfold Ok OkS; omega
theorem ok_b : Ok 2 3 5 5 := by unfold Ok OkS; omega

theorem greatest_to (x y z u p q : Int) (w : World) (hp : max x z = p) (hq : max y u = q) :
    Calls Try.prog 19 #[.agg #[.int .i64 x, .int .i64 y], .agg #[.int .i64 z, .int .i64 u]] w fun e w' => e = .returned (.agg #[.int .i64 p, .int .i64 q]) ∧ Below w.heap.size w w' := by
  subst hp hq; exact greatest_any x y z u w
theorem least_to (x y z u p q : Int) (w : World) (hp : min x z = p) (hq : min y u = q) :
    Calls Try.prog 18 #[.agg #[.int .i64 x, .int .i64 y], .agg #[.int .i64 z, .int .i64 u]] w fun e w' => e = .returned (.agg #[.int .i64 p, .int .i64 q]) ∧ Below w.heap.size w w' := by
  subst hp hq; exact least_any x y z u w

set_option maxRecDepth 100000 in
set_option maxHeartbeats 2000000 in
theorem meet_ex (w : World) :
    Calls Try.prog 10 #[.agg #[.int .i64 0, .int .i64 0, .int .i64 4, .int .i64 4], .agg #[.int .i64 2, .int .i64 3, .int .i64 5, .int .i64 5]] w fun e w' => e = .returned (.tuple #[.agg #[.int .i64 2, .int .i64 3, .int .i64 2, .int .i64 1], .bool true]) ∧ Below w.heap.size w w' := by
  have R1 := Lib.hid (fun w => right_yes 0 0 4 4 w ok_a)
  have R2 := Lib.hid (fun w => right_yes 2 3 5 5 w ok_b)
  have C1 := Lib.hid (fun w => corner_any 0 0 4 4 w)
  have C2 := Lib.hid (fun w => corner_any 2 3 5 5 w)
  have L1 := Lib.hid (fun w => last_any 0 0 4 4 w ok_a)
  have L2 := Lib.hid (fun w => last_any 2 3 5 5 w ok_b)
  have G1 := Lib.hid (fun w => greatest_to 0 0 2 3 2 3 w (by decide) (by decide))
  have G2 := Lib.hid (fun w => least_to 3 3 6 7 3 3 w (by decide) (by decide))
  simp only [Int.reduceAdd, Int.reduceSub] at L1 L2
  have T := Lib.hid (fun w => between_any 2 3 3 3 w (by decide) (by decide) (by decide) (by decide))
  simp only [Int.reduceAdd, Int.reduceSub] at T
  obtain ⟨K2, K3, K4, B4⟩ := three_blks w #[.int .i64 0, .int .i64 0, .int .i64 4, .int .i64 4] #[.int .i64 2, .int .i64 3, .int .i64 5, .int .i64 5] #[.int .i64 0, .int .i64 0, .int .i64 0, .int .i64 0] 23 23 23
  have K2 := Lib.hid K2
  have K3 := Lib.hid K3
  have K4 := Lib.hid K4
  have B4 := Lib.hid B4
  go_enter Try.func10, Try.ntmps10
  go_wp2_with (first
    | (go_at_call 15; (with_reducible refine (R1.out _).mono ?_); rintro e w1 ⟨rfl, hb⟩; have A2 := Lib.hid (K2.out.below hb K2.out.lt); have a3 := K3.out.below hb K3.out.lt; have A3 := Lib.hid a3; have A4 := Lib.hid (K4.out.below hb K4.out.lt); have BA := Lib.hid (B4.out.trans (hb.mono B4.out.size)); obtain ⟨c0, c1, c2, c3, c4⟩ := a3.four; clear hb a3)
    | (go_at_call 15; (with_reducible refine (R2.out _).mono ?_); rintro e w2 ⟨rfl, hb⟩; have D2 := Lib.hid (A2.out.below hb A2.out.lt); have D3 := Lib.hid (A3.out.below hb A3.out.lt); have D4 := Lib.hid (A4.out.below hb A4.out.lt); have BD := Lib.hid (BA.out.trans (hb.mono BA.out.size)); clear hb))
  have c20 := fun p : LowW w2.heap.size w2 => (D2.out.below p.below D2.out.lt).four.1
  have c21 := fun p : LowW w2.heap.size w2 => (D2.out.below p.below D2.out.lt).four.2.1
  have c22 := fun p : LowW w2.heap.size w2 => (D2.out.below p.below D2.out.lt).four.2.2.1
  have c23 := fun p : LowW w2.heap.size w2 => (D2.out.below p.below D2.out.lt).four.2.2.2.1
  have c30 := fun p : LowW w2.heap.size w2 => (D3.out.below p.below D3.out.lt).four.1
  have c31 := fun p : LowW w2.heap.size w2 => (D3.out.below p.below D3.out.lt).four.2.1
  have c32 := fun p : LowW w2.heap.size w2 => (D3.out.below p.below D3.out.lt).four.2.2.1
  have c33 := fun p : LowW w2.heap.size w2 => (D3.out.below p.below D3.out.lt).four.2.2.2.1
  refine wp_region_mix 10 2 (by kernel_rfl) (by kernel_rfl) ?_
  simp only [List.take_succ_cons, List.take_zero, List.drop_succ_cons, List.drop_zero]
  repeat (refine wpG_step (fun K hK => ?_); go_simp; first | (refine hK _ ?_; clear hK K) | (apply Exists.intro; refine ⟨fun _ => ?_, hK _ ?_⟩; (first | (go_at_call 21; with_reducible exact C1.out _) | (go_at_call 21; with_reducible exact C2.out _) | (go_at_call 22; with_reducible exact L1.out _) | (go_at_call 22; with_reducible exact L2.out _) | (go_at_call 19; with_reducible exact G1.out _) | (go_at_call 18; with_reducible exact G2.out _)); clear hK K))
  refine wpG_nil ?_
  refine ⟨36, #[.int .i64 0, .int .i64 0], ⟨fun _ => rfl, fun a w => by kernel_rfl⟩, fun ga => ?_⟩
  refine ⟨36, #[.int .i64 0, .int .i64 0], ⟨fun _ => rfl, fun a w => by kernel_rfl⟩, fun gb => ?_⟩
  intro w3 hw3
  have P6 := (hw3.blk _ (.tail _ (.head _))).1
  have P7 := (hw3.blk _ (.head _)).1
  have la : w2.heap.size ≤ ga := (hw3.blk _ (.tail _ (.head _))).2
  have lb : w2.heap.size ≤ gb := (hw3.blk _ (.head _)).2
  have hne : gb ≠ ga := by have := hw3.apart; simp at this; exact this
  have E4 := Lib.hid (D4.out.below hw3.low D4.out.lt)
  have BE := Lib.hid (BD.out.trans (hw3.low.mono BD.out.size))
  clear hw3 c20 c21 c22 c23 c30 c31 c32 c33
  simp only at P6 P7
  obtain ⟨p60, p61, p62, p63, p64⟩ := P6.two
  obtain ⟨p70, p71, p72, p73, p74⟩ := P7.two
  have S6 := Lib.hid P6
  have S7 := Lib.hid P7
  clear P6 P7
  have h4 := D4.out.lt
  have hn6 : w.heap.size + 1 + 1 ≠ ga := by omega
  have hn7 : w.heap.size + 1 + 1 ≠ gb := by omega
  have hs6 : w.heap.size ≤ ga := by omega
  have hs7 : w.heap.size ≤ gb := by omega
  have E4' := Lib.hid ((((E4.out.far (p := ⟨ga, 0, none⟩) hn6 (.int .i64 2)).far (p := ⟨ga, 1, none⟩) hn6 (.int .i64 3)).far (p := ⟨gb, 0, none⟩) hn7 (.int .i64 3)).far (p := ⟨gb, 1, none⟩) hn7 (.int .i64 3))
  have BE' := Lib.hid ((((BE.out.setCell (p := ⟨ga, 0, none⟩) hs6 (.int .i64 2)).setCell (p := ⟨ga, 1, none⟩) hs6 (.int .i64 3)).setCell (p := ⟨gb, 0, none⟩) hs7 (.int .i64 3)).setCell (p := ⟨gb, 1, none⟩) hs7 (.int .i64 3))
  clear h4 hn6 hn7 hs6 hs7
  go_wp2_with (go_at_call 20; (with_reducible refine (T.out _).mono ?_); rintro e w4 ⟨rfl, hb⟩; have f4 := E4'.out.below hb E4'.out.lt; have F4 := Lib.hid f4; have BF := Lib.hid (BE'.out.trans (hb.mono BE'.out.size)); obtain ⟨d0, d1, d2, d3, d4, d5, d6, d7, d8⟩ := f4.four8; clear hb f4)
  have E := Blk.put4 (a := .int .i64 2) (b := .int .i64 3) (c := .int .i64 2) (d := .int .i64 1) F4.out
  have HZ := Below.put4 (a := .int .i64 2) (b := .int .i64 3) (c := .int .i64 2) (d := .int .i64 1) BF.out (show w.heap.size ≤ w.heap.size + 1 + 1 by omega)
  change bodyPost _ _ _ _ _ (put4 w4 (w.heap.size + 1 + 1) (.int .i64 2) (.int .i64 3) (.int .i64 2) (.int .i64 1))
  generalize put4 w4 (w.heap.size + 1 + 1) (.int .i64 2) (.int .i64 3) (.int .i64 2) (.int .i64 1) = wz at E HZ ⊢
  obtain ⟨j0, j1, j2, j3, j4⟩ := E.four
  refine bodyPost_ret (v := .tuple #[.agg #[.int .i64 2, .int .i64 3, .int .i64 2, .int .i64 1], .bool true]) (by simp [results, Try.results10, go_sem, j0, j1, j2, j3, j4]) rfl ⟨rfl, HZ⟩
end Go.Proofs.Ytpcpelfjhpdndaa
