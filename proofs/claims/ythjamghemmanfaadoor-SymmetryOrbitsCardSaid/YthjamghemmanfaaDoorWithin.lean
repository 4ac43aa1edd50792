/- The walk of Within at a box from (0, 0). -/
import Derived.Test.YthjamghemmanfaaDoorTurn
import Derived.Test.YthjamghemmanfaaDoorMix
namespace Go.Proofs.YthjamghemmanfaaDoor
open Go.RowKit
attribute [local go_sem] GDoes GUpon

theorem Mat.pos {w : World} (h : Mat w) : 0 < w.heap.size := h.1
theorem ok_box (W H : Nat) (h1 : 1 ≤ W) (h2 : W ≤ 256) (h3 : 1 ≤ H) (h4 : H ≤ 256) : Ok 0 0 W H := ⟨⟨by omega, by omega, by omega, by omega⟩, by omega, by omega, by omega, by omega⟩

set_option maxRecDepth 100000 in
set_option maxHeartbeats 2000000 in
theorem within_any (k : Int) (W H p q x y : Nat) (w : World) (hM : Mat w) (hW : W = p + 1) (hH : H = q + 1) (hp : p ≤ 255) (hq : q ≤ 255) (hx : x ≤ p) (hy : y ≤ q) :
    Calls Tryd.prog 13 #[.int .i64 k, .agg #[.int .i64 0, .int .i64 0, .int .i64 (W : Nat), .int .i64 (H : Nat)], .agg #[.int .i64 (x : Nat), .int .i64 (y : Nat)]] w fun e w' => e = .returned (.agg #[.int .i64 (imgX (md k) p q x y : Nat), .int .i64 (imgY (md k) p q x y : Nat)]) ∧ Below w.heap.size w w' := by
  have R := Lib.hid (fun w => right_yes 0 0 W H w (ok_box W H (by omega) (by omega) (by omega) (by omega)))
  have V := Lib.hid (fun w => symvalid_yes (x : Int) (y : Int) w (by omega) (by omega) (by omega) (by omega))
  have bd := turn_bd (md k) p q 255 (md_lt k) (by omega) (by omega) (by omega) (by omega)
  have bd2 := turn_bd (md k) x y 255 (md_lt k) (by omega) (by omega) (by omega) (by omega)
  obtain ⟨v1, v2⟩ := turn_img (md k) p q x y (md_lt k) hx hy
  have C1 := Lib.hid (fun w hM => apply_any k x y w hM (by omega) (by omega) (by omega) (by omega))
  have C2 := Lib.hid (fun w hM => turn_any k W H p q w hM hW hH hp hq)
  generalize imgX (md k) p q x y = ix at v1 ⊢
  generalize imgY (md k) p q x y = iy at v2 ⊢
  generalize turnX (md k) x y = a at C1 v1 bd2
  generalize turnY (md k) x y = b at C1 v2 bd2
  obtain ⟨t1, t2⟩ : -255 ≤ min 0 (turnX (md k) p q) ∧ min 0 (turnX (md k) p q) ≤ 0 := by omega
  obtain ⟨t3, t4⟩ : -255 ≤ min 0 (turnY (md k) p q) ∧ min 0 (turnY (md k) p q) ≤ 0 := by omega
  generalize max 0 (turnX (md k) p q) - min 0 (turnX (md k) p q) + 1 = xc at C2
  generalize max 0 (turnY (md k) p q) - min 0 (turnY (md k) p q) + 1 = xd at C2
  generalize min 0 (turnX (md k) p q) = c at C2 v1 t1 t2
  generalize min 0 (turnY (md k) p q) = d at C2 v2 t3 t4
  obtain ⟨q1, q2, q3, q4⟩ := bd2
  obtain ⟨K4, K5, K6, B6⟩ := three_blks w #[.int .i64 0, .int .i64 0, .int .i64 (W : Nat), .int .i64 (H : Nat)] #[.int .i64 (x : Nat), .int .i64 (y : Nat)] #[.int .i64 0, .int .i64 0] 35 30 30
  have HK4 := Lib.hid K4
  have HK5 := Lib.hid K5
  have HK6 := Lib.hid K6
  have HB6 := Lib.hid B6
  have HM := Lib.hid hM
  have V1 := Lib.hid v1
  have V2 := Lib.hid v2
  clear bd K4 K5 K6 B6 hM v1 v2 hW hH
  go_enter Tryd.func13, Tryd.ntmps13
  go_wp2_with (first | (go_at_call 21; (with_reducible refine (R.out _).mono ?_); rintro e w1 ⟨rfl, hb⟩; have A4 := Lib.hid (HK4.out.below' hb); have a5 := HK5.out.below' hb; have A5 := Lib.hid a5; have A6 := Lib.hid (HK6.out.below' hb); have BA := Lib.hid (HB6.out.trans (hb.mono HB6.out.size)); obtain ⟨c0, c1, c2, c3, c4⟩ := a5.two; clear hb a5) | (go_at_call 25; (with_reducible refine (V.out _).mono ?_); rintro e w2 ⟨rfl, hb⟩; have D4 := Lib.hid (A4.out.below' hb); have D5 := Lib.hid (A5.out.below' hb); have D6 := Lib.hid (A6.out.below' hb); have BD := Lib.hid (BA.out.trans (hb.mono BA.out.size)); clear hb))
  have c40 := fun p : LowW w2.heap.size w2 => (D4.out.below' p.below).four.1
  have c41 := fun p : LowW w2.heap.size w2 => (D4.out.below' p.below).four.2.1
  have c42 := fun p : LowW w2.heap.size w2 => (D4.out.below' p.below).four.2.2.1
  have c43 := fun p : LowW w2.heap.size w2 => (D4.out.below' p.below).four.2.2.2.1
  have c50 := fun p : LowW w2.heap.size w2 => (D5.out.below' p.below).two.1
  have c51 := fun p : LowW w2.heap.size w2 => (D5.out.below' p.below).two.2.1
  have MM := Lib.hid (HM.out.below BD.out HM.out.1)
  refine wp_region_mix 6 2 (by kernel_rfl) (by kernel_rfl) ?_
  simp only [List.take_succ_cons, List.take_zero, List.drop_succ_cons, List.drop_zero]
  repeat (refine wpG_step (fun K hK => ?_); go_simp; first | (refine hK _ ?_; clear hK K) | (apply Exists.intro; refine ⟨fun pp => ?_, hK _ ?_⟩; (first | (go_at_call 8; with_reducible exact C1.out _ (MM.out.below pp.below MM.out.pos)) | (go_at_call 11; with_reducible exact C2.out _ (MM.out.below pp.below MM.out.pos))); clear hK K))
  refine wpG_nil ?_
  refine ⟨30, #[.int .i64 0, .int .i64 0], ⟨fun _ => rfl, fun a w => by kernel_rfl⟩, fun ga => ?_⟩
  refine ⟨35, #[.int .i64 0, .int .i64 0, .int .i64 0, .int .i64 0], ⟨fun _ => rfl, fun a w => by kernel_rfl⟩, fun gb => ?_⟩
  intro w3 hw3
  have P7 := (hw3.blk _ (.tail _ (.head _))).1
  have P8 := (hw3.blk _ (.head _)).1
  have la : w2.heap.size ≤ ga := (hw3.blk _ (.tail _ (.head _))).2
  have lb : w2.heap.size ≤ gb := (hw3.blk _ (.head _)).2
  have hne : gb ≠ ga := by have := hw3.apart; simp at this; exact this
  have E6 := Lib.hid (D6.out.below hw3.low D6.out.lt)
  have BE := Lib.hid (BD.out.trans (hw3.low.mono BD.out.size))
  have h6 := D6.out.lt
  clear hw3 c40 c41 c42 c43 c50 c51
  simp only at P7 P8
  obtain ⟨p70, p71, p72, p73, p74⟩ := P7.two
  obtain ⟨p80, p81, p82, p83, p84, p85, p86, p87, p88⟩ := P8.four8
  have hn6 : w.heap.size + 1 + 1 ≠ ga := by omega
  have hn7 : w.heap.size + 1 + 1 ≠ gb := by omega
  have far4 : ∀ {w : World} {g : Nat} {t : TypeId} {cs : Array Value} (h : Blk w g t cs) (gg : Nat) (_ : g ≠ gg) (v0 v1 v2 v3 : Value), Blk ((((w.setCell ⟨gg, 0, none⟩ v0).setCell ⟨gg, 1, none⟩ v1).setCell ⟨gg, 2, none⟩ v2).setCell ⟨gg, 3, none⟩ v3) g t cs := fun h gg hg v0 v1 v2 v3 => (((h.far (p := ⟨gg, 0, none⟩) hg v0).far (p := ⟨gg, 1, none⟩) hg v1).far (p := ⟨gg, 2, none⟩) hg v2).far (p := ⟨gg, 3, none⟩) hg v3
  have far2 : ∀ {w : World} {g : Nat} {t : TypeId} {cs : Array Value} (h : Blk w g t cs) (gg : Nat) (_ : g ≠ gg) (v0 v1 : Value), Blk ((w.setCell ⟨gg, 0, none⟩ v0).setCell ⟨gg, 1, none⟩ v1) g t cs := fun h gg hg v0 v1 => (h.far (p := ⟨gg, 0, none⟩) hg v0).far (p := ⟨gg, 1, none⟩) hg v1
  have F7 := far4 (P7.all2 (.int .i64 a) (.int .i64 b)) gb (Ne.symm hne) (.int .i64 c) (.int .i64 d) (.int .i64 xc) (.int .i64 xd)
  have F8 := (far2 P8 ga hne (.int .i64 a) (.int .i64 b)).all4 (.int .i64 c) (.int .i64 d) (.int .i64 xc) (.int .i64 xd)
  have F6 := far4 (far2 E6.out ga hn6 (.int .i64 a) (.int .i64 b)) gb hn7 (.int .i64 c) (.int .i64 d) (.int .i64 xc) (.int .i64 xd)
  have FB := Below.all4 (Below.all2 BE.out (show w.heap.size ≤ ga by omega) (.int .i64 a) (.int .i64 b)) (show w.heap.size ≤ gb by omega) (.int .i64 c) (.int .i64 d) (.int .i64 xc) (.int .i64 xd)
  have HF7 := Lib.hid F7
  have HF8 := Lib.hid F8
  have HF6 := Lib.hid F6
  have HFB := Lib.hid FB
  clear far4 far2 F7 F8 F6 FB P7 P8 h6 R V C1 C2 HK4 HK5 HK6 HB6 HM A4 A5 A6 BA D4 D5 D6 BD MM E6 BE c0 c1 c2 c3 c4
  go_upto_region 4 with (fail)
  clear p70 p71 p72 p73 p74 p80 p81 p82 p83 p84 p85 p86 p87 p88 hne hn6 hn7 la lb
  generalize ((((((w3.setCell ⟨ga, 0, none⟩ (.int .i64 a)).setCell ⟨ga, 1, none⟩ (.int .i64 b)).setCell ⟨gb, 0, none⟩ (.int .i64 c)).setCell ⟨gb, 1, none⟩ (.int .i64 d)).setCell ⟨gb, 2, none⟩ (.int .i64 xc)).setCell ⟨gb, 3, none⟩ (.int .i64 xd)) = w4 at HF7 HF8 HF6 HFB ⊢
  obtain ⟨p70, p71, p72, p73, p74⟩ := HF7.out.two
  obtain ⟨p80, p81, p82, p83, p84⟩ := HF8.out.four
  obtain ⟨p60, p61, p62, p63, p64⟩ := HF6.out.two
  go_wp2
  have v1 := V1.out
  have v2 := V2.out
  rw [v1, v2]
  have E := HF6.out.all2 (.int .i64 (ix : Nat)) (.int .i64 (iy : Nat))
  have E2 := Below.all2 HFB.out (show w.heap.size ≤ w.heap.size + 1 + 1 by omega) (.int .i64 (ix : Nat)) (.int .i64 (iy : Nat))
  generalize (w4.setCell ⟨w.heap.size + 1 + 1, 0, none⟩ (.int .i64 (ix : Nat))).setCell ⟨w.heap.size + 1 + 1, 1, none⟩ (.int .i64 (iy : Nat)) = wz at E E2 ⊢
  obtain ⟨j0, j1, j2, j3, j4⟩ := E.two
  exact bodyPost_ret (v := .agg #[.int .i64 (ix : Nat), .int .i64 (iy : Nat)]) (by simp [results, Tryd.results13, go_sem, j0, j1]) rfl ⟨rfl, E2⟩
end Go.Proofs.YthjamghemmanfaaDoor
