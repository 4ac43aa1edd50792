/- The walk of the reference's Within at a box from (0, 0). -/
import Derived.Test.YthjamghemmanfaaDoorRTurn
namespace Go.Proofs.YthjamghemmanfaaDoor
open Go.RowKit

set_option maxRecDepth 100000 in
set_option maxHeartbeats 2000000 in
theorem rwithin_any (k : Int) (W H p q x y : Nat) (w : World) (hk1 : -9223372036854775808 ≤ k) (hk2 : k ≤ 9223372036854775807) (hW : W = p + 1) (hH : H = q + 1) (hp : p ≤ 255) (hq : q ≤ 255) (hx : x ≤ p) (hy : y ≤ q) :
    Calls Tryd.prog 19 #[.int .i64 k, .agg #[.int .i64 0, .int .i64 0, .int .i64 (W : Nat), .int .i64 (H : Nat)], .agg #[.int .i64 (x : Nat), .int .i64 (y : Nat)]] w fun e w' => e = .returned (.agg #[.int .i64 (imgX (md k) p q x y : Nat), .int .i64 (imgY (md k) p q x y : Nat)]) ∧ Below w.heap.size w w' := by
  have R := Lib.hid (fun w => rright_yes 0 0 W H w ⟨⟨by omega, by omega, by omega, by omega⟩, by omega, by omega, by omega, by omega⟩)
  have V := Lib.hid (fun w => place_yes (x : Int) (y : Int) w (by omega) (by omega) (by omega) (by omega))
  have bd := turn_bd (md k) p q 255 (md_lt k) (by omega) (by omega) (by omega) (by omega)
  have bd2 := turn_bd (md k) x y 255 (md_lt k) (by omega) (by omega) (by omega) (by omega)
  obtain ⟨v1, v2⟩ := turn_img (md k) p q x y (md_lt k) hx hy
  have C1 := Lib.hid (fun w => rapply_any k x y w hk1 hk2 (by omega) (by omega) (by omega) (by omega))
  have C2 := Lib.hid (fun w => rturn_any k W H p q w hk1 hk2 hW hH hp hq)
  generalize imgX (md k) p q x y = ix at v1 ⊢
  generalize imgY (md k) p q x y = iy at v2 ⊢
  generalize turnX (md k) x y = a at C1 v1 bd2
  generalize turnY (md k) x y = b at C1 v2 bd2
  obtain ⟨t1, t2⟩ : -255 ≤ min 0 (turnX (md k) p q) ∧ min 0 (turnX (md k) p q) ≤ 0 := by omega
  obtain ⟨t3, t4⟩ : -255 ≤ min 0 (turnY (md k) p q) ∧ min 0 (turnY (md k) p q) ≤ 0 := by omega
  generalize max 0 (turnX (md k) p q) - min 0 (turnX (md k) p q) + 1 = xc at C2
  generalize max 0 (turnY (md k) p q) - min 0 (turnY (md k) p q) + 1 = xd at C2
  generalize min 0 (turnX (md k) p q) = c at C2 v1 t1 t2
  generalize min 0 (turnY (md k) p q) = d at C2 v2 t3 t4
  obtain ⟨q1, q2, q3, q4⟩ := bd2
  obtain ⟨K4, K5, K6, B6⟩ := three_blks w #[.int .i64 0, .int .i64 0, .int .i64 (W : Nat), .int .i64 (H : Nat)] #[.int .i64 (x : Nat), .int .i64 (y : Nat)] #[.int .i64 0, .int .i64 0] 35 30 30
  have HK4 := Lib.hid K4
  have HK5 := Lib.hid K5
  have HK6 := Lib.hid K6
  have HB6 := Lib.hid B6
  have V1 := Lib.hid v1
  have V2 := Lib.hid v2
  clear bd K4 K5 K6 B6 v1 v2 hW hH
  go_enter Tryd.func19, Tryd.ntmps19
  go_upto_region 3 with (first | (go_at_call 30; (with_reducible refine (R.out _).mono ?_); rintro e w1 ⟨rfl, hb⟩; have A4 := Lib.hid (HK4.out.below' hb); have a5 := HK5.out.below' hb; have A5 := Lib.hid a5; have A6 := Lib.hid (HK6.out.below' hb); have BA := Lib.hid (HB6.out.trans (hb.mono HB6.out.size)); obtain ⟨c0, c1, c2, c3, c4⟩ := a5.two; clear hb a5) | (go_at_call 31; (with_reducible refine (V.out _).mono ?_); rintro e w2 ⟨rfl, hb⟩; have D4 := Lib.hid (A4.out.below' hb); have D5 := Lib.hid (A5.out.below' hb); have D6 := Lib.hid (A6.out.below' hb); have BD := Lib.hid (BA.out.trans (hb.mono BA.out.size)); clear hb))
  obtain ⟨d0, d1, d2, d3, d4⟩ := D4.out.four
  clear c0 c1 c2 c3 c4 A4 A5 A6 BA HK4 HK5 HK6 HB6
  go_upto_region 4 with (go_at_call 32; (with_reducible refine (C2.out _).mono ?_); rintro e w3 ⟨rfl, hb⟩; have E5 := Lib.hid ((D5.out.below' hb).alloc (.cells #[.int .i64 c, .int .i64 d, .int .i64 xc, .int .i64 xd] 35)); have E6 := Lib.hid ((D6.out.below' hb).alloc (.cells #[.int .i64 c, .int .i64 d, .int .i64 xc, .int .i64 xd] 35)); have bb := BD.out.trans (hb.mono BD.out.size); have BE := Lib.hid (bb.alloc bb.size (.cells #[.int .i64 c, .int .i64 d, .int .i64 xc, .int .i64 xd] 35)); have E7 := Lib.hid (Blk.new w3 35 #[.int .i64 c, .int .i64 d, .int .i64 xc, .int .i64 xd]); clear hb bb)
  clear d0 d1 d2 d3 d4 D4 D5 D6 BD
  obtain ⟨s7, hs7⟩ : ∃ s7, s7 = w3.heap.size := ⟨_, rfl⟩
  rw [← hs7] at E7
  rw [← hs7]
  clear hs7
  generalize w3.alloc (.cells #[.int .i64 c, .int .i64 d, .int .i64 xc, .int .i64 xd] 35) = w4 at E5 E6 E7 BE ⊢
  obtain ⟨c0, c1, c2, c3, c4⟩ := E5.out.two
  go_upto_region 5 with (go_at_call 33; (with_reducible refine (C1.out _).mono ?_); rintro e w5 ⟨rfl, hb⟩; have F6 := Lib.hid ((E6.out.below' hb).alloc (.cells #[.int .i64 a, .int .i64 b] 30)); have F7 := Lib.hid ((E7.out.below' hb).alloc (.cells #[.int .i64 a, .int .i64 b] 30)); have bb := BE.out.trans (hb.mono BE.out.size); have BF := Lib.hid (bb.alloc bb.size (.cells #[.int .i64 a, .int .i64 b] 30)); have F8 := Lib.hid (Blk.new w5 30 #[.int .i64 a, .int .i64 b]); clear hb bb)
  clear c0 c1 c2 c3 c4 E5 E6 E7 BE
  obtain ⟨s8, hs8⟩ : ∃ s8, s8 = w5.heap.size := ⟨_, rfl⟩
  rw [← hs8] at F8
  rw [← hs8]
  clear hs8
  generalize w5.alloc (.cells #[.int .i64 a, .int .i64 b] 30) = w6 at F6 F7 F8 BF ⊢
  obtain ⟨p70, p71, p72, p73, p74⟩ := F7.out.four
  obtain ⟨p80, p81, p82, p83, p84⟩ := F8.out.two
  obtain ⟨p60, p61, p62, p63, p64⟩ := F6.out.two
  go_wp2
  have v1 := V1.out
  have v2 := V2.out
  rw [v1, v2]
  have E := F6.out.all2 (.int .i64 (ix : Nat)) (.int .i64 (iy : Nat))
  have E2 := Below.all2 BF.out (show w.heap.size ≤ w.heap.size + 1 + 1 by omega) (.int .i64 (ix : Nat)) (.int .i64 (iy : Nat))
  generalize (w6.setCell ⟨w.heap.size + 1 + 1, 0, none⟩ (.int .i64 (ix : Nat))).setCell ⟨w.heap.size + 1 + 1, 1, none⟩ (.int .i64 (iy : Nat)) = wz at E E2 ⊢
  obtain ⟨j0, j1, j2, j3, j4⟩ := E.two
  exact bodyPost_ret (v := .agg #[.int .i64 (ix : Nat), .int .i64 (iy : Nat)]) (by simp [results, Tryd.results19, go_sem, j0, j1]) rfl ⟨rfl, E2⟩
end Go.Proofs.YthjamghemmanfaaDoor
