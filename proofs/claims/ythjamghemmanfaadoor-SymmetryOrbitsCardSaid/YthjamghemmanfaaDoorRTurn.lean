/- The walks of the reference's Turn and Within at a box from (0, 0). -/
import Derived.Test.YthjamghemmanfaaDoorTurn
namespace Go.Proofs.YthjamghemmanfaaDoor
open Go.RowKit

theorem below_drewN {B : Nat} {a w : World} (h : Below B a w) (n : Nat) : Below B a (w.drewN n) := ⟨h.os, h.tape, h.output, h.size, h.block⟩

set_option maxRecDepth 100000 in
set_option maxHeartbeats 2000000 in
theorem rturn_any (k : Int) (W H p q : Nat) (w : World) (hk1 : -9223372036854775808 ≤ k) (hk2 : k ≤ 9223372036854775807) (hW : W = p + 1) (hH : H = q + 1) (hp : p ≤ 255) (hq : q ≤ 255) :
    Calls Tryd.prog 32 #[.int .i64 k, .agg #[.int .i64 0, .int .i64 0, .int .i64 (W : Nat), .int .i64 (H : Nat)]] w fun e w' => e = .returned (.agg #[.int .i64 (min 0 (turnX (md k) p q)), .int .i64 (min 0 (turnY (md k) p q)), .int .i64 (max 0 (turnX (md k) p q) - min 0 (turnX (md k) p q) + 1), .int .i64 (max 0 (turnY (md k) p q) - min 0 (turnY (md k) p q) + 1)]) ∧ Below w.heap.size w w' := by
  have R := Lib.hid (fun w => rright_yes 0 0 W H w ⟨⟨by omega, by omega, by omega, by omega⟩, by omega, by omega, by omega, by omega⟩)
  have bd := turn_bd (md k) p q 255 (md_lt k) (by omega) (by omega) (by omega) (by omega)
  obtain ⟨z1, z2⟩ := turn_00 (md k) (md_lt k)
  have e1 : (W : Int) - 1 = (p : Int) := by omega
  have e2 : (H : Int) - 1 = (q : Int) := by omega
  have A1 := Lib.hid (fun w => rapply_any k 0 0 w hk1 hk2 (by omega) (by omega) (by omega) (by omega))
  rw [z1, z2] at A1
  have A2 := Lib.hid (fun w => rapply_any k p q w hk1 hk2 (by omega) (by omega) (by omega) (by omega))
  obtain ⟨K3, K4, B4⟩ := two_blk w #[.int .i64 0, .int .i64 0, .int .i64 (W : Nat), .int .i64 (H : Nat)] #[.int .i64 0, .int .i64 0, .int .i64 0, .int .i64 0] 35 35
  have HK3 := Lib.hid K3
  have HK4 := Lib.hid K4
  have HB4 := Lib.hid B4
  clear z1 z2 hW hH K3 K4 B4
  generalize turnX (md k) p q = c at A2 bd ⊢
  generalize turnY (md k) p q = d at A2 bd ⊢
  obtain ⟨b1, b2, b3, b4⟩ := bd
  go_enter Tryd.func32, Tryd.ntmps32
  go_wp2_with (first | (go_at_call 30; (with_reducible refine (R.out _).mono ?_); rintro e w1 ⟨rfl, hb1⟩; have H3 := Lib.hid (HK3.out.below' hb1); have H4 := Lib.hid (HK4.out.below' hb1); have HB := Lib.hid (HB4.out.trans (hb1.mono HB4.out.size)); obtain ⟨c0, c1, c2, c3, c4⟩ := (HK3.out.below' hb1).four; clear hb1) | (go_at_call 33; (with_reducible refine (A1.out _).mono ?_); rintro e w2 ⟨rfl, hb2⟩; have H3' := Lib.hid (H3.out.below' hb2); have H4' := Lib.hid (H4.out.below' hb2); have HB' := Lib.hid (HB.out.trans (hb2.mono HB.out.size)); clear c0 c1 c2 c3 c4; obtain ⟨c0, c1, c2, c3, c4⟩ := (H3'.out).four; clear hb2 H3 H4 HB; have K5 := Lib.hid (Blk.new w2 30 #[.int .i64 0, .int .i64 0]); have J3 := Lib.hid (H3'.out.alloc (.cells #[.int .i64 0, .int .i64 0] 30)); have J4 := Lib.hid (H4'.out.alloc (.cells #[.int .i64 0, .int .i64 0] 30)); have JB := Lib.hid (HB'.out.alloc HB'.out.size (.cells #[.int .i64 0, .int .i64 0] 30))) | (go_at_call 33; (with_reducible refine (A2.out _).mono ?_); rintro e w3 ⟨rfl, hb3⟩; have L5 := Lib.hid (K5.out.below' hb3); have L4 := Lib.hid (J4.out.below' hb3); have LB := Lib.hid (JB.out.trans (hb3.mono JB.out.size)); clear hb3 J3 J4 JB c0 c1 c2 c3 c4))
  have L6 := Lib.hid (Blk.new w3 30 #[.int .i64 c, .int .i64 d])
  have M5 := Lib.hid (L5.out.alloc (.cells #[.int .i64 c, .int .i64 d] 30))
  have M4 := Lib.hid (L4.out.alloc (.cells #[.int .i64 c, .int .i64 d] 30))
  have MB := Lib.hid (LB.out.alloc LB.out.size (.cells #[.int .i64 c, .int .i64 d] 30))
  obtain ⟨s5, hs5⟩ : ∃ s5, s5 = w2.heap.size := ⟨_, rfl⟩
  obtain ⟨s6, hs6⟩ : ∃ s6, s6 = w3.heap.size := ⟨_, rfl⟩
  rw [← hs5] at M5
  rw [← hs6] at L6
  rw [← hs5, ← hs6]
  clear hs5 hs6 L5 L4 LB K5 R A1 A2 HK3 HK4 HB4
  generalize w3.alloc (.cells #[.int .i64 c, .int .i64 d] 30) = w4 at L6 M5 M4 MB ⊢
  obtain ⟨p50, p51, p52, p53, p54⟩ := M5.out.two
  obtain ⟨p60, p61, p62, p63, p64⟩ := L6.out.two
  obtain ⟨p40, p41, p42, p43, p44, p45, p46, p47, p48⟩ := M4.out.four8
  have hc3 : c < 0 ∨ c = 0 ∨ 0 < c := by omega
  have hd3 : d < 0 ∨ d = 0 ∨ 0 < d := by omega
  clear H3' H4' HB' hk1 hk2 hp hq e1 e2
  rcases hc3 with hc | rfl | hc
  · rcases hd3 with hd | rfl | hd
    · go_quiet (fail)
      go_wp2
      rw [show min 0 c = c by omega, show max 0 c = 0 by omega]
      rw [show min 0 d = d by omega, show max 0 d = 0 by omega]
      exact bodyPost_ret (v := .agg #[.int .i64 c, .int .i64 d, .int .i64 (0 - c + 1), .int .i64 (0 - d + 1)]) (by simp [results, Tryd.results32, go_sem, p40, p41, p42, p43]) rfl ⟨rfl, Below.all4 (below_drewN MB.out _) (Nat.le_succ _) _ _ _ _⟩
    · go_quiet (fail)
      go_wp2
      rw [show min (0 : Int) 0 = 0 by decide, show max (0 : Int) 0 = 0 by decide]
      rw [show min 0 c = c by omega, show max 0 c = 0 by omega]
      exact bodyPost_ret (v := .agg #[.int .i64 c, .int .i64 0, .int .i64 (0 - c + 1), .int .i64 (0 - 0 + 1)]) (by simp [results, Tryd.results32, go_sem, p40, p41, p42, p43]) rfl ⟨rfl, Below.all4 (below_drewN MB.out _) (Nat.le_succ _) _ _ _ _⟩
    · go_quiet (fail)
      go_wp2
      rw [show min 0 c = c by omega, show max 0 c = 0 by omega]
      rw [show min 0 d = 0 by omega, show max 0 d = d by omega]
      exact bodyPost_ret (v := .agg #[.int .i64 c, .int .i64 0, .int .i64 (0 - c + 1), .int .i64 (d - 0 + 1)]) (by simp [results, Tryd.results32, go_sem, p40, p41, p42, p43]) rfl ⟨rfl, Below.all4 (below_drewN MB.out _) (Nat.le_succ _) _ _ _ _⟩
  · rcases hd3 with hd | rfl | hd
    · go_quiet (fail)
      go_wp2
      rw [show min (0 : Int) 0 = 0 by decide, show max (0 : Int) 0 = 0 by decide]
      rw [show min 0 d = d by omega, show max 0 d = 0 by omega]
      exact bodyPost_ret (v := .agg #[.int .i64 0, .int .i64 d, .int .i64 (0 - 0 + 1), .int .i64 (0 - d + 1)]) (by simp [results, Tryd.results32, go_sem, p40, p41, p42, p43]) rfl ⟨rfl, Below.all4 (below_drewN MB.out _) (Nat.le_succ _) _ _ _ _⟩
    · go_quiet (fail)
      go_wp2
      rw [show min (0 : Int) 0 = 0 by decide, show max (0 : Int) 0 = 0 by decide]
      exact bodyPost_ret (v := .agg #[.int .i64 0, .int .i64 0, .int .i64 (0 - 0 + 1), .int .i64 (0 - 0 + 1)]) (by simp [results, Tryd.results32, go_sem, p40, p41, p42, p43]) rfl ⟨rfl, Below.all4 (below_drewN MB.out _) (Nat.le_succ _) _ _ _ _⟩
    · go_quiet (fail)
      go_wp2
      rw [show min (0 : Int) 0 = 0 by decide, show max (0 : Int) 0 = 0 by decide]
      rw [show min 0 d = 0 by omega, show max 0 d = d by omega]
      exact bodyPost_ret (v := .agg #[.int .i64 0, .int .i64 0, .int .i64 (0 - 0 + 1), .int .i64 (d - 0 + 1)]) (by simp [results, Tryd.results32, go_sem, p40, p41, p42, p43]) rfl ⟨rfl, Below.all4 (below_drewN MB.out _) (Nat.le_succ _) _ _ _ _⟩
  · rcases hd3 with hd | rfl | hd
    · go_quiet (fail)
      go_wp2
      rw [show min 0 c = 0 by omega, show max 0 c = c by omega]
      rw [show min 0 d = d by omega, show max 0 d = 0 by omega]
      exact bodyPost_ret (v := .agg #[.int .i64 0, .int .i64 d, .int .i64 (c - 0 + 1), .int .i64 (0 - d + 1)]) (by simp [results, Tryd.results32, go_sem, p40, p41, p42, p43]) rfl ⟨rfl, Below.all4 (below_drewN MB.out _) (Nat.le_succ _) _ _ _ _⟩
    · go_quiet (fail)
      go_wp2
      rw [show min (0 : Int) 0 = 0 by decide, show max (0 : Int) 0 = 0 by decide]
      rw [show min 0 c = 0 by omega, show max 0 c = c by omega]
      exact bodyPost_ret (v := .agg #[.int .i64 0, .int .i64 0, .int .i64 (c - 0 + 1), .int .i64 (0 - 0 + 1)]) (by simp [results, Tryd.results32, go_sem, p40, p41, p42, p43]) rfl ⟨rfl, Below.all4 (below_drewN MB.out _) (Nat.le_succ _) _ _ _ _⟩
    · go_quiet (fail)
      go_wp2
      rw [show min 0 c = 0 by omega, show max 0 c = c by omega]
      rw [show min 0 d = 0 by omega, show max 0 d = d by omega]
      exact bodyPost_ret (v := .agg #[.int .i64 0, .int .i64 0, .int .i64 (c - 0 + 1), .int .i64 (d - 0 + 1)]) (by simp [results, Tryd.results32, go_sem, p40, p41, p42, p43]) rfl ⟨rfl, Below.all4 (below_drewN MB.out _) (Nat.le_succ _) _ _ _ _⟩
end Go.Proofs.YthjamghemmanfaaDoor
