/- The reference's Right at valid circuits. -/
import Derived.Test.YtpkhioiabahhaaaCCir
import Derived.Test.YtpkhioiabahhaaaCPCell
import Derived.Test.YtpkhioiabahhaaaCTUr
import Derived.Test.YtpkhioiabahhaaaCUl
import Derived.Test.YtpkhioiabahhaaaTMem
namespace Go.Proofs.Ytpkhioiabahhaaa
open Go.RowKit

theorem rop_0 (w : World) : Calls Try.prog 49 #[.int .i64 0] w fun e w' => e = .returned (.int .i64 0) ∧ w = w' := by
  go_enter Try.func49, Try.ntmps49
  go_wp2
  go_ret
  exact ⟨rfl, rfl⟩
theorem rop_1 (w : World) : Calls Try.prog 49 #[.int .i64 1] w fun e w' => e = .returned (.int .i64 0) ∧ w = w' := by
  go_enter Try.func49, Try.ntmps49
  go_wp2
  go_ret
  exact ⟨rfl, rfl⟩
theorem rop_2 (w : World) : Calls Try.prog 49 #[.int .i64 2] w fun e w' => e = .returned (.int .i64 1) ∧ w = w' := by
  go_enter Try.func49, Try.ntmps49
  go_wp2
  go_ret
  exact ⟨rfl, rfl⟩
theorem rop_3 (w : World) : Calls Try.prog 49 #[.int .i64 3] w fun e w' => e = .returned (.int .i64 2) ∧ w = w' := by
  go_enter Try.func49, Try.ntmps49
  go_wp2
  go_ret
  exact ⟨rfl, rfl⟩
theorem rop_4 (w : World) : Calls Try.prog 49 #[.int .i64 4] w fun e w' => e = .returned (.int .i64 2) ∧ w = w' := by
  go_enter Try.func49, Try.ntmps49
  go_wp2
  go_ret
  exact ⟨rfl, rfl⟩
theorem rop_5 (w : World) : Calls Try.prog 49 #[.int .i64 5] w fun e w' => e = .returned (.int .i64 2) ∧ w = w' := by
  go_enter Try.func49, Try.ntmps49
  go_wp2
  go_ret
  exact ⟨rfl, rfl⟩
theorem rg_ops {op a b n : Int} (h : rg (op, a, b) n = true) : op = 0 ∨ op = 1 ∨ op = 2 ∨ op = 3 ∨ op = 4 ∨ op = 5 := by
  unfold rg at h
  simp only at h
  split at h
  · omega
  · split at h
    · omega
    · split at h
      · omega
      · cases h
set_option maxRecDepth 100000 in
set_option maxHeartbeats 8000000 in
theorem rright17_yes (AG AO : Option Addr) (cG cO : Nat) (C : Cr) (w : World) (h : CS w AG AO C) (hr : rt C = true) :
    Calls Try.prog 25 #[.agg #[.int .i64 C.ins, .slice AG C.n cG, .slice AO C.o.length cO]] w fun e w' => e = .returned (.bool true) ∧ Below w.heap.size w w' := by
  obtain ⟨hok, hgs, hos⟩ := (rt_iff C).1 hr
  obtain ⟨HG, HO⟩ := h
  obtain ⟨I, n, g, o⟩ := C
  clear hr
  simp only at *
  obtain ⟨q, hq⟩ : ∃ q, q = o.length := ⟨_, rfl⟩
  rw [← hq] at HO hok hos ⊢
  obtain ⟨h0, h1, h2, h3⟩ := hok
  obtain ⟨i, rfl⟩ : ∃ i : Nat, I = (i : Int) := ⟨I.toNat, by omega⟩
  have RGS := Lib.hid hgs
  have ROS := Lib.hid hos
  clear hq hgs hos
  have g0 : ¬ ((i : Int) < 0) := by omega
  have g1 : ¬ ((1000 : Int) < (i : Int)) := by omega
  have g2 : ¬ ((20000 : Int) < (n : Int)) := by omega
  have g3 : ¬ ((1000 : Int) < (q : Int)) := by omega
  have B1 := (Below.refl w.heap.size w).alloc (Nat.le_refl _) (.cells #[.int .i64 (i : Int), .slice AG n cG, .slice AO q cO] 34)
  have K1 := Lib.hid (Blk.new w 34 #[.int .i64 (i : Int), .slice AG n cG, .slice AO q cO])
  have HG := Lib.hid (CReads.later HG B1)
  have HO := Lib.hid (Reads.later HO B1)
  have B1 := Lib.hid B1
  go_enter Try.func25, Try.ntmps25
  go_upto_region 1 with (fail)
  generalize w.alloc (.cells #[.int .i64 (i : Int), .slice AG n cG, .slice AO q cO] 34) = w1 at *
  obtain ⟨a0, a1, a2, _, _, _, a6⟩ := K1.out.three6
  go_wp2
  go_loopw [3] (fun iv wr => ∃ j : Nat, j ≤ n ∧ iv = .int .i64 (j : Int) ∧ Below w1.heap.size w1 wr) (fun iv _ => n - (intOf iv).toNat)
  case atStart => exact ⟨0, Nat.zero_le _, rfl, Below.refl _ _⟩
  case round =>
    obtain ⟨j, hj, rfl, hbel⟩ := hrel
    have K2 := K1.out.below hbel a6
    clear a0 a1 a2 a6
    obtain ⟨a0, a1, a2, _, _, _, a6⟩ := K2.three6
    have K2 := Lib.hid K2
    have HG2 := HG.out.below hbel
    by_cases hk : j < n
    · obtain ⟨gg, o1, rfl, hb1, hc1⟩ := HG2 (by omega)
      obtain ⟨c0, c1, c2⟩ := hc1 j hk
      have HB := Lib.hid hbel
      have hv := RGS.out j hk
      have hgw : gg < wr.heap.size := Nat.lt_of_lt_of_le hb1 HB.out.size
      clear hc1 HG2 hbel
      generalize g j = x at c0 c1 c2 hv
      obtain ⟨op, a, b⟩ := x
      simp only at c0 c1 c2
      rcases rg_ops hv with rfl | rfl | rfl | rfl | rfl | rfl
      · obtain ⟨rfl, rfl⟩ : a = 0 ∧ b = 0 := by simpa [rg] using hv
        clear hv
        have BY := Lib.hid ((Below.refl wr.heap.size wr).alloc (Nat.le_refl _) (.cells #[.int .i64 0, .int .i64 0, .int .i64 0] 53))
        have OPS := Lib.hid (fun w => rop_0 w)
        go_wp2_with (go_at_call 49; (with_reducible refine (OPS.out _).mono ?_); rintro e w3 ⟨rfl, rfl⟩)
        go_roundw
        case rel => exact ⟨j + 1, by omega, by go_num, HB.out.trans (BY.out.mono HB.out.size)⟩
        case measure => simp [intOf]; omega
      · obtain ⟨rfl, rfl⟩ : a = 0 ∧ b = 0 := by simpa [rg] using hv
        clear hv
        have BY := Lib.hid ((Below.refl wr.heap.size wr).alloc (Nat.le_refl _) (.cells #[.int .i64 1, .int .i64 0, .int .i64 0] 53))
        have OPS := Lib.hid (fun w => rop_1 w)
        go_wp2_with (go_at_call 49; (with_reducible refine (OPS.out _).mono ?_); rintro e w3 ⟨rfl, rfl⟩)
        go_roundw
        case rel => exact ⟨j + 1, by omega, by go_num, HB.out.trans (BY.out.mono HB.out.size)⟩
        case measure => simp [intOf]; omega
      · obtain ⟨⟨p1, p2⟩, rfl⟩ : (0 ≤ a ∧ a < (i : Int) + (j : Int)) ∧ b = 0 := by simpa [rg, isw] using hv
        have p3 : ¬ a < 0 := by omega
        have p4 : ¬ (i : Int) + (j : Int) ≤ a := by omega
        clear hv
        have BY := Lib.hid ((Below.refl wr.heap.size wr).alloc (Nat.le_refl _) (.cells #[.int .i64 2, .int .i64 a, .int .i64 0] 53))
        have OPS := Lib.hid (fun w => rop_2 w)
        go_wp2_with (go_at_call 49; (with_reducible refine (OPS.out _).mono ?_); rintro e w3 ⟨rfl, rfl⟩)
        go_roundw
        case rel => exact ⟨j + 1, by omega, by go_num, HB.out.trans (BY.out.mono HB.out.size)⟩
        case measure => simp [intOf]; omega
      · obtain ⟨⟨p1, p2⟩, q1, q2⟩ : (0 ≤ a ∧ a < (i : Int) + (j : Int)) ∧ 0 ≤ b ∧ b < (i : Int) + (j : Int) := by simpa [rg, isw] using hv
        have p3 : ¬ a < 0 := by omega
        have p4 : ¬ (i : Int) + (j : Int) ≤ a := by omega
        have q3 : ¬ b < 0 := by omega
        have q4 : ¬ (i : Int) + (j : Int) ≤ b := by omega
        clear hv
        have BY := Lib.hid ((Below.refl wr.heap.size wr).alloc (Nat.le_refl _) (.cells #[.int .i64 3, .int .i64 a, .int .i64 b] 53))
        have OPS := Lib.hid (fun w => rop_3 w)
        go_wp2_with (go_at_call 49; (with_reducible refine (OPS.out _).mono ?_); rintro e w3 ⟨rfl, rfl⟩)
        go_roundw
        case rel => exact ⟨j + 1, by omega, by go_num, HB.out.trans (BY.out.mono HB.out.size)⟩
        case measure => simp [intOf]; omega
      · obtain ⟨⟨p1, p2⟩, q1, q2⟩ : (0 ≤ a ∧ a < (i : Int) + (j : Int)) ∧ 0 ≤ b ∧ b < (i : Int) + (j : Int) := by simpa [rg, isw] using hv
        have p3 : ¬ a < 0 := by omega
        have p4 : ¬ (i : Int) + (j : Int) ≤ a := by omega
        have q3 : ¬ b < 0 := by omega
        have q4 : ¬ (i : Int) + (j : Int) ≤ b := by omega
        clear hv
        have BY := Lib.hid ((Below.refl wr.heap.size wr).alloc (Nat.le_refl _) (.cells #[.int .i64 4, .int .i64 a, .int .i64 b] 53))
        have OPS := Lib.hid (fun w => rop_4 w)
        go_wp2_with (go_at_call 49; (with_reducible refine (OPS.out _).mono ?_); rintro e w3 ⟨rfl, rfl⟩)
        go_roundw
        case rel => exact ⟨j + 1, by omega, by go_num, HB.out.trans (BY.out.mono HB.out.size)⟩
        case measure => simp [intOf]; omega
      · obtain ⟨⟨p1, p2⟩, q1, q2⟩ : (0 ≤ a ∧ a < (i : Int) + (j : Int)) ∧ 0 ≤ b ∧ b < (i : Int) + (j : Int) := by simpa [rg, isw] using hv
        have p3 : ¬ a < 0 := by omega
        have p4 : ¬ (i : Int) + (j : Int) ≤ a := by omega
        have q3 : ¬ b < 0 := by omega
        have q4 : ¬ (i : Int) + (j : Int) ≤ b := by omega
        clear hv
        have BY := Lib.hid ((Below.refl wr.heap.size wr).alloc (Nat.le_refl _) (.cells #[.int .i64 5, .int .i64 a, .int .i64 b] 53))
        have OPS := Lib.hid (fun w => rop_5 w)
        go_wp2_with (go_at_call 49; (with_reducible refine (OPS.out _).mono ?_); rintro e w3 ⟨rfl, rfl⟩)
        go_roundw
        case rel => exact ⟨j + 1, by omega, by go_num, HB.out.trans (BY.out.mono HB.out.size)⟩
        case measure => simp [intOf]; omega
    · obtain rfl : j = n := by omega
      have HB := Lib.hid hbel
      clear HG2 hbel
      go_wp2
      go_loopw [7] (fun iv wq => ∃ s : Nat, s ≤ q ∧ iv = .int .i64 (s : Int) ∧ Hid (Below w1.heap.size w1 wq)) (fun iv _ => q - (intOf iv).toNat)
      case atStart => exact ⟨0, Nat.zero_le _, rfl, HB⟩
      case round =>
        obtain ⟨s, hs, rfl, HX⟩ := hrel
        have K3 := K1.out.below HX.out K1.out.lt
        clear a0 a1 a2 a6
        obtain ⟨a0, a1, a2, _, _, _, a6⟩ := K3.three6
        have K3 := Lib.hid K3
        by_cases hsq : s < q
        · obtain ⟨ad, rfl, hbo, hc⟩ := il_at (HO.out.below HX.out) hsq
          obtain ⟨p1, p2⟩ := (isw_iff _ _).1 (ROS.out s hsq)
          generalize ig o s = x at hc p1 p2
          have e1 : IntKind.i64.wrap ((i : Int) + (j : Int)) = (i : Int) + (j : Int) := IntWalk.i64_in _ ⟨by omega, by omega⟩
          have p3 : ¬ x < 0 := by omega
          have p4 : ¬ (i : Int) + (j : Int) ≤ x := by omega
          go_wp2_with fail
          go_quiet (fail)
          go_wp2
          go_roundw
          case rel => exact ⟨s + 1, by omega, by go_num, Lib.hid (below_drewN HX.out _)⟩
          case measure => simp [intOf]; omega
        · obtain rfl : s = q := by omega
          go_wp2
          go_ret
          exact ⟨rfl, B1.out.trans (HX.out.mono B1.out.size)⟩
end Go.Proofs.Ytpkhioiabahhaaa
