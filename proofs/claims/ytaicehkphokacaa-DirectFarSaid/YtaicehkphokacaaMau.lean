/- The walks of the reference's Right at valid neighbourhoods and trees. -/
import Derived.Test.YtaicehkphokacaaMal
import Derived.Test.YtaicehkphokacaaMai
import Derived.Test.YtaicehkphokacaaMam
import Derived.Test.YtaicehkphokacaaMaj
import Derived.Test.YtaicehkphokacaaMaq
namespace Go.Proofs.Ytaicehkphokacaa
open Go.RowKit

set_option maxRecDepth 100000 in
set_option maxHeartbeats 4000000 in
theorem rright_yes (A : Option Addr) (n c : Nat) (f : Nat → P2) (w : World) (h : QReads w w.heap.size A n f) (hd : Hd f n) :
    Calls Try.prog 39 #[.slice A n c] w fun e w' => e = .returned (.bool true) ∧ Below w.heap.size w w' := by
  obtain ⟨⟨hn1, hn2⟩, hof, hup⟩ := hd
  have HOF := Lib.hid hof
  have HUP := Lib.hid (fun i (hi : i + 1 < n) => hup i (by omega))
  have hl1 : decide ((n : Int) < 1) = false := by rw [decide_eq_false_iff_not]; omega
  have hl2 : decide (25 < (n : Int)) = false := by rw [decide_eq_false_iff_not]; omega
  have H := Lib.hid h
  clear h hof hup
  go_enter Try.func39, Try.ntmps39
  go_wp2
  go_loopw [3] (fun iv wr => ∃ j : Nat, j ≤ n ∧ iv = .int .i64 (j : Int) ∧ Below w.heap.size w wr) (fun iv _ => n - (intOf iv).toNat)
  case atStart => exact ⟨0, Nat.zero_le _, rfl, Below.refl _ _⟩
  case round =>
    obtain ⟨j, hj, rfl, hbel⟩ := hrel
    have R := H.out.below hbel
    have HB := Lib.hid hbel
    by_cases hjn : j < n
    · obtain ⟨g1, o1, rfl, hb1, hc1⟩ := R (by omega)
      have c1 := hc1 j hjn
      have hgw : g1 < wr.heap.size := Nat.lt_of_lt_of_le hb1 hbel.size
      have hx4 := HOF.out j hjn
      clear hbel
      obtain ⟨⟨x1, x2⟩, hx⟩ : ∃ x, x = f j := ⟨_, rfl⟩
      rw [← hx] at c1 hx4
      obtain ⟨c10, c11⟩ := c1
      simp only at c10 c11 hx4
      have K7 := Lib.hid (Blk.new wr 52 #[.int .i64 x1, .int .i64 x2])
      have B7 := Lib.hid (HB.out.alloc HB.out.size (.cells #[.int .i64 x1, .int .i64 x2] 52))
      have BW := Lib.hid ((Below.refl wr.heap.size wr).alloc (Nat.le_refl _) (.cells #[.int .i64 x1, .int .i64 x2] 52))
      have S7 : wr.heap.size < (wr.alloc (.cells #[.int .i64 x1, .int .i64 x2] 52)).heap.size := by simp
      have e1 : decide (x1 < -2) = false := decide_eq_false (by omega)
      have e2 : decide (2 < x1) = false := decide_eq_false (by omega)
      have e3 : decide (x2 < -2) = false := decide_eq_false (by omega)
      have e4 : decide (2 < x2) = false := decide_eq_false (by omega)
      clear hx4
      by_cases hj0 : j = 0
      · subst hj0
        have d0 : decide ((0 : Int) < 0) = false := by decide
        have d00 : decide ((0 : Nat) < 0) = false := by decide
        simp only [Nat.zero_mul, Nat.add_zero, Nat.zero_add] at c10 c11
        clear hc1 R hx
        go_wp2_with fail
        generalize wr.alloc (.cells #[.int .i64 x1, .int .i64 x2] 52) = w1 at K7 B7 BW S7 ⊢
        obtain ⟨q0, q1, q2, q3, q4⟩ := K7.out.two
        go_quiet (fail)
        go_wp2
        go_roundw
        case rel => exact ⟨0 + 1, by omega, by go_num, below_drewN B7.out _⟩
        case measure => simp [intOf]; omega
      · obtain ⟨i, hi⟩ : ∃ i, j = i + 1 := ⟨j - 1, by omega⟩
        have hin : i < n := by omega
        have e0 : (j : Int) - 1 = (i : Int) := by omega
        have hd1 : decide (0 < (j : Int)) = true := by rw [decide_eq_true_iff]; omega
        have hd2 : decide (0 < j) = true := by rw [decide_eq_true_iff]; omega
        have hw1 : IntKind.i64.wrap ((j : Int) - 1) = (i : Int) := by rw [e0]; exact IntWalk.i64_in _ (by omega)
        have c2 := hc1 i hin
        have hpc := HUP.out i (by omega)
        rw [← hi, ← hx] at hpc
        obtain ⟨⟨y1, y2⟩, hy⟩ : ∃ y, y = f i := ⟨_, rfl⟩
        rw [← hy] at c2 hpc
        have P := fun w => before_any y1 y2 x1 x2 w
        rw [decide_eq_true hpc] at P
        have PH := Lib.hid P
        have C2 := Lib.hid c2
        clear hc1 R hx hy hi hj0 c2 e0 P hpc
        go_wp2_with fail
        generalize wr.alloc (.cells #[.int .i64 x1, .int .i64 x2] 52) = w1 at K7 B7 BW S7 ⊢
        have d0 := fun p : LowW w1.heap.size w1 => LowW.cell (a := ⟨g1, o1 + i * 2, none⟩) (Nat.lt_of_lt_of_le hgw BW.out.size) ((BW.out.cell hgw).trans C2.out.1) p
        have d1 := fun p : LowW w1.heap.size w1 => LowW.cell (a := ⟨g1, o1 + i * 2 + 1, none⟩) (Nat.lt_of_lt_of_le hgw BW.out.size) ((BW.out.cell hgw).trans C2.out.2) p
        have q0 := fun p : LowW w1.heap.size w1 => (K7.out.below p.below K7.out.lt).two.1
        have q1 := fun p : LowW w1.heap.size w1 => (K7.out.below p.below K7.out.lt).two.2.1
        clear c10 c11
        refine wp_region_low w1.heap.size w1 (by kernel_rfl) (by kernel_rfl) (Below.refl _ _) ?_
        repeat (quiet_step (first | (go_at_call 62; with_reducible exact LowW.of_call _ (Nat.le_refl _) (PH.out _))))
        refine wpQuiet_nil ?_
        rintro w3 ⟨p, rfl⟩
        have B3 := Lib.hid (B7.out.trans (p.below.mono B7.out.size))
        clear d0 d1 q0 q1 hw1
        generalize p.w = w3 at B3 ⊢
        go_wp2
        go_roundw
        case rel => exact ⟨j + 1, by omega, by go_num, B3.out⟩
        case measure => simp [intOf]; omega
    · obtain rfl : j = n := by omega
      clear R hbel
      go_wp2
      go_ret
      exact ⟨rfl, HB.out⟩
set_option maxRecDepth 100000 in
set_option maxHeartbeats 4000000 in
theorem rr_yes (AH : Option Addr) (cH : Nat) (AN : Option Addr) (cN : Nat) (T : Tr) (w : World) (h : TS w AH AN T) (ht : Rt T) :
    Calls Try.prog 18 #[.agg #[.int .i64 T.st, .slice AH T.n cH, .slice AN T.m cN]] w fun e w' => e = .returned (.bool true) ∧ Below w.heap.size w w' := by
  obtain ⟨hH, hN⟩ := h
  have s1 := ht.s1
  have s2 := ht.s2
  have m1 := ht.m1
  have m2 := ht.m2
  have n25 := ht.hd.1.2
  have ND := Lib.hid ht.nd
  have TOP := Lib.hid ht.top
  have HD := ht.hd
  clear ht
  obtain ⟨st, n, f, m, lv, nx⟩ := T
  simp only at *
  have HR := Lib.hid (fun w' (hb : Below w.heap.size w w') => rright_yes AH n cH f w' (hH.later hb) HD)
  have HN := Lib.hid (fun w' (hb : Below w.heap.size w w') => hN.below hb)
  have K1 := Blk.new w 25 #[.int .i64 st, .slice AH n cH, .slice AN m cN]
  have B1 : Below w.heap.size w (w.alloc (.cells #[.int .i64 st, .slice AH n cH, .slice AN m cN] 25)) := (Below.refl _ _).alloc (Nat.le_refl _) _
  clear hH hN HD
  have e1 : decide (st < 2) = false := by rw [decide_eq_false_iff_not]; omega
  have e2 : decide (8 < st) = false := by rw [decide_eq_false_iff_not]; omega
  have d2 : decide (4096 < (m : Int)) = false := by rw [decide_eq_false_iff_not]; omega
  have d1 : decide ((m : Int) < 1) = false := by rw [decide_eq_false_iff_not]; omega
  obtain ⟨S, rfl⟩ : ∃ S : Nat, st = (S : Int) := ⟨st.toNat, by omega⟩
  go_enter Try.func18, Try.ntmps18
  go_wp2_with fail
  generalize w.alloc (.cells #[.int .i64 (S : Int), .slice AH n cH, .slice AN m cN] 25) = w0 at K1 B1 ⊢
  obtain ⟨a0, a1, a2, a3⟩ := K1.three
  have K1 := Lib.hid K1
  have B1 := Lib.hid B1
  go_wp2_with fail
  go_at_call 39
  refine (HR.out _ B1.out).mono ?_
  rintro e w1 ⟨rfl, hb⟩
  have B2 := Lib.hid (B1.out.trans (hb.mono B1.out.size))
  have K2 := Lib.hid (K1.out.below hb K1.out.lt)
  clear a0 a1 a2 a3 hb
  obtain ⟨a0, a1, a2, a3⟩ := K2.out.three
  go_wp2
  go_loopw [4] (fun iv wr => ∃ j : Nat, j ≤ m ∧ iv = .int .i64 (j : Int) ∧ Below w1.heap.size w1 wr) (fun iv _ => m - (intOf iv).toNat)
  case atStart => exact ⟨0, Nat.zero_le _, rfl, Below.refl _ _⟩
  case round =>
    obtain ⟨j, hj, rfl, hbel⟩ := hrel
    have B4 := Lib.hid (B2.out.trans (hbel.mono B2.out.size))
    have K4 := Lib.hid (K2.out.below hbel K2.out.lt)
    have BX := Lib.hid hbel
    clear a0 a1 a2 a3 hbel
    obtain ⟨a0, a1, a2, a3⟩ := K4.out.three
    obtain ⟨wo, rfl⟩ : ∃ wo, wo = wr := ⟨_, rfl⟩
    by_cases hlt : j < m
    · obtain ⟨g1, o1, rfl, hb1, hc⟩ := HN.out _ B4.out (by omega)
      obtain ⟨A', c', h1, h2, hr⟩ := hc j hlt
      have HC := Lib.hid (fun k (hk : k < m) => (hc k hk))
      obtain ⟨b1, b2, b3, b4⟩ := ND.out j hlt
      have hXS : (nx j).length = S := by omega
      rw [hXS] at h2 hr b4
      have HEL := Lib.hid b4
      generalize nx j = X at hr HEL
      generalize hlj : lv j = l at h1 b1 b2 HEL
      clear hlj hc b3 hXS b4
      have h1' := (Below.alloc (Below.refl wo.heap.size wo) (Nat.le_refl _) (.cells #[.int .i64 l, .slice A' S c'] 70))
      have K7 := Lib.hid (Blk.new wo 70 #[.int .i64 l, .slice A' S c'])
      have B7 := Lib.hid (B4.out.trans (h1'.mono B4.out.size))
      have BY := Lib.hid h1'
      have RX := Lib.hid (show Reads (wo.alloc (.cells #[.int .i64 l, .slice A' S c'] 70)) w.heap.size A' S (il X) from (hr.below (h1'.mono B4.out.size)))
      have K5 := Lib.hid (K4.out.below h1' K4.out.lt)
      have hg1 : g1 < wo.heap.size := Nat.lt_of_lt_of_le hb1 B4.out.size
      clear hr h1'
      have f1 : decide (l < 1) = false := by rw [decide_eq_false_iff_not]; omega
      have f2 : decide ((n : Int) < l) = false := by rw [decide_eq_false_iff_not]; omega
      have f3 : ((S : Int) != (S : Int)) = false := by rw [bne_eq_false_iff_eq]
      go_upto_region 8 with (fail)
      generalize wo.alloc (.cells #[.int .i64 l, .slice A' S c'] 70) = w7 at K7 B7 BY RX K5 ⊢
      clear a0 a1 a2 a3 h1 h2
      obtain ⟨a0, a1, a2, a3⟩ := K5.out.three
      obtain ⟨k0, k1, k2, k3, k4⟩ := K7.out.two
      go_wp2
      go_loopw [6] (fun iv wr => ∃ s : Nat, s ≤ S ∧ iv = .int .i64 (s : Int) ∧ Below w7.heap.size w7 wr) (fun iv _ => S - (intOf iv).toNat)
      case atStart => exact ⟨0, Nat.zero_le _, rfl, Below.refl _ _⟩
      case round =>
        obtain ⟨s, hs, rfl, hbel⟩ := hrel
        have K8 := Lib.hid (K7.out.below hbel K7.out.lt)
        have K9 := Lib.hid (K5.out.below hbel K5.out.lt)
        have B8 := Lib.hid (B7.out.trans (hbel.mono B7.out.size))
        have BZ := Lib.hid hbel
        clear a0 a1 a2 a3 k0 k1 k2 k3 k4 hbel
        obtain ⟨a0, a1, a2, a3⟩ := K9.out.three
        obtain ⟨k0, k1, k2, k3, k4⟩ := K8.out.two
        by_cases hsl : s < S
        · obtain ⟨ad, rfl, hb, hx⟩ := il_at (RX.out.below (BZ.out.mono B7.out.size)) hsl
          obtain ⟨p0, pa, pb⟩ := HEL.out s hsl
          generalize ig X s = k at hx p0 pa pb
          have g0 : decide (k < 0) = false := by rw [decide_eq_false_iff_not]; omega
          by_cases p1 : l = 1
          · subst p1
            have q1 : decide ((1 : Int) < 1) = false := by decide
            have p2 := pa (by omega)
            have q2 : decide ((S : Int) ≤ k) = false := by rw [decide_eq_false_iff_not]; omega
            clear pa pb
            go_wp2_with fail
            go_quiet (fail)
            go_wp2
            go_roundw
            case rel => exact ⟨s + 1, by omega, by go_num, below_drewN BZ.out _⟩
            case measure => simp [intOf]; omega
          · have q0 : (l == 1) = false := by rw [beq_eq_false_iff_ne]; exact p1
            have q1 : decide (1 < l) = true := by rw [decide_eq_true_iff]; omega
            obtain ⟨p2, p3⟩ := pb (by omega)
            have q2 : decide ((j : Int) ≤ k) = false := by rw [decide_eq_false_iff_not]; omega
            obtain ⟨kn, rfl⟩ : ∃ kn : Nat, k = (kn : Int) := ⟨k.toNat, by omega⟩
            rw [Int.toNat_natCast] at p3
            have hkm : kn < m := by omega
            have q2n : decide (j ≤ kn) = false := by rw [decide_eq_false_iff_not]; omega
            obtain ⟨A2, c2, y1, -, -⟩ := HC.out kn hkm
            have y2 := (BZ.out.cell (p := ⟨g1, o1 + kn * 2, none⟩) (Nat.lt_of_lt_of_le hg1 BY.out.size)).trans ((BY.out.cell (p := ⟨g1, o1 + kn * 2, none⟩) hg1).trans y1)
            clear y1 pa pb
            generalize lv kn = l' at y2 p3
            have hw : IntKind.i64.wrap (l - 1) = l - 1 := IntWalk.i64_in _ (by omega)
            have q3 : (l' != l - 1) = false := by rw [bne_eq_false_iff_eq]; exact p3
            clear p3
            go_wp2_with fail
            go_quiet (fail)
            go_wp2
            go_roundw
            case rel => exact ⟨s + 1, by omega, by go_num, below_drewN BZ.out _⟩
            case measure => simp [intOf]; omega
        · obtain rfl : s = S := by omega
          go_wp2
          go_roundw
          case rel => exact ⟨j + 1, by omega, by go_num, BX.out.trans ((BY.out.trans (BZ.out.mono BY.out.size)).mono BX.out.size)⟩
          case measure => simp [intOf]; omega
    · obtain rfl : j = m := by omega
      obtain ⟨i, hi⟩ : ∃ i, j = i + 1 := ⟨j - 1, by omega⟩
      obtain ⟨g1, o1, rfl, hb1, hc⟩ := HN.out _ B4.out (by omega)
      obtain ⟨A', c', h1, -, -⟩ := hc i (by omega)
      have hw1 : IntKind.i64.wrap ((j : Int) - 1) = (i : Int) := by rw [show (j : Int) - 1 = (i : Int) by omega]; exact IntWalk.i64_in _ (by omega)
      have hl := TOP.out
      rw [show j - 1 = i by omega] at hl
      have hij : i < j := by omega
      generalize lv i = l at h1 hl
      have q : (l == (n : Int)) = true := by rw [beq_iff_eq]; exact hl
      clear hc hlt hi hl
      go_wp2_with fail
      go_quiet (fail)
      go_wp2
      go_ret
      exact ⟨rfl, below_drewN B4.out _⟩
end Go.Proofs.Ytaicehkphokacaa
