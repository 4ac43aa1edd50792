/- The walks of possible, rightNode and Right at valid trees. -/
import Derived.Test.YtaicehkphokacaaMad
import Derived.Test.YtaicehkphokacaaMae
import Derived.Test.YtaicehkphokacaaMaa
import Derived.Test.YtaicehkphokacaaMag
import Derived.Test.YtaicehkphokacaaMab
import Derived.Test.YtaicehkphokacaaMah
import Derived.Below
import Derived.BigQuiet
import Derived.Deep.AppendLies
import Derived.Deep.CutRange
import Derived.Deep.Draws
import Derived.Deep.QuietTactic
import Derived.IntWalk
import Derived.Laws.OwnMore
import Derived.Laws.Rows
import Derived.Lib.Hide
import Derived.LoopN
import Derived.OwnWalk
import Derived.StillTail
import Derived.StillTailTactics
import Derived.Test.YtaicehkphokacaaRows
import Derived.WalkKit
namespace Go.Proofs.Ytaicehkphokacaa
open Go.RowKit
theorem possible_yes (st : Int) (AH : Option Addr) (n cH : Nat) (f : Nat → P2) (w : World) (h : QReads w w.heap.size AH n f) (hd : Hd f n) (s1 : 2 ≤ st) (s2 : st ≤ 8) :
    Calls Try.prog 77 #[.int .i64 st, .slice AH n cH] w fun e w' => e = .returned (.bool true) ∧ Below w.heap.size w w' := by
  have HR := Lib.hid (hright_any AH n cH f w h hd)
  clear h hd
  go_enter Try.func77, Try.ntmps77
  go_wp2_with (go_at_call 82; (with_reducible refine HR.out.mono ?_); rintro e w1 ⟨rfl, hb⟩; have B1 := Lib.hid hb; clear hb)
  go_ret
  exact ⟨rfl, B1.out⟩
set_option maxRecDepth 100000 in
set_option maxHeartbeats 4000000 in
theorem rightNode_yes (AH : Option Addr) (cH : Nat) (AN : Option Addr) (cN : Nat) (T : Tr) (i : Nat) (w : World) (h : NR w w.heap.size AN T.m T.lv T.nx) (ht : Rt T) (hi : i < T.m) :
    Calls Try.prog 78 #[.agg #[.int .i64 T.st, .slice AH T.n cH, .slice AN T.m cN], .int .i64 (i : Int)] w fun e w' => e = .returned (.bool true) ∧ Below w.heap.size w w' := by
  obtain ⟨b1, b2, b3, b4⟩ := ht.nd i hi
  have s1 := ht.s1
  have s2 := ht.s2
  have m2 := ht.m2
  have n2 := ht.hd.1.2
  clear ht
  obtain ⟨st, n, f, m, lv, nx⟩ := T
  simp only at *
  obtain ⟨S, rfl⟩ : ∃ S : Nat, st = (S : Int) := ⟨st.toNat, by omega⟩
  have K1 := Blk.new w 25 #[.int .i64 (S : Int), .slice AH n cH, .slice AN m cN]
  have B1 : Below w.heap.size w (w.alloc (.cells #[.int .i64 (S : Int), .slice AH n cH, .slice AN m cN] 25)) := (Below.refl _ _).alloc (Nat.le_refl _) _
  obtain ⟨g1, o1, rfl, hb1, hc⟩ := h.below B1 (by omega)
  obtain ⟨A', c', h1, h2, hr⟩ := hc i hi
  have hE : (nx i).length = S := by omega
  rw [hE] at h2 hr b4
  clear h b3 hE
  have HC := Lib.hid (fun k (hk : k < m) => (hc k hk))
  have HE := Lib.hid b4
  clear hc b4
  generalize nx i = X at hr HE
  generalize lv i = l at h1 HE b1 b2
  have f1 : decide (l < 1) = false := by rw [decide_eq_false_iff_not]; omega
  have f2 : decide ((n : Int) < l) = false := by rw [decide_eq_false_iff_not]; omega
  have f3 : ((S : Int) != (S : Int)) = false := by rw [bne_eq_false_iff_eq]
  have IS := Lib.hid (fun k w => isState_any (S : Int) k w)
  have hz : (w.alloc (.cells #[.int .i64 (S : Int), .slice AH n cH, .slice (some ⟨g1, o1, none⟩) m cN] 25)).heap.size = w.heap.size + 1 := by simp
  go_enter Try.func78, Try.ntmps78
  go_wp2_with fail
  generalize w.alloc (.cells #[.int .i64 (S : Int), .slice AH n cH, .slice (some ⟨g1, o1, none⟩) m cN] 25) = w0 at *
  obtain ⟨a0, a1, a2, a3⟩ := K1.three
  have hg1 : g1 < w0.heap.size := Nat.lt_of_lt_of_le hb1 B1.size
  have BY := (Below.refl w0.heap.size w0).alloc (Nat.le_refl _) (.cells #[.int .i64 l, .slice A' S c'] 70)
  have K7 := (Blk.new w0 70 #[.int .i64 l, .slice A' S c'])
  rw [hz] at K7
  have K7 := Lib.hid K7
  clear hz
  have K5 := Lib.hid (K1.alloc (.cells #[.int .i64 l, .slice A' S c'] 70))
  have RX := Lib.hid (hr.below (BY.mono B1.size))
  have B7 := Lib.hid (B1.trans (BY.mono B1.size))
  have BY := Lib.hid BY
  clear hr
  go_upto_region 2 with (fail)
  generalize w0.alloc (.cells #[.int .i64 l, .slice A' S c'] 70) = w7 at *
  clear a0 a1 a2 a3 h1 h2
  obtain ⟨a0, a1, a2, a3⟩ := K5.out.three
  obtain ⟨k0, k1, k2, k3, k4⟩ := K7.out.two
  go_wp2
  go_loopw [35] (fun iv wr => ∃ s : Nat, s ≤ S ∧ iv = .int .i64 (s : Int) ∧ Below w7.heap.size w7 wr) (fun iv _ => S - (intOf iv).toNat)
  case atStart => exact ⟨0, Nat.zero_le _, rfl, Below.refl _ _⟩
  case round =>
    obtain ⟨s, hs, rfl, hbel⟩ := hrel
    have K8 := Lib.hid (K7.out.below hbel K7.out.lt)
    have K9 := Lib.hid (K5.out.below hbel K5.out.lt)
    have B8 := Lib.hid (B7.out.trans (hbel.mono B7.out.size))
    have BZ := Lib.hid hbel
    clear a0 a1 a2 a3 k0 k1 k2 k3 k4 hbel
    obtain ⟨a0, a1, a2, a3⟩ := K9.out.three
    obtain ⟨k0, k1, k2, k3, k4⟩ := K8.out.two
    by_cases hsl : s < S
    · obtain ⟨ad, rfl, hb, hx⟩ := il_at (RX.out.below (BZ.out.mono B7.out.size)) hsl
      obtain ⟨p0, e1, e2⟩ := HE.out s hsl
      generalize ig X s = k at hx p0 e1 e2
      have I := IS.out k
      by_cases p1 : l = 1
      · have p2 := e1 p1
        rw [show sta (S : Int) k = true from (sta_iff _ _).2 ⟨p0, p2⟩] at I
        have I := Lib.hid I
        subst p1
        have q1 : decide ((1 : Int) < 1) = false := by decide
        clear e1 e2
        go_upto_region 9 with (go_at_call 68; (with_reducible refine (I.out _).mono ?_); rintro e w' ⟨rfl, rfl⟩)
        go_quiet (fail)
        go_wp2
        go_roundw
        case rel => exact ⟨s + 1, by omega, by go_num, below_drewN BZ.out _⟩
        case measure => simp [intOf]; omega
      · have q0 : (l == 1) = false := by rw [beq_eq_false_iff_ne]; exact p1
        have q1 : decide (1 < l) = true := by rw [decide_eq_true_iff]; omega
        obtain ⟨p2, p3⟩ := e2 (by omega)
        obtain ⟨kn, rfl⟩ : ∃ kn : Nat, k = (kn : Int) := ⟨k.toNat, by omega⟩
        rw [Int.toNat_natCast] at p3
        have hkm : kn < m := by omega
        have q0n : decide ((kn : Int) < 0) = false := by rw [decide_eq_false_iff_not]; omega
        have q2 : decide ((i : Int) ≤ (kn : Int)) = false := by rw [decide_eq_false_iff_not]; omega
        have q2n : decide (i ≤ kn) = false := by rw [decide_eq_false_iff_not]; omega
        obtain ⟨A2, c2, y1, -, -⟩ := HC.out kn hkm
        have y2 := (BZ.out.cell (p := ⟨g1, o1 + kn * 2, none⟩) (Nat.lt_of_lt_of_le hg1 BY.out.size)).trans ((BY.out.cell (p := ⟨g1, o1 + kn * 2, none⟩) hg1).trans y1)
        rw [p3] at y2
        have hw : IntKind.i64.wrap (l - 1) = l - 1 := IntWalk.i64_in _ (by omega)
        have q3 : (l - 1 != l - 1) = false := by rw [bne_eq_false_iff_eq]
        clear y1 p3 e1 e2 I
        go_upto_region 9 with (fail)
        go_quiet (fail)
        go_wp2
        go_roundw
        case rel => exact ⟨s + 1, by omega, by go_num, below_drewN BZ.out _⟩
        case measure => simp [intOf]; omega
    · obtain rfl : s = S := by omega
      go_wp2
      go_ret
      exact ⟨rfl, B8.out⟩

set_option maxRecDepth 100000 in
set_option maxHeartbeats 4000000 in
theorem tright_yes (AH : Option Addr) (cH : Nat) (AN : Option Addr) (cN : Nat) (T : Tr) (w : World) (h : TS w AH AN T) (ht : Rt T) :
    Calls Try.prog 66 #[.agg #[.int .i64 T.st, .slice AH T.n cH, .slice AN T.m cN]] w fun e w' => e = .returned (.bool true) ∧ Below w.heap.size w w' := by
  have PO := Lib.hid (fun w' (hb : Below w.heap.size w w') => possible_yes T.st AH T.n cH T.f w' (h.1.later hb) ht.hd ht.s1 ht.s2)
  have ND := Lib.hid (fun w' (hb : Below w.heap.size w w') i hi => rightNode_yes AH cH AN cN T i w' (h.2.later hb) ht hi)
  have HN := Lib.hid (fun w' (hb : Below w.heap.size w w') => h.2.below hb)
  have m1 := ht.m1
  have m2 := ht.m2
  have TP := Lib.hid ht.top
  clear h ht
  obtain ⟨st, n, f, m, lv, nx⟩ := T
  simp only at *
  have K1 := Blk.new w 25 #[.int .i64 st, .slice AH n cH, .slice AN m cN]
  have B1 : Below w.heap.size w (w.alloc (.cells #[.int .i64 st, .slice AH n cH, .slice AN m cN] 25)) := (Below.refl _ _).alloc (Nat.le_refl _) _
  have d1 : decide ((m : Int) < 1) = false := by rw [decide_eq_false_iff_not]; omega
  have d2 : decide (4096 < (m : Int)) = false := by rw [decide_eq_false_iff_not]; omega
  go_enter Try.func66, Try.ntmps66
  go_wp2_with fail
  generalize w.alloc (.cells #[.int .i64 st, .slice AH n cH, .slice AN m cN] 25) = w0 at *
  obtain ⟨a0, a1, a2, a3⟩ := K1.three
  have K1 := Lib.hid K1
  have B1 := Lib.hid B1
  go_wp2_with (go_at_call 77; (with_reducible refine (PO.out _ B1.out).mono ?_); rintro e w1 ⟨rfl, hb⟩; have B2 := Lib.hid (B1.out.trans (hb.mono B1.out.size)); have K2 := Lib.hid (K1.out.below hb K1.out.lt); obtain ⟨b0, b1, b2, b3⟩ := K2.out.three; clear hb)
  go_loopw [25] (fun iv wr => ∃ j : Nat, j ≤ m ∧ iv = .int .i64 (j : Int) ∧ Below w1.heap.size w1 wr) (fun iv _ => m - (intOf iv).toNat)
  case atStart => exact ⟨0, Nat.zero_le _, rfl, Below.refl _ _⟩
  case round =>
    obtain ⟨j, hj, rfl, hbel⟩ := hrel
    have B4 := Lib.hid (B2.out.trans (hbel.mono B2.out.size))
    have K4 := Lib.hid (K2.out.below hbel K2.out.lt)
    have BX := Lib.hid hbel
    clear a0 a1 a2 a3 b0 b1 b2 b3 hbel
    obtain ⟨a0, a1, a2, a3⟩ := K4.out.three
    by_cases hlt : j < m
    · go_wp2_with (go_at_call 78; (with_reducible refine (ND.out _ B4.out _ hlt).mono ?_); rintro e w2 ⟨rfl, hb⟩; have B5 := Lib.hid (BX.out.trans (hb.mono BX.out.size)); clear hb)
      go_roundw
      case rel => exact ⟨j + 1, by omega, by go_num, B5.out⟩
      case measure => simp [intOf]; omega
    · obtain rfl : j = m := by omega
      obtain ⟨i, hi⟩ : ∃ i, j = i + 1 := ⟨j - 1, by omega⟩
      obtain ⟨g1, o1, rfl, hb1, hc⟩ := HN.out _ B4.out (by omega)
      obtain ⟨A', c', h1, -, -⟩ := hc i (by omega)
      have hw1 : IntKind.i64.wrap ((j : Int) - 1) = (i : Int) := by rw [show (j : Int) - 1 = (i : Int) by omega]; exact IntWalk.i64_in _ (by omega)
      have tp := TP.out
      rw [show j - 1 = i by omega] at tp
      rw [tp] at h1
      have hij : i < j := by omega
      clear hc hlt hi tp
      go_wp2_with fail
      go_quiet (fail)
      go_wp2
      go_ret
      exact ⟨rfl, below_drewN B4.out _⟩
end Go.Proofs.Ytaicehkphokacaa
