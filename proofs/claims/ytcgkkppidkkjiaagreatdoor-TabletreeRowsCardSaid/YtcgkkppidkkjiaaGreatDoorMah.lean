/- Rule trees as values: what a list of nodes and a tree read as; valid trees. -/
/- The walks of possible, rightNode and Right at valid trees. -/
/- The walks of the reference's Right at valid neighbourhoods and trees. -/
/- The walk of slices.Clone, slices.Compact, point.Sort and image. -/
import Derived.Test.YtcgkkppidkkjiaaGreatDoorMaa
import Derived.Test.YtcgkkppidkkjiaaGreatDoorMac
import Derived.Below
import Derived.BigQuiet
import Derived.Deep.AppendLies
import Derived.Deep.CutRange
import Derived.Deep.Draws
import Derived.Deep.QuietTactic
import Derived.IntWalk
import Derived.Laws.OwnMore
import Derived.Laws.Rows
import Derived.Lib.Hide
import Derived.LoopN
import Derived.OwnWalk
import Derived.StillTail
import Derived.StillTailTactics
import Derived.Test.YtcgkkppidkkjiaaGreatDoorRows
import Derived.WalkKit
import Derived.Test.YtcgkkppidkkjiaaGreatDoorMab
import Derived.Test.YtcgkkppidkkjiaaGreatDoorMaf
import Derived.Test.YtcgkkppidkkjiaaGreatDoorMag
import Derived.Lib.SliceRun
import Derived.Sort.Statements
namespace Go.Proofs.YtcgkkppidkkjiaaGreatDoor
open Go.RowKit
section
variable {w w' : World} {B B' m : Nat} {A : Option Addr} {lv : Nat → Int} {nx : Nat → List Int}
end
theorem isState_anyR (s n : Int) (w : World) : Calls Tryz.prog 83 #[.int .i64 s, .int .i64 n] w fun e w' => e = .returned (.bool (sta s n)) ∧ w = w' := by
  by_cases h : 0 ≤ n
  · rw [sta, decide_eq_true h]
    go_enter Tryz.func83, Tryz.ntmps83
    go_wp2
    go_ret
    exact ⟨ret_bool (by simp), rfl⟩
  · rw [sta, decide_eq_false h]
    go_enter Tryz.func83, Tryz.ntmps83
    go_wp2
    go_ret
    exact ⟨rfl, rfl⟩
end Go.Proofs.YtcgkkppidkkjiaaGreatDoor
namespace Go.Proofs.YtcgkkppidkkjiaaGreatDoor
open Go.RowKit
theorem possible_yes (st : Int) (AH : Option Addr) (n cH : Nat) (f : Nat → P2) (w : World) (h : QReads w w.heap.size AH n f) (hd : Hd f n) (s1 : 2 ≤ st) (s2 : st ≤ 8) :
    Calls Tryz.prog 53 #[.int .i64 st, .slice AH n cH] w fun e w' => e = .returned (.bool true) ∧ Below w.heap.size w w' := by
  have HR := Lib.hid (hright_any AH n cH f w h hd)
  clear h hd
  go_enter Tryz.func53, Tryz.ntmps53
  go_wp2_with (go_at_call 37; (with_reducible refine HR.out.mono ?_); rintro e w1 ⟨rfl, hb⟩; have B1 := Lib.hid hb; clear hb)
  go_ret
  exact ⟨rfl, B1.out⟩
set_option maxRecDepth 100000 in
set_option maxHeartbeats 4000000 in
theorem rightNode_yes (AH : Option Addr) (cH : Nat) (AN : Option Addr) (cN : Nat) (T : Tr) (i : Nat) (w : World) (h : NR w w.heap.size AN T.m T.lv T.nx) (ht : Rtt T) (hi : i < T.m) :
    Calls Tryz.prog 54 #[.agg #[.int .i64 T.st, .slice AH T.n cH, .slice AN T.m cN], .int .i64 (i : Int)] w fun e w' => e = .returned (.bool true) ∧ Below w.heap.size w w' := by
  obtain ⟨b1, b2, b3, b4⟩ := ht.nd i hi
  have s1 := ht.s1
  have s2 := ht.s2
  have m2 := ht.m2
  have n2 := ht.hd.1.2
  clear ht
  obtain ⟨st, n, f, m, lv, nx⟩ := T
  simp only at *
  obtain ⟨S, rfl⟩ : ∃ S : Nat, st = (S : Int) := ⟨st.toNat, by omega⟩
  have K1 := Blk.new w 32 #[.int .i64 (S : Int), .slice AH n cH, .slice AN m cN]
  have B1 : Below w.heap.size w (w.alloc (.cells #[.int .i64 (S : Int), .slice AH n cH, .slice AN m cN] 32)) := (Below.refl _ _).alloc (Nat.le_refl _) _
  obtain ⟨g1, o1, rfl, hb1, hc⟩ := h.below B1 (by omega)
  obtain ⟨A', c', h1, h2, hr⟩ := hc i hi
  have hE : (nx i).length = S := by omega
  rw [hE] at h2 hr b4
  clear h b3 hE
  have HC := Lib.hid (fun k (hk : k < m) => (hc k hk))
  have HE := Lib.hid b4
  clear hc b4
  generalize nx i = X at hr HE
  generalize lv i = l at h1 HE b1 b2
  have f1 : decide (l < 1) = false := by rw [decide_eq_false_iff_not]; omega
  have f2 : decide ((n : Int) < l) = false := by rw [decide_eq_false_iff_not]; omega
  have f3 : ((S : Int) != (S : Int)) = false := by rw [bne_eq_false_iff_eq]
  have IS := Lib.hid (fun k w => isState_anyR (S : Int) k w)
  have hz : (w.alloc (.cells #[.int .i64 (S : Int), .slice AH n cH, .slice (some ⟨g1, o1, none⟩) m cN] 32)).heap.size = w.heap.size + 1 := by simp
  go_enter Tryz.func54, Tryz.ntmps54
  go_wp2_with fail
  generalize w.alloc (.cells #[.int .i64 (S : Int), .slice AH n cH, .slice (some ⟨g1, o1, none⟩) m cN] 32) = w0 at *
  obtain ⟨a0, a1, a2, a3⟩ := K1.three
  have hg1 : g1 < w0.heap.size := Nat.lt_of_lt_of_le hb1 B1.size
  have BY := (Below.refl w0.heap.size w0).alloc (Nat.le_refl _) (.cells #[.int .i64 l, .slice A' S c'] 66)
  have K7 := (Blk.new w0 66 #[.int .i64 l, .slice A' S c'])
  rw [hz] at K7
  have K7 := Lib.hid K7
  clear hz
  have K5 := Lib.hid (K1.alloc (.cells #[.int .i64 l, .slice A' S c'] 66))
  have RX := Lib.hid (hr.below (BY.mono B1.size))
  have B7 := Lib.hid (B1.trans (BY.mono B1.size))
  have BY := Lib.hid BY
  clear hr
  go_upto_region 2 with (fail)
  generalize w0.alloc (.cells #[.int .i64 l, .slice A' S c'] 66) = w7 at *
  clear a0 a1 a2 a3 h1 h2
  obtain ⟨a0, a1, a2, a3⟩ := K5.out.three
  obtain ⟨k0, k1, k2, k3, k4⟩ := K7.out.two
  go_wp2
  go_loopw [35] (fun iv wr => ∃ s : Nat, s ≤ S ∧ iv = .int .i64 (s : Int) ∧ Below w7.heap.size w7 wr) (fun iv _ => S - (intOf iv).toNat)
  case atStart => exact ⟨0, Nat.zero_le _, rfl, Below.refl _ _⟩
  case round =>
    obtain ⟨s, hs, rfl, hbel⟩ := hrel
    have K8 := Lib.hid (K7.out.below hbel K7.out.lt)
    have K9 := Lib.hid (K5.out.below hbel K5.out.lt)
    have B8 := Lib.hid (B7.out.trans (hbel.mono B7.out.size))
    have BZ := Lib.hid hbel
    clear a0 a1 a2 a3 k0 k1 k2 k3 k4 hbel
    obtain ⟨a0, a1, a2, a3⟩ := K9.out.three
    obtain ⟨k0, k1, k2, k3, k4⟩ := K8.out.two
    by_cases hsl : s < S
    · obtain ⟨ad, rfl, hb, hx⟩ := il_at (RX.out.below (BZ.out.mono B7.out.size)) hsl
      obtain ⟨p0, e1, e2⟩ := HE.out s hsl
      generalize ig X s = k at hx p0 e1 e2
      have I := IS.out k
      by_cases p1 : l = 1
      · have p2 := e1 p1
        rw [show sta (S : Int) k = true from (sta_iff _ _).2 ⟨p0, p2⟩] at I
        have I := Lib.hid I
        subst p1
        have q1 : decide ((1 : Int) < 1) = false := by decide
        clear e1 e2
        go_upto_region 9 with (go_at_call 83; (with_reducible refine (I.out _).mono ?_); rintro e w' ⟨rfl, rfl⟩)
        go_quiet (fail)
        go_wp2
        go_roundw
        case rel => exact ⟨s + 1, by omega, by go_num, below_drewN BZ.out _⟩
        case measure => simp [intOf]; omega
      · have q0 : (l == 1) = false := by rw [beq_eq_false_iff_ne]; exact p1
        have q1 : decide (1 < l) = true := by rw [decide_eq_true_iff]; omega
        obtain ⟨p2, p3⟩ := e2 (by omega)
        obtain ⟨kn, rfl⟩ : ∃ kn : Nat, k = (kn : Int) := ⟨k.toNat, by omega⟩
        rw [Int.toNat_natCast] at p3
        have hkm : kn < m := by omega
        have q0n : decide ((kn : Int) < 0) = false := by rw [decide_eq_false_iff_not]; omega
        have q2 : decide ((i : Int) ≤ (kn : Int)) = false := by rw [decide_eq_false_iff_not]; omega
        have q2n : decide (i ≤ kn) = false := by rw [decide_eq_false_iff_not]; omega
        obtain ⟨A2, c2, y1, -, -⟩ := HC.out kn hkm
        have y2 := (BZ.out.cell (p := ⟨g1, o1 + kn * 2, none⟩) (Nat.lt_of_lt_of_le hg1 BY.out.size)).trans ((BY.out.cell (p := ⟨g1, o1 + kn * 2, none⟩) hg1).trans y1)
        rw [p3] at y2
        have hw : IntKind.i64.wrap (l - 1) = l - 1 := IntWalk.i64_in _ (by omega)
        have q3 : (l - 1 != l - 1) = false := by rw [bne_eq_false_iff_eq]
        clear y1 p3 e1 e2 I
        go_upto_region 9 with (fail)
        go_quiet (fail)
        go_wp2
        go_roundw
        case rel => exact ⟨s + 1, by omega, by go_num, below_drewN BZ.out _⟩
        case measure => simp [intOf]; omega
    · obtain rfl : s = S := by omega
      go_wp2
      go_ret
      exact ⟨rfl, B8.out⟩

set_option maxRecDepth 100000 in
set_option maxHeartbeats 4000000 in
theorem tright_yes (AH : Option Addr) (cH : Nat) (AN : Option Addr) (cN : Nat) (T : Tr) (w : World) (h : TS w AH AN T) (ht : Rtt T) :
    Calls Tryz.prog 32 #[.agg #[.int .i64 T.st, .slice AH T.n cH, .slice AN T.m cN]] w fun e w' => e = .returned (.bool true) ∧ Below w.heap.size w w' := by
  have PO := Lib.hid (fun w' (hb : Below w.heap.size w w') => possible_yes T.st AH T.n cH T.f w' (h.1.later hb) ht.hd ht.s1 ht.s2)
  have ND := Lib.hid (fun w' (hb : Below w.heap.size w w') i hi => rightNode_yes AH cH AN cN T i w' (h.2.later hb) ht hi)
  have HN := Lib.hid (fun w' (hb : Below w.heap.size w w') => h.2.below hb)
  have m1 := ht.m1
  have m2 := ht.m2
  have TP := Lib.hid ht.top
  clear h ht
  obtain ⟨st, n, f, m, lv, nx⟩ := T
  simp only at *
  have K1 := Blk.new w 32 #[.int .i64 st, .slice AH n cH, .slice AN m cN]
  have B1 : Below w.heap.size w (w.alloc (.cells #[.int .i64 st, .slice AH n cH, .slice AN m cN] 32)) := (Below.refl _ _).alloc (Nat.le_refl _) _
  have d1 : decide ((m : Int) < 1) = false := by rw [decide_eq_false_iff_not]; omega
  have d2 : decide (4096 < (m : Int)) = false := by rw [decide_eq_false_iff_not]; omega
  go_enter Tryz.func32, Tryz.ntmps32
  go_wp2_with fail
  generalize w.alloc (.cells #[.int .i64 st, .slice AH n cH, .slice AN m cN] 32) = w0 at *
  obtain ⟨a0, a1, a2, a3⟩ := K1.three
  have K1 := Lib.hid K1
  have B1 := Lib.hid B1
  go_wp2_with (go_at_call 53; (with_reducible refine (PO.out _ B1.out).mono ?_); rintro e w1 ⟨rfl, hb⟩; have B2 := Lib.hid (B1.out.trans (hb.mono B1.out.size)); have K2 := Lib.hid (K1.out.below hb K1.out.lt); obtain ⟨b0, b1, b2, b3⟩ := K2.out.three; clear hb)
  go_loopw [25] (fun iv wr => ∃ j : Nat, j ≤ m ∧ iv = .int .i64 (j : Int) ∧ Below w1.heap.size w1 wr) (fun iv _ => m - (intOf iv).toNat)
  case atStart => exact ⟨0, Nat.zero_le _, rfl, Below.refl _ _⟩
  case round =>
    obtain ⟨j, hj, rfl, hbel⟩ := hrel
    have B4 := Lib.hid (B2.out.trans (hbel.mono B2.out.size))
    have K4 := Lib.hid (K2.out.below hbel K2.out.lt)
    have BX := Lib.hid hbel
    clear a0 a1 a2 a3 b0 b1 b2 b3 hbel
    obtain ⟨a0, a1, a2, a3⟩ := K4.out.three
    by_cases hlt : j < m
    · go_wp2_with (go_at_call 54; (with_reducible refine (ND.out _ B4.out _ hlt).mono ?_); rintro e w2 ⟨rfl, hb⟩; have B5 := Lib.hid (BX.out.trans (hb.mono BX.out.size)); clear hb)
      go_roundw
      case rel => exact ⟨j + 1, by omega, by go_num, B5.out⟩
      case measure => simp [intOf]; omega
    · obtain rfl : j = m := by omega
      obtain ⟨i, hi⟩ : ∃ i, j = i + 1 := ⟨j - 1, by omega⟩
      obtain ⟨g1, o1, rfl, hb1, hc⟩ := HN.out _ B4.out (by omega)
      obtain ⟨A', c', h1, -, -⟩ := hc i (by omega)
      have hw1 : IntKind.i64.wrap ((j : Int) - 1) = (i : Int) := by rw [show (j : Int) - 1 = (i : Int) by omega]; exact IntWalk.i64_in _ (by omega)
      have tp := TP.out
      rw [show j - 1 = i by omega] at tp
      rw [tp] at h1
      have hij : i < j := by omega
      clear hc hlt hi tp
      go_wp2_with fail
      go_quiet (fail)
      go_wp2
      go_ret
      exact ⟨rfl, below_drewN B4.out _⟩
end Go.Proofs.YtcgkkppidkkjiaaGreatDoor
namespace Go.Proofs.YtcgkkppidkkjiaaGreatDoor
open Go.RowKit

set_option maxRecDepth 100000 in
set_option maxHeartbeats 4000000 in
theorem rright_yes (A : Option Addr) (n c : Nat) (f : Nat → P2) (w : World) (h : QReads w w.heap.size A n f) (hd : Hd f n) :
    Calls Tryz.prog 30 #[.slice A n c] w fun e w' => e = .returned (.bool true) ∧ Below w.heap.size w w' := by
  obtain ⟨⟨hn1, hn2⟩, hof, hup⟩ := hd
  have HOF := Lib.hid hof
  have HUP := Lib.hid (fun i (hi : i + 1 < n) => hup i (by omega))
  have hl1 : decide ((n : Int) < 1) = false := by rw [decide_eq_false_iff_not]; omega
  have hl2 : decide (25 < (n : Int)) = false := by rw [decide_eq_false_iff_not]; omega
  have H := Lib.hid h
  clear h hof hup
  go_enter Tryz.func30, Tryz.ntmps30
  go_wp2
  go_loopw [3] (fun iv wr => ∃ j : Nat, j ≤ n ∧ iv = .int .i64 (j : Int) ∧ Below w.heap.size w wr) (fun iv _ => n - (intOf iv).toNat)
  case atStart => exact ⟨0, Nat.zero_le _, rfl, Below.refl _ _⟩
  case round =>
    obtain ⟨j, hj, rfl, hbel⟩ := hrel
    have R := H.out.below hbel
    have HB := Lib.hid hbel
    by_cases hjn : j < n
    · obtain ⟨g1, o1, rfl, hb1, hc1⟩ := R (by omega)
      have c1 := hc1 j hjn
      have hgw : g1 < wr.heap.size := Nat.lt_of_lt_of_le hb1 hbel.size
      have hx4 := HOF.out j hjn
      clear hbel
      obtain ⟨⟨x1, x2⟩, hx⟩ : ∃ x, x = f j := ⟨_, rfl⟩
      rw [← hx] at c1 hx4
      obtain ⟨c10, c11⟩ := c1
      simp only at c10 c11 hx4
      have K7 := Lib.hid (Blk.new wr 58 #[.int .i64 x1, .int .i64 x2])
      have B7 := Lib.hid (HB.out.alloc HB.out.size (.cells #[.int .i64 x1, .int .i64 x2] 58))
      have BW := Lib.hid ((Below.refl wr.heap.size wr).alloc (Nat.le_refl _) (.cells #[.int .i64 x1, .int .i64 x2] 58))
      have S7 : wr.heap.size < (wr.alloc (.cells #[.int .i64 x1, .int .i64 x2] 58)).heap.size := by simp
      have e1 : decide (x1 < -2) = false := decide_eq_false (by omega)
      have e2 : decide (2 < x1) = false := decide_eq_false (by omega)
      have e3 : decide (x2 < -2) = false := decide_eq_false (by omega)
      have e4 : decide (2 < x2) = false := decide_eq_false (by omega)
      clear hx4
      by_cases hj0 : j = 0
      · subst hj0
        have d0 : decide ((0 : Int) < 0) = false := by decide
        have d00 : decide ((0 : Nat) < 0) = false := by decide
        simp only [Nat.zero_mul, Nat.add_zero, Nat.zero_add] at c10 c11
        clear hc1 R hx
        go_wp2_with fail
        generalize wr.alloc (.cells #[.int .i64 x1, .int .i64 x2] 58) = w1 at K7 B7 BW S7 ⊢
        obtain ⟨q0, q1, q2, q3, q4⟩ := K7.out.two
        go_quiet (fail)
        go_wp2
        go_roundw
        case rel => exact ⟨0 + 1, by omega, by go_num, below_drewN B7.out _⟩
        case measure => simp [intOf]; omega
      · obtain ⟨i, hi⟩ : ∃ i, j = i + 1 := ⟨j - 1, by omega⟩
        have hin : i < n := by omega
        have e0 : (j : Int) - 1 = (i : Int) := by omega
        have hd1 : decide (0 < (j : Int)) = true := by rw [decide_eq_true_iff]; omega
        have hd2 : decide (0 < j) = true := by rw [decide_eq_true_iff]; omega
        have hw1 : IntKind.i64.wrap ((j : Int) - 1) = (i : Int) := by rw [e0]; exact IntWalk.i64_in _ (by omega)
        have c2 := hc1 i hin
        have hpc := HUP.out i (by omega)
        rw [← hi, ← hx] at hpc
        obtain ⟨⟨y1, y2⟩, hy⟩ : ∃ y, y = f i := ⟨_, rfl⟩
        rw [← hy] at c2 hpc
        have P := fun w => before_any y1 y2 x1 x2 w
        rw [decide_eq_true hpc] at P
        have PH := Lib.hid P
        have C2 := Lib.hid c2
        clear hc1 R hx hy hi hj0 c2 e0 P hpc
        go_wp2_with fail
        generalize wr.alloc (.cells #[.int .i64 x1, .int .i64 x2] 58) = w1 at K7 B7 BW S7 ⊢
        have d0 := fun p : LowW w1.heap.size w1 => LowW.cell (a := ⟨g1, o1 + i * 2, none⟩) (Nat.lt_of_lt_of_le hgw BW.out.size) ((BW.out.cell hgw).trans C2.out.1) p
        have d1 := fun p : LowW w1.heap.size w1 => LowW.cell (a := ⟨g1, o1 + i * 2 + 1, none⟩) (Nat.lt_of_lt_of_le hgw BW.out.size) ((BW.out.cell hgw).trans C2.out.2) p
        have q0 := fun p : LowW w1.heap.size w1 => (K7.out.below p.below K7.out.lt).two.1
        have q1 := fun p : LowW w1.heap.size w1 => (K7.out.below p.below K7.out.lt).two.2.1
        clear c10 c11
        refine wp_region_low w1.heap.size w1 (by kernel_rfl) (by kernel_rfl) (Below.refl _ _) ?_
        repeat (quiet_step (first | (go_at_call 52; with_reducible exact LowW.of_call _ (Nat.le_refl _) (PH.out _))))
        refine wpQuiet_nil ?_
        rintro w3 ⟨p, rfl⟩
        have B3 := Lib.hid (B7.out.trans (p.below.mono B7.out.size))
        clear d0 d1 q0 q1 hw1
        generalize p.w = w3 at B3 ⊢
        go_wp2
        go_roundw
        case rel => exact ⟨j + 1, by omega, by go_num, B3.out⟩
        case measure => simp [intOf]; omega
    · obtain rfl : j = n := by omega
      clear R hbel
      go_wp2
      go_ret
      exact ⟨rfl, HB.out⟩
set_option maxRecDepth 100000 in
set_option maxHeartbeats 4000000 in
theorem rr_yes (AH : Option Addr) (cH : Nat) (AN : Option Addr) (cN : Nat) (T : Tr) (w : World) (h : TS w AH AN T) (ht : Rtt T) :
    Calls Tryz.prog 21 #[.agg #[.int .i64 T.st, .slice AH T.n cH, .slice AN T.m cN]] w fun e w' => e = .returned (.bool true) ∧ Below w.heap.size w w' := by
  obtain ⟨hH, hN⟩ := h
  have s1 := ht.s1
  have s2 := ht.s2
  have m1 := ht.m1
  have m2 := ht.m2
  have n25 := ht.hd.1.2
  have ND := Lib.hid ht.nd
  have TOP := Lib.hid ht.top
  have HD := ht.hd
  clear ht
  obtain ⟨st, n, f, m, lv, nx⟩ := T
  simp only at *
  have HR := Lib.hid (fun w' (hb : Below w.heap.size w w') => rright_yes AH n cH f w' (hH.later hb) HD)
  have HN := Lib.hid (fun w' (hb : Below w.heap.size w w') => hN.below hb)
  have K1 := Blk.new w 32 #[.int .i64 st, .slice AH n cH, .slice AN m cN]
  have B1 : Below w.heap.size w (w.alloc (.cells #[.int .i64 st, .slice AH n cH, .slice AN m cN] 32)) := (Below.refl _ _).alloc (Nat.le_refl _) _
  clear hH hN HD
  have e1 : decide (st < 2) = false := by rw [decide_eq_false_iff_not]; omega
  have e2 : decide (8 < st) = false := by rw [decide_eq_false_iff_not]; omega
  have d2 : decide (4096 < (m : Int)) = false := by rw [decide_eq_false_iff_not]; omega
  have d1 : decide ((m : Int) < 1) = false := by rw [decide_eq_false_iff_not]; omega
  obtain ⟨S, rfl⟩ : ∃ S : Nat, st = (S : Int) := ⟨st.toNat, by omega⟩
  go_enter Tryz.func21, Tryz.ntmps21
  go_wp2_with fail
  generalize w.alloc (.cells #[.int .i64 (S : Int), .slice AH n cH, .slice AN m cN] 32) = w0 at K1 B1 ⊢
  obtain ⟨a0, a1, a2, a3⟩ := K1.three
  have K1 := Lib.hid K1
  have B1 := Lib.hid B1
  go_wp2_with fail
  go_at_call 30
  refine (HR.out _ B1.out).mono ?_
  rintro e w1 ⟨rfl, hb⟩
  have B2 := Lib.hid (B1.out.trans (hb.mono B1.out.size))
  have K2 := Lib.hid (K1.out.below hb K1.out.lt)
  clear a0 a1 a2 a3 hb
  obtain ⟨a0, a1, a2, a3⟩ := K2.out.three
  go_wp2
  go_loopw [4] (fun iv wr => ∃ j : Nat, j ≤ m ∧ iv = .int .i64 (j : Int) ∧ Below w1.heap.size w1 wr) (fun iv _ => m - (intOf iv).toNat)
  case atStart => exact ⟨0, Nat.zero_le _, rfl, Below.refl _ _⟩
  case round =>
    obtain ⟨j, hj, rfl, hbel⟩ := hrel
    have B4 := Lib.hid (B2.out.trans (hbel.mono B2.out.size))
    have K4 := Lib.hid (K2.out.below hbel K2.out.lt)
    have BX := Lib.hid hbel
    clear a0 a1 a2 a3 hbel
    obtain ⟨a0, a1, a2, a3⟩ := K4.out.three
    obtain ⟨wo, rfl⟩ : ∃ wo, wo = wr := ⟨_, rfl⟩
    by_cases hlt : j < m
    · obtain ⟨g1, o1, rfl, hb1, hc⟩ := HN.out _ B4.out (by omega)
      obtain ⟨A', c', h1, h2, hr⟩ := hc j hlt
      have HC := Lib.hid (fun k (hk : k < m) => (hc k hk))
      obtain ⟨b1, b2, b3, b4⟩ := ND.out j hlt
      have hXS : (nx j).length = S := by omega
      rw [hXS] at h2 hr b4
      have HEL := Lib.hid b4
      generalize nx j = X at hr HEL
      generalize hlj : lv j = l at h1 b1 b2 HEL
      clear hlj hc b3 hXS b4
      have h1' := (Below.alloc (Below.refl wo.heap.size wo) (Nat.le_refl _) (.cells #[.int .i64 l, .slice A' S c'] 66))
      have K7 := Lib.hid (Blk.new wo 66 #[.int .i64 l, .slice A' S c'])
      have B7 := Lib.hid (B4.out.trans (h1'.mono B4.out.size))
      have BY := Lib.hid h1'
      have RX := Lib.hid (show Reads (wo.alloc (.cells #[.int .i64 l, .slice A' S c'] 66)) w.heap.size A' S (il X) from (hr.below (h1'.mono B4.out.size)))
      have K5 := Lib.hid (K4.out.below h1' K4.out.lt)
      have hg1 : g1 < wo.heap.size := Nat.lt_of_lt_of_le hb1 B4.out.size
      clear hr h1'
      have f1 : decide (l < 1) = false := by rw [decide_eq_false_iff_not]; omega
      have f2 : decide ((n : Int) < l) = false := by rw [decide_eq_false_iff_not]; omega
      have f3 : ((S : Int) != (S : Int)) = false := by rw [bne_eq_false_iff_eq]
      go_upto_region 8 with (fail)
      generalize wo.alloc (.cells #[.int .i64 l, .slice A' S c'] 66) = w7 at K7 B7 BY RX K5 ⊢
      clear a0 a1 a2 a3 h1 h2
      obtain ⟨a0, a1, a2, a3⟩ := K5.out.three
      obtain ⟨k0, k1, k2, k3, k4⟩ := K7.out.two
      go_wp2
      go_loopw [6] (fun iv wr => ∃ s : Nat, s ≤ S ∧ iv = .int .i64 (s : Int) ∧ Below w7.heap.size w7 wr) (fun iv _ => S - (intOf iv).toNat)
      case atStart => exact ⟨0, Nat.zero_le _, rfl, Below.refl _ _⟩
      case round =>
        obtain ⟨s, hs, rfl, hbel⟩ := hrel
        have K8 := Lib.hid (K7.out.below hbel K7.out.lt)
        have K9 := Lib.hid (K5.out.below hbel K5.out.lt)
        have B8 := Lib.hid (B7.out.trans (hbel.mono B7.out.size))
        have BZ := Lib.hid hbel
        clear a0 a1 a2 a3 k0 k1 k2 k3 k4 hbel
        obtain ⟨a0, a1, a2, a3⟩ := K9.out.three
        obtain ⟨k0, k1, k2, k3, k4⟩ := K8.out.two
        by_cases hsl : s < S
        · obtain ⟨ad, rfl, hb, hx⟩ := il_at (RX.out.below (BZ.out.mono B7.out.size)) hsl
          obtain ⟨p0, pa, pb⟩ := HEL.out s hsl
          generalize ig X s = k at hx p0 pa pb
          have g0 : decide (k < 0) = false := by rw [decide_eq_false_iff_not]; omega
          by_cases p1 : l = 1
          · subst p1
            have q1 : decide ((1 : Int) < 1) = false := by decide
            have p2 := pa (by omega)
            have q2 : decide ((S : Int) ≤ k) = false := by rw [decide_eq_false_iff_not]; omega
            clear pa pb
            go_wp2_with fail
            go_quiet (fail)
            go_wp2
            go_roundw
            case rel => exact ⟨s + 1, by omega, by go_num, below_drewN BZ.out _⟩
            case measure => simp [intOf]; omega
          · have q0 : (l == 1) = false := by rw [beq_eq_false_iff_ne]; exact p1
            have q1 : decide (1 < l) = true := by rw [decide_eq_true_iff]; omega
            obtain ⟨p2, p3⟩ := pb (by omega)
            have q2 : decide ((j : Int) ≤ k) = false := by rw [decide_eq_false_iff_not]; omega
            obtain ⟨kn, rfl⟩ : ∃ kn : Nat, k = (kn : Int) := ⟨k.toNat, by omega⟩
            rw [Int.toNat_natCast] at p3
            have hkm : kn < m := by omega
            have q2n : decide (j ≤ kn) = false := by rw [decide_eq_false_iff_not]; omega
            obtain ⟨A2, c2, y1, -, -⟩ := HC.out kn hkm
            have y2 := (BZ.out.cell (p := ⟨g1, o1 + kn * 2, none⟩) (Nat.lt_of_lt_of_le hg1 BY.out.size)).trans ((BY.out.cell (p := ⟨g1, o1 + kn * 2, none⟩) hg1).trans y1)
            clear y1 pa pb
            generalize lv kn = l' at y2 p3
            have hw : IntKind.i64.wrap (l - 1) = l - 1 := IntWalk.i64_in _ (by omega)
            have q3 : (l' != l - 1) = false := by rw [bne_eq_false_iff_eq]; exact p3
            clear p3
            go_wp2_with fail
            go_quiet (fail)
            go_wp2
            go_roundw
            case rel => exact ⟨s + 1, by omega, by go_num, below_drewN BZ.out _⟩
            case measure => simp [intOf]; omega
        · obtain rfl : s = S := by omega
          go_wp2
          go_roundw
          case rel => exact ⟨j + 1, by omega, by go_num, BX.out.trans ((BY.out.trans (BZ.out.mono BY.out.size)).mono BX.out.size)⟩
          case measure => simp [intOf]; omega
    · obtain rfl : j = m := by omega
      obtain ⟨i, hi⟩ : ∃ i, j = i + 1 := ⟨j - 1, by omega⟩
      obtain ⟨g1, o1, rfl, hb1, hc⟩ := HN.out _ B4.out (by omega)
      obtain ⟨A', c', h1, -, -⟩ := hc i (by omega)
      have hw1 : IntKind.i64.wrap ((j : Int) - 1) = (i : Int) := by rw [show (j : Int) - 1 = (i : Int) by omega]; exact IntWalk.i64_in _ (by omega)
      have hl := TOP.out
      rw [show j - 1 = i by omega] at hl
      have hij : i < j := by omega
      generalize lv i = l at h1 hl
      have q : (l == (n : Int)) = true := by rw [beq_iff_eq]; exact hl
      clear hc hlt hi hl
      go_wp2_with fail
      go_quiet (fail)
      go_wp2
      go_ret
      exact ⟨rfl, below_drewN B4.out _⟩
end Go.Proofs.YtcgkkppidkkjiaaGreatDoor
namespace Go.Proofs.YtcgkkppidkkjiaaGreatDoor
open Go.RowKit
theorem cells2_one (f : Nat → P2) (n : Nat) : ∀ u ∈ cells2 f n, u.oneCell' = true := by
  induction n with
  | zero => intro u hu; cases hu
  | succ n ih =>
    intro u hu
    rw [cells2, List.mem_append] at hu
    rcases hu with hu | hu
    · exact ih u hu
    · simp at hu
      rcases hu with rfl | rfl <;> rfl
theorem cells2_cell {w : World} {g o n : Nat} {f : Nat → P2} (h : ∀ k, k < n → w.cell? ⟨g, o + k * 2, none⟩ = some (.int .i64 (f k).1) ∧ w.cell? ⟨g, o + k * 2 + 1, none⟩ = some (.int .i64 (f k).2))
    (j : Nat) (u : Value) (hj : (cells2 f n)[j]? = some u) : w.cell? ((⟨g, o, none⟩ : Addr).add j) = some u := by
  have hl := cells2_len f n
  have hlt : j < n * 2 := by
    rcases Nat.lt_or_ge j (n * 2) with h | h
    · exact h
    · rw [List.getElem?_eq_none (by omega)] at hj; cases hj
  have hq : j / 2 < n := by omega
  obtain ⟨c1, c2⟩ := cells2_at f n (j / 2) hq
  obtain ⟨d1, d2⟩ := h (j / 2) hq
  have hadd : ((⟨g, o, none⟩ : Addr).add j) = ⟨g, o + j, none⟩ := by
    unfold Addr.add
    split
    · next e => subst e; rfl
    · rfl
  rw [hadd]
  have hm : j % 2 = 0 ∨ j % 2 = 1 := by omega
  rcases hm with hm | hm
  · have e : j / 2 * 2 = j := by omega
    rw [e] at c1 d1
    rw [c1] at hj
    rw [← hj]; exact d1
  · have e : j / 2 * 2 + 1 = j := by omega
    rw [Nat.add_assoc, e] at d2
    rw [e] at c2
    rw [c2] at hj
    rw [← hj]; exact d2

set_option maxRecDepth 100000 in
set_option maxHeartbeats 1000000 in
theorem clone_some (ad : Addr) (n c : Nat) (f : Nat → P2) (w : World) (h : QReads w w.heap.size (some ad) n f) (hn : n ≤ 5000) :
    Calls Tryz.prog 35 #[.slice (some ad) n c] w fun e w' => ∃ A' c', e = .returned (.slice A' n c') ∧ w'.ownsRow w.heap.size 58 2 (.slice A' n c') n (cells2 f n) ∧ Below w.heap.size w w' := by
  obtain ⟨i0, hi, hz0, hz1, hz2⟩ := info_parts Tryz.info_point
  have hnews : ∀ (j : Nat) (u : Value), (cells2 f n)[j]? = some u → (w.alloc (.cells #[] 58)).cell? (ad.add j) = some u := by
    intro j u hj
    have hlt : j < n * 2 := by
      rcases Nat.lt_or_ge j (n * 2) with h | h
      · exact h
      · rw [List.getElem?_eq_none (by rw [cells2_len]; omega)] at hj; cases hj
    obtain ⟨g, o, ha, hg, hc⟩ := h (by omega)
    injection ha with ha
    subst ha
    exact (World.cell?_alloc_lt w _ _ (by rw [block_of_add]; exact hg)).trans (cells2_cell hc j u hj)
  have HN := Lib.hid hnews
  have B1 := Lib.hid ((Below.refl w.heap.size w).alloc (Nat.le_refl _) (.cells #[] 58))
  have HO := Lib.hid (World.ownsRow_made (base := w.heap.size) (e := 58) (size := 2) w #[] 0 (Nat.le_refl _) (by unfold maxLen; omega) (by rfl))
  have s1 := B1.out.size
  have L := cells2_len f n
  have O := cells2_one f n
  generalize cells2 f n = xs at HN L O ⊢
  clear h hnews
  have q22 : ∀ (w : World) (a : Option Addr) (n c n' c' : Nat), (binOp .eql 22 (.slice a n c) (.slice none n' c')).run Tryz.prog w = .ok (.bool a.isNone) w := fun w a n c n' c' => Lib.run_eql_slice_nil w _ _ a n c n' c' Tryz.underlying22
  go_enter Tryz.func35, Tryz.ntmps35
  go_wp2_with (at_builtin; refine wpList_append_own _ rfl _ _ 22 rfl w.heap.size 58 i0 (.agg #[.int .i64 0, .int .i64 0]) 2 16 Tryz.underlying22 hi hz0 hz1 hz2 rfl (by decide) _ 0 [] rfl HO.out ad n c xs rfl L HN.out O (by unfold maxLen; omega) (by omega) s1 ?_; intro v' w2 hown2 hg2 hiff; have B2 := Lib.hid (B1.out.grown hg2 s1 (fun k hk => (HO.out.lt k hk).1)); have HO2 := Lib.hid hown2; clear hown2 hg2 hiff)
  have e : ∃ A' c', v' = .slice A' n c' := by
    have h := HO2.out
    rw [Nat.zero_add] at h
    rcases h.2 with ⟨h1, h2⟩ | ⟨g, cap, cur, h1, _⟩
    · subst h2; exact ⟨_, _, h1⟩
    · exact ⟨_, _, h1⟩
  obtain ⟨A', c', rfl⟩ := e
  go_ret
  have h := HO2.out
  rw [Nat.zero_add, List.nil_append] at h
  exact ⟨A', c', rfl, h, B2.out⟩
set_option maxRecDepth 100000 in
theorem clone_none (c : Nat) (w : World) :
    Calls Tryz.prog 35 #[.slice none 0 c] w fun e w' => e = .returned (.slice none 0 0) ∧ w = w' := by
  have q22 : ∀ (w : World) (a : Option Addr) (n c n' c' : Nat), (binOp .eql 22 (.slice a n c) (.slice none n' c')).run Tryz.prog w = .ok (.bool a.isNone) w := fun w a n c n' c' => Lib.run_eql_slice_nil w _ _ a n c n' c' Tryz.underlying22
  go_enter Tryz.func35, Tryz.ntmps35
  go_wp2
  go_ret
  exact ⟨rfl, rfl⟩
theorem clone_any (A : Option Addr) (n c : Nat) (f : Nat → P2) (w : World) (h : QReads w w.heap.size A n f) (hn : n ≤ 5000) :
    Calls Tryz.prog 35 #[.slice A n c] w fun e w' => ∃ A' c', e = .returned (.slice A' n c') ∧ w'.ownsRow w.heap.size 58 2 (.slice A' n c') n (cells2 f n) ∧ Below w.heap.size w w' := by
  cases A with
  | some ad => exact clone_some ad n c f w h hn
  | none =>
    have hn0 : n = 0 := by
      rcases Nat.eq_zero_or_pos n with e | e
      · exact e
      · obtain ⟨g, o, ha, _⟩ := h e; cases ha
    subst hn0
    exact (clone_none c w).mono fun e w' ⟨he, hw⟩ => ⟨none, 0, he, hw ▸ World.ownsRow_nil _ _ _ _, hw ▸ Below.refl _ _⟩
end Go.Proofs.YtcgkkppidkkjiaaGreatDoor
