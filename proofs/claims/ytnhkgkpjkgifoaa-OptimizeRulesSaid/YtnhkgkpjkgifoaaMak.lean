/- The walks of circuit.Same and of the reference's Same at any two circuits. -/
import Derived.Test.YtnhkgkpjkgifoaaMai
import Derived.Test.YtnhkgkpjkgifoaaMaj
import Derived.Test.YtnhkgkpjkgifoaaMaa
import Derived.Test.YtnhkgkpjkgifoaaMac
import Derived.Test.YtnhkgkpjkgifoaaMab
import Derived.Below
import Derived.BigQuiet
import Derived.Deep.AppendLies
import Derived.Deep.CutRange
import Derived.Deep.Draws
import Derived.Deep.OwnRows
import Derived.Deep.QuietTactic
import Derived.IntWalk
import Derived.Laws.CopyOwn
import Derived.Laws.OwnMore
import Derived.Laws.Rows
import Derived.Lib.Hide
import Derived.Lib.SliceRun
import Derived.LoopN
import Derived.OwnWalk
import Derived.StillTail
import Derived.StillTailTactics
import Derived.Test.YtnhkgkpjkgifoaaRows
import Derived.WalkKit
namespace Go.Proofs.Ytnhkgkpjkgifoaa
open Go.RowKit
/-- whether two circuits are equal -/
def qs (C D : Cr) : Bool := decide (C.ins = D.ins) && sm C.g C.n D.g D.n && decide (C.o = D.o)
theorem qs_iff (C D : Cr) : qs C D = true ↔ C.ins = D.ins ∧ (C.n = D.n ∧ ∀ i, i < C.n → C.g i = D.g i) ∧ C.o = D.o := by
  simp only [qs, Bool.and_eq_true, decide_eq_true_eq, sm_iff, and_assoc]
theorem qs_no {C D : Cr} (h : ¬ (C.ins = D.ins ∧ (C.n = D.n ∧ ∀ i, i < C.n → C.g i = D.g i) ∧ C.o = D.o)) : qs C D = false := by
  rw [← Bool.not_eq_true, qs_iff]; exact h
section
variable (AG AO BG BO : Option Addr) (cG cO dG dO : Nat) (C D : Cr) (w : World)
theorem box2c (I J : Int) (n m q r : Nat) : ∃ w1, w1 = (w.alloc (.cells #[.int .i64 I, .slice AG n cG, .slice AO q cO] 34)).alloc (.cells #[.int .i64 J, .slice BG m dG, .slice BO r dO] 34) ∧
    Blk w1 w.heap.size 34 #[.int .i64 I, .slice AG n cG, .slice AO q cO] ∧ Blk w1 (w.heap.size + 1) 34 #[.int .i64 J, .slice BG m dG, .slice BO r dO] ∧ Below w.heap.size w w1 := by
  refine ⟨_, rfl, (Blk.new w _ _).alloc _, ?_, ((Below.refl _ _).alloc (Nat.le_refl _) _).alloc (by simp) _⟩
  have h := Blk.new (w.alloc (.cells #[.int .i64 I, .slice AG n cG, .slice AO q cO] 34)) 34 #[.int .i64 J, .slice BG m dG, .slice BO r dO]
  rwa [World.size_alloc] at h
set_option maxRecDepth 100000 in
set_option maxHeartbeats 2000000 in
theorem csame_any (h : CS w AG AO C) (h' : CS w BG BO D) (hn : C.n ≤ 1000000) (hm : D.n ≤ 1000000) (hq : C.o.length ≤ 1000000) (hr : D.o.length ≤ 1000000) :
    Calls Try.prog 68 #[.agg #[.int .i64 C.ins, .slice AG C.n cG, .slice AO C.o.length cO], .agg #[.int .i64 D.ins, .slice BG D.n dG, .slice BO D.o.length dO]] w fun e w' => e = .returned (.bool (qs C D)) ∧ Below w.heap.size w w' := by
  have E1 := Lib.hid (fun w' (hb : Below w.heap.size w w') => gequal_any AG BG C.n D.n cG dG C.g D.g w' (h.later hb).1 (h'.later hb).1 hn hm)
  have E2 := Lib.hid (fun w' (hb : Below w.heap.size w w') => iequal_any AO BO C.o.length D.o.length cO dO C.o D.o w' (h.later hb).2 (h'.later hb).2 hq hr)
  obtain ⟨w1, hw1, K1, K2, B1⟩ := box2c AG AO BG BO cG cO dG dO w C.ins D.ins C.n D.n C.o.length D.o.length
  unfold qs
  clear h h'
  generalize sm C.g C.n D.g D.n = x at *
  generalize decide (C.o = D.o) = y at *
  obtain ⟨I, n, g, o⟩ := C
  obtain ⟨J, m, g', o'⟩ := D
  simp only at *
  generalize o.length = q at *
  generalize o'.length = r at *
  have K1 := Lib.hid K1
  have K2 := Lib.hid K2
  have B1 := Lib.hid B1
  obtain ⟨a0, a1, a2, _, _, _, a6⟩ := K1.out.three6
  obtain ⟨b0, b1, b2, _, _, _, b6⟩ := K2.out.three6
  by_cases e : I = J
  · subst e
    cases x with
    | true =>
      go_enter Try.func68, Try.ntmps68
      go_upto_region 1 with (fail)
      rw [← hw1]
      clear hw1
      go_wp2_with (first
        | (go_at_call 106; (with_reducible refine (E1.out _ B1.out).mono ?_); rintro e w2 ⟨rfl, hb⟩; have B2 := Lib.hid (B1.out.trans (hb.mono B1.out.size)); have K3 := Lib.hid (K1.out.below hb K1.out.lt); have K4 := Lib.hid (K2.out.below hb K2.out.lt); obtain ⟨c0, c1, c2, _, _, _, c6⟩ := K3.out.three6; obtain ⟨d0, d1, d2, _, _, _, d6⟩ := K4.out.three6; clear hb)
        | (go_at_call 107; (with_reducible refine (E2.out _ B2.out).mono ?_); rintro e w3 ⟨rfl, hb⟩; have B3 := Lib.hid (B2.out.trans (hb.mono B2.out.size)); clear hb))
      go_ret
      exact ⟨ret_bool (by simp), B3.out⟩
    | false =>
      go_enter Try.func68, Try.ntmps68
      go_upto_region 1 with (fail)
      rw [← hw1]
      clear hw1
      go_wp2_with (go_at_call 106; (with_reducible refine (E1.out _ B1.out).mono ?_); rintro e w2 ⟨rfl, hb⟩; have B2 := Lib.hid (B1.out.trans (hb.mono B1.out.size)); clear hb)
      go_ret
      exact ⟨ret_bool (by simp), B2.out⟩
  · rw [decide_eq_false e]
    have e' : (I == J) = false := by rw [beq_eq_false_iff_ne]; exact e
    clear e
    go_enter Try.func68, Try.ntmps68
    go_upto_region 1 with (fail)
    rw [← hw1]
    clear hw1
    go_wp2
    go_ret
    exact ⟨ret_bool (by simp), B1.out⟩
set_option maxRecDepth 100000 in
set_option maxHeartbeats 4000000 in
theorem rsame_any (h : CS w AG AO C) (h' : CS w BG BO D) (hn : C.n ≤ 1000000) (hm : D.n ≤ 1000000) (hq : C.o.length ≤ 1000000) (hr : D.o.length ≤ 1000000) :
    Calls Try.prog 23 #[.agg #[.int .i64 C.ins, .slice AG C.n cG, .slice AO C.o.length cO], .agg #[.int .i64 D.ins, .slice BG D.n dG, .slice BO D.o.length dO]] w fun e w' => e = .returned (.bool (qs C D)) ∧ Below w.heap.size w w' := by
  obtain ⟨w1, hw1, K1, K2, B1⟩ := box2c AG AO BG BO cG cO dG dO w C.ins D.ins C.n D.n C.o.length D.o.length
  have K1 := Lib.hid K1
  have K2 := Lib.hid K2
  have B1 := Lib.hid B1
  obtain ⟨a0, a1, a2, _, _, _, a6⟩ := K1.out.three6
  obtain ⟨b0, b1, b2, _, _, _, b6⟩ := K2.out.three6
  have H1 := h.1
  have H2 := h.2
  have H1' := h'.1
  have H2' := h'.2
  have QN := Lib.hid (fun hh => qs_no (C := C) (D := D) hh)
  have QY := Lib.hid (fun hh => (qs_iff C D).2 hh)
  generalize qs C D = b at *
  clear h h'
  obtain ⟨I, n, g, o⟩ := C
  obtain ⟨J, m, g', o'⟩ := D
  simp only at *
  by_cases e : I = J
  · subst e
    by_cases e2 : n = m
    · subst e2
      by_cases e3 : o.length = o'.length
      · have SI := Lib.hid (same_ig (l := o) (x := o') e3)
        rw [← e3] at hw1 H2' K2 b2 ⊢
        clear e3 hr
        generalize o.length = q at *
        have H1 := Lib.hid H1
        have H2 := Lib.hid H2
        have H1' := Lib.hid H1'
        have H2' := Lib.hid H2'
        go_enter Try.func23, Try.ntmps23
        go_upto_region 1 with (fail)
        rw [← hw1]
        clear hw1
        go_wp2
        go_loopw [5] (fun iv wr => ∃ j : Nat, j ≤ n ∧ iv = .int .i64 (j : Int) ∧ Hid (∀ i, i < j → g i = g' i) ∧ Hid (Below w1.heap.size w1 wr)) (fun iv _ => n - (intOf iv).toNat)
        case atStart => exact ⟨0, Nat.zero_le _, rfl, Lib.hid (fun i hi => absurd hi (by omega)), Lib.hid (Below.refl _ _)⟩
        case round =>
          obtain ⟨j, hj, rfl, HE, HB⟩ := hrel
          have BW := Lib.hid (B1.out.trans (HB.out.mono B1.out.size))
          have R := H1.out.below BW.out
          have R' := H1'.out.below BW.out
          have K3 := Lib.hid (K1.out.below HB.out K1.out.lt)
          have K4 := Lib.hid (K2.out.below HB.out K2.out.lt)
          clear a0 a1 a2 a6 b0 b1 b2 b6
          obtain ⟨a0, a1, a2, _, _, _, a6⟩ := K3.out.three6
          obtain ⟨b0, b1, b2, _, _, _, b6⟩ := K4.out.three6
          by_cases hk : j < n
          · obtain ⟨g1, o1, rfl, hb1, hc1⟩ := R (by omega)
            obtain ⟨g2, o2, rfl, hb2, hc2⟩ := R' (by omega)
            obtain ⟨c10, c11, c12⟩ := hc1 j (by omega)
            obtain ⟨c20, c21, c22⟩ := hc2 j (by omega)
            clear hc1 hc2 R R'
            by_cases heq : g j = g' j
            · have HQ := Lib.hid heq
              rw [← heq] at c20 c21 c22
              clear heq
              generalize g j = x at c10 c11 c12 c20 c21 c22
              obtain ⟨x1, x2, x3⟩ := x
              simp only at c10 c11 c12 c20 c21 c22
              go_wp2_with fail
              go_quiet (fail)
              go_wp2
              go_roundw
              case rel => exact ⟨j + 1, by omega, by go_num, Lib.hid (fun i hi => by
                by_cases e : i < j
                · exact HE.out i e
                · obtain rfl : i = j := by omega
                  exact HQ.out), Lib.hid (below_drewN HB.out _)⟩
              case measure => simp [intOf]; omega
            · have HF := Lib.hid (show b = false from QN.out (fun h => heq (h.2.1.2 j hk)))
              obtain ⟨⟨x1, x2, x3⟩, hx⟩ : ∃ x, x = g j := ⟨_, rfl⟩
              obtain ⟨⟨y1, y2, y3⟩, hy⟩ : ∃ y, y = g' j := ⟨_, rfl⟩
              rw [← hx] at c10 c11 c12 heq
              rw [← hy] at c20 c21 c22 heq
              clear hx hy
              simp only at c10 c11 c12 c20 c21 c22
              by_cases e1 : x1 = y1
              · subst e1
                by_cases e2 : x2 = y2
                · subst e2
                  have e3 : (x3 == y3) = false := by rw [beq_eq_false_iff_ne]; intro e; exact heq (by rw [e])
                  clear heq
                  go_wp2_with fail
                  go_quiet (fail)
                  go_wp2
                  go_ret
                  exact ⟨ret_bool HF.out.symm, below_drewN BW.out _⟩
                · have e2 : (x2 == y2) = false := by rw [beq_eq_false_iff_ne]; exact e2
                  clear heq
                  go_wp2_with fail
                  go_quiet (fail)
                  go_wp2
                  go_ret
                  exact ⟨ret_bool HF.out.symm, below_drewN BW.out _⟩
              · have e1 : (x1 == y1) = false := by rw [beq_eq_false_iff_ne]; exact e1
                clear heq
                go_wp2_with fail
                go_quiet (fail)
                go_wp2
                go_ret
                exact ⟨ret_bool HF.out.symm, below_drewN BW.out _⟩
          · obtain rfl : j = n := by omega
            clear R R' hk
            go_wp2
            go_loopw [6] (fun iv wq => ∃ s : Nat, s ≤ q ∧ iv = .int .i64 (s : Int) ∧ Hid (∀ i, i < s → ig o i = ig o' i) ∧ Hid (Below wr.heap.size wr wq)) (fun iv _ => q - (intOf iv).toNat)
            case atStart => exact ⟨0, Nat.zero_le _, rfl, Lib.hid (fun i hi => absurd hi (by omega)), Lib.hid (Below.refl _ _)⟩
            case round =>
              obtain ⟨s, hs, rfl, HS, HC⟩ := hrel
              have BV := Lib.hid (BW.out.trans (HC.out.mono BW.out.size))
              have K5 := Lib.hid (K3.out.below HC.out K3.out.lt)
              have K6 := Lib.hid (K4.out.below HC.out K4.out.lt)
              clear a0 a1 a2 a6 b0 b1 b2 b6
              obtain ⟨a0, a1, a2, _, _, _, a6⟩ := K5.out.three6
              obtain ⟨b0, b1, b2, _, _, _, b6⟩ := K6.out.three6
              by_cases hsq : s < q
              · obtain ⟨p1, rfl, hb1, hc1⟩ := il_at (H2.out.below BV.out) hsq
                obtain ⟨p2, rfl, hb2, hc2⟩ := il_at (H2'.out.below BV.out) hsq
                by_cases heq : ig o s = ig o' s
                · have HQ := Lib.hid heq
                  rw [← heq] at hc2
                  clear heq
                  generalize ig o s = y at hc1 hc2
                  go_wp2_with fail
                  go_quiet (fail)
                  go_wp2
                  go_roundw
                  case rel => exact ⟨s + 1, by omega, by go_num, Lib.hid (fun i hi => by
                    by_cases e : i < s
                    · exact HS.out i e
                    · obtain rfl : i = s := by omega
                      exact HQ.out), Lib.hid (below_drewN HC.out _)⟩
                  case measure => simp [intOf]; omega
                · have HF := Lib.hid (show b = false from QN.out (fun h => heq (by rw [h.2.2])))
                  generalize ig o s = y at hc1 heq
                  generalize ig o' s = z at hc2 heq
                  have e1 : (y == z) = false := by rw [beq_eq_false_iff_ne]; exact heq
                  clear heq
                  go_wp2_with fail
                  go_quiet (fail)
                  go_wp2
                  go_ret
                  exact ⟨ret_bool HF.out.symm, below_drewN BV.out _⟩
              · obtain rfl : s = q := by omega
                have HT := Lib.hid (show b = true from QY.out ⟨by trivial, ⟨by trivial, HE.out⟩, SI.out HS.out⟩)
                go_wp2
                go_ret
                exact ⟨ret_bool HT.out.symm, BV.out⟩
      · have HF := Lib.hid (show b = false from QN.out (fun h => e3 (by rw [h.2.2])))
        clear QN QY H1 H2 H1' H2'
        generalize o.length = q at *
        generalize o'.length = r at *
        have e4 : ((q : Int) != (r : Int)) = true := by rw [bne_iff_ne]; omega
        clear e3
        go_enter Try.func23, Try.ntmps23
        go_upto_region 1 with (fail)
        rw [← hw1]
        clear hw1
        go_wp2
        go_ret
        exact ⟨ret_bool HF.out.symm, B1.out⟩
    · have HF := Lib.hid (show b = false from QN.out (fun h => e2 h.2.1.1))
      clear QN QY H1 H2 H1' H2'
      generalize o.length = q at *
      generalize o'.length = r at *
      have e4 : ((n : Int) != (m : Int)) = true := by rw [bne_iff_ne]; omega
      clear e2
      go_enter Try.func23, Try.ntmps23
      go_upto_region 1 with (fail)
      rw [← hw1]
      clear hw1
      go_wp2
      go_ret
      exact ⟨ret_bool HF.out.symm, B1.out⟩
  · have HF := Lib.hid (show b = false from QN.out (fun h => e h.1))
    clear QN QY H1 H2 H1' H2'
    generalize o.length = q at *
    generalize o'.length = r at *
    have e4 : (I != J) = true := by rw [bne_iff_ne]; exact e
    clear e
    go_enter Try.func23, Try.ntmps23
    go_upto_region 1 with (fail)
    rw [← hw1]
    clear hw1
    go_wp2
    go_ret
    exact ⟨ret_bool HF.out.symm, B1.out⟩
end
end Go.Proofs.Ytnhkgkpjkgifoaa
