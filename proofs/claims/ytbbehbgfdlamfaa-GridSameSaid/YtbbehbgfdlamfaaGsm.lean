/- The walks of grid.Same and of the reference's Same at any two grids. -/
import Derived.Test.YtbbehbgfdlamfaaCEqg
import Derived.Test.YtbbehbgfdlamfaaTSmall
namespace Go.Proofs.Ytbbehbgfdlamfaa
open Go.RowKit

/-- a grid -/
structure Gr where
  W : Int
  H : Int
  E : Int
  l : List Int
/-- whether two grids are equal -/
def gq (C D : Gr) : Bool := decide (C.W = D.W) && (decide (C.H = D.H) && (decide (C.E = D.E) && decide (C.l = D.l)))
theorem gq_iff (C D : Gr) : gq C D = true ↔ C.W = D.W ∧ C.H = D.H ∧ C.E = D.E ∧ C.l = D.l := by simp [gq]
theorem gq_self (C : Gr) : gq C C = true := (gq_iff C C).2 ⟨rfl, rfl, rfl, rfl⟩
theorem gq_no {C D : Gr} (h : ¬ (C.W = D.W ∧ C.H = D.H ∧ C.E = D.E ∧ C.l = D.l)) : gq C D = false := by
  rw [← Bool.not_eq_true, gq_iff]; exact h
section
variable (A B : Option Addr) (c d : Nat) (C D : Gr) (w : World)
theorem box2g (I J K I' J' K' : Int) (n m : Nat) : ∃ w1, w1 = (w.alloc (.cells #[.int .i64 I, .int .i64 J, .int .i64 K, .slice A n c] 24)).alloc (.cells #[.int .i64 I', .int .i64 J', .int .i64 K', .slice B m d] 24) ∧
    Blk w1 w.heap.size 24 #[.int .i64 I, .int .i64 J, .int .i64 K, .slice A n c] ∧ Blk w1 (w.heap.size + 1) 24 #[.int .i64 I', .int .i64 J', .int .i64 K', .slice B m d] ∧ Below w.heap.size w w1 := by
  refine ⟨_, rfl, (Blk.new w _ _).alloc _, ?_, ((Below.refl _ _).alloc (Nat.le_refl _) _).alloc (by simp) _⟩
  have h := Blk.new (w.alloc (.cells #[.int .i64 I, .int .i64 J, .int .i64 K, .slice A n c] 24)) 24 #[.int .i64 I', .int .i64 J', .int .i64 K', .slice B m d]
  rwa [World.size_alloc] at h
set_option maxRecDepth 100000 in
set_option maxHeartbeats 2000000 in
theorem gsame_any (h : Reads w w.heap.size A C.l.length (il C.l)) (h' : Reads w w.heap.size B D.l.length (il D.l)) (hn : C.l.length ≤ 1000000) (hm : D.l.length ≤ 1000000) :
    Calls Try.prog 6 #[.agg #[.int .i64 C.W, .int .i64 C.H, .int .i64 C.E, .slice A C.l.length c], .agg #[.int .i64 D.W, .int .i64 D.H, .int .i64 D.E, .slice B D.l.length d]] w fun e w' => e = .returned (.bool (gq C D)) ∧ Below w.heap.size w w' := by
  have E1 := Lib.hid (fun w' (hb : Below w.heap.size w w') => iequal_any A B C.l.length D.l.length c d C.l D.l w' (h.later hb) (h'.later hb) hn hm)
  obtain ⟨w1, hw1, K1, K2, B1⟩ := box2g A B c d w C.W C.H C.E D.W D.H D.E C.l.length D.l.length
  unfold gq
  clear h h'
  generalize decide (C.l = D.l) = y at *
  obtain ⟨W, H, E, l⟩ := C
  obtain ⟨W', H', E', l'⟩ := D
  simp only at *
  generalize l.length = q at *
  generalize l'.length = r at *
  have B1 := Lib.hid B1
  obtain ⟨a0, a1, a2, a3, a4⟩ := K1.four
  obtain ⟨b0, b1, b2, b3, b4⟩ := K2.four
  clear K1 K2
  by_cases e1 : W = W'
  · subst e1
    by_cases e2 : H = H'
    · subst e2
      by_cases e3 : E = E'
      · subst e3
        go_enter Try.func6, Try.ntmps6
        go_upto_region 1 with (fail)
        rw [← hw1]
        clear hw1
        go_wp2_with (go_at_call 15; (with_reducible refine (E1.out _ B1.out).mono ?_); rintro e w2 ⟨rfl, hb⟩; have B2 := Lib.hid (B1.out.trans (hb.mono B1.out.size)); clear hb)
        go_ret
        exact ⟨ret_bool (by simp), B2.out⟩
      · have e' : (E == E') = false := by rw [beq_eq_false_iff_ne]; exact e3
        rw [decide_eq_false e3]
        clear e3
        go_enter Try.func6, Try.ntmps6
        go_upto_region 1 with (fail)
        rw [← hw1]
        clear hw1
        go_wp2
        go_ret
        exact ⟨ret_bool (by simp), B1.out⟩
    · have e' : (H == H') = false := by rw [beq_eq_false_iff_ne]; exact e2
      rw [decide_eq_false e2]
      clear e2
      go_enter Try.func6, Try.ntmps6
      go_upto_region 1 with (fail)
      rw [← hw1]
      clear hw1
      go_wp2
      go_ret
      exact ⟨ret_bool (by simp), B1.out⟩
  · have e' : (W == W') = false := by rw [beq_eq_false_iff_ne]; exact e1
    rw [decide_eq_false e1]
    clear e1
    go_enter Try.func6, Try.ntmps6
    go_upto_region 1 with (fail)
    rw [← hw1]
    clear hw1
    go_wp2
    go_ret
    exact ⟨ret_bool (by simp), B1.out⟩
set_option maxRecDepth 100000 in
set_option maxHeartbeats 4000000 in
theorem grsame_any (h : Reads w w.heap.size A C.l.length (il C.l)) (h' : Reads w w.heap.size B D.l.length (il D.l)) (hn : C.l.length ≤ 1000000) (hm : D.l.length ≤ 1000000) :
    Calls Try.prog 7 #[.agg #[.int .i64 C.W, .int .i64 C.H, .int .i64 C.E, .slice A C.l.length c], .agg #[.int .i64 D.W, .int .i64 D.H, .int .i64 D.E, .slice B D.l.length d]] w fun e w' => e = .returned (.bool (gq C D)) ∧ Below w.heap.size w w' := by
  obtain ⟨w1, hw1, K1, K2, B1⟩ := box2g A B c d w C.W C.H C.E D.W D.H D.E C.l.length D.l.length
  have QN := Lib.hid (fun hh => gq_no (C := C) (D := D) hh)
  have QY := Lib.hid (fun hh => (gq_iff C D).2 hh)
  generalize gq C D = b at *
  obtain ⟨W, H, E, l⟩ := C
  obtain ⟨W', H', E', l'⟩ := D
  simp only at *
  have K1 := Lib.hid K1
  have K2 := Lib.hid K2
  have B1 := Lib.hid B1
  obtain ⟨a0, a1, a2, a3, a4⟩ := K1.out.four
  obtain ⟨b0, b1, b2, b3, b4⟩ := K2.out.four
  by_cases e1 : W = W'
  · subst e1
    by_cases e2 : H = H'
    · subst e2
      by_cases e3 : E = E'
      · subst e3
        by_cases e4 : l.length = l'.length
        · have SI := Lib.hid (same_ig (l := l) (x := l') e4)
          rw [← e4] at hw1 h' K2 b3 ⊢
          clear e4 hm
          generalize hq : l.length = q at *
          have R1 := Lib.hid h
          have R2 := Lib.hid h'
          clear h h' hq
          go_enter Try.func7, Try.ntmps7
          go_upto_region 1 with (fail)
          rw [← hw1]
          clear hw1
          go_wp2
          go_loopw [5] (fun iv wr => ∃ j : Nat, j ≤ q ∧ iv = .int .i64 (j : Int) ∧ Hid (∀ i, i < j → ig l i = ig l' i) ∧ Hid (Below w1.heap.size w1 wr)) (fun iv _ => q - (intOf iv).toNat)
          case atStart => exact ⟨0, Nat.zero_le _, rfl, Lib.hid (fun i hi => absurd hi (by omega)), Lib.hid (Below.refl _ _)⟩
          case round =>
            obtain ⟨j, hj, rfl, HE, HB⟩ := hrel
            have BW := Lib.hid (B1.out.trans (HB.out.mono B1.out.size))
            have R := R1.out.below BW.out
            have R' := R2.out.below BW.out
            have K3 := K1.out.below HB.out K1.out.lt
            have K4 := K2.out.below HB.out K2.out.lt
            clear a0 a1 a2 a3 a4 b0 b1 b2 b3 b4
            obtain ⟨a0, a1, a2, a3, a4⟩ := K3.four
            obtain ⟨b0, b1, b2, b3, b4⟩ := K4.four
            clear K3 K4
            by_cases hk : j < q
            · obtain ⟨p1, rfl, hb1, hc1⟩ := il_at R hk
              obtain ⟨p2, rfl, hb2, hc2⟩ := il_at R' hk
              clear R R'
              by_cases heq : ig l j = ig l' j
              · have HQ := Lib.hid heq
                rw [← heq] at hc2
                clear heq
                generalize ig l j = y at hc1 hc2
                go_wp2_with fail
                go_quiet (fail)
                go_wp2
                go_roundw
                case rel => exact ⟨j + 1, by omega, by go_num, Lib.hid (fun i hi => by
                  by_cases e : i < j
                  · exact HE.out i e
                  · obtain rfl : i = j := by omega
                    exact HQ.out), Lib.hid (below_drewN HB.out _)⟩
                case measure => simp [intOf]; omega
              · have HF := Lib.hid (show b = false from QN.out (fun h => heq (by rw [h.2.2.2])))
                generalize ig l j = y at hc1 heq
                generalize ig l' j = z at hc2 heq
                have e1 : (y != z) = true := by rw [bne_iff_ne]; exact heq
                have e5 : (y == z) = false := by rw [beq_eq_false_iff_ne]; exact heq
                clear heq
                go_wp2_with fail
                go_quiet (fail)
                go_wp2
                go_ret
                exact ⟨ret_bool HF.out.symm, below_drewN BW.out _⟩
            · obtain rfl : j = q := by omega
              have HF := Lib.hid (show b = true from QY.out ⟨trivial, trivial, trivial, SI.out (fun i hi => HE.out i (by first | exact hi | (have := reads_len R1.out; omega)))⟩)
              clear hk R R'
              go_wp2
              go_ret
              exact ⟨ret_bool HF.out.symm, BW.out⟩
        · have HF := Lib.hid (show b = false from QN.out (fun h => e4 (by rw [h.2.2.2])))
          generalize l.length = q at *
          generalize l'.length = r at *
          have e' : ((q : Int) != (r : Int)) = true := by rw [bne_iff_ne]; omega
          clear e4 h h'
          go_enter Try.func7, Try.ntmps7
          go_upto_region 1 with (fail)
          rw [← hw1]
          clear hw1
          go_wp2
          go_ret
          exact ⟨ret_bool HF.out.symm, B1.out⟩
      · have HF := Lib.hid (show b = false from QN.out (fun h => e3 h.2.2.1))
        have e' : (E != E') = true := by rw [bne_iff_ne]; exact e3
        clear e3 h h'
        go_enter Try.func7, Try.ntmps7
        go_upto_region 1 with (fail)
        rw [← hw1]
        clear hw1
        go_wp2
        go_ret
        exact ⟨ret_bool HF.out.symm, B1.out⟩
    · have HF := Lib.hid (show b = false from QN.out (fun h => e2 h.2.1))
      have e' : (H != H') = true := by rw [bne_iff_ne]; exact e2
      clear e2 h h'
      go_enter Try.func7, Try.ntmps7
      go_upto_region 1 with (fail)
      rw [← hw1]
      clear hw1
      go_wp2
      go_ret
      exact ⟨ret_bool HF.out.symm, B1.out⟩
  · have HF := Lib.hid (show b = false from QN.out (fun h => e1 h.1))
    have e' : (W != W') = true := by rw [bne_iff_ne]; exact e1
    clear e1 h h'
    go_enter Try.func7, Try.ntmps7
    go_upto_region 1 with (fail)
    rw [← hw1]
    clear hw1
    go_wp2
    go_ret
    exact ⟨ret_bool HF.out.symm, B1.out⟩
end
end Go.Proofs.Ytbbehbgfdlamfaa
