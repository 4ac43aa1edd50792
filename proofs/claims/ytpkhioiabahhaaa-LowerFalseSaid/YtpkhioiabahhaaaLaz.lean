/- The walk of the law itself. -/
import Derived.Test.YtpkhioiabahhaaaLaw
namespace Go.Proofs.Ytpkhioiabahhaaa
open Go.RowKit

theorem add_add' (ad : Addr) (a b : Nat) : (ad.add a).add b = ad.add (a + b) := by
  unfold Addr.add
  by_cases ha : a = 0
  · subst ha; simp
  · by_cases hb : b = 0
    · subst hb; simp [ha]
    · simp [ha, hb, Nat.add_assoc]
theorem sub_reads {w : World} {B n Q b : Nat} {ad : Addr} {l : List Bool} (h : Reads w B (some ad) n (bl l)) (hq : Q + b ≤ n) (hb : 0 < b) : Reads w B (some (ad.add Q)) b (bl ((l.drop Q).take b)) := by
  have hl : l.length = n := by simpa [bl] using h.1
  obtain ⟨ad', e, h1, h2⟩ := h.2 (by omega)
  injection e with e
  subst e
  refine ⟨by simp [bl]; omega, fun _ => ⟨_, rfl, by rw [block_of_add]; exact h1, fun j u hu => ?_⟩⟩
  rw [add_add']
  refine h2 _ _ ?_
  have hj : j < b := by
    have := (List.getElem?_eq_some_iff.1 hu).1
    simp [bl] at this
    omega
  rw [← hu]
  simp [bl, List.getElem?_take, List.getElem?_drop, hj]
theorem balloc' {w w0 : World} (h : Below w0.heap.size w0 w) (o : Obj) : Below w0.heap.size w0 (w.alloc o) := h.alloc h.size o
theorem wrong_next (l : List Bool) (b st i : Nat) (h : wrongF l b st i = false) : wrongF l b st (i + 1) = decide (st ≤ nmv ((l.drop (i * b)).take b)) := by
  rw [wrongF, List.range_succ, List.any_append]
  rw [wrongF] at h
  rw [h]
  simp
set_option maxRecDepth 100000 in
set_option maxHeartbeats 2000000 in
theorem lawf_any (AH AN AL : Option Addr) (cH cN cL nL : Nat) (T : Tr) (l : List Bool) (w : World) (h : TS w AH AN T) (hf : Fits T) (hI : Reads w w.heap.size AL nL (bl l)) (hL : nL < 9223372036854775808) (hc : nL ≤ cL) (hc2 : cL < 9223372036854775808) :
    Calls Try.prog 3 #[.agg #[.int .i64 T.st, .slice AH T.n cH, .slice AN T.m cN], .slice AL nL cL] w fun e w' => e = .returned (.bool true) ∧ Below w.heap.size w w' := by
  have FW := Lib.hid (fun w' (hb : Below w.heap.size w w') => few18_any AH AN cH cN T w' (h.later hb) hf)
  have RR := Lib.hid (fun w' (hb : Below w.heap.size w w') (hs : Sm T) => rr_any AH cH AN cN T w' (h.later hb) hs)
  have AW := Lib.hid (fun w' => awake_any w')
  have hll : l.length = nL := by simpa [bl] using hI.1
  have WA := Lib.hid (fun (hs : Sm T ∧ T.m ≤ 60) (ht : Rt T) => wants_any AH AN cH cN nL T l w h hll hs ht)
  have HI := Lib.hid (fun w' (hb : Below w.heap.size w w') => hI.later hb)
  have h63n := hf.1
  have HLL := Lib.hid hll
  clear h hI hf hll
  unfold Wants at WA
  generalize Rt T = RTT at *
  generalize Sm T = SMT at *
  obtain ⟨sti, n, f, m, lv, nx⟩ := T
  simp only at *
  have K0 := Blk.new w 25 #[.int .i64 sti, .slice AH n cH, .slice AN m cN]
  have B0 : Below w.heap.size w (w.alloc (.cells #[.int .i64 sti, .slice AH n cH, .slice AN m cN] 25)) := (Below.refl _ _).alloc (Nat.le_refl _) _
  go_enter Try.func3, Try.ntmps3
  go_upto_region 1 with (fail)
  generalize w.alloc (.cells #[.int .i64 sti, .slice AH n cH, .slice AN m cN] 25) = w0 at *
  obtain ⟨t0, t1, t2, _, _, _, t3⟩ := K0.three6
  have K0 := Lib.hid K0
  have B0 := Lib.hid B0
  go_wp2_with fail
  go_at_call 5
  refine (FW.out _ B0.out).mono ?_
  rintro e w1 ⟨b, rfl, hq1, hb⟩
  have B1 := Lib.hid (B0.out.trans (hb.mono B0.out.size))
  have K1 := Lib.hid (K0.out.below hb K0.out.lt)
  have HQ1 := Lib.hid hq1
  clear hb t0 t1 t2 t3 hq1
  obtain ⟨t0, t1, t2, _, _, _, t3⟩ := K1.out.three6
  cases b with
  | false =>
    go_wp2_with (go_at_call 7; (with_reducible refine (AW.out _).mono ?_); rintro e w2 ⟨rfl, hb⟩; have B2 := Lib.hid (B1.out.trans (hb.mono B1.out.size)); clear hb)
    go_ret
    exact ⟨rfl, B2.out⟩
  | true =>
    exact (by
      go_wp2_with fail
      go_at_call 6
      refine (RR.out _ B1.out (HQ1.out (by trivial)).1).mono ?_
      rintro e w2 ⟨b, rfl, hq2, hb⟩
      have B2 := Lib.hid (B1.out.trans (hb.mono B1.out.size))
      have K2 := Lib.hid (K1.out.below hb K1.out.lt)
      have HQ2 := Lib.hid hq2
      clear hb t0 t1 t2 t3 hq2
      obtain ⟨t0, t1, t2, _, _, _, t3⟩ := K2.out.three6
      cases b with
      | false =>
        go_wp2_with (go_at_call 7; (with_reducible refine (AW.out _).mono ?_); rintro e w3 ⟨rfl, hb⟩; have B3 := Lib.hid (B2.out.trans (hb.mono B2.out.size)); clear hb)
        go_ret
        exact ⟨rfl, B3.out⟩
      | true =>
        obtain ⟨st, b, hst, hbs, s1, s2, b1, b3, n1, n40, HC⟩ := WA.out (HQ1.out (by trivial)) (HQ2.out (by trivial))
        subst hst
        have RB := Lib.hid (fun w' => by have := rbits_any st w' s1 s2; rwa [hbs] at this)
        have HCC := Lib.hid HC
        obtain ⟨P, hP⟩ : ∃ P, n * b = P := ⟨_, rfl⟩
        have hP3 : P ≤ 120 := by have := Nat.mul_le_mul n40 b3; omega
        have hP1 : 1 ≤ P := by have := Nat.mul_le_mul n1 b1; omega
        have e1 : IntKind.i64.wrap ((b : Int) * (n : Int)) = (P : Int) := by
          rw [← Int.natCast_mul, Nat.mul_comm, hP]
          exact IntWalk.i64_in _ ⟨by omega, by omega⟩
        have HP := Lib.hid hP
        clear HC hP hbs WA RR FW HQ1 HQ2
        by_cases hne : nL = P
        · subst hne
          have f3 : ((nL : Int) != (nL : Int)) = false := by rw [bne_eq_false_iff_eq]
          obtain ⟨C, c1, c2, c3, c4, c5⟩ := HCC.out HP.out.symm
          obtain ⟨ad, hA, _, _⟩ := (HI.out _ B2.out).2 hP1
          subst hA
          have EV := Lib.hid (fun w' A AO c cO (hc : CS w' A AO C) (hr : Reads w' w'.heap.size (some ad) nL (bl l)) => by
            have q := reval17_any A AO ad c cO cL C l w' hc (by rw [HLL.out]; exact hr) c1 (by rw [HLL.out]; exact c2) (by rw [HLL.out]; exact hP1)
            rw [HLL.out, c2, c3] at q
            exact q)
          have LW := Lib.hid c4
          obtain ⟨V, hV⟩ : ∃ V, bo17 (bvn C.g l C.n) C.o = V := ⟨_, rfl⟩
          rw [hV] at EV c5
          have C5 := Lib.hid c5
          unfold LowOut at LW
          rw [c2, c3] at LW
          obtain ⟨I, N, g, o⟩ := C
          simp only at EV LW
          clear c1 c2 c3 c4 c5 HCC hV
          exact (by
            go_wp2_with (go_at_call 8; (with_reducible refine (RB.out _).mono ?_); rintro e w3 ⟨rfl, rfl⟩)
            go_loopw [6, 36] (fun wv iv wr => ∃ (i : Nat) (q : Bool), i ≤ n ∧ wv = .bool q ∧ iv = .int .i64 (i : Int) ∧ Hid (wrongF l b st i = q) ∧ Hid (Below w2.heap.size w2 wr)) (fun _ iv _ => n - (intOf iv).toNat)
            case atStart => exact ⟨0, false, Nat.zero_le _, rfl, rfl, Lib.hid rfl, Lib.hid (Below.refl _ _)⟩
            case round =>
              obtain ⟨i, q, hi, rfl, rfl, HW, HB⟩ := hrel
              have K3 := Lib.hid (K2.out.below HB.out K2.out.lt)
              clear t0 t1 t2 t3
              obtain ⟨t0, t1, t2, _, _, _, t3⟩ := K3.out.three6
              by_cases hlt : i < n
              · have hiI : (i : Int) < (n : Int) := by omega
                cases q with
                | true =>
                  go_wp2_with fail
                  go_quiet (fail)
                  go_wp2
                  go_roundw
                  case rel => exact ⟨i + 1, true, by omega, rfl, by go_num, Lib.hid (by rw [wrongF, List.range_succ, List.any_append]; have := HW.out; rw [wrongF] at this; rw [this]; rfl), Lib.hid (below_drewN HB.out _)⟩
                  case measure => simp [intOf]; omega
                | false =>
                  obtain ⟨Q, hQ⟩ : ∃ Q, i * b = Q := ⟨_, rfl⟩
                  have hQP : Q + b ≤ nL := by
                    have := Nat.mul_le_mul_right b (show i + 1 ≤ n by omega)
                    rw [Nat.succ_mul, hQ, HP.out] at this
                    exact this
                  have e2 : IntKind.i64.wrap ((i : Int) * (b : Int)) = (Q : Int) := by
                    rw [← Int.natCast_mul, hQ]
                    exact IntWalk.i64_in _ ⟨by omega, by omega⟩
                  have e3 : IntKind.i64.wrap ((Q : Int) + (b : Int)) = (Q : Int) + (b : Int) := IntWalk.i64_in _ ⟨by omega, by omega⟩
                  have l0 : (0 : Int) ≤ (Q : Int) := by omega
                  have l1 : (Q : Int) ≤ (Q : Int) + (b : Int) := by omega
                  have l2 : (Q : Int) + (b : Int) ≤ (cL : Int) := by omega
                  have l3 : ¬ cL = Q := by omega
                  have SUB := sub_reads ((HI.out _ B2.out).later HB.out) hQP (by omega)
                  have hsl : ((l.drop Q).take b).length = b := by simp [HLL.out]; omega
                  have RS := Lib.hid (fun k => rstate_any wr.heap.size (cL - Q) b (ad.add Q) ((l.drop Q).take b) (wr.drewN k) hsl b1 b3 (SUB.drewN k))
                  have HWN := wrong_next l b st i HW.out
                  rw [hQ] at HWN
                  generalize nmv ((l.drop Q).take b) = v at RS HWN
                  clear hQ SUB hsl
                  by_cases hv : st ≤ v
                  · have hvI : (st : Int) ≤ (v : Int) := by omega
                    rw [decide_eq_true hv] at HWN
                    have HWN := Lib.hid HWN
                    exact (by
                      go_wp2_with fail
                      go_quiet ((go_at_call 9; exact Calls.quiet_of_same ((RS.out _).mono fun _ _ h => ⟨h.1, h.2.symm⟩)))
                      go_wp2
                      go_roundw
                      case rel => exact ⟨i + 1, true, by omega, rfl, by go_num, HWN, Lib.hid (below_drewN HB.out _)⟩
                      case measure => simp [intOf]; omega)
                  · have hvI : ¬ (st : Int) ≤ (v : Int) := by omega
                    rw [decide_eq_false hv] at HWN
                    have HWN := Lib.hid HWN
                    exact (by
                      go_wp2_with fail
                      go_quiet ((go_at_call 9; exact Calls.quiet_of_same ((RS.out _).mono fun _ _ h => ⟨h.1, h.2.symm⟩)))
                      go_wp2
                      go_roundw
                      case rel => exact ⟨i + 1, false, by omega, rfl, by go_num, HWN, Lib.hid (below_drewN HB.out _)⟩
                      case measure => simp [intOf]; omega)
              · obtain rfl : n = i := by omega
                have BW := Lib.hid (B2.out.trans (HB.out.mono B2.out.size))
                have LL := Lib.hid (LW.out wr BW.out)
                exact (by
                  go_upto_region 13 with (go_at_call 10; (with_reducible refine (LL.out).mono ?_); rintro e w4 ⟨A, AO, c, cO, rfl, hcs, hb⟩; have B4 := Lib.hid (BW.out.trans (hb.mono BW.out.size)); have CS4 := Lib.hid hcs; clear hb hcs)
                  have B5 := Lib.hid (balloc' B4.out (.cells #[.int .i64 (nL : Int), .slice A N c, .slice AO b cO] 34))
                  have K5 := Blk.new w4 34 #[.int .i64 (nL : Int), .slice A N c, .slice AO b cO]
                  have CS5 := Lib.hid (CS4.out.later ((Below.refl w4.heap.size w4).alloc (Nat.le_refl _) (.cells #[.int .i64 (nL : Int), .slice A N c, .slice AO b cO] 34)))
                  generalize w4.alloc (.cells #[.int .i64 (nL : Int), .slice A N c, .slice AO b cO] 34) = w5 at *
                  obtain ⟨d0, d1, d2, _, _, _, d6⟩ := K5.three6
                  have EE := Lib.hid (EV.out w5 A AO c cO CS5.out (HI.out _ B5.out))
                  clear t0 t1 t2 t3 K5
                  go_upto_region 16 with (go_at_call 11; (with_reducible refine (EE.out).mono ?_); rintro e w6 ⟨A2, c2, rfl, hr, hb⟩; have B6 := Lib.hid (B5.out.trans (hb.mono B5.out.size)); have R6 := Lib.hid hr; clear hb hr)
                  have eb : ((b : Int) == (b : Int)) = true := by rw [beq_iff_eq]
                  cases q with
                  | false =>
                    go_wp2_with (go_at_call 7; (with_reducible refine (AW.out _).mono ?_); rintro e w7 ⟨rfl, hb⟩; have B7 := Lib.hid (B6.out.trans (hb.mono B6.out.size)); clear hb)
                    go_ret
                    exact ⟨rfl, B7.out⟩
                  | true =>
                    have RV := R6.out
                    rw [C5.out HW.out] at RV
                    obtain ⟨ad2, hA2, _, _⟩ := RV.2 (by omega)
                    subst hA2
                    have ST := Lib.hid (lstate_any w6.heap.size c2 b ad2 w6 b1 b3 RV)
                    clear RV
                    go_wp2_with (first
                      | (go_at_call 12; (with_reducible refine (ST.out).mono ?_); rintro e w7 ⟨rfl, rfl⟩)
                      | (go_at_call 7; (with_reducible refine (AW.out _).mono ?_); rintro e w7 ⟨rfl, hb⟩; have B7 := Lib.hid (B6.out.trans (hb.mono B6.out.size)); clear hb))
                    go_ret
                    exact ⟨rfl, B7.out⟩))
        · have f3 : ((nL : Int) != (P : Int)) = true := by rw [bne_iff_ne]; omega
          go_wp2_with (first
            | (go_at_call 8; (with_reducible refine (RB.out _).mono ?_); rintro e w3 ⟨rfl, rfl⟩)
            | (go_at_call 7; (with_reducible refine (AW.out _).mono ?_); rintro e w4 ⟨rfl, hb⟩; have B3 := Lib.hid (B2.out.trans (hb.mono B2.out.size)); clear hb))
          go_ret
          exact ⟨rfl, B3.out⟩)
end Go.Proofs.Ytpkhioiabahhaaa
