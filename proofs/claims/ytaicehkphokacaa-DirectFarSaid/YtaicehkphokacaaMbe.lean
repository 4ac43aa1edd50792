/- The walk of the law. -/
import Derived.Test.YtaicehkphokacaaMbd
import Derived.Test.YtaicehkphokacaaMae
namespace Go.Proofs.Ytaicehkphokacaa
open Go.RowKit

theorem first_no {P : Nat → Prop} [DecidablePred P] : ∀ n, ¬ (∀ i, i < n → P i) → ∃ k, k < n ∧ (∀ i, i < k → P i) ∧ ¬ P k
  | 0, h => absurd (fun i hi => absurd hi (Nat.not_lt_zero _)) h
  | n + 1, h => by
    by_cases h' : ∀ i, i < n → P i
    · refine ⟨n, Nat.lt_succ_self _, h', fun hp => h fun i hi => ?_⟩
      rcases Nat.lt_or_ge i n with h1 | h1
      · exact h' i h1
      · obtain rfl : i = n := by omega
        exact hp
    · obtain ⟨k, h1, h2, h3⟩ := first_no n h'
      exact ⟨k, by omega, h2, h3⟩
theorem rright5 (A : Option Addr) (n c : Nat) (p : List C3) (w : World) (h : CReads w w.heap.size A n (fun k => p.getD k (0, 0, 0))) (hl : p.length = n) (h5 : n ≤ 5000) :
    Calls Try.prog 7 #[.slice A n c] w fun e w' => BoolThat (PatOK p) w e w' := by
  by_cases hv : ∀ i, i < n → OkC (fun k => p.getD k (0, 0, 0)) i
  · have := rright_by A n c (fun k => p.getD k (0, 0, 0)) w h h5 n (Nat.le_refl _) hv (fun h => absurd h (by omega))
    rw [decide_eq_true rfl] at this
    have hok : PatOK p := (okl_pat.1 (by rw [hl]; exact ⟨h5, hv⟩)).1
    exact this.mono fun e w' ⟨h1, h2⟩ => ⟨true, h1, fun _ => hok, h2⟩
  · obtain ⟨k, hk, h1, h2⟩ := first_no n hv
    have := rright_by A n c (fun k => p.getD k (0, 0, 0)) w h h5 k (by omega) h1 (fun _ => h2)
    rw [decide_eq_false (show ¬ k = n by omega)] at this
    exact this.mono fun e w' ⟨h1, h2⟩ => ⟨false, h1, fun h => absurd h (by decide), h2⟩
/-- a step without an error -/
def Good (T : Tr) (p : List C3) : Prop := tpS p < T.st ∧ Vld (nxt (gT T) (offL T) p) ∧ (nxt (gT T) (offL T) p).length ≤ 5000
def StepSum (T : Tr) (p : List C3) (w : World) (e : Ending) (w' : World) : Prop :=
  ∃ X len c er, e = .returned (.tuple #[.slice X len c, .int .i64 er]) ∧ Below w.heap.size w w' ∧ (er = 0 ↔ Good T p) ∧ (er = 0 → len = (nxt (gT T) (offL T) p).length ∧ CReads w' w'.heap.size X len (fun k => (cls (nxt (gT T) (offL T) p)).getD k (0, 0, 0)))
theorem step_sum {T : Tr} {p : List C3} {w : World} {e : Ending} {w' : World} (h : StepOut T p w e w') : StepSum T p w e w' := by
  rcases h with ⟨h1, rfl, h3⟩ | ⟨h1, ⟨h2, rfl, h4⟩ | ⟨h2, h3, rfl, h5⟩ | ⟨h2, h3, A, c, rfl, h5, h6⟩⟩
  · exact ⟨none, 0, 0, 10, rfl, h3, ⟨fun h => absurd h (by decide), fun h => absurd h.1 h1⟩, fun h => absurd h (by decide)⟩
  · exact ⟨none, 0, 0, 5, rfl, h4, ⟨fun h => absurd h (by decide), fun h => absurd h.2.1 h2⟩, fun h => absurd h (by decide)⟩
  · exact ⟨none, 0, 0, 6, rfl, h5, ⟨fun h => absurd h (by decide), fun h => absurd h.2.2 (by omega)⟩, fun h => absurd h (by decide)⟩
  · exact ⟨A, _, c, 0, rfl, h6, ⟨fun _ => ⟨h1, h2, h3⟩, fun _ => rfl⟩, fun _ => ⟨rfl, h5⟩⟩
theorem FarOk.good {T : Tr} {a b : List C3} (h : FarOk T a b) : Good T (frm (a ++ b)) ↔ Good T a ∧ Good T b := by
  have h1 := h.la
  have h2 := h.lb
  have h3 := h.lc
  unfold Good
  rw [h.top, h.vld]
  constructor
  · rintro ⟨⟨a1, a2⟩, ⟨b1, b2⟩, _⟩
    exact ⟨⟨a1, b1, by omega⟩, a2, b2, by omega⟩
  · rintro ⟨⟨a1, b1, _⟩, a2, b2, _⟩
    exact ⟨⟨a1, a2⟩, ⟨b1, b2⟩, by omega⟩
set_option maxRecDepth 100000 in
set_option maxHeartbeats 8000000 in
theorem lawd_any (AW : ∀ w, Calls Try.prog 9 #[] w fun e w' => e = .returned (.bool true) ∧ Below w.heap.size w w') (AH AN A B : Option Addr) (cH cN cA cB n m : Nat) (T : Tr) (a b : List C3) (w : World) (h : TS w AH AN T) (h1 : T.n < 9223372036854775808) (h2 : T.m < 9223372036854775808) (h4 : ∀ k, k < T.m → (T.nx k).length < 9223372036854775808)
    (ha : CReads w w.heap.size A n (fun k => a.getD k (0, 0, 0))) (hb : CReads w w.heap.size B m (fun k => b.getD k (0, 0, 0))) (hal : a.length = n) (hbl : b.length = m) (hn : n < 9223372036854775808) (hm : m < 9223372036854775808) :
    Calls Try.prog 3 #[.agg #[.int .i64 T.st, .slice AH T.n cH, .slice AN T.m cN], .slice A n cA, .slice B m cB] w fun e w' => e = .returned (.bool true) ∧ Below w.heap.size w w' := by
  have AW := Lib.hid AW
  have SA := Lib.hid (fun w' (hb : Below w.heap.size w w') => small_any AH AN A cH cN cA n T w' (h.later hb) h1 h2 h4 hn)
  have SB := Lib.hid (fun w' (hb : Below w.heap.size w w') => small_any AH AN B cH cN cB m T w' (h.later hb) h1 h2 h4 hm)
  have QU := Lib.hid (fun w' (hb : Below w.heap.size w w') (hs : Sm T) => rquiet_any AH AN cH cN T w' (h.later hb) hs)
  have RA := Lib.hid (fun w' (hb : Below w.heap.size w w') (h6 : n ≤ 60) => rright5 A n cA a w' (ha.later hb) hal (by omega))
  have RB := Lib.hid (fun w' (hb' : Below w.heap.size w w') (h6 : m ≤ 60) => rright5 B m cB b w' (hb.later hb') hbl (by omega))
  have FA := Lib.hid (fun w' (hb' : Below w.heap.size w w') (h6 : n ≤ 60) (h7 : m ≤ 60) (pa : PatOK a) (pb : PatOK b) => far_any A B cA cB n m a b w' (ha.later hb') (hb.later hb') hal hbl h6 h7 (fun c hc => ⟨(pa.ok c hc).1, (pa.ok c hc).2.1⟩) (fun c hc => ⟨(pb.ok c hc).1, (pb.ok c hc).2.1⟩))
  have TA := Lib.hid (fun w' (hb' : Below w.heap.size w w') (ht : Rt T) (hq : gT T (List.replicate T.n 0) = 0) (h6 : n ≤ 60) (pa : PatOK a) => (step_any AH AN A cH cN cA n T a w' (h.later hb') ht hq (ha.later hb') hal (by omega) pa).mono fun e w'' hh => step_sum hh)
  have TB := Lib.hid (fun w' (hb' : Below w.heap.size w w') (ht : Rt T) (hq : gT T (List.replicate T.n 0) = 0) (h6 : m ≤ 60) (pb : PatOK b) => (step_any AH AN B cH cN cB m T b w' (h.later hb') ht hq (hb.later hb') hbl (by omega) pb).mono fun e w'' hh => step_sum hh)
  have TC := Lib.hid (fun w' (hb' : Below w.heap.size w w') (ht : Rt T) (hq : gT T (List.replicate T.n 0) = 0) (X : Option Addr) (c q : Nat) (hx : CReads w' w'.heap.size X q (fun k => (frm (a ++ b)).getD k (0, 0, 0))) (hl : (frm (a ++ b)).length = q) (h6 : q ≤ 120) (pc : PatOK (frm (a ++ b))) => (step_any AH AN X cH cN c q T (frm (a ++ b)) w' (h.later hb') ht hq hx hl (by omega) pc).mono fun e w'' hh => step_sum hh)
  have FK := Lib.hid (fun (ht : Rt T) (hq : gT T (List.replicate T.n 0) = 0) (pa : PatOK a) (pb : PatOK b) (h6 : n ≤ 60) (h7 : m ≤ 60) hf => far_ok (a := a) (b := b) ht hq pa pb (by omega) (by omega) hf)
  have HA := Lib.hid (fun w' (hb' : Below w.heap.size w w') => ha.later hb')
  have HB := Lib.hid (fun w' (hb' : Below w.heap.size w w') => hb.later hb')
  have LA := Lib.hid hal
  have LB := Lib.hid hbl
  clear h h1 h2 h4 ha hb hal hbl
  generalize T.st = sti at *
  generalize T.n = nn at *
  generalize T.m = mm at *
  have K0 := Blk.new w 25 #[.int .i64 sti, .slice AH nn cH, .slice AN mm cN]
  have B0 : Below w.heap.size w (w.alloc (.cells #[.int .i64 sti, .slice AH nn cH, .slice AN mm cN] 25)) := (Below.refl _ _).alloc (Nat.le_refl _) _
  go_enter Try.func3, Try.ntmps3
  go_upto_region 1 with (fail)
  generalize w.alloc (.cells #[.int .i64 sti, .slice AH nn cH, .slice AN mm cN] 25) = w0 at *
  obtain ⟨t0, t1, t2, _, _, _, t3⟩ := K0.three6
  have K0 := Lib.hid K0
  have B0 := Lib.hid B0
  go_wp2_with fail
  go_at_call 5
  refine (SA.out _ B0.out).mono ?_
  rintro e w1 ⟨b1, rfl, hq, hb⟩
  have B1 := Lib.hid (B0.out.trans (hb.mono B0.out.size))
  have K1 := Lib.hid (K0.out.below hb K0.out.lt)
  have Q1 := Lib.hid hq
  clear hb hq t0 t1 t2 t3
  obtain ⟨t0, t1, t2, _, _, _, t3⟩ := K1.out.three6
  cases b1 with
  | false =>
    go_wp2_with (go_at_call 9; (with_reducible refine (AW.out _).mono ?_); rintro e w20 ⟨rfl, hb⟩; have B20 := Lib.hid (B1.out.trans (hb.mono B1.out.size)); clear hb)
    go_ret
    exact ⟨rfl, B20.out⟩
  | true =>
    exact (by
      go_wp2_with fail
      go_at_call 5
      refine (SB.out _ B1.out).mono ?_
      rintro e w2 ⟨b2, rfl, hq, hb⟩
      have B2 := Lib.hid (B1.out.trans (hb.mono B1.out.size))
      have K2 := Lib.hid (K1.out.below hb K1.out.lt)
      have Q2 := Lib.hid hq
      clear hb hq t0 t1 t2 t3
      obtain ⟨t0, t1, t2, _, _, _, t3⟩ := K2.out.three6
      cases b2 with
      | false =>
        go_wp2_with (go_at_call 9; (with_reducible refine (AW.out _).mono ?_); rintro e w20 ⟨rfl, hb⟩; have B20 := Lib.hid (B2.out.trans (hb.mono B2.out.size)); clear hb)
        go_ret
        exact ⟨rfl, B20.out⟩
      | true =>
        exact (by
          go_wp2_with fail
          go_at_call 6
          refine (QU.out _ B2.out (Q1.out (by trivial)).1).mono ?_
          rintro e w3 ⟨b3, rfl, hq, hb⟩
          have B3 := Lib.hid (B2.out.trans (hb.mono B2.out.size))
          have K3 := Lib.hid (K2.out.below hb K2.out.lt)
          have Q3 := Lib.hid hq
          clear hb hq t0 t1 t2 t3
          obtain ⟨t0, t1, t2, _, _, _, t3⟩ := K3.out.three6
          cases b3 with
          | false =>
            go_wp2_with (go_at_call 9; (with_reducible refine (AW.out _).mono ?_); rintro e w20 ⟨rfl, hb⟩; have B20 := Lib.hid (B3.out.trans (hb.mono B3.out.size)); clear hb)
            go_ret
            exact ⟨rfl, B20.out⟩
          | true =>
            exact (by
              go_wp2_with fail
              go_at_call 7
              refine (RA.out _ B3.out (Q1.out (by trivial)).2).mono ?_
              rintro e w4 ⟨b4, rfl, hq, hb⟩
              have B4 := Lib.hid (B3.out.trans (hb.mono B3.out.size))
              have K4 := Lib.hid (K3.out.below hb K3.out.lt)
              have Q4 := Lib.hid hq
              clear hb hq t0 t1 t2 t3
              obtain ⟨t0, t1, t2, _, _, _, t3⟩ := K4.out.three6
              cases b4 with
              | false =>
                go_wp2_with (go_at_call 9; (with_reducible refine (AW.out _).mono ?_); rintro e w20 ⟨rfl, hb⟩; have B20 := Lib.hid (B4.out.trans (hb.mono B4.out.size)); clear hb)
                go_ret
                exact ⟨rfl, B20.out⟩
              | true =>
                exact (by
                  go_wp2_with fail
                  go_at_call 7
                  refine (RB.out _ B4.out (Q2.out (by trivial)).2).mono ?_
                  rintro e w5 ⟨b5, rfl, hq, hb⟩
                  have B5 := Lib.hid (B4.out.trans (hb.mono B4.out.size))
                  have K5 := Lib.hid (K4.out.below hb K4.out.lt)
                  have Q5 := Lib.hid hq
                  clear hb hq t0 t1 t2 t3
                  obtain ⟨t0, t1, t2, _, _, _, t3⟩ := K5.out.three6
                  cases b5 with
                  | false =>
                    go_wp2_with (go_at_call 9; (with_reducible refine (AW.out _).mono ?_); rintro e w20 ⟨rfl, hb⟩; have B20 := Lib.hid (B5.out.trans (hb.mono B5.out.size)); clear hb)
                    go_ret
                    exact ⟨rfl, B20.out⟩
                  | true =>
                    exact (by
                      go_wp2_with fail
                      go_at_call 8
                      refine (FA.out _ B5.out (Q1.out (by trivial)).2 (Q2.out (by trivial)).2 (Q4.out (by trivial)) (Q5.out (by trivial))).mono ?_
                      rintro e w6 ⟨b6, rfl, hq, hb⟩
                      have B6 := Lib.hid (B5.out.trans (hb.mono B5.out.size))
                      have K6 := Lib.hid (K5.out.below hb K5.out.lt)
                      have Q6 := Lib.hid hq
                      clear hb hq t0 t1 t2 t3
                      obtain ⟨t0, t1, t2, _, _, _, t3⟩ := K6.out.three6
                      cases b6 with
                      | false =>
                        go_wp2_with (go_at_call 9; (with_reducible refine (AW.out _).mono ?_); rintro e w20 ⟨rfl, hb⟩; have B20 := Lib.hid (B6.out.trans (hb.mono B6.out.size)); clear hb)
                        go_ret
                        exact ⟨rfl, B20.out⟩
                      | true =>
                        exact (by
                          obtain ⟨ht, hqt⟩ := Q3.out (by trivial)
                          have hn60 := (Q1.out (by trivial)).2
                          have hm60 := (Q2.out (by trivial)).2
                          have pa := Q4.out (by trivial)
                          have pb := Q5.out (by trivial)
                          have FO := Lib.hid (FK.out ht hqt pa pb hn60 hm60 (Q6.out (by trivial)))
                          have SA := Lib.hid (fun w' hb => TA.out w' hb ht hqt hn60 pa)
                          have SB := Lib.hid (fun w' hb => TB.out w' hb ht hqt hm60 pb)
                          have SC := Lib.hid (fun w' hb X c q hx hl h6 => TC.out w' hb ht hqt X c q hx hl h6 FO.out.pat)
                          clear FK TA TB TC Q1 Q2 Q3 Q4 Q5 Q6 ht hqt pa pb QU RA RB FA
                          obtain ⟨q, hqn⟩ : ∃ q, n + m = q := ⟨_, rfl⟩
                          have HQN := Lib.hid hqn
                          have hq120 : q ≤ 120 := by omega
                          have Z1 := Lib.hid ((Below.refl w6.heap.size w6).alloc (Nat.le_refl _) (.cells #[] 47))
                          have OW := Lib.hid (World.ownsRow_made (base := w6.heap.size) (e := 47) (size := 3) w6 #[] 0 (Nat.le_refl _) (by unfold maxLen; omega) (by rfl))
                          have HA1 := Lib.hid (HA.out _ (B6.out.trans (Z1.out.mono B6.out.size)))
                          have HBW := Lib.hid (fun W (hz : Below w6.heap.size w6 W) => HB.out W (B6.out.trans (hz.mono B6.out.size)))
                          have FRM := Lib.hid (fun (X : Option Addr) (c : Nat) (W : World) (ho : W.ownsRow w6.heap.size 47 3 (.slice X q c) q (([] ++ cg a) ++ cg b)) => from_ok X c q (a ++ b) W (by
                            have hl : (a ++ b).length = q := by rw [List.length_append, LA.out, LB.out]; exact HQN.out
                            have e : ([] ++ cg a) ++ cg b = cg (a ++ b) := by simp [cg]
                            rw [e] at ho
                            have := creads_cg (gs := a ++ b) (w := W) (A := X) (c := c) (base := w6.heap.size) (e := 47) (by rw [hl]; exact ho)
                            rwa [hl] at this) (by rw [List.length_append, LA.out, LB.out]; exact HQN.out) (by omega) FO.out.ok FO.out.dis)
                          clear hqn
                          exact (by
                            go_upto_region 4 with (first
                              | (go_at_call 10; (with_reducible refine (FRM.out _ _ _ O8.out).mono ?_); rintro e w9 ⟨A9, c9, rfl, hcr, hb⟩; have C9 := Lib.hid hcr; have Z9 := Lib.hid (Z8.out.trans (hb.mono Z8.out.size)); clear hcr hb)
                              | (at_builtin; refine wpList_appT rfl _ _ rfl w6.heap.size _ n ([] ++ cg a) rfl O7.out B m cB _ b rfl (HBW.out _ Z7.out) LB.out q HQN.out (by omega) Z7.out.size ?_; intro A8 c8 w8 hown hgrow; have O8 := Lib.hid hown; have Z8 := Lib.hid ((Z7.out).grown hgrow Z7.out.size (fun k hk => (O7.out.lt k hk).1)); clear hown hgrow)
                              | (at_builtin; refine wpList_appT rfl _ _ rfl w6.heap.size _ 0 [] rfl OW.out A n cA _ a rfl HA1.out LA.out n (Nat.zero_add n) (by omega) Z1.out.size ?_; intro A7 c7 w7 hown hgrow; have O7 := Lib.hid hown; have Z7 := Lib.hid ((Z1.out).grown hgrow Z1.out.size (fun k hk => (OW.out.lt k hk).1)); clear hown hgrow))
                            have B9 := Lib.hid (B6.out.trans (Z9.out.mono B6.out.size))
                            have K9 := Lib.hid (K6.out.below Z9.out K6.out.lt)
                            clear t0 t1 t2 t3 FRM HBW HA1 OW Z1
                            obtain ⟨t0, t1, t2, _, _, _, t3⟩ := K9.out.three6
                            go_upto_region 7 with (go_at_call 11; (with_reducible refine (SA.out _ B9.out).mono ?_); rintro e w10 ⟨X10, l10, c10, er10, rfl, hb, hg, hcr⟩; have Z10 := Lib.hid (Z9.out.trans (hb.mono Z9.out.size)); have Y10 := Lib.hid hb; have G10 := Lib.hid hg; have R10 := Lib.hid hcr; clear hb hg hcr)
                            have B10 := Lib.hid (B6.out.trans (Z10.out.mono B6.out.size))
                            have K10 := Lib.hid (K6.out.below Z10.out K6.out.lt)
                            clear t0 t1 t2 t3
                            obtain ⟨t0, t1, t2, _, _, _, t3⟩ := K10.out.three6
                            go_upto_region 8 with (go_at_call 11; (with_reducible refine (SB.out _ B10.out).mono ?_); rintro e w11 ⟨X11, l11, c11, er11, rfl, hb, hg, hcr⟩; have Z11 := Lib.hid (Z10.out.trans (hb.mono Z10.out.size)); have Y11 := Lib.hid hb; have G11 := Lib.hid hg; have R11 := Lib.hid hcr; clear hb hg hcr)
                            have B11 := Lib.hid (B6.out.trans (Z11.out.mono B6.out.size))
                            have K11 := Lib.hid (K6.out.below Z11.out K6.out.lt)
                            clear t0 t1 t2 t3
                            obtain ⟨t0, t1, t2, _, _, _, t3⟩ := K11.out.three6
                            have C11 := Lib.hid ((C9.out.later Y10.out).later Y11.out)
                            have hfl : (frm (a ++ b)).length = q := by rw [FO.out.len, LA.out, LB.out]; exact HQN.out
                            go_upto_region 9 with (go_at_call 11; (with_reducible refine (SC.out _ B11.out A9 c9 q C11.out hfl hq120).mono ?_); rintro e w12 ⟨X12, l12, c12, er12, rfl, hb, hg, hcr⟩; have Z12 := Lib.hid (Z11.out.trans (hb.mono Z11.out.size)); have Y12 := Lib.hid hb; have G12 := Lib.hid hg; have R12 := Lib.hid hcr; clear hb hg hcr)
                            have B12 := Lib.hid (B6.out.trans (Z12.out.mono B6.out.size))
                            have K12 := Lib.hid (K6.out.below Z12.out K6.out.lt)
                            clear t0 t1 t2 t3
                            obtain ⟨t0, t1, t2, _, _, _, t3⟩ := K12.out.three6
                            have GG := Lib.hid FO.out.good
                            by_cases e10 : er10 = 0
                            · by_cases e11 : er11 = 0
                              · have e12 : er12 = 0 := G12.out.2 (GG.out.2 ⟨G10.out.1 e10, G11.out.1 e11⟩)
                                obtain ⟨g1, g2, g3⟩ := G10.out.1 e10
                                obtain ⟨h1, h2, h3⟩ := G11.out.1 e11
                                obtain ⟨r1, r2⟩ := R10.out e10
                                obtain ⟨s1, s2⟩ := R11.out e11
                                obtain ⟨u1, u2⟩ := R12.out e12
                                subst e10 e11 e12
                                have FF := FO.out.fin g1 h1 g2 h2
                                have EQ := Lib.hid FO.out.eq
                                have LC := Lib.hid FO.out.lc
                                have la := FO.out.la
                                have lb := FO.out.lb
                                generalize hna : nxt (gT T) (offL T) a = na at *
                                generalize hnb : nxt (gT T) (offL T) b = nb at *
                                generalize hnc : nxt (gT T) (offL T) (frm (a ++ b)) = nc at *
                                have FF := Lib.hid FF
                                have R10' := Lib.hid ((r2.later Y11.out).later Y12.out)
                                have R11' := Lib.hid (s2.later Y12.out)
                                have R12' := Lib.hid u2
                                have U1 := Lib.hid u1
                                have RL := Lib.hid r1
                                have SL := Lib.hid s1
                                clear hna hnb hnc G10 G11 G12 R10 R11 R12 GG g1 g2 g3 h1 h2 h3 r2 s2 u2 SC SA SB
                                obtain ⟨q2, hqn2⟩ : ∃ q, l10 + l11 = q := ⟨_, rfl⟩
                                have HQ2 := Lib.hid hqn2
                                have hl12 : l12 = q2 := by rw [U1.out, LC.out, ← RL.out, ← SL.out]; exact hqn2
                                subst hl12
                                have hl10 : l10 ≤ 1500 := by rw [r1]; exact la
                                have hl11 : l11 ≤ 1500 := by rw [s1]; exact lb
                                have L10 := Lib.hid (show (cls na).length = l10 by rw [cls_len, RL.out])
                                have L11 := Lib.hid (show (cls nb).length = l11 by rw [cls_len, SL.out])
                                have V1 := Lib.hid ((Below.refl w12.heap.size w12).alloc (Nat.le_refl _) (.cells #[] 47))
                                have OW := Lib.hid (World.ownsRow_made (base := w12.heap.size) (e := 47) (size := 3) w12 #[] 0 (Nat.le_refl _) (by unfold maxLen; omega) (by rfl))
                                have HA1 := Lib.hid (R10'.out.later V1.out)
                                have HBW := Lib.hid (fun W (hz : Below w12.heap.size w12 W) => R11'.out.later hz)
                                have HCW := Lib.hid (fun W (hz : Below w12.heap.size w12 W) => R12'.out.later hz)
                                have FRM := Lib.hid (fun (X : Option Addr) (c : Nat) (W : World) (ho : W.ownsRow w12.heap.size 47 3 (.slice X l12 c) l12 (([] ++ cg (cls na)) ++ cg (cls nb))) => from_ok X c l12 (cls na ++ cls nb) W (by
                                  have hl : (cls na ++ cls nb).length = l12 := by rw [List.length_append, L10.out, L11.out]; exact HQ2.out
                                  have e : ([] ++ cg (cls na)) ++ cg (cls nb) = cg (cls na ++ cls nb) := by simp [cg]
                                  rw [e] at ho
                                  have := creads_cg (gs := cls na ++ cls nb) (w := W) (A := X) (c := c) (base := w12.heap.size) (e := 47) (by rw [hl]; exact ho)
                                  rwa [hl] at this) (by rw [List.length_append, L10.out, L11.out]; exact HQ2.out) (by omega) FF.out.1 FF.out.2)
                                rw [EQ.out] at FRM
                                have h12 : l12 ≤ 3000 := by omega
                                clear hqn2 r1 s1 u1 la lb FF t0 t1 t2 t3 R10' R11' C9 C11 hfl
                                exact (by
                                  go_upto_region 12 with (first
                                    | (go_at_call 10; (with_reducible refine (FRM.out _ _ _ O14.out).mono ?_); rintro e w15 ⟨A15, c15, rfl, hcr, hb⟩; have C15 := Lib.hid hcr; have V15 := Lib.hid (V14.out.trans (hb.mono V14.out.size)); clear hcr hb)
                                    | (at_builtin; refine wpList_appT rfl _ _ rfl w12.heap.size _ l10 ([] ++ cg (cls na)) rfl O13.out X11 l11 c11 _ (cls nb) rfl (HBW.out _ V13.out) L11.out l12 HQ2.out (by omega) V13.out.size ?_; intro A14 c14 w14 hown hgrow; have O14 := Lib.hid hown; have V14 := Lib.hid ((V13.out).grown hgrow V13.out.size (fun k hk => (O13.out.lt k hk).1)); clear hown hgrow)
                                    | (at_builtin; refine wpList_appT rfl _ _ rfl w12.heap.size _ 0 [] rfl OW.out X10 l10 c10 _ (cls na) rfl HA1.out L10.out l10 (Nat.zero_add l10) (by omega) V1.out.size ?_; intro A13 c13 w13 hown hgrow; have O13 := Lib.hid hown; have V13 := Lib.hid ((V1.out).grown hgrow V1.out.size (fun k hk => (OW.out.lt k hk).1)); clear hown hgrow))
                                  have B15 := Lib.hid (B12.out.trans (V15.out.mono B12.out.size))
                                  have SM := Lib.hid (rsame_yes X12 A15 l12 c12 c15 _ _ w15 (HCW.out _ V15.out) C15.out (by omega) (fun i _ => rfl))
                                  clear HCW HBW FRM OW HA1
                                  go_wp2_with (first
                                    | (go_at_call 12; (with_reducible refine (SM.out).mono ?_); rintro e w16 ⟨rfl, hb⟩; have B16 := Lib.hid (B15.out.trans (hb.mono B15.out.size)); clear hb)
                                    | (go_at_call 9; (with_reducible refine (AW.out _).mono ?_); rintro e w17 ⟨rfl, hb⟩; have B17 := Lib.hid (B16.out.trans (hb.mono B16.out.size)); clear hb))
                                  go_ret
                                  exact ⟨rfl, B17.out⟩)
                              · have e12 : ¬ er12 = 0 := fun h => e11 (G11.out.2 (GG.out.1 (G12.out.1 h)).2)
                                have n12 : (er12 != 0) = true := by rw [bne_iff_ne]; exact e12
                                have n11 : (er11 != 0) = true := by rw [bne_iff_ne]; exact e11
                                subst e10
                                exact (by
                                  go_wp2_with (go_at_call 9; (with_reducible refine (AW.out _).mono ?_); rintro e w17 ⟨rfl, hb⟩; have B17 := Lib.hid (B12.out.trans (hb.mono B12.out.size)); clear hb)
                                  go_ret
                                  exact ⟨rfl, B17.out⟩)
                            · have e12 : ¬ er12 = 0 := fun h => e10 (G10.out.2 (GG.out.1 (G12.out.1 h)).1)
                              have n12 : (er12 != 0) = true := by rw [bne_iff_ne]; exact e12
                              have n10 : (er10 != 0) = true := by rw [bne_iff_ne]; exact e10
                              exact (by
                                go_wp2_with (go_at_call 9; (with_reducible refine (AW.out _).mono ?_); rintro e w17 ⟨rfl, hb⟩; have B17 := Lib.hid (B12.out.trans (hb.mono B12.out.size)); clear hb)
                                go_ret
                                exact ⟨rfl, B17.out⟩))))))))
end Go.Proofs.Ytaicehkphokacaa
