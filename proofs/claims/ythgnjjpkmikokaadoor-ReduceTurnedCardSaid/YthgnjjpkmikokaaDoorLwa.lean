/- The walk of the law: ReduceTurned. -/
import Derived.Test.YthgnjjpkmikokaaDoorBaq
namespace Go.Proofs.YthgnjjpkmikokaaDoor
open Go.RowKit

theorem made_int (n : Nat) : madeCells (Value.int .i64 0).cells (n * 1) = (il (List.replicate n 0)).toArray := by
  apply Array.ext
  · simp [madeCells, il]
  · intro i h1 h2
    simp [madeCells, Value.cells, Nat.mod_one, il]
theorem mk_ints {m : Nat} (hm : m ≤ 5000) (w : World) : (Instr.makeSlice 26 (.int .i64 (m : Int)) (.int .i64 (m : Int))).run Tryd.prog w = .ok (.slice (some ⟨w.heap.size, 0, none⟩) m m) (w.alloc (.cells (il (List.replicate m 0)).toArray 3)) := by
  obtain ⟨i0, hi, hz0, hz1, hz2⟩ := info_parts Tryd.info_int
  have := run_make (P := Tryd.prog) w 26 3 i0 (.int .i64 0) Tryd.underlying26 hi hz0 .i64 .i64 (m : Int) (m : Int) (by omega) (by omega) (by rw [hz2]; omega) (by omega)
  rw [this, hz1, Int.toNat_natCast, made_int]
theorem b_via {a b c : World} (h : Below a.heap.size a b) (k : Below b.heap.size b c) : Below a.heap.size a c := h.trans (k.mono h.size)
theorem lt_ad (w : World) (o : Obj) : w.heap.size < (w.alloc o).drew.heap.size := by show w.heap.size < (w.alloc o).heap.size; rw [World.size_alloc]; exact Nat.lt_succ_self _
set_option maxRecDepth 100000 in
set_option maxHeartbeats 16000000 in
theorem lawt_any (k : Int) (AH : Option Addr) (cH : Nat) (AN : Option Addr) (cN : Nat) (T : Tr) (AI : Option Addr) (q cI : Nat) (l : List Int) (w : World) (hk1 : -9223372036854775808 ≤ k) (hk2 : k ≤ 9223372036854775807) (hM : Mat w) (h : TS w AH AN T) (hI : Reads w w.heap.size AI q (il l)) (hf : Fits T) (hq : q < 9223372036854775808) (hAw : Aw w) :
    Calls Tryd.prog 3 #[.int .i64 k, .agg #[.int .i64 T.st, .slice AH T.n cH, .slice AN T.m cN], .slice AI q cI] w fun e w' => e = .returned (.bool true) ∧ Below w.heap.size w w' := by
  have SW := Lib.hid (fun w' (hb : Below w.heap.size w w') => small_any AH cH AN cN T 60 w' (by omega) (h.later hb) hf.1 hf.2.1 hf.2.2)
  have RR := Lib.hid (fun w' (hb : Below w.heap.size w w') (hs : Sm T) => rr_any AH cH AN cN T w' (h.later hb) hs)
  have AW := Lib.hid (fun w' hb => hAw w' hb)
  have h63n := hf.1
  have h63m := hf.2.1
  have HTS := Lib.hid h
  have HI := Lib.hid hI
  have HM := Lib.hid hM
  have hw0 := hM.1
  have HSM := Lib.hid (show Sm2 T 60 → Sm T ∧ T.m ≤ 60 from id)
  clear h hI hf hAw hM
  generalize hRT : Rt T = RTT at RR
  have HRT := Lib.hid hRT
  clear hRT
  generalize Sm2 T 60 = SM2 at SW HSM
  generalize Sm T = SMT at HSM RR
  generalize hst : T.st = st at SW RR
  have HST := Lib.hid hst
  clear hst
  generalize hn : T.n = n at SW RR h63n
  have HNN := Lib.hid hn
  clear hn
  generalize hm : T.m = m at SW RR h63m HSM
  have HMM := Lib.hid hm
  clear hm
  have K0 := Blk.new w 25 #[.int .i64 st, .slice AH n cH, .slice AN m cN]
  have B0 : Below w.heap.size w (w.alloc (.cells #[.int .i64 st, .slice AH n cH, .slice AN m cN] 25)) := (Below.refl _ _).alloc (Nat.le_refl _) _
  go_enter Tryd.func3, Tryd.ntmps3
  go_upto_region 1 with (fail)
  generalize w.alloc (.cells #[.int .i64 st, .slice AH n cH, .slice AN m cN] 25) = w0 at *
  obtain ⟨t0, t1, t2, t3⟩ := K0.three
  have K0 := Lib.hid K0
  have B0 := Lib.hid B0
  go_wp2_with fail
  go_at_call 4
  refine (SW.out _ B0.out).mono ?_
  rintro e w1 ⟨b, rfl, hq1, hb⟩
  have B1 := Lib.hid (B0.out.trans (hb.mono B0.out.size))
  have K1 := Lib.hid (K0.out.below hb K0.out.lt)
  clear hb t0 t1 t2 t3
  obtain ⟨t0, t1, t2, t3⟩ := K1.out.three
  cases b with
  | false =>
    clear hq1
    go_wp2_with (go_at_call 6; (with_reducible refine (AW.out _ B1.out).mono ?_); rintro e w2 ⟨rfl, hb⟩; have B2 := Lib.hid (B1.out.trans (hb.mono B1.out.size)); clear hb)
    go_ret
    exact ⟨rfl, B2.out⟩
  | true =>
    obtain ⟨hsm, hm60⟩ := HSM.out (hq1 rfl)
    clear hq1 HSM SW
    by_cases n9 : n ≤ 9
    · have d1 : decide (9 < (n : Int)) = false := by rw [decide_eq_false_iff_not]; omega
      by_cases q4 : q ≤ 40
      · have d2 : decide (40 < (q : Int)) = false := by rw [decide_eq_false_iff_not]; omega
        go_wp2_with fail
        go_at_call 5
        refine (RR.out _ B1.out hsm).mono ?_
        rintro e w2 ⟨b, rfl, hq1, hb⟩
        have B2 := Lib.hid (B1.out.trans (hb.mono B1.out.size))
        have K2 := Lib.hid (K1.out.below hb K1.out.lt)
        clear hb t0 t1 t2 t3
        obtain ⟨t0, t1, t2, t3⟩ := K2.out.three
        cases b with
        | false =>
          clear hq1
          go_wp2_with (go_at_call 6; (with_reducible refine (AW.out _ B2.out).mono ?_); rintro e w3 ⟨rfl, hb⟩; have B3 := Lib.hid (B2.out.trans (hb.mono B2.out.size)); clear hb)
          go_ret
          exact ⟨rfl, B3.out⟩
        | true =>
          have ht : Rt T := by rw [HRT.out]; exact hq1 rfl
          clear hq1 RR HRT
          have s1 := ht.s1
          have s2 := ht.s2
          have htn := ht.hd.1
          rw [HST.out] at s1 s2
          rw [HNN.out] at htn
          obtain ⟨sn, rfl⟩ : ∃ sn : Nat, st = (sn : Int) := ⟨st.toNat, by omega⟩
          obtain ⟨outU, oU1, oU2, oU3, oU4⟩ := turn_ok k ht (by rw [HNN.out]; exact n9) HST.out
          obtain ⟨outR, oR1, oR2, oR3, oR5, oR4⟩ := red_ok ht HST.out
          rw [HMM.out] at oR2
          have TU := Lib.hid (fun w' (hb : Below w.heap.size w w') => by
            have := oU3 w' AH AN cH cN (HM.out.below hb hw0) (HTS.out.later hb)
            rwa [HNN.out, HMM.out] at this)
          have RD := Lib.hid (fun w' (hb : Below w.heap.size w w') => by
            have := oR3 w' AH AN cH cN (HTS.out.later hb)
            rwa [HNN.out, HMM.out] at this)
          have HT := Lib.hid ht
          have OU4 := Lib.hid oU4
          have OR4 := Lib.hid oR4
          have HDI := Lib.hid (show Hd (lf (imgs T.f n (md k))) n by have := imgs_hd ht.hd (md_lt k); rwa [HNN.out] at this)
          have HRI := Lib.hid (fun w' AJ cJ (hq : QReads w' w'.heap.size AJ n (lf (imgs T.f n (md k)))) => hright_any AJ n cJ (lf (imgs T.f n (md k))) w' hq HDI.out)
          have HRB := Lib.hid (show Rt (trO sn n T.f outR) from by have := oR5; rwa [HNN.out] at this)
          clear oU3 oR3 oU4 oR4 ht t0 t1 t2 t3
          obtain ⟨t0, t1, t2, t3⟩ := K2.out.three
          by_cases h4 : outU.length ≤ 4096
          · go_wp2_with (first
              | (go_at_call 7; (with_reducible refine (TU.out _ B2.out).mono ?_); intro e w3 ho; unfold TurnOut at ho; rw [if_pos h4] at ho; obtain ⟨AJ, cJ, AU, cU, rfl, ⟨hts, _⟩, hb⟩ := ho; have TS3 := Lib.hid hts; have Q3 := Lib.hid (show QReads w3 w3.heap.size AJ n (lf (imgs T.f n (md k))) from hts.1); have B3 := Lib.hid (B2.out.trans (hb.mono B2.out.size)); have K3 := Lib.hid (K2.out.below hb K2.out.lt); clear hb hts)
              | (go_at_call 8; (with_reducible refine (HRI.out _ AJ cJ (Q3.out.later ((Below.refl _ _).alloc (Nat.le_refl _) _))).mono ?_); rintro e w4 ⟨rfl, hb⟩; have B4 := Lib.hid (B3.out.trans (((Below.refl w3.heap.size w3).alloc (Nat.le_refl _) (.cells #[.int .i64 (sn : Int), .slice AJ n cJ, .slice AU outU.length cU] 25)).trans (hb.mono (by simp)) |>.mono B3.out.size)); have B34 := Lib.hid (((Below.refl w3.heap.size w3).alloc (Nat.le_refl _) (.cells #[.int .i64 (sn : Int), .slice AJ n cJ, .slice AU outU.length cU] 25)).trans (hb.mono (by simp))); have K4 := Lib.hid (K3.out.below B34.out K3.out.lt); have K74 := Lib.hid ((Blk.new w3 25 #[.int .i64 (sn : Int), .slice AJ n cJ, .slice AU outU.length cU]).below hb (by simp)); have TS4 := Lib.hid (TS3.out.later B34.out); clear hb; obtain ⟨t0, t1, t2, t3⟩ := K4.out.three; obtain ⟨u0, u1, u2, u3⟩ := K74.out.three))
            have ht := HT.out
            have hrtU := (OU4.out h4).1
            have hphi := (OU4.out h4).2
            have HRU := Lib.hid hrtU
            have HPH := Lib.hid hphi
            have hR4 : outR.length ≤ 4096 := by omega
            have BK := Lib.hid (fun w' (hb : Below w4.heap.size w4 w') => by
              have := OR4.out k ((iv (md k) : Nat) : Int) (trO sn T.n (lf (imgs T.f T.n (md k))) outU) (by rw [HNN.out]; exact n9) (md_nat _ (iv_lt _ (md_lt k))) hrtU rfl rfl rfl hphi w' AJ AU cJ cU (HM.out.below (B4.out.trans (hb.mono B4.out.size)) hw0) (by rw [HNN.out]; exact TS4.out.later hb)
              rw [HNN.out] at this
              exact this)
            have BK := Lib.hid (show ∀ w', Below w4.heap.size w4 w' → Calls Tryd.prog 7 #[.int .i64 ((iv (md k) : Nat) : Int), .agg #[.int .i64 (sn : Int), .slice AJ n cJ, .slice AU outU.length cU]] w' fun e w'' => TurnOut sn n (lst T.f n) outR w' e w'' from BK.out)
            clear ht hrtU hphi OU4 OR4 TU
            have y0 : ∀ o1, (w4.alloc o1).cell? ⟨w3.heap.size, 0, none⟩ = some (.int .i64 (sn : Int)) := fun o1 => (World.cell?_alloc_lt w4 o1 _ u3).trans u0
            have y1 : ∀ o1, (w4.alloc o1).cell? ⟨w3.heap.size, 1, none⟩ = some (.slice AJ n cJ) := fun o1 => (World.cell?_alloc_lt w4 o1 _ u3).trans u1
            have y2 : ∀ o1, (w4.alloc o1).cell? ⟨w3.heap.size, 2, none⟩ = some (.slice AU outU.length cU) := fun o1 => (World.cell?_alloc_lt w4 o1 _ u3).trans u2
            have IN := Lib.hid (fun w => inverse_any k w)
            go_cut [9, 10] from 67 to 73 (fun s9 s10 wx => ∃ (g9 : Nat) (AB AW' : Option Addr) (cB cW : Nat), s9 = .pointer (some ⟨g9, 0, none⟩) ∧ s10 = .int .i64 0 ∧ Blk wx g9 25 #[.int .i64 (sn : Int), .slice AB n cB, .slice AW' outR.length cW] ∧ TS wx AB AW' (trO sn n (lf (lst T.f n)) outR) ∧ Below w4.heap.size w4 wx)
            case first =>
              go_region_with (first
                | (go_at_call 9; (with_reducible refine (IN.out _).mono ?_); rintro e w5 ⟨rfl, rfl⟩)
                | (go_at_call 7; (with_reducible refine (BK.out _ (by with_reducible (repeat (first | exact Below.refl _ _ | refine Below.drew ?_ | refine Below.alloc ?_ (Nat.le_refl _) _)))).mono ?_); intro e w6 ho; unfold TurnOut at ho; rw [if_pos hR4] at ho; obtain ⟨AB, cB, AW', cW, rfl, ⟨hts, hfr⟩, hb⟩ := ho; have TS6 := Lib.hid hts; have FX6 := Lib.hid hfr; have B6 := Lib.hid hb; (try (have KZ := Lib.hid ((Blk.new w4 25 #[.int .i64 0, .slice none 0 0, .slice none 0 0]).drew.below hb (lt_ad w4 _)); obtain ⟨z0, z1, z2, z3, z4, z5, z6⟩ := KZ.out.three6)); clear hts hb hfr))
              all_goals
                go_wp2_with fail
                go_meet
                have BW : Below w4.heap.size w4 w6 := b_via (by with_reducible (repeat (first | exact Below.refl _ _ | refine Below.drew ?_ | refine Below.alloc ?_ (Nat.le_refl _) _))) B6.out
                first
                  | exact ⟨_, AB, AW', cB, cW, rfl, rfl, Blk.new w6 _ _, TS6.out.later ((Below.refl _ _).alloc (Nat.le_refl _) _), BW.alloc BW.size _⟩
                  | (have FZ := set3_fr w6 w4.heap.size (.int .i64 (sn : Int)) (.slice AB n cB) (.slice AW' outR.length cW)
                     have KS := ((KZ.out.set_ 0 (.int .i64 (sn : Int))).set_ 1 (.slice AB n cB)).set_ 2 (.slice AW' outR.length cW)
                     exact ⟨_, AB, AW', cB, cW, rfl, rfl, by simpa using KS, FX6.out _ _ _ FZ (fun k hk => by subst hk; exact lt_ad w4 _), ((BW.setCell (p := ⟨w4.heap.size, 0, none⟩) (Nat.le_refl _) _).setCell (p := ⟨w4.heap.size, 1, none⟩) (Nat.le_refl _) _).setCell (p := ⟨w4.heap.size, 2, none⟩) (Nat.le_refl _) _⟩)
            case rest =>
              obtain ⟨g9, AB, AW', cB, cW, rfl, rfl, hk9, hts9, hb9⟩ := hcut
              have K9 := Lib.hid hk9
              have KX := Lib.hid (K4.out.below hb9 K4.out.lt)
              have K7X := Lib.hid (K74.out.below hb9 K74.out.lt)
              have BX := Lib.hid (B4.out.trans (hb9.mono B4.out.size))
              have TSU := Lib.hid (TS4.out.later hb9)
              have TB := Lib.hid (show TS wc AB AW' (trO sn n T.f outR) from ⟨hts9.1.to (fun i hi => by
                have hi : i < n := hi
                show lf (lst T.f n) i = T.f i
                rw [lf_get (by rw [lst_len]; exact hi), lst_get]), hts9.2⟩)
              clear hk9 hts9 hb9 y0 y1 y2 t0 t1 t2 t3 u0 u1 u2 u3 BK IN
              have S0 : wc.drew.cell? ⟨w.heap.size, 0, none⟩ = some (.int .i64 (sn : Int)) ∧ wc.drew.cell? ⟨w.heap.size, 1, none⟩ = some (.slice AH n cH) ∧ wc.drew.cell? ⟨w.heap.size, 2, none⟩ = some (.slice AN m cN) ∧ wc.drew.cell? ⟨g9, 0, none⟩ = some (.int .i64 (sn : Int)) ∧ wc.drew.cell? ⟨g9, 1, none⟩ = some (.slice AB n cB) ∧ wc.drew.cell? ⟨g9, 2, none⟩ = some (.slice AW' outR.length cW) := ⟨KX.out.three.1, KX.out.three.2.1, KX.out.three.2.2.1, K9.out.three.1, K9.out.three.2.1, K9.out.three.2.2.1⟩
              have SF := Lib.hid (fun w' (hb : Below wc.heap.size wc w') => (show w'.cell? ⟨w.heap.size, 0, none⟩ = some (.int .i64 (sn : Int)) ∧ w'.cell? ⟨w.heap.size, 1, none⟩ = some (.slice AH n cH) ∧ w'.cell? ⟨w.heap.size, 2, none⟩ = some (.slice AN m cN) ∧ w'.cell? ⟨g9, 0, none⟩ = some (.int .i64 (sn : Int)) ∧ w'.cell? ⟨g9, 1, none⟩ = some (.slice AB n cB) ∧ w'.cell? ⟨g9, 2, none⟩ = some (.slice AW' outR.length cW) from
                ⟨(KX.out.below hb KX.out.lt).three.1, (KX.out.below hb KX.out.lt).three.2.1, (KX.out.below hb KX.out.lt).three.2.2.1, (K9.out.below hb K9.out.lt).three.1, (K9.out.below hb K9.out.lt).three.2.1, (K9.out.below hb K9.out.lt).three.2.2.1⟩))
              have SA := Lib.hid (fun w' AI cI AN' cN' (hb : Below wc.heap.size wc w') (ht : TS w' AI AN' (trO sn n T.f outR)) => by
                exact (show Calls Tryd.prog 10 #[.agg #[.int .i64 (sn : Int), .slice AB n cB, .slice AW' outR.length cW], .agg #[.int .i64 (sn : Int), .slice AI n cI, .slice AN' outR.length cN']] w' fun e w'' => e = .returned (.bool true) ∧ Below w'.heap.size w' w'' from
                  rsame_yes AB AI AW' AN' cB cI cW cN' (trO sn n T.f outR) w' (TB.out.later hb) ht (by show n ≤ 1000; omega) (by show outR.length ≤ 5000; omega) (fun k hk => by
                    have := (HRB.out.nd k hk).2.2.1
                    have h8 : ((trO sn n T.f outR).nx k).length = sn := by have h : (((trO sn n T.f outR).nx k).length : Int) = (sn : Int) := this; omega
                    omega)))
              go_wp2
              go_region_held_law (fun w' => w'.cell? ⟨w.heap.size, 0, none⟩ = some (.int .i64 (sn : Int)) ∧ w'.cell? ⟨w.heap.size, 1, none⟩ = some (.slice AH n cH) ∧ w'.cell? ⟨w.heap.size, 2, none⟩ = some (.slice AN m cN) ∧ w'.cell? ⟨g9, 0, none⟩ = some (.int .i64 (sn : Int)) ∧ w'.cell? ⟨g9, 1, none⟩ = some (.slice AB n cB) ∧ w'.cell? ⟨g9, 2, none⟩ = some (.slice AW' outR.length cW)) (first | assumption | go_keep)
                (first
                | (go_at_call 11; (with_reducible refine (RD.out _ BX.out.drew).mono ?_); rintro e w7 ⟨AI7, cI7, AN7, cN7, rfl, hts, hb⟩; have B7 := Lib.hid (below_drew2 hb); have S7 := SF.out w7 B7.out; have SA7 := Lib.hid (SA.out w7 AI7 cI7 AN7 cN7 B7.out hts); clear hts hb)
                | (go_at_call 10; (with_reducible refine (SA7.out).mono ?_); rintro e w8 ⟨rfl, hb⟩; have B8 := Lib.hid (B7.out.trans (hb.mono B7.out.size)); have S8 := SF.out w8 B8.out; clear hb))
              have EV := Lib.hid (by
                have := eval_any AH cH AN cN T AI cI l w8 q (HTS.out.later (BX.out.trans (B8.out.mono BX.out.size))) HT.out (HI.out.later (BX.out.trans (B8.out.mono BX.out.size))) (by omega)
                rw [HST.out, HNN.out, HMM.out] at this
                exact this)
              have hql := reads_len HI.out
              have HQL := Lib.hid hql
              have K8 := Lib.hid (KX.out.below B8.out KX.out.lt)
              have K78 := Lib.hid (K7X.out.below B8.out K7X.out.lt)
              have BT8 := Lib.hid (BX.out.trans (B8.out.mono BX.out.size))
              have TU8 := Lib.hid (TSU.out.later B8.out)
              clear RD SA SA7 S0 S7 S8 SF B7 TB BX B8 hql
              clear K9 KX K7X TSU
              obtain ⟨t0, t1, t2, t3⟩ := K8.out.three
              by_cases hqn : q = n
              · subst hqn
                cases hals : als (sn : Int) l with
                | false =>
                  unfold ev at EV
                  rw [if_pos HQL.out, hals, if_neg (by simp)] at EV
                  go_wp2_with (first
                    | (go_at_call 12; (with_reducible refine (EV.out).mono ?_); rintro e wa ⟨rfl, hb⟩; have BA := Lib.hid (BT8.out.trans (hb.mono BT8.out.size)); clear hb)
                    | (go_at_call 6; (with_reducible refine (AW.out _ BA.out).mono ?_); rintro e wz ⟨rfl, hb⟩; have BZ := Lib.hid (BA.out.trans (hb.mono BA.out.size)); clear hb))
                  go_ret
                  exact ⟨rfl, BZ.out⟩
                | true =>
                  unfold ev at EV
                  rw [if_pos HQL.out, hals, if_pos rfl] at EV
                  have HALS := Lib.hid hals
                  clear hals
                  generalize hVV : fo T.nx ((m - 1 : Nat) : Int) l = V at EV
                  have HV := Lib.hid hVV
                  clear hVV
                  have mk := fun w' => mk_ints (m := q) (by omega) w'
                  go_wp2_with (first
                    | (go_at_call 12; (with_reducible refine (EV.out).mono ?_); rintro e wa ⟨rfl, hb⟩; have BA := Lib.hid (BT8.out.trans (hb.mono BT8.out.size)); have KA := Lib.hid (K8.out.below hb K8.out.lt); have K7A := Lib.hid (K78.out.below hb K78.out.lt); have TUA := Lib.hid (TU8.out.later hb); clear hb; obtain ⟨v0, v1, v2, v3⟩ := (KA.out.alloc (.cells (il (List.replicate q 0)).toArray 3)).three))
                  have hm8 := md_lt k
                  have hdT : Hd T.f q := by have := HT.out.hd; rwa [HNN.out] at this
                  have hB9 := Lib.hid (fun i (hi : i < q) => hdT.2.1 i hi)
                  have hIMB := Lib.hid (fun j (hj : j < q) => (imgs_hd hdT hm8).2.1 j hj)
                  have hIFF := Lib.hid (fun i j (hi : i < q) (hj : j < q) => img_iff hdT hm8 hi hj)
                  have hOGB := Lib.hid (fun j (hj : j < q) => orgs_bd hdT hm8 _ (ig_mem (l := orgs T.f q (md k)) (j := j) (by rw [orgs_len hdT hm8]; exact hj)))
                  have hALL := Lib.hid (fun (i : Nat) (hi : i < q) => show ∃ j, j < q ∧ ig (orgs T.f q (md k)) j = (i : Int) from by
                    have h1 := (ord_of (orgs_len hdT hm8) (orgs_nodup hdT hm8) (orgs_bd hdT hm8)).2 (i : Int) (by omega) (by omega)
                    obtain ⟨j, hj, e⟩ := mem_ig h1
                    exact ⟨j, by rwa [orgs_len hdT hm8] at hj, e⟩)
                  have RAP := Lib.hid (fun w' x y (h1 : -2 ≤ x ∧ x ≤ 2 ∧ -2 ≤ y ∧ y ≤ 2) => rapply_any k x y w' hk1 hk2 (by omega) (by omega) (by omega) (by omega))
                  have hFT := Lib.hid (fo_turned (sn := sn) (T := T) (U := trO sn T.n (lf (imgs T.f T.n (md k))) outU) (l := l) (by omega) hm8 HT.out.hd rfl (by rw [HNN.out]; exact HQL.out) ((als_iff _ _).1 HALS.out) HPH.out)
                  rw [HNN.out] at hFT
                  have KS := Lib.hid (Blk.new wa 3 (il (List.replicate q 0)).toArray)
                  have KTA := Lib.hid (KA.out.alloc (.cells (il (List.replicate q 0)).toArray 3))
                  have KUA := Lib.hid (K7A.out.alloc (.cells (il (List.replicate q 0)).toArray 3))
                  have BSA := Lib.hid ((Below.refl wa.heap.size wa).alloc (Nat.le_refl _) (.cells (il (List.replicate q 0)).toArray 3))
                  have hszw : w.heap.size ≤ wa.heap.size := BA.out.size
                  have hk0l : w.heap.size < wa.heap.size := KA.out.lt
                  have hk7l : w3.heap.size < wa.heap.size := K7A.out.lt
                  clear v0 v1 v2 v3 mk t0 t1 t2 t3 K8 K78 TU8 EV
                  have HQH := Lib.hid (show QReads w w.heap.size AH q T.f from by have := HTS.out.1; rwa [HNN.out] at this)
                  have QUA := Lib.hid (show QReads wa wa.heap.size AJ q (lf (imgs T.f q (md k))) from TUA.out.1)
                  have HRUI := Lib.hid (show Rt (trO sn q (lf (imgs T.f q (md k))) outU) from by have := HRU.out; rwa [HNN.out] at this)
                  generalize hOG : orgs T.f q (md k) = OG at hIFF hOGB hALL hFT
                  have HOG := Lib.hid hOG
                  clear hOG
                  go_loopw [97] (fun iv wr => ∃ (i : Nat), i ≤ q ∧ iv = .int .i64 (i : Int) ∧ Blk wr wa.heap.size 3 (il (stF OG l q i 0)).toArray ∧ Blk wr w.heap.size 25 #[.int .i64 (sn : Int), .slice AH q cH, .slice AN m cN] ∧ Blk wr w3.heap.size 25 #[.int .i64 (sn : Int), .slice AJ q cJ, .slice AU outU.length cU] ∧ Below wa.heap.size wa wr) (fun iv _ => q - (intOf iv).toNat)
                  case atStart => exact ⟨0, Nat.zero_le _, rfl, by rw [stF_zero (fun x hx => (hOGB.out x hx).1)]; exact KS.out, KTA.out, KUA.out, BSA.out⟩
                  case round =>
                    obtain ⟨i, hi, rfl, a1, a2, a3, a4⟩ := hrel
                    obtain ⟨wo, rfl⟩ : ∃ wo, wo = wr := ⟨wr, rfl⟩
                    have S1 := Lib.hid a1
                    have T1 := Lib.hid a2
                    have U1 := Lib.hid a3
                    have BW1 := Lib.hid a4
                    have hs1 : wa.heap.size < wo.heap.size := a1.lt
                    clear a1 a2 a3 a4
                    by_cases hiq : i < q
                    · have d97 : decide ((i : Int) < (q : Int)) = true := by rw [decide_eq_true_iff]; omega
                      obtain ⟨g, o, hAH, hg, hc⟩ := HQH.out.below (BA.out.trans (BW1.out.mono hszw)) (by omega)
                      obtain ⟨x0, x1⟩ := hc i hiq
                      have hgw : g < wo.heap.size := by have := BW1.out.size; omega
                      have hb9 := hB9.out i hiq
                      have hcmp := fun j hj => hIFF.out i j hiq hj
                      obtain ⟨T0, T1', T2, T3⟩ := T1.out.three
                      obtain ⟨x, hx⟩ : ∃ x, x = (T.f i).1 := ⟨_, rfl⟩
                      obtain ⟨y, hy⟩ : ∃ y, y = (T.f i).2 := ⟨_, rfl⟩
                      have hxy : T.f i = (x, y) := by rw [hx, hy]
                      rw [hxy] at x0 x1 hb9 hcmp
                      simp only at x0 x1 hb9
                      have hb9' : -2 ≤ x ∧ x ≤ 2 ∧ -2 ≤ y ∧ y ≤ 2 := hb9
                      have RA := Lib.hid (RAP.out wo x y hb9')
                      have HCMP := Lib.hid (show ∀ j, j < q → (lf (imgs T.f q (md k)) j = (turnX (md k) x y, turnY (md k) x y) ↔ ig OG j = (i : Int)) from hcmp)
                      clear hcmp hx hy hxy hc hb9 hb9'
                      subst hAH
                      generalize turnX (md k) x y = tx at RA HCMP
                      generalize turnY (md k) x y = ty at RA HCMP
                      have i0 : (0 : Int) ≤ (i : Int) := by omega
                      have i1 : (i : Int) < (q : Int) := by omega
                      go_wp2_with (first
                        | (go_at_call 13; (with_reducible refine (RA.out).mono ?_); rintro e wb ⟨rfl, hb⟩; have BB := Lib.hid (hb.alloc hb.size (.cells #[.int .i64 tx, .int .i64 ty] 40)); have hwb := hb.size; have S2 := Lib.hid ((S1.out.below hb S1.out.lt).alloc (.cells #[.int .i64 tx, .int .i64 ty] 40)); have T2' := Lib.hid ((T1.out.below hb T1.out.lt).alloc (.cells #[.int .i64 tx, .int .i64 ty] 40)); have U2 := Lib.hid ((U1.out.below hb U1.out.lt).alloc (.cells #[.int .i64 tx, .int .i64 ty] 40)); have P2' := Lib.hid (Blk.new wb 40 #[.int .i64 tx, .int .i64 ty]); obtain ⟨r0, r1, r2, r3⟩ := U2.out.three; clear hb))
                      have HWB : wa.heap.size < wb.heap.size := by omega
                      go_loopw [16, 110] (fun fv jv wr => ∃ (j : Nat) (b : Bool), j ≤ q ∧ jv = .int .i64 (j : Int) ∧ fv = .bool b ∧ (b = true ↔ ∃ j', j' < j ∧ ig OG j' = (i : Int)) ∧ Blk wr wa.heap.size 3 (il (stF OG l q i j)).toArray ∧ Blk wr w.heap.size 25 #[.int .i64 (sn : Int), .slice (some ⟨g, o, none⟩) q cH, .slice AN m cN] ∧ Blk wr w3.heap.size 25 #[.int .i64 (sn : Int), .slice AJ q cJ, .slice AU outU.length cU] ∧ Blk wr wb.heap.size 40 #[.int .i64 tx, .int .i64 ty] ∧ Below wa.heap.size wa wr) (fun _ jv _ => q - (intOf jv).toNat)
                      case atStart => exact ⟨0, false, Nat.zero_le _, rfl, rfl, ⟨(fun h => by cases h), fun ⟨j', h, _⟩ => absurd h (by omega)⟩, S2.out, T2'.out, U2.out, P2'.out, BW1.out.trans (BB.out.mono BW1.out.size)⟩
                      case round =>
                        obtain ⟨j, b, hj, rfl, rfl, hbj, a1, a2, a3, a4, a5⟩ := hrel
                        have S3 := Lib.hid a1
                        have T3' := Lib.hid a2
                        have U3 := Lib.hid a3
                        have P3 := Lib.hid a4
                        have BW3 := Lib.hid a5
                        have HBJ := Lib.hid hbj
                        have hw3l : wb.heap.size < wr.heap.size := a4.lt
                        obtain ⟨u0, u1, u2, u3⟩ := a3.three
                        obtain ⟨p0, p1, p2, p3, p4⟩ := a4.two
                        clear a1 a2 a3 a4 a5 hbj
                        by_cases hjq : j < q
                        · have d110 : decide ((j : Int) < (q : Int)) = true := by rw [decide_eq_true_iff]; omega
                          obtain ⟨g2, o2, hAJ, hg2, hc2⟩ := QUA.out.below BW3.out (by omega)
                          obtain ⟨y0, y1⟩ := hc2 j hjq
                          have hcm := HCMP.out j hjq
                          have hbm := hIMB.out j hjq
                          generalize lf (imgs T.f q (md k)) j = pj at y0 y1 hcm hbm
                          obtain ⟨ax, ay⟩ := pj
                          simp only at y0 y1
                          subst hAJ
                          have j0 : (0 : Int) ≤ (j : Int) := by omega
                          have j1 : (j : Int) < (q : Int) := by omega
                          have hg2w : g2 < wr.heap.size := by have := BW3.out.size; omega
                          clear hc2
                          by_cases hjo : ig OG j = (i : Int)
                          · have hpe := hcm.2 hjo
                            simp only [Prod.mk.injEq] at hpe
                            obtain ⟨h1, h2⟩ := hpe
                            rw [h1] at y0
                            rw [h2] at y1
                            obtain ⟨ad, hAI, hal, hcel⟩ := il_at (HI.out.below (BA.out.trans (BW3.out.mono hszw))) hiq
                            have hcel := Lib.hid hcel
                            subst hAI
                            have hadw : ad.block < wr.heap.size := by have := BW3.out.size; omega
                            have hsj := (S3.out.cell j).trans (il_get (by rw [stF_len]; exact hjq))
                            have hsf := S3.out.frozen j
                            generalize ig (stF OG l q i j) j = zz at hsj
                            have hcel2 : wr.drew.cell? (ad.add i) = some (.int .i64 (ig l i)) := hcel.out
                            clear hcm h1 h2 hbm
                            go_wp2
                            go_region
                            go_wp2
                            have ZS := (S3.out.set_ j (.int .i64 (ig l i))).drew
                            rw [stF_set hjq hjo] at ZS
                            exact ⟨⟨j + 1, true, by omega, by go_num, rfl, ⟨fun _ => ⟨j, by omega, hjo⟩, fun _ => rfl⟩, ZS, (T3'.out.far (p := ⟨wa.heap.size, j, none⟩) (by show w.heap.size ≠ wa.heap.size; omega) _).drew, (U3.out.far (p := ⟨wa.heap.size, j, none⟩) (by show w3.heap.size ≠ wa.heap.size; omega) _).drew, (P3.out.far (p := ⟨wa.heap.size, j, none⟩) (by show wb.heap.size ≠ wa.heap.size; omega) _).drew, (BW3.out.setCell (p := ⟨wa.heap.size, j, none⟩) (Nat.le_refl _) _).drew⟩, by simp [intOf]; omega⟩
                          · have hpe : ¬ (ax = tx ∧ ay = ty) := fun h => hjo (hcm.1 (by rw [h.1, h.2]))
                            have rest : ∀ W, Blk W wa.heap.size 3 (il (stF OG l q i j)).toArray → Blk W wa.heap.size 3 (il (stF OG l q i (j + 1))).toArray := fun W h => by rw [stF_skip hjo]; exact h
                            have RS := Lib.hid rest
                            have hb2 : b = true ↔ ∃ j', j' < j + 1 ∧ ig OG j' = (i : Int) := by
                              rw [HBJ.out]
                              constructor
                              · rintro ⟨j', h1, h2⟩; exact ⟨j', by omega, h2⟩
                              · rintro ⟨j', h1, h2⟩
                                exact ⟨j', by
                                  rcases Nat.lt_or_ge j' j with h | h
                                  · exact h
                                  · obtain rfl : j' = j := by omega
                                    exact absurd h2 hjo, h2⟩
                            have HB2' := Lib.hid hb2
                            clear rest hb2 hcm hbm
                            by_cases e1 : ax = tx
                            · have e2 : ¬ ay = ty := fun h => hpe ⟨e1, h⟩
                              clear hpe
                              go_wp2
                              go_region
                              go_wp2
                              exact ⟨⟨j + 1, b, by omega, by go_num, rfl, HB2'.out, RS.out _ S3.out.drew, T3'.out.drew, U3.out.drew, P3.out.drew, BW3.out.drew⟩, by simp [intOf]; omega⟩
                            · clear hpe
                              go_wp2
                              go_region
                              go_wp2
                              exact ⟨⟨j + 1, b, by omega, by go_num, rfl, HB2'.out, RS.out _ S3.out.drew, T3'.out.drew, U3.out.drew, P3.out.drew, BW3.out.drew⟩, by simp [intOf]; omega⟩
                        · obtain rfl : j = q := by omega
                          have d110 : decide ((j : Int) < (j : Int)) = false := by rw [decide_eq_false_iff_not]; omega
                          have hbt : b = true := HBJ.out.2 (by obtain ⟨j', h1, h2⟩ := hALL.out i hiq; exact ⟨j', h1, h2⟩)
                          subst hbt
                          go_wp2
                          exact ⟨⟨i + 1, by omega, by go_num, by rw [← stF_next]; exact S3.out, T3'.out, U3.out, BW3.out⟩, by simp [intOf]; omega⟩
                    · obtain rfl : i = q := by omega
                      have d97 : decide ((i : Int) < (i : Int)) = false := by rw [decide_eq_false_iff_not]; omega
                      obtain ⟨u0, u1, u2, u3⟩ := U1.out.three
                      have hRS : Reads wo wo.heap.size (some ⟨wa.heap.size, 0, none⟩) i (il (stF OG l i i 0)) := by
                        refine ⟨by simp [il, stF_len], fun _ => ⟨_, rfl, hs1, fun x u hx => ?_⟩⟩
                        have : (⟨wa.heap.size, 0, none⟩ : Addr).add x = ⟨wa.heap.size, x, none⟩ := by
                          unfold Addr.add
                          split
                          · next h => subst h; rfl
                          · simp
                        rw [this, S1.out.cell, ← hx]
                        simp
                      have EV2 := Lib.hid (by
                        have := eval_any AJ cJ AU cU (trO sn i (lf (imgs T.f i (md k))) outU) (some ⟨wa.heap.size, 0, none⟩) i (stF OG l i i 0) wo i (TUA.out.later BW1.out) HRUI.out hRS (by omega)
                        unfold ev at this
                        rw [if_pos (show (stF OG l i i 0).length = (trO sn i (lf (imgs T.f i (md k))) outU).n from stF_len _ _ _ _ _), if_pos (show als (trO sn i (lf (imgs T.f i (md k))) outU).st (stF OG l i i 0) = true from (als_iff _ _).2 (fun x hx => hFT.out.2 x (by rwa [stF_len] at hx)))] at this
                        have e : fo (trO sn i (lf (imgs T.f i (md k))) outU).nx (((trO sn i (lf (imgs T.f i (md k))) outU).m - 1 : Nat) : Int) (stF OG l i i 0) = V := by
                          rw [hFT.out.1, HMM.out]; exact HV.out
                        rw [e] at this
                        exact (show Calls Tryd.prog 12 #[.agg #[.int .i64 (sn : Int), .slice AJ i cJ, .slice AU outU.length cU], .slice (some ⟨wa.heap.size, 0, none⟩) i i] wo fun e w' => e = .returned (.tuple #[.int .i64 V, .int .i64 0]) ∧ Below wo.heap.size wo w' from this))
                      have BO := Lib.hid (BA.out.trans (BW1.out.mono hszw))
                      go_wp2_with (first
                        | (go_at_call 12; (with_reducible refine (EV2.out).mono ?_); rintro e wy ⟨rfl, hb⟩; have BY := Lib.hid (BO.out.trans (hb.mono BO.out.size)); clear hb)
                        | (go_at_call 6; (with_reducible refine (AW.out _ BY.out).mono ?_); rintro e wz ⟨rfl, hb⟩; have BZ := Lib.hid (BY.out.trans (hb.mono BY.out.size)); clear hb))
                      go_ret
                      exact ⟨rfl, BZ.out⟩
              · unfold ev at EV
                rw [if_neg (by rw [HQL.out]; exact hqn)] at EV
                go_wp2_with (first
                  | (go_at_call 12; (with_reducible refine (EV.out).mono ?_); rintro e wa ⟨rfl, hb⟩; have BA := Lib.hid (BT8.out.trans (hb.mono BT8.out.size)); clear hb)
                  | (go_at_call 6; (with_reducible refine (AW.out _ BA.out).mono ?_); rintro e wz ⟨rfl, hb⟩; have BZ := Lib.hid (BA.out.trans (hb.mono BA.out.size)); clear hb))
                go_ret
                exact ⟨rfl, BZ.out⟩
          · go_wp2_with (first
              | (go_at_call 7; (with_reducible refine (TU.out _ B2.out).mono ?_); intro e w3 ho; unfold TurnOut at ho; rw [if_neg h4] at ho; obtain ⟨rfl, hb⟩ := ho; have B3 := Lib.hid (B2.out.trans (hb.mono B2.out.size)); clear hb)
              | (go_at_call 6; (with_reducible refine (AW.out _ (B3.out.alloc B3.out.size _)).mono ?_); rintro e wz ⟨rfl, hb⟩; have BZ := Lib.hid ((B3.out.alloc B3.out.size (.cells #[.int .i64 0, .slice none 0 0, .slice none 0 0] 25)).trans (hb.mono (by have := B3.out.size; simp only [World.size_alloc]; omega))); clear hb))
            go_ret
            exact ⟨rfl, BZ.out⟩
      · have d2 : decide (40 < (q : Int)) = true := by rw [decide_eq_true_iff]; omega
        go_wp2_with (go_at_call 6; (with_reducible refine (AW.out _ B1.out).mono ?_); rintro e wz ⟨rfl, hb⟩; have BZ := Lib.hid (B1.out.trans (hb.mono B1.out.size)); clear hb)
        go_ret
        exact ⟨rfl, BZ.out⟩
    · have d1 : decide (9 < (n : Int)) = true := by rw [decide_eq_true_iff]; omega
      go_wp2_with (go_at_call 6; (with_reducible refine (AW.out _ B1.out).mono ?_); rintro e wz ⟨rfl, hb⟩; have BZ := Lib.hid (B1.out.trans (hb.mono B1.out.size)); clear hb)
      go_ret
      exact ⟨rfl, BZ.out⟩
end Go.Proofs.YthgnjjpkmikokaaDoor
