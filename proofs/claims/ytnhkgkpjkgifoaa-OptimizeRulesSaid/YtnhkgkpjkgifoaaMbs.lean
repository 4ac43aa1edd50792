/- The walk of the law. -/
import Derived.Test.YtnhkgkpjkgifoaaMbq
import Derived.Test.YtnhkgkpjkgifoaaMbr
import Derived.Test.YtnhkgkpjkgifoaaMbg
namespace Go.Proofs.Ytnhkgkpjkgifoaa
open Go.RowKit

theorem balloc' {w w0 : World} (h : Below w0.heap.size w0 w) (o : Obj) : Below w0.heap.size w0 (w.alloc o) := h.alloc h.size o
theorem ev_err {st : Int} {n : Nat} {l : List Int} {V : Int} (h : (ev st n l V).2 ≠ 0) : (ev st n l V).2 = 2 ∨ (ev st n l V).2 = 10 := by
  unfold ev at *
  split
  · split
    · rename_i h1 h2
      rw [if_pos h1, if_pos h2] at h
      exact absurd rfl h
    · exact .inr rfl
  · exact .inl rfl
set_option maxRecDepth 100000 in
set_option maxHeartbeats 8000000 in
theorem lawr_any (AH AN AI : Option Addr) (cH cN cI q : Nat) (T : Tr) (l : List Int) (w : World) (h : TS w AH AN T) (hf : Fits T) (hI : Reads w w.heap.size AI q (il l)) (hq : q < 9223372036854775808) :
    Calls Try.prog 3 #[.agg #[.int .i64 T.st, .slice AH T.n cH, .slice AN T.m cN], .slice AI q cI] w fun e w' => e = .returned (.bool true) ∧ Below w.heap.size w w' := by
  have FW := Lib.hid (fun w' (hb : Below w.heap.size w w') => few_any AH cH AN cN T w' (h.later hb) hf.1 hf.2.1 hf.2.2)
  have RR := Lib.hid (fun w' (hb : Below w.heap.size w w') (hs : Sm T) => rr_any AH cH AN cN T w' (h.later hb) hs)
  have AW := Lib.hid (fun w' => awake19_any w')
  have EV := Lib.hid (fun w' (hb : Below w.heap.size w w') (ht : Rt T) (hq : q ≤ 40) => eval_any AH cH AN cN T AI cI l w' q (h.later hb) ht (hI.later hb) (by omega))
  have PK := Lib.hid (fun (V : Int) (w' : World) (hb : Below w.heap.size w w') (hs : Sm T) (hm : T.m ≤ 40) (ht : Rt T) (he : ev T.st T.n l (fo T.nx ((T.m - 1 : Nat) : Int) l) = (V, 0)) => rules_pk AH AN AI cH cN cI q T l w' V (h.later hb) hs.1 hm ht (hI.later hb) he)
  have ER := Lib.hid (fun hne => ev_err (st := T.st) (n := T.n) (l := l) (V := fo T.nx ((T.m - 1 : Nat) : Int) l) hne)
  have h63 := hf.2.1
  clear h hf hI
  generalize ev T.st T.n l (fo T.nx ((T.m - 1 : Nat) : Int) l) = EE at *
  obtain ⟨V, er⟩ := EE
  have PK := Lib.hid (fun (w' : World) (hb : Below w.heap.size w w') (hs : Sm T) (hm : T.m ≤ 40) (ht : Rt T) (he : er = 0) => PK.out V w' hb hs hm ht (by rw [he]))
  unfold RPk at PK
  generalize Rt T = RTT at *
  generalize Sm T = SMT at *
  obtain ⟨sti, n, f, m, lv, nx⟩ := T
  simp only at *
  have K0 := Blk.new w 25 #[.int .i64 sti, .slice AH n cH, .slice AN m cN]
  have B0 : Below w.heap.size w (w.alloc (.cells #[.int .i64 sti, .slice AH n cH, .slice AN m cN] 25)) := (Below.refl _ _).alloc (Nat.le_refl _) _
  go_enter Try.func3, Try.ntmps3
  go_upto_region 1 with (fail)
  generalize w.alloc (.cells #[.int .i64 sti, .slice AH n cH, .slice AN m cN] 25) = w0 at *
  obtain ⟨t0, t1, t2, _, _, _, t3⟩ := K0.three6
  have K0 := Lib.hid K0
  have B0 := Lib.hid B0
  go_wp2_with fail
  go_at_call 5
  refine (FW.out _ B0.out).mono ?_
  rintro e w1 ⟨b, rfl, hq1, hb⟩
  have B1 := Lib.hid (B0.out.trans (hb.mono B0.out.size))
  have K1 := Lib.hid (K0.out.below hb K0.out.lt)
  have HQ1 := Lib.hid hq1
  clear hb t0 t1 t2 t3 hq1
  obtain ⟨t0, t1, t2, _, _, _, t3⟩ := K1.out.three6
  cases b with
  | false =>
    go_wp2_with (go_at_call 7; (with_reducible refine (AW.out _).mono ?_); rintro e w2 ⟨rfl, hb⟩; have B2 := Lib.hid (B1.out.trans (hb.mono B1.out.size)); clear hb)
    go_ret
    exact ⟨rfl, B2.out⟩
  | true =>
    by_cases hm : m ≤ 40
    · have hmI : ¬ (40 : Int) < (m : Int) := by omega
      by_cases hq4 : q ≤ 40
      · have hqI : ¬ (40 : Int) < (q : Int) := by omega
        exact (by
          go_wp2_with fail
          go_at_call 6
          refine (RR.out _ B1.out (HQ1.out (by trivial))).mono ?_
          rintro e w2 ⟨b, rfl, hq2, hb⟩
          have B2 := Lib.hid (B1.out.trans (hb.mono B1.out.size))
          have K2 := Lib.hid (K1.out.below hb K1.out.lt)
          have HQ2 := Lib.hid hq2
          clear hb t0 t1 t2 t3 hq2
          obtain ⟨t0, t1, t2, _, _, _, t3⟩ := K2.out.three6
          cases b with
          | false =>
            go_wp2_with (go_at_call 7; (with_reducible refine (AW.out _).mono ?_); rintro e w3 ⟨rfl, hb⟩; have B3 := Lib.hid (B2.out.trans (hb.mono B2.out.size)); clear hb)
            go_ret
            exact ⟨rfl, B3.out⟩
          | true =>
            have E2 := Lib.hid (EV.out w2 B2.out (HQ2.out (by trivial)) hq4)
            go_upto_region 4 with (go_at_call 8; (with_reducible refine (E2.out).mono ?_); rintro e w3 ⟨rfl, hb⟩; have B3 := Lib.hid (B2.out.trans (hb.mono B2.out.size)); have K3 := Lib.hid (K2.out.below hb K2.out.lt); clear hb)
            clear t0 t1 t2 t3 E2
            obtain ⟨t0, t1, t2, _, _, _, t3⟩ := K3.out.three6
            by_cases her : er = 0
            · obtain ⟨N, n2, b, C, bits, vs, hvl, b1, b3, hvs, low, inp, all⟩ := PK.out w3 B3.out (HQ1.out (by trivial)) hm (HQ2.out (by trivial)) her
              subst her
              have LL := Lib.hid (low w3 (Below.refl _ _))
              have INP := Lib.hid inp
              have ALL := Lib.hid all
              have HVL := Lib.hid hvl
              have HVS := Lib.hid hvs
              clear low inp all hvl hvs PK ER EV RR FW
              exact (by
                go_upto_region 7 with (go_at_call 9; (with_reducible refine (LL.out).mono ?_); rintro e w4 ⟨A, AO, c, cO, rfl, hcs, hb⟩; have B4 := Lib.hid hb; have C4 := Lib.hid hcs; clear hb hcs)
                have A5 := Lib.hid (balloc' B4.out (.cells #[.int .i64 (N : Int), .slice A n2 c, .slice AO b cO] 34))
                have K5 := Lib.hid (Blk.new w4 34 #[.int .i64 (N : Int), .slice A n2 c, .slice AO b cO])
                have C5 := Lib.hid (C4.out.later ((Below.refl w4.heap.size w4).alloc (Nat.le_refl _) (.cells #[.int .i64 (N : Int), .slice A n2 c, .slice AO b cO] 34)))
                generalize w4.alloc (.cells #[.int .i64 (N : Int), .slice A n2 c, .slice AO b cO] 34) = w5 at *
                generalize w4.heap.size = gc at *
                have II := Lib.hid (INP.out w5 A5.out)
                clear t0 t1 t2 t3
                obtain ⟨t0, t1, t2, _, _, _, t3⟩ := (K3.out.below A5.out K3.out.lt).three6
                go_upto_region 8 with (go_at_call 10; (with_reducible refine (II.out).mono ?_); rintro e w6 ⟨AB, cB, rfl, hr, hb⟩; have B6 := Lib.hid hb; have R6 := Lib.hid hr; clear hb hr)
                have C6 := Lib.hid (C5.out.later B6.out)
                obtain ⟨d0, d1, d2, _, _, _, d6⟩ := (K5.out.below B6.out K5.out.lt).three6
                clear t0 t1 t2 t3
                have AL := Lib.hid (ALL.out w6 A AO c cO C6.out)
                have ZB := Lib.hid (A5.out.trans (B6.out.mono A5.out.size))
                exact (by
                  go_upto_region 11 with (first
                    | (go_at_call 11; (with_reducible refine (EE.out).mono ?_); rintro e w8 ⟨A8, c8, rfl, hr, hb⟩; have R8 := Lib.hid hr; have B8 := Lib.hid hb; clear hr hb)
                    | (go_at_call 12; (with_reducible refine (AL.out).mono ?_); rintro e w7 ⟨C7, n7, A7, O7, c7, d7, rfl, hcs, hb, hev⟩; have B7 := Lib.hid hb; have EE := Lib.hid (hev w7 AB cB hcs (R6.out.later hb)); clear hb hcs hev))
                  have Z8 := Lib.hid (B3.out.trans (((ZB.out.trans (B7.out.mono ZB.out.size)).trans (B8.out.mono (ZB.out.trans (B7.out.mono ZB.out.size)).size)).mono B3.out.size))
                  obtain ⟨ad8, hA8, _, _⟩ := R8.out.2 (by omega)
                  subst hA8
                  have ST := Lib.hid (lsa_any w8.heap.size c8 b ad8 vs w8 HVL.out b1 b3 R8.out)
                  rw [HVS.out] at ST
                  have eV : (V == V) = true := beq_self_eq_true V
                  exact (by
                    go_wp2_with (first
                      | (go_at_call 13; (with_reducible refine (ST.out).mono ?_); rintro e w9 ⟨rfl, rfl⟩)
                      | (go_at_call 7; (with_reducible refine (AW.out _).mono ?_); rintro e w9 ⟨rfl, hb⟩; have B9 := Lib.hid (Z8.out.trans (hb.mono Z8.out.size)); clear hb))
                    go_ret
                    exact ⟨rfl, B9.out⟩)))
            · rcases ER.out her with rfl | rfl
              · go_wp2_with (go_at_call 7; (with_reducible refine (AW.out _).mono ?_); rintro e w4 ⟨rfl, hb⟩; have B4 := Lib.hid (B3.out.trans (hb.mono B3.out.size)); clear hb)
                go_ret
                exact ⟨rfl, B4.out⟩
              · go_wp2_with (go_at_call 7; (with_reducible refine (AW.out _).mono ?_); rintro e w4 ⟨rfl, hb⟩; have B4 := Lib.hid (B3.out.trans (hb.mono B3.out.size)); clear hb)
                go_ret
                exact ⟨rfl, B4.out⟩)
      · have hqI : (40 : Int) < (q : Int) := by omega
        go_wp2_with (go_at_call 7; (with_reducible refine (AW.out _).mono ?_); rintro e w2 ⟨rfl, hb⟩; have B2 := Lib.hid (B1.out.trans (hb.mono B1.out.size)); clear hb)
        go_ret
        exact ⟨rfl, B2.out⟩
    · have hmI : (40 : Int) < (m : Int) := by omega
      go_wp2_with (go_at_call 7; (with_reducible refine (AW.out _).mono ?_); rintro e w2 ⟨rfl, hb⟩; have B2 := Lib.hid (B1.out.trans (hb.mono B1.out.size)); clear hb)
      go_ret
      exact ⟨rfl, B2.out⟩
end Go.Proofs.Ytnhkgkpjkgifoaa
