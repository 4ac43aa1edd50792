/- The walk of the law. -/
import Derived.Test.YtkdcciajihoimaaFew
import Derived.Test.YtkdcciajihoimaaRr
import Derived.Test.YtkdcciajihoimaaUr
namespace Go.Proofs.Ytkdcciajihoimaa
open Go.RowKit

/-- no length is too great for an int -/
def Fits (T : Tr) : Prop := T.n < 9223372036854775808 ∧ T.m < 9223372036854775808 ∧ ∀ k, k < T.m → (T.nx k).length < 9223372036854775808
/-- awake answers true -/
def Aw (w : World) : Prop := ∀ w', Below w.heap.size w w' → Calls Try.prog 6 #[] w' fun e w'' => e = .returned (.bool true) ∧ Below w'.heap.size w' w''
section
variable (AH : Option Addr) (cH : Nat) (AN : Option Addr) (cN : Nat) (T : Tr) (AI : Option Addr) (q cI : Nat) (l : List Int) (w : World)
set_option maxRecDepth 100000 in
set_option maxHeartbeats 4000000 in
theorem law_any (h : TS w AH AN T) (hI : Reads w w.heap.size AI q (il l)) (hf : Fits T) (hq : q < 9223372036854775808) (hAw : Aw w) :
    Calls Try.prog 3 #[.agg #[.int .i64 T.st, .slice AH T.n cH, .slice AN T.m cN], .slice AI q cI] w fun e w' => e = .returned (.bool true) ∧ Below w.heap.size w w' := by
  have FW := Lib.hid (fun w' (hb : Below w.heap.size w w') => few_any AH cH AN cN T w' (h.later hb) hf.1 hf.2.1 hf.2.2)
  have RR := Lib.hid (fun w' (hb : Below w.heap.size w w') (hs : Sm T) => rr_any AH cH AN cN T w' (h.later hb) hs)
  have AW := Lib.hid (fun w' hb => hAw w' hb)
  have EV := Lib.hid (fun w' (hb : Below w.heap.size w w') (ht : Rt T) (hq : q ≤ 1000000) => eval_any AH cH AN cN T AI cI l w' q (h.later hb) ht (hI.later hb) hq)
  have EU := Lib.hid (fun w' A c (hb : Below w.heap.size w w') (hN : NR w' w'.heap.size A (T.m + 1) (lu T.lv) (xu T.st.toNat T.lv T.nx)) (ht : Rt T) (h3 : T.m ≤ 300) (hq : q ≤ 1000000) => by
    have := eval_any AH cH A c (up T) AI cI l w' q ⟨h.1.later hb, hN⟩ (up_rt ht h3) (hI.later hb) hq
    rwa [ev_up ht] at this)
  have RU := Lib.hid (fun w' A c (hb : Below w.heap.size w w') (hN : NR w' w'.heap.size A (T.m + 1) (lu T.lv) (xu T.st.toNat T.lv T.nx)) (ht : Rt T) (h3 : T.m ≤ 300) => tright_yes AH cH A c (up T) w' ⟨h.1.later hb, hN⟩ (up_rt ht h3))
  have HN := Lib.hid (fun w' (hb : Below w.heap.size w w') => h.2.below hb)
  have h63n := hf.1
  have h63m := hf.2.1
  have R1 := Lib.hid (fun (ht : Rt T) => ht.s1)
  have R2 := Lib.hid (fun (ht : Rt T) => ht.s2)
  have RL := Lib.hid (fun (ht : Rt T) i (hi : i < T.m) => (ht.nd i hi).2.2.1)
  have RE := Lib.hid (fun (ht : Rt T) i (hi : i < T.m) => (ht.nd i hi).2.2.2)
  clear h hI hf hAw
  generalize Rt T = RTT at *
  generalize Sm T = SMT at *
  obtain ⟨st, n, f, m, lv, nx⟩ := T
  simp only [up] at *
  generalize hp : ev st n l (fo nx ((m - 1 : Nat) : Int) l) = p at EV EU
  clear hp
  obtain ⟨r1, r2⟩ := p
  simp only at EV EU
  have K0 := Blk.new w 25 #[.int .i64 st, .slice AH n cH, .slice AN m cN]
  have B0 : Below w.heap.size w (w.alloc (.cells #[.int .i64 st, .slice AH n cH, .slice AN m cN] 25)) := (Below.refl _ _).alloc (Nat.le_refl _) _
  go_enter Try.func3, Try.ntmps3
  go_upto_region 1 with (fail)
  generalize w.alloc (.cells #[.int .i64 st, .slice AH n cH, .slice AN m cN] 25) = w0 at *
  obtain ⟨t0, t1, t2, t3⟩ := K0.three
  have K0 := Lib.hid K0
  have B0 := Lib.hid B0
  go_wp2_with fail
  go_at_call 4
  refine (FW.out _ B0.out).mono ?_
  rintro e w1 ⟨b, rfl, hq1, hb⟩
  have B1 := Lib.hid (B0.out.trans (hb.mono B0.out.size))
  have K1 := Lib.hid (K0.out.below hb K0.out.lt)
  clear hb t0 t1 t2 t3
  obtain ⟨t0, t1, t2, t3⟩ := K1.out.three
  cases b with
  | false =>
    clear hq1
    go_wp2_with (go_at_call 6; (with_reducible refine (AW.out _ B1.out).mono ?_); rintro e w2 ⟨rfl, hb⟩; have B2 := Lib.hid (B1.out.trans (hb.mono B1.out.size)); clear hb)
    go_ret
    exact ⟨rfl, B2.out⟩
  | true =>
    have HS := Lib.hid (hq1 rfl)
    clear hq1
    by_cases m3 : m ≤ 300
    · have d1 : decide (300 < (m : Int)) = false := by rw [decide_eq_false_iff_not]; omega
      by_cases q4 : q ≤ 40
      · have d2 : decide (40 < (q : Int)) = false := by rw [decide_eq_false_iff_not]; omega
        go_wp2_with fail
        go_at_call 5
        refine (RR.out _ B1.out HS.out).mono ?_
        rintro e w2 ⟨b, rfl, hq1, hb⟩
        have B2 := Lib.hid (B1.out.trans (hb.mono B1.out.size))
        have K2 := Lib.hid (K1.out.below hb K1.out.lt)
        clear hb t0 t1 t2 t3
        obtain ⟨t0, t1, t2, t3⟩ := K2.out.three
        cases b with
        | false =>
          clear hq1
          go_wp2_with (go_at_call 6; (with_reducible refine (AW.out _ B2.out).mono ?_); rintro e w3 ⟨rfl, hb⟩; have B3 := Lib.hid (B2.out.trans (hb.mono B2.out.size)); clear hb)
          go_ret
          exact ⟨rfl, B3.out⟩
        | true =>
          have ht := hq1 rfl
          have s1 := R1.out ht
          have s2 := R2.out ht
          have RL2 := Lib.hid (RL.out ht)
          have RE2 := Lib.hid (RE.out ht)
          have EV2 := Lib.hid (fun w' hb => EV.out w' hb ht (by omega))
          have EU2 := Lib.hid (fun w' A c hb hN => EU.out w' A c hb hN ht m3 (by omega))
          have RU2 := Lib.hid (fun w' A c hb hN => RU.out w' A c hb hN ht m3)
          have m1 : (m : Int) ≤ 300 := by omega
          clear hq1 FW RR EV EU RU R1 R2 RL RE HS ht
          obtain ⟨S, rfl⟩ : ∃ S : Nat, st = (S : Int) := ⟨st.toNat, by omega⟩
          have mk := mk_zs (S := S) (by omega) (by omega)
          rw [Int.toNat_natCast] at EU2 RU2
          have hlt2 := t3
          have y0 : ∀ o1, (w2.alloc o1).cell? ⟨w.heap.size, 0, none⟩ = some (.int .i64 (S : Int)) := fun o1 => (World.cell?_alloc_lt w2 o1 _ hlt2).trans t0
          have y1 : ∀ o1, (w2.alloc o1).cell? ⟨w.heap.size, 1, none⟩ = some (.slice AH n cH) := fun o1 => (World.cell?_alloc_lt w2 o1 _ hlt2).trans t1
          have y2 : ∀ o1 o2, ((w2.alloc o1).alloc o2).cell? ⟨w.heap.size, 0, none⟩ = some (.int .i64 (S : Int)) := fun o1 o2 => (World.cell?_alloc_lt _ o2 _ (by simp; omega)).trans (y0 o1)
          have y3 : ∀ o1 o2, ((w2.alloc o1).alloc o2).cell? ⟨w.heap.size, 1, none⟩ = some (.slice AH n cH) := fun o1 o2 => (World.cell?_alloc_lt _ o2 _ (by simp; omega)).trans (y1 o1)
          have y4 : ∀ o1 o2 o3, (((w2.alloc o1).alloc o2).alloc o3).cell? ⟨w.heap.size, 0, none⟩ = some (.int .i64 (S : Int)) := fun o1 o2 o3 => (World.cell?_alloc_lt _ o3 _ (by simp; omega)).trans (y2 o1 o2)
          have y5 : ∀ o1 o2 o3, (((w2.alloc o1).alloc o2).alloc o3).cell? ⟨w.heap.size, 1, none⟩ = some (.slice AH n cH) := fun o1 o2 o3 => (World.cell?_alloc_lt _ o3 _ (by simp; omega)).trans (y3 o1 o2)
          go_upto_region 3 with (fail)
          go_cut [5] from 34 to 43 (fun s5 wx => ∃ gu, s5 = .pointer (some ⟨gu, 0, none⟩) ∧ w2.heap.size ≤ gu ∧ UR wx w2.heap.size gu (.int .i64 (S : Int)) (.slice AH n cH) 1 (lu lv) (xu S lv nx) ∧ Below w2.heap.size w2 wx)
          case first =>
            go_region
            all_goals
              go_wp2_with fail
              go_meet
              first
                | (obtain ⟨k1, k2, k3, k4⟩ := three_blks w2 (zs S) #[.int .i64 1, .slice (some ⟨w2.heap.size, 0, none⟩) S S] #[.int .i64 (S : Int), .slice AH n cH, .slice (some ⟨w2.heap.size + 1, 0, none⟩) 1 1] 3 30 25
                   exact ⟨_, rfl, by omega, UR.start k1.drew k2.drew k3.drew (by omega) (by omega) (by omega) (by omega), k4.drew⟩)
                | (obtain ⟨k1, k2, k3, k4⟩ := three_blks w2 (zs S) #[.int .i64 (S : Int), .slice AH n cH, .slice (some ⟨w2.heap.size + 1 + 1, 0, none⟩) 1 1] #[.int .i64 1, .slice (some ⟨w2.heap.size, 0, none⟩) S S] 3 25 30
                   exact ⟨_, rfl, by omega, UR.start k1.drew k3.drew k2.drew (by omega) (by omega) (by omega) (by omega), k4.drew⟩)
                | (obtain ⟨k1, k2, k3, k4⟩ := three_blks w2 #[.int .i64 (S : Int), .slice AH n cH, .slice (some ⟨w2.heap.size + 1 + 1, 0, none⟩) 1 1] (zs S) #[.int .i64 1, .slice (some ⟨w2.heap.size + 1, 0, none⟩) S S] 25 3 30
                   exact ⟨_, rfl, by omega, UR.start k2.drew k3.drew k1.drew (by omega) (by omega) (by omega) (by omega), k4.drew⟩)
          case rest =>
            obtain ⟨gu, rfl, hgu, hur, hbel⟩ := hcut
            have HU := Lib.hid hur
            have BC := Lib.hid hbel
            have KC := Lib.hid (K2.out.below hbel K2.out.lt)
            have hgw := K2.out.lt
            clear y0 y1 y2 y3 y4 y5 t0 t1 t2 t3 mk hur hbel
            obtain ⟨t0, t1, t2, t3⟩ := KC.out.three
            obtain ⟨i0, hi, hz0, hz1, hz2⟩ := info_parts Try.info_int
            obtain ⟨j0, ji, jz0, jz1, jz2⟩ := info_parts Try.info_node
            go_wp2
            go_loopw [47] (fun iv wr => ∃ j : Nat, j ≤ m ∧ iv = .int .i64 (j : Int) ∧ UR wr w2.heap.size gu (.int .i64 (S : Int)) (.slice AH n cH) (j + 1) (lu lv) (xu S lv nx) ∧ Below w2.heap.size w2 wr) (fun iv _ => m - (intOf iv).toNat)
            case atStart => exact ⟨0, Nat.zero_le _, rfl, HU.out, BC.out⟩
            case round =>
              obtain ⟨j, hj, rfl, hur, hbel⟩ := hrel
              have UJ := Lib.hid hur
              have BJ := Lib.hid hbel
              have B4 := Lib.hid (B2.out.trans (hbel.mono B2.out.size))
              have K4 := Lib.hid (K2.out.below hbel hgw)
              clear t0 t1 t2 t3 hur hbel
              obtain ⟨t0, t1, t2, t3⟩ := K4.out.three
              obtain ⟨wo, rfl⟩ : ∃ wo, wo = wr := ⟨_, rfl⟩
              by_cases hlt : j < m
              · obtain ⟨g1, o1, rfl, hb1, hc⟩ := HN.out _ B4.out (by omega)
                obtain ⟨A', c', h1, h2, hr⟩ := hc j hlt
                have hX : (nx j).length = S := by have := RL2.out j hlt; omega
                have HX : ∀ s, s < S → El (S : Int) lv j (lv j) (ig (nx j) s) := fun s hs => RE2.out j hlt s (by omega)
                have HXU := Lib.hid (show xu S lv nx (j + 1) = mx (lv j) (nx j) from rfl)
                have HLU := Lib.hid (show lu lv (j + 1) = lv j from rfl)
                rw [hX] at h2 hr
                generalize nx j = X at hr hX HX HXU
                generalize lv j = lj at h1 HX HXU HLU
                have HX := Lib.hid HX
                have hXL := Lib.hid hX
                have BY := (Below.refl wo.heap.size wo).alloc (Nat.le_refl _) (.cells #[.int .i64 lj, .slice none 0 0] 30)
                have K7 := Lib.hid (Blk.new wo 30 #[.int .i64 lj, .slice none 0 0])
                have K5 := Lib.hid (K4.out.alloc (.cells #[.int .i64 lj, .slice none 0 0] 30))
                have RX := Lib.hid hr
                have BY := Lib.hid BY
                have hg1 : g1 < wo.heap.size := Nat.lt_of_lt_of_le hb1 B4.out.size
                have hgo : w.heap.size < wo.heap.size := t3
                have z1 := (BY.out.cell (p := ⟨g1, o1 + j * 2, none⟩) hg1).trans h1
                have z2 := (BY.out.cell (p := ⟨g1, o1 + j * 2 + 1, none⟩) hg1).trans h2
                clear hc hr hX
                go_upto_region 8 with (fail)
                generalize wo.alloc (.cells #[.int .i64 lj, .slice none 0 0] 30) = w7 at *
                clear t0 t1 t2 t3 h1 h2
                obtain ⟨t0, t1, t2, t3⟩ := K5.out.three
                go_wp2
                go_loopw [64] (fun iv wr => ∃ (s : Nat) (A : Option Addr) (c : Nat), s ≤ S ∧ iv = .int .i64 (s : Int) ∧ Blk wr wo.heap.size 30 #[.int .i64 lj, .slice A s c] ∧ wr.ownsRow (wo.heap.size + 1) 3 1 (.slice A s c) s (il ((mx lj X).take s)) ∧ Below wo.heap.size wo wr) (fun iv _ => S - (intOf iv).toNat)
                case atStart => exact ⟨0, none, 0, Nat.zero_le _, rfl, K7.out, World.ownsRow_nil _ _ _ _, BY.out⟩
                case round =>
                  obtain ⟨s, A, c, hs, rfl, hK, hown, hbel⟩ := hrel
                  have K8 := Lib.hid hK
                  have HO := Lib.hid hown
                  have BZ := Lib.hid hbel
                  have hsz : wo.heap.size + 1 ≤ wr.heap.size := hK.lt
                  clear hK hown hbel t0 t1 t2 t3 z1 z2
                  obtain ⟨k0, k1, k2, k3, k4⟩ := K8.out.two
                  by_cases hsl : s < S
                  · obtain ⟨ad, rfl, hb, hx⟩ := il_at (RX.out.below (BZ.out.mono B4.out.size)) hsl
                    have he := HX.out s hsl
                    have HM := Lib.hid (ig_mx lj X (s := s) (by rw [hXL.out]; exact hsl))
                    have HTK := Lib.hid (il_take_succ (l := mx lj X) (s := s) (by rw [mx_len, hXL.out]; exact hsl))
                    generalize ig X s = k at hx he HM
                    obtain ⟨k', hk'⟩ : ∃ k', k' = ig (mx lj X) s := ⟨_, rfl⟩
                    rw [← hk'] at HTK HM
                    clear hk'
                    by_cases hl1 : 1 < lj
                    · obtain ⟨p1, -, p2⟩ := he
                      obtain ⟨p2, -⟩ := p2 hl1
                      have hd1 : decide (1 < lj) = true := decide_eq_true hl1
                      have hk' : k' = k + 1 := by have := HM.out; rwa [if_pos hl1] at this
                      clear HM
                      subst hk'
                      go_wp2_with (at_builtin; refine wpList_append1 rfl _ _ 26 rfl (wo.heap.size + 1) 3 i0 (.int .i64 0) 8 Try.underlying26 hi hz0 hz1 hz2 rfl _ s c _ rfl HO.out (.int .i64 (k + 1)) rfl rfl (by unfold maxLen; omega) (by omega) hsz ?_; intro g' c5 w5 hown5 hbel5; have K9 := Lib.hid (K8.out.below hbel5 (Nat.lt_succ_self _)); obtain ⟨x0, x1, x2, x3, x4⟩ := K9.out.two; have hg5 := (hown5.lt g' rfl).1)
                      go_roundw
                      case rel => exact ⟨s + 1, some ⟨g', 0, none⟩, c5, by omega, by go_num, K9.out.set_ 1 _, by rw [← HTK.out]; exact own_set hown5 (by simp [Value.ownBlock]; omega) _, ((BZ.out.trans (hbel5.mono (by omega))).setCell (Nat.le_refl _) _)⟩
                      case measure => simp [intOf]; omega
                    · have hd1 : decide (1 < lj) = false := decide_eq_false hl1
                      have hk' : k' = k := by have := HM.out; rwa [if_neg hl1] at this
                      clear HM he
                      subst hk'
                      go_wp2_with (at_builtin; refine wpList_append1 rfl _ _ 26 rfl (wo.heap.size + 1) 3 i0 (.int .i64 0) 8 Try.underlying26 hi hz0 hz1 hz2 rfl _ s c _ rfl HO.out (.int .i64 k') rfl rfl (by unfold maxLen; omega) (by omega) hsz ?_; intro g' c5 w5 hown5 hbel5; have K9 := Lib.hid (K8.out.below hbel5 (Nat.lt_succ_self _)); obtain ⟨x0, x1, x2, x3, x4⟩ := K9.out.two; have hg5 := (hown5.lt g' rfl).1)
                      go_roundw
                      case rel => exact ⟨s + 1, some ⟨g', 0, none⟩, c5, by omega, by go_num, K9.out.set_ 1 _, by rw [← HTK.out]; exact own_set hown5 (by simp [Value.ownBlock]; omega) _, ((BZ.out.trans (hbel5.mono (by omega))).setCell (Nat.le_refl _) _)⟩
                      case measure => simp [intOf]; omega
                  · obtain rfl : s = S := by omega
                    have HO1 := HO.out
                    rw [List.take_of_length_le (by rw [mx_len, hXL.out]; omega)] at HO1
                    obtain ⟨gi, ci, hv, hgi, hgl⟩ := HO1.form (by omega)
                    injection hv with hv1 hv2 hv3
                    subst hv1 hv3
                    have RD := Lib.hid (Reads.of_own HO1)
                    obtain ⟨gn, cn, xs, hKu, hne, hown, hin⟩ := UJ.out.below BZ.out
                    have hgn : gn < wo.heap.size ∧ gu < wo.heap.size := by
                      obtain ⟨gn', cn', xs', hKu', hne', hown', hin'⟩ := UJ.out
                      have e := (hKu'.below BZ.out hKu'.lt).three6.2.2.1
                      rw [hKu.three6.2.2.1] at e
                      injection e with e
                      injection e with e1 e2 e3
                      injection e1 with e1
                      injection e1 with e1
                      subst e1
                      exact ⟨(hown'.lt gn rfl).2, hKu'.lt⟩
                    have KU := Lib.hid hKu
                    have HOn := Lib.hid hown
                    have HIn := Lib.hid hin
                    obtain ⟨u0, u1, u2, u3, u4, u5, u6⟩ := hKu.three6
                    have hszn : w2.heap.size ≤ wr.heap.size := by omega
                    clear hKu hown hin HO HO1 hsl
                    go_wp2_with (at_builtin; refine wpList_append2L rfl _ _ 23 rfl w2.heap.size 30 j0 (.agg #[.int .i64 0, .slice none 0 0]) 32 Try.underlying23 ji jz0 jz1 jz2 rfl _ (j + 1) cn xs rfl HOn.out (.int .i64 lj) (.slice (some ⟨gi, 0, none⟩) s c) rfl rfl rfl (by unfold maxLen; omega) (by omega) hszn ?_; intro g' c6 w6 hown6 hbel6 hgr6 hat6; have KU6 := Lib.hid (show Blk w6 gu 25 #[.int .i64 (s : Int), .slice AH n cH, .slice (some ⟨gn, 0, none⟩) (j + 1) cn] from (hgr6.block gu (by simp; omega) (fun e => by simp [Value.ownBlock] at e; omega)).trans (KU.out.alloc _)); obtain ⟨v0, v1, v2, v3, v4, v5, v6⟩ := KU6.out.three6)
                    go_roundw
                    case rel =>
                      refine ⟨j + 1, by omega, by go_num, ?_, ((BJ.out.trans (BZ.out.mono (by omega))).trans hbel6).setCell hgu _⟩
                      have hls : (xu s lv nx (j + 1)).length = s := by rw [HXU.out, mx_len, hXL.out]
                      refine UR.grow (lv := lu lv) (nx := xu s lv nx) (j := j + 1) (A := some ⟨gi, 0, none⟩) (c2 := c) KU.out hne HOn.out HIn.out ?_ ?_ ?_ hgr6 hat6
                      · rw [hls, HXU.out]; exact RD.out
                      · intro _ ad e
                        injection e with e
                        subst e
                        simp only
                        omega
                      · rw [hls, HLU.out]; exact hown6
                    case measure => simp [intOf]; omega
              · obtain rfl : j = m := by omega
                obtain ⟨gn, cn, xs, hKu, hne, hown, hin⟩ := UJ.out
                have NU := Lib.hid (NR.of_own hown hin)
                have KU := Lib.hid hKu
                clear hKu hown hin
                go_wp2_with (first
                  | (go_at_call 6; (with_reducible refine (AW.out _ B7.out).mono ?_); rintro e w8 ⟨rfl, hb⟩; have B8 := Lib.hid (B7.out.trans (hb.mono B7.out.size)); clear hb)
                  | (go_at_call 8; (with_reducible refine (RU2.out _ _ _ B6.out N6.out).mono ?_); rintro e w7 ⟨rfl, hb⟩; have B7 := Lib.hid (B6.out.trans (hb.mono B6.out.size)); clear hb)
                  | (go_at_call 7; (with_reducible refine (EU2.out _ _ _ B5.out N5.out).mono ?_); rintro e w6 ⟨rfl, hb⟩; have B6 := Lib.hid (B5.out.trans (hb.mono B5.out.size)); have K6 := Lib.hid (K5.out.below hb K5.out.lt); have N6 := Lib.hid (N5.out.later hb); obtain ⟨v0, v1, v2, v3⟩ := K6.out.three; clear hb)
                  | (go_at_call 7; (with_reducible refine (EV2.out _ B4.out).mono ?_); rintro e w5 ⟨rfl, hb⟩; have B5 := Lib.hid (B4.out.trans (hb.mono B4.out.size)); have K5 := Lib.hid (KU.out.below hb KU.out.lt); have N5 := Lib.hid (NU.out.later hb); obtain ⟨u0, u1, u2, u3⟩ := K5.out.three; clear hb))
                go_ret
                exact ⟨rfl, B8.out⟩
      · have d2 : decide (40 < (q : Int)) = true := by rw [decide_eq_true_iff]; omega
        go_wp2_with (go_at_call 6; (with_reducible refine (AW.out _ B1.out).mono ?_); rintro e w2 ⟨rfl, hb⟩; have B2 := Lib.hid (B1.out.trans (hb.mono B1.out.size)); clear hb)
        go_ret
        exact ⟨rfl, B2.out⟩
    · have d1 : decide (300 < (m : Int)) = true := by rw [decide_eq_true_iff]; omega
      go_wp2_with (go_at_call 6; (with_reducible refine (AW.out _ B1.out).mono ?_); rintro e w2 ⟨rfl, hb⟩; have B2 := Lib.hid (B1.out.trans (hb.mono B1.out.size)); clear hb)
      go_ret
      exact ⟨rfl, B2.out⟩
end
end Go.Proofs.Ytkdcciajihoimaa
