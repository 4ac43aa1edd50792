/- The walk of visit. -/
import Derived.Test.YtaicehkphokacaaMas
namespace Go.Proofs.Ytaicehkphokacaa
open Go.RowKit

/-- the states that a position reads -/
def rdS (p : List C3) (os : List Int) (z : Int) : List Int := os.map fun o => stA (nums p) (sts p) (z + o)
theorem rdS_len (p : List C3) (os : List Int) (z : Int) : (rdS p os z).length = os.length := by simp [rdS]
theorem rdS_at (p : List C3) (os : List Int) (z : Int) (i : Nat) (h : i < os.length) : ig (rdS p os z) i = stA (nums p) (sts p) (z + ig os i) := by simp [rdS, ig, List.getD_eq_getElem?_getD, h]
theorem gN_len {N : List Int} {z : Int} {i : Nat} (hz : z < BY) (h : gN N i = z) : i < N.length := by
  rcases Nat.lt_or_ge i N.length with h' | h'
  · exact h'
  · unfold gN at h
    rw [List.getD_eq_getElem?_getD, List.getElem?_eq_none h'] at h
    simp at h
    omega
theorem gN_bd {p : List C3} (h : PatOK p) (i : Nat) : 0 ≤ gN (nums p) i ∧ gN (nums p) i ≤ BY := by
  unfold gN
  rw [List.getD_eq_getElem?_getD]
  rcases Nat.lt_or_ge i p.length with h' | h'
  · have hi : i < (nums p).length := by simpa [nums] using h'
    rw [List.getElem?_eq_getElem hi]
    have e : (nums p)[i] = nmb p[i].1 p[i].2.1 := by simp [nums]
    obtain ⟨h1, h2, _⟩ := h.ok _ (List.getElem_mem h')
    have := nmb_lt h1 h2
    simp only [Option.getD_some]
    rw [e]
    unfold BY
    omega
  · rw [List.getElem?_eq_none (by simpa [nums] using h')]
    exact ⟨by decide, by decide⟩
theorem sts_at (p : List C3) (c : Nat) : (sts p).getD c 0 = (p.getD c (0, 0, 0)).2.2 := by
  simp only [sts, List.getD_eq_getElem?_getD, List.getElem?_map]
  cases p[c]? <;> rfl
set_option maxRecDepth 100000 in
set_option maxHeartbeats 8000000 in
theorem visit_any {w : World} {sb b0 : Nat} {AN AP : Option Addr} {cN q cP gq cQ gr cR : Nat} {T : Tr} {p : List C3} {os : List Int} {z : Nat}
    (h : SW w sb b0 AN AP T.m cN q cP gq cQ gr cR T.n (nums p) (os.map (rdr (nums p) (z : Int)))) (hb0 : b0 ≤ w.heap.size) (hn : os.length = T.n) (hT : NR w b0 AN T.m T.lv T.nx) (ht : Rt T) (hp : CReads w b0 AP q (fun k => p.getD k (0, 0, 0))) (hpl : p.length = q) (hq : q ≤ 5000)
    (hP : PatOK p) (hst : ∀ c ∈ p, c.2.2 < T.st) (hz : z < PS) (ho : ∀ o ∈ os, OffOk o) :
    Calls Try.prog 52 #[.pointer (some ⟨sb, 0, none⟩), .int .i64 (z : Int)] w fun e w' => e = .returned (.tuple #[.int .i64 (fo T.nx ((T.m - 1 : Nat) : Int) (rdS p os z)), .int .i64 (nxp (nums p) os ((z : Int) + 1))]) ∧ SW w' sb b0 AN AP T.m cN q cP gq cQ gr cR T.n (nums p) (os.map (rdr (nums p) ((z : Int) + 1))) ∧ Fr (fun k => k = gr) w (fun k => k = gr) w' := by
  have n25 : T.n ≤ 25 := ht.hd.1.2
  have m1 := ht.m1
  have m2 := ht.m2
  have s1 := ht.s1
  have TP := Lib.hid ht.top
  have HT := Lib.hid ht.nd
  have HS := Lib.hid h
  have HN := Lib.hid hn
  have HNR := Lib.hid hT
  have HP := Lib.hid hp
  have HPL := Lib.hid hpl
  have HPO := Lib.hid hP
  have HST := Lib.hid hst
  have HO := Lib.hid ho
  have HF := Lib.hid (show nxp (nums p) os ((z : Int) + 1) = fmn os (fun o => gN (nums p) (cnt (nums p) ((z : Int) + 1 + o)) - o) from rfl)
  have HB0 := Lib.hid hb0
  have gb := (h.rd.lt gr rfl).1
  clear h hn hT ht hp hpl hP hst ho hb0
  obtain ⟨st, n, f, m, lv, nx⟩ := T
  simp only at *
  obtain ⟨mi, rfl⟩ : ∃ i, m = i + 1 := ⟨m - 1, by omega⟩
  have e1 : mi + 1 - 1 = mi := by omega
  rw [e1] at TP ⊢
  obtain ⟨V, hV⟩ : ∃ V, fo nx (mi : Int) (rdS p os z) = V := ⟨_, rfl⟩
  have HV := Lib.hid hV
  rw [hV]
  obtain ⟨X, hX⟩ : ∃ X, nxp (nums p) os ((z : Int) + 1) = X := ⟨_, rfl⟩
  rw [hX] at HF ⊢
  obtain ⟨q0, _, _, q3, _⟩ := HS.out.blk.four
  have e2 : IntKind.i64.wrap (((mi : Int) + 1) - 1) = (mi : Int) := by rw [show ((mi : Int) + 1) - 1 = (mi : Int) by omega]; exact IntWalk.i64_in _ ⟨by omega, by omega⟩
  clear e1 hV hX
  go_enter Try.func52, Try.ntmps52
  go_upto_region 1 with (fail)
  go_region
  all_goals
    go_upto_region 5 with (fail)
    have HS1 := Lib.hid HS.out.drew
    have F1 := Lib.hid ((Fr.refl (fun k => k = gr) w).drew)
    have BW := Lib.hid (show Below b0 w w.drew from (Below.refl _ _).drew)
    clear q0 q3 e2
    go_loopw [8, 9, 26] (fun fv ev iv wr => ∃ (i : Nat) (k : Int), i ≤ n ∧ fv = .int .i64 (fmn (os.take i) (fun o => gN (nums p) (cnt (nums p) ((z : Int) + 1 + o)) - o)) ∧ ev = .int .i64 k ∧ iv = .int .i64 (i : Int) ∧ Hid (fo nx k ((rdS p os z).drop i) = V) ∧ Hid (i < n → 0 ≤ k ∧ k < (mi : Int) + 1 ∧ lv k.toNat = (n : Int) - (i : Int)) ∧ Hid (SW wr sb b0 AN AP (mi + 1) cN q cP gq cQ gr cR n (nums p) (rsk (nums p) os z i)) ∧ Hid (Fr (fun k => k = gr) w (fun k => k = gr) wr)) (fun _ _ iv _ => n - (intOf iv).toNat)
    case atStart => exact ⟨0, mi, Nat.zero_le _, rfl, rfl, rfl, by simpa using HV, Lib.hid (fun _ => ⟨by omega, by omega, by rw [Int.toNat_natCast, TP.out]; omega⟩), by simpa [rsk] using HS1, F1⟩
    case round =>
      clear HS1 F1
      obtain ⟨i, k, hi, rfl, rfl, rfl, HFO, HK, HR, HW⟩ := hrel
      have hrl : (rsk (nums p) os z i).length = n := by rw [rsk_len, HN.out]
      by_cases hlt : i < n
      · have hiI : (i : Int) < (n : Int) := by omega
        have hio : i < os.length := by rw [HN.out]; exact hlt
        obtain ⟨k1, k2, k3⟩ := HK.out hlt
        obtain ⟨kn, rfl⟩ : ∃ kn : Nat, k = (kn : Int) := ⟨k.toNat, by omega⟩
        have hkm : kn < mi + 1 := by omega
        rw [Int.toNat_natCast] at k3
        have hfo := HFO.out
        rw [fo_step nx kn (by rw [rdS_len]; exact hio), rdS_at p os z i hio] at hfo
        rw [Int.toNat_natCast] at hfo
        obtain ⟨x0, x1, x2⟩ := HR.out.at_ hrl hlt
        rw [rsk_at (nums p) os z i hio] at x0 x1 x2
        have HMN := fmn_take os (fun o => gN (nums p) (cnt (nums p) ((z : Int) + 1 + o)) - o) i hio
        (try simp only at HMN)
        have HSET := rsk_set (nums p) os z i hio
        have ho := HO.out (ig os i) (by unfold ig; rw [List.getD_eq_getElem?_getD, List.getElem?_eq_getElem hio]; exact List.getElem_mem hio)
        have hob := off_bd ho
        have hG := rsk_at (nums p) os z i hio
        generalize ig os i = o at *
        have hzo : (z : Int) + o < BY := by unfold BY PS at *; omega
        have hcs := cnt_succ HPO.out.ascN hzo
        rw [show (z : Int) + o + 1 = (z : Int) + 1 + o by omega] at hcs
        have hcl := cnt_le (nums p) ((z : Int) + o)
        have hcl2 : (nums p).length = q := by rw [nums, List.length_map, HPL.out]
        obtain ⟨c, hc⟩ : ∃ c, cnt (nums p) ((z : Int) + o) = c := ⟨_, rfl⟩
        rw [hc] at hcs hcl
        have hbl : Below b0 w wr := HW.out.below (B := b0) (fun k hk => by rw [hk]; exact gb) HB0.out
        obtain ⟨g1, o1, hA, hb1, hcc⟩ := (HNR.out.below hbl) (by omega)
        subst hA
        obtain ⟨A', c', y1, y2, hr⟩ := hcc kn hkm
        obtain ⟨b1, b2, b3, b4⟩ := HT.out kn hkm
        obtain ⟨qq0, qq1, qq2, qq3, _⟩ := HR.out.blk.four
        have fr1 := HR.out.rd.frozenAt (i * 3 + 1)
        have fr2 := HR.out.rd.frozenAt (i * 3 + 2)
        simp only [rdr] at x0 x1 x2
        rw [hc] at x1 x2
        obtain ⟨a, ha⟩ : ∃ a, fmn (os.take i) (fun o => gN (nums p) (cnt (nums p) ((z : Int) + 1 + o)) - o) = a := ⟨_, rfl⟩
        rw [ha] at HMN ⊢
        by_cases hit : gN (nums p) c = (z : Int) + o
        · rw [if_pos hit] at hcs
          have hcq : c < q := by rw [← hcl2]; exact gN_len hzo hit
          have hcp : c < p.length := by rw [HPL.out]; exact hcq
          have hsa : stA (nums p) (sts p) ((z : Int) + o) = (p.getD c (0, 0, 0)).2.2 := by unfold stA; rw [hc, if_pos hit, sts_at]
          rw [hsa] at hfo
          have hmem : p.getD c (0, 0, 0) ∈ p := by rw [List.getD_eq_getElem?_getD, List.getElem?_eq_getElem hcp]; exact List.getElem_mem hcp
          have t1 := HST.out _ hmem
          have t2 := (HPO.out.ok _ hmem).2.2.1
          obtain ⟨g2, o2, hA2, hb2, hcc2⟩ := (HP.out.below hbl) (by omega)
          subst hA2
          have z2 := (hcc2 c hcq).2.2
          simp only at z2
          obtain ⟨sn, hs⟩ : ∃ sn : Nat, (p.getD c (0, 0, 0)).2.2 = (sn : Int) := ⟨((p.getD c (0, 0, 0)).2.2).toNat, by omega⟩
          rw [hs] at z2 t1 t2 hfo
          rw [Int.toNat_natCast] at hfo
          have hsn : sn < (nx kn).length := by omega
          obtain ⟨ad2, rfl, hb3, hx2⟩ := il_at hr hsn
          have b5 := b4 sn hsn
          obtain ⟨k', hk'⟩ : ∃ k', ig (nx kn) sn = k' := ⟨_, rfl⟩
          rw [hk'] at hx2 hfo b5
          have HFO' := Lib.hid hfo
          have HK' := Lib.hid (show i + 1 < n → 0 ≤ k' ∧ k' < (mi : Int) + 1 ∧ lv k'.toNat = (n : Int) - ((i + 1 : Nat) : Int) from fun hjn => by
            obtain ⟨p1, _, p3⟩ := b5
            obtain ⟨p4, p5⟩ := p3 (by omega)
            exact ⟨p1, by omega, by rw [p5, k3]; omega⟩)
          rw [hcs] at HMN
          have hrd : rdr (nums p) ((z : Int) + 1) o = (o, ((c + 1 : Nat) : Int), gN (nums p) (c + 1) - o) := by unfold rdr; rw [hcs]
          rw [hrd, show ((c + 1 : Nat) : Int) = (c : Int) + 1 by push_cast; rfl] at HSET
          have hbd := gN_bd HPO.out (c + 1)
          have hnum := HR.out.num hcl2 (i := c + 1) (by omega)
          rw [hit, show (z : Int) + o - o = (z : Int) by omega] at x2
          have P5 := Lib.hid (HR.out.st1 hrl hlt ((c : Int) + 1))
          rw [hG] at P5
          have hr1 : (rdr (nums p) z o).1 = o := rfl
          rw [hr1] at P5
          obtain ⟨v3, hv3⟩ : ∃ v3, (rdr (nums p) z o).2.2 = v3 := ⟨_, rfl⟩
          rw [hv3] at P5
          obtain ⟨vv, hvv⟩ : ∃ vv, gN (nums p) (c + 1) = vv := ⟨_, rfl⟩
          rw [hvv] at HMN HSET hbd hnum
          obtain ⟨a2, ha2⟩ : ∃ a2, min a (vv - o) = a2 := ⟨_, rfl⟩
          rw [ha2] at HMN
          have HMN' := Lib.hid HMN
          have m9 := run_min2' a (vv - o) a2 ha2
          have HSET' := Lib.hid HSET
          have hHVV := Lib.hid hvv
          have ez : ((z : Int) == (z : Int)) = true := beq_self_eq_true _
          have ec : IntKind.i64.wrap ((c : Int) + 1) = (c : Int) + 1 := IntWalk.i64_in _ ⟨by omega, by omega⟩
          have ev : IntKind.i64.wrap (vv - o) = vv - o := IntWalk.i64_in _ ⟨by unfold BY at hbd; omega, by unfold BY at hbd; omega⟩
          have cI : (c : Int) < (q : Int) := by omega
          have c1I : (c : Int) + 1 < (q : Int) + 1 := by omega
          have knI : (kn : Int) < (mi : Int) + 1 := by omega
          have snI : (sn : Int) < ((nx kn).length : Int) := by omega
          generalize (nx kn).length = S at y2 hsn snI
          clear hfo hk' b1 b2 b3 b4 b5 hcc hcc2 hr y1 k1 k2 k3 hs t1 t2 HMN HSET hvv ha ha2 hc hit hcs hcl hcl2 hsa hmem hrd hG hv3 hr1 hob ho hzo hio hcp
          exact (by
            go_upto_region 10 with (fail)
            go_region
            all_goals
              go_upto_region 12 with (fail)
              have W5 := Lib.hid P5.out.1.drew
              have F5 := Lib.hid P5.out.2.drew
              have hl5 : ((rsk (nums p) os z i).set i (o, (c : Int) + 1, v3)).length = n := by rw [List.length_set]; exact hrl
              obtain ⟨w5, hw5⟩ : ∃ w5, (wr.setCell ⟨gr, i * 3 + 1, none⟩ (.int .i64 ((c : Int) + 1))).drew = w5 := ⟨_, rfl⟩
              rw [hw5] at W5 F5 ⊢
              clear hw5 P5 qq0 qq1 qq2 qq3 x0 x1 x2 hnum z2
              obtain ⟨x0, x1, x2⟩ := W5.out.at_ hl5 hlt
              have hg5 : ((rsk (nums p) os z i).set i (o, (c : Int) + 1, v3)).getD i (0, 0, 0) = (o, (c : Int) + 1, v3) := by rw [List.getD_eq_getElem?_getD, List.getElem?_set_self (by omega)]; rfl
              rw [hg5] at x0 x1 x2
              simp only at x0 x1 x2
              have hnum := W5.out.num (by rw [nums, List.length_map, HPL.out]) (i := c + 1) (by omega)
              rw [hHVV.out] at hnum
              obtain ⟨qq0, qq1, qq2, qq3, _⟩ := W5.out.blk.four
              have fr2' := W5.out.rd.frozenAt (i * 3 + 2)
              have P6 := Lib.hid (W5.out.st2 hl5 hlt (vv - o))
              rw [hg5, List.set_set, HSET'.out] at P6
              have bl5 : Below b0 wr w5 := F5.out.below (B := b0) (fun k hk => by rw [hk]; exact gb) (Nat.le_trans HB0.out HW.out.size)
              have y2' := (bl5.cell (p := ⟨g1, _, none⟩) hb1).trans y2
              have hx2' := (bl5.cell (p := ad2.add sn) (by rw [block_of_add]; exact hb3)).trans hx2
              clear hg5 hl5 fr1 fr2 y2 hx2
              exact (by
                go_region
                all_goals
                  have W6 := Lib.hid P6.out.1.drew
                  have F6 := Lib.hid (F5.out.trans P6.out.2.drew)
                  have F56 := P6.out.2.drew
                  obtain ⟨w6, hw6⟩ : ∃ w6, (w5.setCell ⟨gr, i * 3 + 2, none⟩ (.int .i64 (vv - o))).drew = w6 := ⟨_, rfl⟩
                  rw [hw6] at W6 F6 F56 ⊢
                  clear hw6 P6 qq0 qq1 qq2 qq3 x0 x1 x2 hnum
                  have hl6 : (rsk (nums p) os z (i + 1)).length = n := by rw [rsk_len, HN.out]
                  obtain ⟨_, _, x2⟩ := W6.out.at_ hl6 hlt
                  have hg6 : ((rsk (nums p) os z (i + 1)).getD i (0, 0, 0)).2.2 = vv - o := by rw [← HSET'.out, List.getD_eq_getElem?_getD, List.getElem?_set_self (by omega)]; rfl
                  rw [hg6] at x2
                  have bl6 : Below b0 w5 w6 := F56.below (B := b0) (fun k hk => by rw [hk]; exact gb) (Nat.le_trans HB0.out (Nat.le_trans HW.out.size F5.out.size))
                  have y2 := (bl6.cell (p := ⟨g1, _, none⟩) hb1).trans y2'
                  have hx2 := (bl6.cell (p := ad2.add sn) (by rw [block_of_add]; exact hb3)).trans hx2'
                  clear y2' hx2' hl6 hg6 bl5 bl6 F56
                  have HW6 := Lib.hid (HW.out.trans F6.out)
                  exact (by
                    go_wp2_with fail
                    go_roundw
                    case rel => exact ⟨i + 1, k', by omega, by rw [HMN'.out], rfl, by go_num, HFO', Lib.hid HK'.out, W6, HW6⟩
                    case measure => simp [intOf]; omega)))
        · rw [if_neg hit] at hcs
          have hsa : stA (nums p) (sts p) ((z : Int) + o) = 0 := by unfold stA; rw [hc, if_neg hit]
          rw [hsa] at hfo
          have hsn : 0 < (nx kn).length := by omega
          obtain ⟨ad2, rfl, hb3, hx2⟩ := il_at hr hsn
          have b5 := b4 0 hsn
          obtain ⟨k', hk'⟩ : ∃ k', ig (nx kn) 0 = k' := ⟨_, rfl⟩
          rw [show (0 : Int).toNat = 0 from rfl] at hfo
          rw [hk'] at hx2 hfo b5
          have HFO' := Lib.hid hfo
          have HK' := Lib.hid (show i + 1 < n → 0 ≤ k' ∧ k' < (mi : Int) + 1 ∧ lv k'.toNat = (n : Int) - ((i + 1 : Nat) : Int) from fun hjn => by
            obtain ⟨p1, _, p3⟩ := b5
            obtain ⟨p4, p5⟩ := p3 (by omega)
            exact ⟨p1, by omega, by rw [p5, k3]; omega⟩)
          rw [hcs] at HMN
          have hrd : rdr (nums p) ((z : Int) + 1) o = (o, (c : Int), gN (nums p) c - o) := by unfold rdr; rw [hcs]
          rw [hrd] at HSET
          have hbd := gN_bd HPO.out c
          have hnum := HR.out.num hcl2 (i := c) (by omega)
          have hne : ¬ gN (nums p) c - o = (z : Int) := by omega
          obtain ⟨vv, hvv⟩ : ∃ vv, gN (nums p) c = vv := ⟨_, rfl⟩
          rw [hvv] at HMN HSET hbd hnum x2 hne
          have hr1 : rdr (nums p) z o = (o, (c : Int), vv - o) := by unfold rdr; rw [hc, hvv]
          have hsame : rsk (nums p) os z (i + 1) = rsk (nums p) os z i := by
            rw [← HSET, ← hr1, ← hG, List.getD_eq_getElem?_getD, List.getElem?_eq_getElem (by rw [hrl]; exact hlt)]
            simp
          have HR' := Lib.hid (show SW wr sb b0 (some ⟨g1, o1, none⟩) AP (mi + 1) cN q cP gq cQ gr cR n (nums p) (rsk (nums p) os z (i + 1)) from by rw [hsame]; exact HR.out)
          have hx3 : wr.cell? ad2 = some (.int .i64 k') := by simpa [Addr.add] using hx2
          obtain ⟨a2, ha2⟩ : ∃ a2, min a (vv - o) = a2 := ⟨_, rfl⟩
          rw [ha2] at HMN
          have HMN' := Lib.hid HMN
          have m9 := run_min2' a (vv - o) a2 ha2
          have HSET' := Lib.hid HSET
          have ez : ((vv - o) == (z : Int)) = false := by rw [beq_eq_false_iff_ne]; exact hne
          have ev : IntKind.i64.wrap (vv - o) = vv - o := IntWalk.i64_in _ ⟨by unfold BY at hbd; omega, by unfold BY at hbd; omega⟩
          have cI : (c : Int) < (q : Int) + 1 := by omega
          have knI : (kn : Int) < (mi : Int) + 1 := by omega
          have snI : (0 : Int) < ((nx kn).length : Int) := by omega
          generalize (nx kn).length = S at y2 hsn snI
          clear hfo hk' b1 b2 b3 b4 b5 hcc hr y1 k1 k2 k3 HMN HSET hvv ha ha2 hc hit hcs hcl hcl2 hsa hrd hG hr1 hsame hob ho hzo hio hne
          exact (by
            go_wp2_with fail
            go_roundw
            case rel => exact ⟨i + 1, k', by omega, by rw [HMN'.out], rfl, by go_num, HFO', Lib.hid HK'.out, HR', HW⟩
            case measure => simp [intOf]; omega)
      · obtain rfl : i = n := by omega
        have hot : os.take i = os := by rw [← HN.out]; exact List.take_length
        have hro : rsk (nums p) os z i = os.map (rdr (nums p) ((z : Int) + 1)) := by
          unfold rsk
          rw [hot, List.drop_eq_nil_of_le (by rw [HN.out]; exact Nat.le_refl _), List.map_nil, List.append_nil]
        have hfo : k = V := by
          have := HFO.out
          rw [List.drop_eq_nil_of_le (by rw [rdS_len, HN.out]; exact Nat.le_refl _)] at this
          exact this
        subst hfo
        rw [hot, ← HF.out]
        rw [hro] at HR
        exact (by
          go_wp2_with fail
          go_ret2
          exact ⟨rfl, HR.out, HW.out⟩)
end Go.Proofs.Ytaicehkphokacaa
