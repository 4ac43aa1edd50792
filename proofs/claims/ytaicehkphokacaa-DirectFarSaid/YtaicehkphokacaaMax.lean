/- The walk of advance. -/
import Derived.Test.YtaicehkphokacaaMat
import Derived.Test.YtaicehkphokacaaMaw
namespace Go.Proofs.Ytaicehkphokacaa
open Go.RowKit

theorem info_cellC : (Try.prog.info? 47).map (fun i => (i.zero, i.size, i.bytes)) = some (some (.agg #[.int .i64 0, .int .i64 0, .int .i64 0]), 3, 24) := by kernel_rfl
theorem res_mono (F : Nat → Int) (y : Nat) : ∀ d, (res F y).length ≤ (res F (y + d)).length
  | 0 => Nat.le_refl _
  | d + 1 => by
    have := res_mono F y d
    rw [← Nat.add_assoc, res]
    split
    · exact this
    · simp; omega
theorem rdr_zero {p : List C3} (h : PatOK p) {o : Int} (ho : OffOk o) : rdr (nums p) 0 o = (o, 0, gN (nums p) 0 - o) := by
  have hc : cnt (nums p) (0 + o) = 0 := by
    rcases Nat.eq_zero_or_pos (cnt (nums p) (0 + o)) with e | e
    · exact e
    · exfalso
      have h1 := cnt_lt (nums p) (0 + o) 0 e
      have hl := cnt_le (nums p) (0 + o)
      have hl2 : (nums p).length = p.length := by simp [nums]
      have hp : 0 < p.length := by omega
      have e2 : gN (nums p) 0 = nmb p[0].1 p[0].2.1 := by simp [gN, nums, List.getD_eq_getElem?_getD, hp]
      obtain ⟨q1, q2, _⟩ := h.ok _ (List.getElem_mem hp)
      have b1 := (nmb_lt q1 q2).1
      have b2 := (off_bd ho).2
      rw [e2] at h1
      generalize nmb p[0].1 p[0].2.1 = nn at *
      omega
  unfold rdr
  rw [hc]
  rfl
theorem rd0_eq {p : List C3} (h : PatOK p) {os : List Int} (ho : ∀ o ∈ os, OffOk o) : rd0 (nums p) os = os.map (rdr (nums p) 0) := by
  unfold rd0
  apply List.map_congr_left
  intro o h1
  exact (rdr_zero h (ho o h1)).symm
theorem rdr_skip {p : List C3} (h : PatOK p) {os : List Int} (ho : ∀ o ∈ os, OffOk o) {y z : Nat} (h1 : (y : Int) ≤ (z : Int)) (h2 : (z : Int) ≤ nxp (nums p) os y) (hz : z ≤ PS) : os.map (rdr (nums p) (y : Int)) = os.map (rdr (nums p) (z : Int)) := by
  apply List.map_congr_left
  intro o h3
  have hb : (z : Int) + o ≤ BY := by have := off_bd (ho o h3); unfold BY PS at *; omega
  unfold rdr
  rw [cnt_nxp h.ascN h1 h2 h3 hb]
/-- between two visited positions nothing becomes alive -/
theorem res_next {g : List Int → Int} {os : List Int} {p : List C3} (hq : g (List.replicate os.length 0) = 0) (h : PatOK p) (ho : ∀ o ∈ os, OffOk o) {y z : Nat} (h1 : y ≤ z) (h2 : (z : Int) ≤ nxp (nums p) os y) (hz : z ≤ PS) : res (FT g os p) z = res (FT g os p) y := by
  obtain ⟨d, rfl⟩ : ∃ d, z = y + d := ⟨z - y, by omega⟩
  refine res_skip d fun x hx1 hx2 => FT_none hq fun o h3 => ?_
  exact st_between (z := (y : Int)) (y := (x : Int)) h.ascN (by omega) (by omega) h3 (by have := off_bd (ho o h3); unfold BY PS at *; omega)
theorem offs_ok {T : Tr} (hd : ∀ i, i < T.n → -2 ≤ (T.f i).1 ∧ (T.f i).1 ≤ 2 ∧ -2 ≤ (T.f i).2 ∧ (T.f i).2 ≤ 2) : ∀ o ∈ offL T, OffOk o := fun o h => by
  unfold offL at h
  rw [List.mem_map] at h
  obtain ⟨k, hk, rfl⟩ := h
  rw [List.mem_range] at hk
  obtain ⟨a, b, c, d⟩ := hd k hk
  exact ⟨(T.f k).1, (T.f k).2, rfl, a, b, c, d⟩
theorem cls_add (l : List (Nat × Int)) (z : Nat) (s : Int) : cg (cls (l ++ [(z, s)])) = cg (cls l) ++ [.int .i64 (plx z), .int .i64 (ply z), .int .i64 s] := by simp [cls, cg]
theorem cls_len (l : List (Nat × Int)) : (cls l).length = l.length := by simp [cls]
theorem Vld.add {l : List (Nat × Int)} {z : Nat} {s : Int} (h : Vld l) (hz : okc (plx (z : Int)) ∧ okc (ply (z : Int))) : Vld (l ++ [(z, s)]) := fun e he => by
  rw [List.mem_append, List.mem_singleton] at he
  rcases he with he | rfl
  · exact h e he
  · exact hz
theorem SW.app {w4 w5 : World} {sb b0 m cN q cP gq cQ gr cR n len c : Nat} {AN AP A A' : Option Addr} {N : List Int} {rs : List C3} {xs : List Value} (h : SW w4 sb b0 AN AP m cN q cP gq cQ gr cR n N rs) (ho : w4.ownsRow b0 47 3 (.slice A len c) len xs) (hf : Fr (ob A) w4 (ob A') w5) : SW w5 sb b0 AN AP m cN q cP gq cQ gr cR n N rs :=
  ⟨hf.blk h.blk (own_ob_ne ho h.blk (by decide)), hf.row h.nm (fun g hg e => own_ne2 h.nm ho (by decide) hg (ob_own.1 e)), hf.row h.rd (fun g hg e => own_ne2 h.rd ho (by decide) hg (ob_own.1 e))⟩
/-- what advance answers -/
def AdvOut (l : List (Nat × Int)) (w : World) (e : Ending) (w' : World) : Prop :=
  (¬ Vld l ∧ e = .returned (.tuple #[.slice none 0 0, .int .i64 5]) ∧ Below w.heap.size w w') ∨ (Vld l ∧ 5000 < l.length ∧ e = .returned (.tuple #[.slice none 0 0, .int .i64 6]) ∧ Below w.heap.size w w') ∨
  (Vld l ∧ l.length ≤ 5000 ∧ ∃ A c, e = .returned (.tuple #[.slice A l.length c, .int .i64 0]) ∧ CReads w' w'.heap.size A l.length (fun k => (cls l).getD k (0, 0, 0)) ∧ Below w.heap.size w w')
set_option maxRecDepth 100000 in
set_option maxHeartbeats 8000000 in
theorem advance_any (AH AN AP : Option Addr) (cH cN cP q : Nat) (T : Tr) (p : List C3) (w : World) (h : TS w AH AN T) (ht : Rt T) (hqt : gT T (List.replicate T.n 0) = 0) (hp : CReads w w.heap.size AP q (fun k => p.getD k (0, 0, 0))) (hpl : p.length = q) (hq : q ≤ 5000)
    (hP : PatOK p) (hst : ∀ c ∈ p, c.2.2 < T.st) :
    Calls Try.prog 29 #[.agg #[.int .i64 T.st, .slice AH T.n cH, .slice AN T.m cN], .slice AP q cP] w fun e w' => AdvOut (nxt (gT T) (offL T) p) w e w' := by
  obtain ⟨ic, hic, hy0, hy1, hy2⟩ := info_parts info_cellC
  have NS := Lib.hid (fun W (hb : Below w.heap.size w W) => newSweep_any AH AN AP cH cN cP q T p W (h.later hb) ht.hd.2.1 ht.hd.1.2 (hp.later hb) hpl (fun c hc => ⟨(hP.ok c hc).1, (hP.ok c hc).2.1⟩) hq)
  have HO := Lib.hid (offs_ok ht.hd.2.1)
  have OL := Lib.hid (offL_len T)
  have VI := Lib.hid (fun (wr : World) (sb gq cQ gr cR z : Nat) (hb : Below w.heap.size w wr) (hs : SW wr sb w.heap.size AN AP T.m cN q cP gq cQ gr cR T.n (nums p) ((offL T).map (rdr (nums p) (z : Int)))) (hz : z < PS) =>
    visit_any hs hb.size (offL_len T) (h.2.below hb) ht (hp.below hb) hpl hq hP hst hz (offs_ok ht.hd.2.1))
  have FI := Lib.hid (fun (wr : World) (sb gq cQ gr cR : Nat) (y : Int) (hs : SW wr sb w.heap.size AN AP T.m cN q cP gq cQ gr cR T.n (nums p) ((offL T).map (rdr (nums p) y))) => first_any hs (offL_len T) ht.hd.1.2)
  have HQT := Lib.hid (show gT T (List.replicate (offL T).length 0) = 0 by rw [offL_len]; exact hqt)
  have NL := Lib.hid (nxt_len (show gT T (List.replicate (offL T).length 0) = 0 by rw [offL_len]; exact hqt) (offs_ok ht.hd.2.1) hP)
  have HP := Lib.hid hP
  have n25 := ht.hd.1.2
  have HPL := Lib.hid hpl
  have HR0 := Lib.hid (rd0_eq hP (offs_ok ht.hd.2.1))
  have HVF := Lib.hid (show ∀ z : Nat, fo T.nx ((T.m - 1 : Nat) : Int) (rdS p (offL T) (z : Int)) = FT (gT T) (offL T) p z from fun z => rfl)
  clear h ht hp hpl hP hst hqt
  generalize offL T = os at *
  generalize gT T = g at *
  obtain ⟨st, n, f, m, lv, nx⟩ := T
  simp only at *
  have K1 := Blk.new w 25 #[.int .i64 st, .slice AH n cH, .slice AN m cN]
  have B1 : Below w.heap.size w (w.alloc (.cells #[.int .i64 st, .slice AH n cH, .slice AN m cN] 25)) := (Below.refl _ _).alloc (Nat.le_refl _) _
  obtain ⟨Q, hQ⟩ : ∃ Q, AdvOut (nxt g os p) w = Q := ⟨_, rfl⟩
  have HQ := Lib.hid hQ
  rw [hQ]
  clear hQ
  go_enter Try.func29, Try.ntmps29
  go_upto_region 1 with (fail)
  generalize w.alloc (.cells #[.int .i64 st, .slice AH n cH, .slice AN m cN] 25) = w1 at *
  obtain ⟨t0, t1, t2, _, _, _, t3⟩ := K1.three6
  have B1 := Lib.hid B1
  have NN := Lib.hid (NS.out w1 B1.out)
  go_upto_region 2 with (go_at_call 50; (with_reducible refine (NN.out).mono ?_); rintro e w2 ⟨gq, cQ, gr, cR, rfl, hnm, hrd, hb⟩; have NM := Lib.hid hnm; have RD := Lib.hid hrd; have B2 := Lib.hid (B1.out.trans (hb.mono B1.out.size)); clear hnm hrd hb)
  have A3 := Lib.hid ((Below.refl w2.heap.size w2).alloc (Nat.le_refl _) (.cells #[.slice AN m cN, .slice AP q cP, .slice (some ⟨gq, 0, none⟩) (q + 1) cQ, .slice (some ⟨gr, 0, none⟩) n cR] 79))
  have S3 := Lib.hid (show SW (w2.alloc (.cells #[.slice AN m cN, .slice AP q cP, .slice (some ⟨gq, 0, none⟩) (q + 1) cQ, .slice (some ⟨gr, 0, none⟩) n cR] 79)) w2.heap.size w.heap.size AN AP m cN q cP gq cQ gr cR n (nums p) (os.map (rdr (nums p) 0)) from ⟨Blk.new w2 _ _, own_belowk (own_lower NM.out B1.out.size) A3.out, by rw [← HR0.out]; exact own_belowk (own_lower RD.out B1.out.size) A3.out⟩)
  have B3 := Lib.hid (B2.out.trans (A3.out.mono B2.out.size))
  generalize w2.alloc (.cells #[.slice AN m cN, .slice AP q cP, .slice (some ⟨gq, 0, none⟩) (q + 1) cQ, .slice (some ⟨gr, 0, none⟩) n cR] 79) = w3 at *
  have lsb : w.heap.size ≤ w2.heap.size := B2.out.size
  generalize w2.heap.size = sb at *
  clear t0 t1 t2 t3 NM RD A3 K1
  have hsz3 := B3.out.size
  go_upto_region 3 with (at_make; refine wpList_make_own _ rfl _ _ 27 rfl w.heap.size 47 ic (.agg #[.int .i64 0, .int .i64 0, .int .i64 0]) 3 Try.underlying27 hic hy0 hy1 .i64 .i64 _ q rfl rfl (by omega) (by rw [hy2]; omega) (by unfold maxLen; omega) hsz3 ?_; intro w4 hown hgrow; have OC := Lib.hid hown; have A4 := Lib.hid (show Below w3.heap.size w3 w4 from ⟨hgrow.os, hgrow.tape, hgrow.output, hgrow.size, fun k hk => hgrow.block k hk (by simp)⟩); clear hown hgrow)
  have S4 := Lib.hid (S3.out.keep A4.out)
  have B4 := Lib.hid (B3.out.trans (A4.out.mono hsz3))
  have FF := Lib.hid (FI.out w4 sb gq cQ gr cR 0 S4.out)
  clear S3 B3 A4
  exact (by
    go_upto_region 4 with (go_at_call 51; (with_reducible refine (FF.out).mono ?_); rintro e w5 ⟨rfl, hb⟩; have S5 := Lib.hid (S4.out.keep hb); have OC5 := Lib.hid (own_belowk OC.out hb); have B5 := Lib.hid (B4.out.trans (hb.mono B4.out.size)); clear hb)
    clear S4 OC B4 FF
    generalize hw3 : w3.heap.size = gc at *
    clear hw3
    go_loopw [7, 8] (fun pv av wr => ∃ (y : Nat) (A : Option Addr) (c : Nat), y ≤ PS ∧ pv = .slice A (res (FT g os p) y).length c ∧ av = .int .i64 (nxp (nums p) os (y : Int)) ∧ Hid (SW wr sb w.heap.size AN AP m cN q cP gq cQ gr cR n (nums p) (os.map (rdr (nums p) (y : Int)))) ∧ Hid (wr.ownsRow w.heap.size 47 3 (.slice A (res (FT g os p) y).length c) (res (FT g os p) y).length (cg (cls (res (FT g os p) y)))) ∧ Hid (Vld (res (FT g os p) y)) ∧ Hid (Below w.heap.size w wr)) (fun _ av _ => PS - (intOf av).toNat)
    case atStart => exact ⟨0, some ⟨gc, 0, none⟩, q, Nat.zero_le _, rfl, rfl, S5, by simpa [res, cls, cg] using OC5, Lib.hid (fun e h => by cases h), B5⟩
    case round =>
      clear S5 OC5 B5
      obtain ⟨y, A, c, hy, rfl, rfl, HS, HC, HV, HB⟩ := hrel
      obtain ⟨nx', hnx⟩ : ∃ v, nxp (nums p) os (y : Int) = v := ⟨_, rfl⟩
      have hge := nxp_ge HP.out.ascN (os := os) (z := (y : Int)) (by unfold BY PS at *; omega) (fun o h => by have := off_bd (HO.out o h); unfold BY PS at *; omega)
      have hle := (nxp_le (nums p) os (y : Int)).1
      rw [hnx] at hge hle ⊢
      obtain ⟨z, rfl⟩ : ∃ z : Nat, nx' = (z : Int) := ⟨nx'.toNat, by omega⟩
      have HNX := Lib.hid hnx
      clear hnx
      by_cases hlt : z < PS
      · have hzI : (z : Int) < 4398067482649 := by unfold PS at hlt; omega
        have hres := res_next HQT.out HP.out HO.out (by omega : y ≤ z) (by rw [HNX.out]; exact Int.le_refl _) (by omega)
        have hskip := rdr_skip HP.out HO.out (by omega : (y : Int) ≤ (z : Int)) (by rw [HNX.out]; exact Int.le_refl _) (by omega)
        have HZ := Lib.hid (show SW wr sb w.heap.size AN AP m cN q cP gq cQ gr cR n (nums p) (os.map (rdr (nums p) (z : Int))) from by rw [← hskip]; exact HS.out)
        have HRES := Lib.hid hres
        have VV := VI.out wr sb gq cQ gr cR z HB.out HZ.out hlt
        rw [HVF.out] at VV
        have VV := Lib.hid VV
        clear hres hskip HS
        obtain ⟨Fz, hFz⟩ : ∃ v, FT g os p z = v := ⟨_, rfl⟩
        rw [hFz] at VV
        have HFZ := Lib.hid hFz
        clear hFz
        exact (by
          go_upto_region 6 with (go_at_call 52; (with_reducible refine (VV.out).mono ?_); rintro e w6 ⟨rfl, hs, hf⟩; have S6 := Lib.hid hs; have F6 := Lib.hid hf; clear hs hf)
          have OC6 := Lib.hid (F6.out.row HC.out (fun g hg e => own_ne2 HC.out HZ.out.rd (by decide) hg (by rw [e]; rfl)))
          have B6 := Lib.hid (HB.out.trans (F6.out.below (B := w.heap.size) (fun k hk => by rw [hk]; exact (HZ.out.rd.lt gr rfl).1) HB.out.size))
          have hge2 := nxp_ge HP.out.ascN (os := os) (z := (z : Int) + 1) (by unfold BY PS at *; omega) (fun o h => by have := off_bd (HO.out o h); unfold BY PS at *; omega)
          have S6 := Lib.hid (show SW w6 sb w.heap.size AN AP m cN q cP gq cQ gr cR n (nums p) (os.map (rdr (nums p) ((z + 1 : Nat) : Int))) from by rw [show ((z + 1 : Nat) : Int) = (z : Int) + 1 by push_cast; rfl]; exact S6.out)
          have hn1 : nxp (nums p) os ((z : Int) + 1) = nxp (nums p) os ((z + 1 : Nat) : Int) := by rw [show ((z + 1 : Nat) : Int) = (z : Int) + 1 by push_cast; rfl]
          have HN1 := Lib.hid hn1
          generalize nxp (nums p) os ((z : Int) + 1) = nn at hge2 HN1 ⊢
          clear hn1 HC HB HZ VV F6
          by_cases h0 : Fz = 0
          · have hr1 : res (FT g os p) (z + 1) = res (FT g os p) y := by rw [res, HFZ.out, if_pos h0, HRES.out]
            have HR1 := Lib.hid hr1
            subst h0
            clear hr1
            exact (by
              go_wp2_with fail
              go_roundw
              case rel => exact ⟨z + 1, A, c, by omega, by rw [HR1.out], by rw [HN1.out], S6, Lib.hid (by rw [HR1.out]; exact OC6.out), Lib.hid (by rw [HR1.out]; exact HV.out), B6⟩
              case measure => simp [intOf]; omega)
          · have h0' : (Fz != 0) = true := by rw [bne_iff_ne]; exact h0
            have hr1 : res (FT g os p) (z + 1) = res (FT g os p) y ++ [(z, Fz)] := by rw [res, HFZ.out, if_neg h0, HRES.out]
            have hmem : (z, Fz) ∈ nxt g os p := mem_res.2 ⟨hlt, HFZ.out, h0⟩
            have hll : (res (FT g os p) y).length ≤ 125000 := by
              have a1 := res_mono (FT g os p) y (PS - y)
              rw [show y + (PS - y) = PS by omega] at a1
              have a2 : (res (FT g os p) PS).length ≤ p.length * os.length := NL.out
              have a3 : p.length * os.length ≤ 5000 * 25 := Nat.mul_le_mul (by rw [HPL.out]; exact hq) (by rw [OL.out]; exact n25)
              omega
            have HR1 := Lib.hid hr1
            have HMEM := Lib.hid hmem
            have PL := Lib.hid (fun W => dplace_any z W hlt)
            have VP := Lib.hid (fun W => dvplace_any (plx (z : Int)) (ply (z : Int)) W)
            obtain ⟨px, hpx⟩ : ∃ v, plx (z : Int) = v := ⟨_, rfl⟩
            obtain ⟨py, hpy⟩ : ∃ v, ply (z : Int) = v := ⟨_, rfl⟩
            rw [hpx, hpy] at VP
            rw [hpx, hpy] at PL
            have HPX := Lib.hid hpx
            have HPY := Lib.hid hpy
            obtain ⟨L, hL⟩ : ∃ L, (res (FT g os p) y).length = L := ⟨_, rfl⟩
            have HL := Lib.hid hL
            rw [hL] at hll OC6 ⊢
            clear hr1 hmem h0 hpx hpy hL
            by_cases hv : okc px ∧ okc py
            · rw [decide_eq_true hv] at VP
              have HVD := Lib.hid hv
              clear hv
              exact (by
                have hsz6 : w.heap.size ≤ w6.heap.size := B6.out.size
                go_wp2_with (first
                  | (go_at_call 53; (with_reducible refine (PL.out _).mono ?_); rintro e w7 ⟨rfl, rfl⟩)
                  | (go_at_call 44; (with_reducible refine (VP.out _).mono ?_); rintro e w8 ⟨rfl, rfl⟩)
                  | (at_builtin; refine wpList_append3L rfl _ _ 27 rfl w.heap.size 47 ic (.agg #[.int .i64 0, .int .i64 0, .int .i64 0]) 24 Try.underlying27 hic hy0 hy1 hy2 rfl A L c _ rfl OC6.out (.int .i64 px) (.int .i64 py) (.int .i64 Fz) rfl rfl rfl rfl (by unfold maxLen; omega) (by omega) hsz6 ?_; intro g' c2 w9 hown hfr; have OC9 := Lib.hid hown; have S9 := Lib.hid (S6.out.app OC6.out hfr); have B9 := Lib.hid (B6.out.trans (hfr.below (B := w.heap.size) (fun k hk => (ob_ge OC6.out k hk).1) hsz6)); clear hown hfr))
                go_roundw
                case rel => exact ⟨z + 1, some ⟨g', 0, none⟩, c2, by omega, by rw [HR1.out, List.length_append, HL.out]; rfl, by rw [HN1.out], S9, Lib.hid (by rw [HR1.out, List.length_append, HL.out, cls_add, HPX.out, HPY.out]; exact OC9.out), Lib.hid (by rw [HR1.out]; exact HV.out.add (by rw [HPX.out, HPY.out]; exact HVD.out)), B9⟩
                case measure => simp [intOf]; omega)
            · rw [decide_eq_false hv] at VP
              have HVD := Lib.hid hv
              clear hv
              exact (by
                go_wp2_with (first
                  | (go_at_call 53; (with_reducible refine (PL.out _).mono ?_); rintro e w7 ⟨rfl, rfl⟩)
                  | (go_at_call 44; (with_reducible refine (VP.out _).mono ?_); rintro e w8 ⟨rfl, rfl⟩))
                (try go_ret2)
                rw [← HQ.out]
                exact .inl ⟨fun hall => HVD.out (by have := hall _ HMEM.out; rwa [HPX.out, HPY.out] at this), rfl, B6.out⟩))
      · have hzI : ¬ (z : Int) < 4398067482649 := by unfold PS at hlt; omega
        have hres := res_next (z := PS) HQT.out HP.out HO.out hy (by rw [HNX.out]; omega) (Nat.le_refl _)
        have HRES := Lib.hid (show nxt g os p = res (FT g os p) y from hres)
        obtain ⟨L, hL⟩ : ∃ L, (res (FT g os p) y).length = L := ⟨_, rfl⟩
        have HL := Lib.hid hL
        rw [hL] at HC ⊢
        clear hL hres
        by_cases h5 : 5000 < L
        · have h5I : (5000 : Int) < (L : Int) := by omega
          exact (by
            go_wp2_with fail
            (try go_ret2)
            rw [← HQ.out]
            exact .inr (.inl ⟨by rw [HRES.out]; exact HV.out, by rw [HRES.out, HL.out]; exact h5, rfl, HB.out⟩))
        · have h5I : ¬ (5000 : Int) < (L : Int) := by omega
          exact (by
            go_wp2_with fail
            (try go_ret2)
            rw [← HQ.out]
            refine .inr (.inr ⟨by rw [HRES.out]; exact HV.out, by rw [HRES.out, HL.out]; omega, A, c, by rw [HRES.out, HL.out], ?_, HB.out⟩)
            rw [HRES.out, HL.out]
            have := creads_cg (gs := cls (res (FT g os p) y)) (e := 47) (base := w.heap.size) (A := A) (c := c) (w := wr) (by rw [cls_len, HL.out]; exact HC.out)
            rwa [cls_len, HL.out] at this))
end Go.Proofs.Ytaicehkphokacaa
