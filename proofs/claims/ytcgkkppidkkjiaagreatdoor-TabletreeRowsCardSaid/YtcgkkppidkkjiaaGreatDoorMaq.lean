/- The walk of permuted. -/
import Derived.Test.YtcgkkppidkkjiaaGreatDoorMaa
import Derived.Test.YtcgkkppidkkjiaaGreatDoorMal
import Derived.Test.YtcgkkppidkkjiaaGreatDoorMab
import Derived.Test.YtcgkkppidkkjiaaGreatDoorMaf
import Derived.Test.YtcgkkppidkkjiaaGreatDoorMan
import Derived.Test.YtcgkkppidkkjiaaGreatDoorMad
import Derived.Test.YtcgkkppidkkjiaaGreatDoorMac
import Derived.Test.YtcgkkppidkkjiaaGreatDoorMai
import Derived.Below
import Derived.BigQuiet
import Derived.Deep.AppendLies
import Derived.Deep.CutRange
import Derived.Deep.Draws
import Derived.Deep.QuietTactic
import Derived.Deep.RegionHeld3
import Derived.Deep.RegionHeldLaw
import Derived.DeepKeys
import Derived.IntWalk
import Derived.Laws.BitsLemmas
import Derived.Laws.OwnMore
import Derived.Laws.Rows
import Derived.Lib.Hide
import Derived.Lib.SliceRun
import Derived.LoopN
import Derived.OwnWalk
import Derived.Shelf.SlLaysF0
import Derived.Sort.Grow
import Derived.Sort.Statements
import Derived.StillTail
import Derived.StillTailTactics
import Derived.Test.YtcgkkppidkkjiaaGreatDoorRows
import Derived.WalkKit
namespace Go.Proofs.YtcgkkppidkkjiaaGreatDoor
open Go.RowKit
set_option maxRecDepth 100000 in
set_option maxHeartbeats 4000000 in
theorem permuted_any (g : Nat) (T : Tab) (li : List Int) (ce : Int) (m : Nat) (vs : Nat → List Int) (AI : Option Addr) (cI : Nat) (l : List Int) (o : Int) (w : World)
    (h : QR w g T li ce m vs) (hI : Reads w w.heap.size AI T.n (il l)) (hr : Rw T.n T.nv T.st l o) (hv : Vd T.v T.nv T.st) (hs8 : T.st ≤ 8) (hn9 : T.n ≤ 9) (hc : ce < T.n) (hc1 : -1 ≤ ce) (hli : li.length = T.n) (hst : ∀ i, i < T.n → 0 ≤ ig li i ∧ ig li i < T.st) (hnv : T.nv ≤ 1000) :
    Calls Tryz.prog 73 #[.pointer (some ⟨g, 0, none⟩), .agg #[.slice AI T.n cI, .int .i64 o]] w fun e' w' => AnsOut (pm T.v l o ce (ig li ce.toNat) (cl8 li T.n)) w e' w' := by
  have hl : ∀ k, k < T.nv → (T.v k).length ≤ 1000 := fun k hk => by have := (hv k hk).1; omega
  have HQ := Lib.hid (fun w' (hb : Below w.heap.size w w') => h.later hb)
  have HI := Lib.hid (fun w' (hb : Below w.heap.size w w') => (show Reads w' w'.heap.size AI T.n (il l) from (hI.below hb).more hb.size))
  have CH := Lib.hid (fun w' e (hb : Below w.heap.size w w') (he : -(T.nv : Int) ≤ e) => choices_any g T li ce m vs AI cI l o e w' (h.later hb) ((hI.below hb).more hb.size) he hc hc1 hli (by omega) hnv hl)
  obtain ⟨AH, cH, AV, cV, AR, cR, AQ, cQ, AW, cW, hk, ht, hi, hw⟩ := h
  obtain ⟨st, ky, n, f, nv, v, nr, ri, ro⟩ := T
  simp only at *
  have HL := Lib.hid hr.len
  have HE := Lib.hid hr.els
  have HO := Lib.hid hr.out
  have HV := Lib.hid hv
  have HQI := Lib.hid (fun w' (hb : Below w.heap.size w w') => (show Reads w' w'.heap.size AQ li.length (il li) from (hi.1.below hb).more hb.size))
  have HST := Lib.hid hst
  have HLI := Lib.hid hli
  have K1 := Lib.hid ((Blk.new w 41 #[.slice AI n cI, .int .i64 o]).alloc (.cells #[.int .u8 0, .int .u8 0, .int .u8 0, .int .u8 0, .int .u8 0, .int .u8 0, .int .u8 0, .int .u8 0] 149))
  have K2 := Blk.new (w.alloc (.cells #[.slice AI n cI, .int .i64 o] 41)) 149 #[.int .u8 0, .int .u8 0, .int .u8 0, .int .u8 0, .int .u8 0, .int .u8 0, .int .u8 0, .int .u8 0]
  rw [show (w.alloc (.cells #[.slice AI n cI, .int .i64 o] 41)).heap.size = w.heap.size + 1 by simp] at K2
  have KA := Lib.hid ((hk.alloc (.cells #[.slice AI n cI, .int .i64 o] 41)).alloc (.cells #[.int .u8 0, .int .u8 0, .int .u8 0, .int .u8 0, .int .u8 0, .int .u8 0, .int .u8 0, .int .u8 0] 149))
  have B2 : Below w.heap.size w ((w.alloc (.cells #[.slice AI n cI, .int .i64 o] 41)).alloc (.cells #[.int .u8 0, .int .u8 0, .int .u8 0, .int .u8 0, .int .u8 0, .int .u8 0, .int .u8 0, .int .u8 0] 149)) := ((Below.refl _ _).alloc (Nat.le_refl _) _).alloc (by simp) _
  obtain ⟨pp, hpp⟩ : ∃ pp, pp = pm v l o ce (ig li ce.toNat) (cl8 li n) := ⟨_, rfl⟩
  rw [← hpp]
  have PD := Lib.hid hpp
  have hgw : g < w.heap.size := hk.lt
  clear hI hr hv hi hst hli hk ht hw hl hpp
  go_enter Tryz.func73, Tryz.ntmps73
  go_upto_region 2 with (fail)
  obtain ⟨rb, hrb⟩ : ∃ rb, rb = w.heap.size := ⟨_, rfl⟩
  generalize (w.alloc (.cells #[.slice AI n cI, .int .i64 o] 41)).alloc (.cells #[.int .u8 0, .int .u8 0, .int .u8 0, .int .u8 0, .int .u8 0, .int .u8 0, .int .u8 0, .int .u8 0] 149) = w0 at K1 K2 KA B2 ⊢
  rw [← hrb] at K1 K2 hgw ⊢
  have K2 := Lib.hid (show Blk w0 (rb + 1) 149 (tg (cl8 li 0)) from K2)
  have B2 := Lib.hid B2
  have HRB := Lib.hid hrb
  clear hrb
  obtain ⟨q0, q1, q2, q3, q4, q5, q6, q7, q8⟩ := KA.out.eight
  rw [HLI.out] at q5
  go_wp2
  go_loopw [19] (fun jv wr => ∃ j : Nat, j ≤ n ∧ jv = .int .i64 (j : Int) ∧ (Blk wr (rb + 1) 149 (tg (cl8 li j)) ∧ Blk wr rb 41 #[.slice AI n cI, .int .i64 o]) ∧ Below w.heap.size w wr) (fun jv _ => n - (intOf jv).toNat)
  case atStart => exact ⟨0, Nat.zero_le _, rfl, ⟨K2.out, K1.out⟩, B2.out⟩
  case round =>
    obtain ⟨j, hj, rfl, ⟨hk2, hk1⟩, hbel⟩ := hrel
    have HB := Lib.hid hbel
    have KT := Lib.hid hk2
    have KR := Lib.hid hk1
    clear hk2 hk1 hbel K1 K2 KA B2 q0 q1 q2 q3 q4 q5 q6 q7 q8
    have hwb : w.heap.size ≤ rb := by rw [HRB.out]; exact Nat.le_refl _
    by_cases hjn : j < n
    · obtain ⟨ad, rfl, hb1, c1⟩ := il_at (HQI.out _ HB.out) (show j < li.length by rw [HLI.out]; exact hjn)
      have hx := HST.out j hjn
      obtain ⟨s, hse⟩ : ∃ s : Nat, ig li j = (s : Int) := ⟨(ig li j).toNat, by omega⟩
      have hs : s < 8 := by omega
      have cs : wr.cell? ⟨rb + 1, s, none⟩ = some (.int .u8 (cnt li (s : Int) j)) := by rw [KT.out.cell, tg_at _ s hs, cl8_at li j s hs]
      have fs := KT.out.frozen s
      have hcb := cnt_bd li (s : Int) j
      have NX := Lib.hid (show Blk (wr.setCell ⟨rb + 1, s, none⟩ (.int .u8 (cnt li (s : Int) j + 1))) (rb + 1) 149 (tg (cl8 li (j + 1))) by
        rw [← cl8_set li j s hs hse, ← tg_set _ s _ rfl hs]; exact KT.out.set_ s _)
      have NR := Lib.hid (KR.out.far (p := ⟨rb + 1, s, none⟩) (by simp) (.int .u8 (cnt li (s : Int) j + 1)))
      have NB := Lib.hid (HB.out.setCell (p := ⟨rb + 1, s, none⟩) (show w.heap.size ≤ rb + 1 by omega) (.int .u8 (cnt li (s : Int) j + 1)))
      rw [hse] at c1
      generalize cnt li (s : Int) j = y at cs hcb NX NR NB
      clear hx hse
      go_wp2
      go_roundw
      case rel => exact ⟨j + 1, by omega, by go_num, ⟨NX.out, NR.out⟩, NB.out⟩
      case measure => simp [intOf]; omega
    · obtain rfl : j = n := by omega
      have KX := Lib.hid (cl8_tk li j (by omega))
      have PFL := Lib.hid (fun i (hi : i ≤ j) => pf_len HV.out hs8 l o ce (ig li ce.toNat) (cl8 li j) (fun k hk => HE.out k (by rw [← HL.out]; exact hk)) i (by rw [HL.out]; exact hi))
      have PFT := Lib.hid (fun i (hi : i ≤ j) => pf_tk HV.out hs8 l o ce (ig li ce.toNat) KX.out (fun k hk => HE.out k (by rw [← HL.out]; exact hk)) i (by rw [HL.out]; exact hi))
      have PF0 := Lib.hid (show pf v l o ce (ig li ce.toNat) (cl8 li j) 0 = [cl8 li j] from rfl)
      have CHB := Lib.hid (fun e (h1 : -(nv : Int) ≤ e) (h2 : e < st) => ch_bd HV.out hs8 l ce (ig li ce.toNat) h1 h2)
      have CHI := Lib.hid (fun e (h1 : -(nv : Int) ≤ e) (h2 : e < st) => ch_ig HV.out hs8 l ce (ig li ce.toNat) h1 h2)
      generalize hsc : ig li ce.toNat = sc at CH PFL PFT PF0 PD CHB CHI ⊢
      obtain ⟨k0, k1, k2, k3, k4, k5, k6, k7, k8⟩ := KT.out.eight
      have R0 := Lib.hid (show TReads (wr.alloc (.cells (tg (cl8 li j)) 149)) (wr.alloc (.cells (tg (cl8 li j)) 149)).heap.size (some ⟨wr.heap.size, 0, none⟩) [cl8 li j] from fun _ => ⟨wr.heap.size, 0, rfl, by simp, fun k hk i hi => by
        have hk0 : k = 0 := by simpa using hk
        subst hk0
        have hb := (Blk.new wr 149 (tg (cl8 li j))).cell i
        rw [show 0 + 0 * 8 + i = i by omega, hb, tg_at _ i hi]
        rfl⟩)
      have BW := Lib.hid (HB.out.alloc HB.out.size (.cells (tg (cl8 li j)) 149))
      have KW := Lib.hid (KR.out.alloc (.cells (tg (cl8 li j)) 149))
      have XG := Lib.hid (show #[Value.int .u8 (ig (cl8 li j) 0), .int .u8 (ig (cl8 li j) 1), .int .u8 (ig (cl8 li j) 2), .int .u8 (ig (cl8 li j) 3), .int .u8 (ig (cl8 li j) 4), .int .u8 (ig (cl8 li j) 5), .int .u8 (ig (cl8 li j) 6), .int .u8 (ig (cl8 li j) 7)] = tg (cl8 li j) from rfl)
      have LN := Lib.hid (show ([cl8 li j] : List (List Int)).length = 1 from rfl)
      go_upto_region 8 with (fail)
      rw [XG.out]
      clear k0 k1 k2 k3 k4 k5 k6 k7 k8
      generalize cl8 li j = a at KX PFL PFT PF0 R0 BW KW XG LN PD ⊢
      obtain ⟨wa, hwa⟩ : ∃ wa, wa = wr.heap.size := ⟨_, rfl⟩
      rw [← hwa] at R0 ⊢
      clear hwa
      generalize wr.alloc (.cells (tg a) 149) = w1 at R0 BW KW ⊢
      obtain ⟨n, rfl⟩ : ∃ n, n = j := ⟨_, rfl⟩
      obtain ⟨k0, k1, k2, k3, k4⟩ := KW.out.two
      go_wp2
      go_loopw [9, 34] (fun rv jv wr => ∃ (j : Nat) (r : List (List Int)) (A' : Option Addr) (c' : Nat), j ≤ n ∧ jv = .int .i64 (j : Int) ∧ r = pf v l o ce sc a j ∧ rv = .slice A' r.length c' ∧ (r ≠ [] ∧ TReads wr wr.heap.size A' r ∧ Blk wr rb 41 #[.slice AI n cI, .int .i64 o]) ∧ Below w.heap.size w wr) (fun _ jv _ => n - (intOf jv).toNat)
      case atStart => exact ⟨0, [a], _, 1, Nat.zero_le _, rfl, PF0.out.symm, rfl, ⟨by simp, R0.out, KW.out⟩, BW.out⟩
      case round =>
        obtain ⟨j, r, A', c', hj, rfl, hr, rfl, ⟨hr0, hrd, hkr⟩, hbel⟩ := hrel
        have HB2 := Lib.hid hbel
        have HR := Lib.hid hr
        have HR0 := Lib.hid hr0
        have HRD := Lib.hid hrd
        have KR2 := Lib.hid hkr
        have hsz := hbel.size
        clear k0 k1 k2 k3 k4 hr hr0 hrd hbel
        obtain ⟨k0, k1, k2, k3, k4⟩ := hkr.two
        clear hkr
        by_cases hjn : j < n
        · have hjl : j < l.length := by rw [HL.out]; exact hjn
          obtain ⟨ad, rfl, hb1, c1⟩ := il_at (HI.out _ HB2.out) hjn
          obtain ⟨k, hkj, hk⟩ := ix_self hjl
          have hel := HE.out j hjn
          have ST := Lib.hid (show pf v l o ce sc a (j + 1) = ps v l o ce sc r j by rw [HR.out]; rfl)
          have RL := Lib.hid (show r.length ≤ 16777216 by rw [HR.out]; exact pow_bd8 (PFL.out j hj) (by omega))
          have RT := Lib.hid (show ∀ y, y ∈ r → Tk y by rw [HR.out]; exact PFT.out j hj)
          have STU := Lib.hid (show ps v l o ce sc r j = if ig l j = o ∨ ix l (ig l j) < (j : Int) then r else wo (cnt l (ig l j) l.length) r (ch v l (ig l j) ce sc) r.length from rfl)
          rw [hk] at STU
          obtain ⟨e, he⟩ : ∃ e, e = ig l j := ⟨_, rfl⟩
          rw [← he] at c1 STU hel hk
          by_cases heo : e = o
          · have HT := Lib.hid (show r = pf v l o ce sc a (j + 1) by rw [ST.out, STU.out, if_pos (.inl heo)])
            have hq : (e == o) = true := by rw [beq_iff_eq]; exact heo
            clear heo he hk
            go_wp2
            go_roundw
            case rel => exact ⟨j + 1, r, A', c', by omega, by go_num, HT.out, rfl, ⟨HR0.out, HRD.out, KR2.out⟩, HB2.out⟩
            case measure => simp [intOf]; omega
          · have hq : (e == o) = false := by rw [beq_eq_false_iff_ne]; exact heo
            have IX := fun w' (hb : Below w.heap.size w w') => index_int (some ad) n cI w'.heap.size l w' e (HI.out w' hb) (by omega)
            rw [hk] at IX
            have IXH := Lib.hid IX
            clear IX he
            by_cases hkj2 : k < j
            · have HT := Lib.hid (show r = pf v l o ce sc a (j + 1) by rw [ST.out, STU.out, if_pos (.inr (by omega))])
              have hd : decide (k < j) = true := decide_eq_true hkj2
              clear heo hk
              go_wp2_with (go_at_call 94; (with_reducible refine (IXH.out _ HB2.out).mono ?_); rintro e w' ⟨rfl, rfl⟩)
              go_roundw
              case rel => exact ⟨j + 1, r, A', c', by omega, by go_num, HT.out, rfl, ⟨HR0.out, HRD.out, KR2.out⟩, HB2.out⟩
              case measure => simp [intOf]; omega
            · have hkj3 : k = j := by omega
              have hd : decide (k < j) = false := decide_eq_false hkj2
              have HT := Lib.hid (show pf v l o ce sc a (j + 1) = wo (cnt l e n) r (ch v l e ce sc) r.length by rw [ST.out, STU.out, if_neg (by omega), HL.out])
              have hchb := CHB.out e hel.1 hel.2
              have hchi := Lib.hid (CHI.out e hel.1 hel.2)
              have hcb := cnt_bd l e n
              have P1 := fun w' (hb : Below wr.heap.size wr w') => CH.out w' e (HB2.out.trans (hb.mono hsz)) hel.1
              have P2 := fun w' (hb : Below wr.heap.size wr w') => count_any (some ad) n cI w'.heap.size l e w' (HI.out w' (HB2.out.trans (hb.mono hsz))) (by omega)
              have P3 := fun w' (hb : Below wr.heap.size wr w') AS cS (hs : Reads w' w'.heap.size AS (ch v l e ce sc).length (il (ch v l e ce sc))) => without_any A' c' r AS (ch v l e ce sc).length cS (ch v l e ce sc) (cnt l e n) w' (HRD.out.later hb) RT.out hs hchi.out hcb.1 (by omega) (by have := RL.out; omega) (by have := RL.out; have := Nat.mul_le_mul this hchb.1; omega) (by omega)
              have KP := Lib.hid (show ∀ w', Below wr.heap.size wr w' → w'.cell? ⟨rb, 0, none⟩ = some (.slice (some ad) n cI) ∧ w'.cell? ⟨rb, 1, none⟩ = some (.int .i64 o) from fun w' hb => ⟨(KR2.out.below hb KR2.out.lt).two.1, (KR2.out.below hb KR2.out.lt).two.2.1⟩)
              have hchl := hchb.1
              generalize ch v l e ce sc = CL at P1 P3 hchl HT
              generalize hcl : cnt l e n = cc at P2 P3 HT
              obtain ⟨L, hL⟩ : ∃ L, L = wo cc r CL r.length := ⟨_, rfl⟩
              rw [← hL] at P3 HT
              have HLQ := Lib.hid hL
              clear hL hcl hcb hchb
              have P1 := Lib.hid (fun w' (hb : Below wr.heap.size wr w') => (P1 w' hb).mono (R' := fun e w'' => ∃ A2 c2, e = .returned (.slice A2 CL.length c2) ∧ Reads w'' w''.heap.size A2 CL.length (il CL) ∧ Below wr.heap.size wr w'') fun e w'' ⟨A2, c2, he, h1, h2⟩ => ⟨A2, c2, he, h1, hb.trans (h2.mono hb.size)⟩)
              have P2 := Lib.hid P2
              have P3 := Lib.hid (fun w' (hb : Below wr.heap.size wr w') AS cS hs => (P3 w' hb AS cS hs).mono (R' := fun e w'' => ∃ A2 c2, e = .returned (.slice A2 L.length c2) ∧ TReads w'' w''.heap.size A2 L ∧ Below wr.heap.size wr w'') fun e w'' ⟨A2, c2, he, h1, h2⟩ => ⟨A2, c2, he, h1, hb.trans (h2.mono hb.size)⟩)
              go_wp2_with (go_at_call 94; (with_reducible refine (IXH.out _ HB2.out).mono ?_); rintro e w' ⟨rfl, rfl⟩)
              go_cut [9] from 51 to 60 (fun s9 wx => ∃ A2 c2, s9 = .slice A2 L.length c2 ∧ TReads wx wx.heap.size A2 L ∧ Below wr.heap.size wr wx)
              case first =>
                go_region_held3 (fun w' => w'.cell? ⟨rb, 0, none⟩ = some (.slice (some ad) n cI) ∧ w'.cell? ⟨rb, 1, none⟩ = some (.int .i64 o))
                  (first | (refine KP.out _ ?_; (with_reducible (repeat (first | assumption | exact Below.refl _ _ | refine Below.drew' ?_ | refine Below.alloc' ?_ _))); done) | go_keep)
                  (first
                    | (go_at_call 98; (with_reducible refine (P1.out _ ?_).mono ?_); (with_reducible (repeat (first | assumption | exact Below.refl _ _ | refine Below.drew' ?_ | refine Below.alloc' ?_ _))); rintro e wa ⟨A2, c2, rfl, h1, ha⟩)
                    | (go_at_call 99; (with_reducible refine (P2.out _ ?_).mono ?_); (with_reducible (repeat (first | assumption | exact Below.refl _ _ | refine Below.drew' ?_ | refine Below.alloc' ?_ _))); rintro e wb ⟨rfl, rfl⟩)
                    | (go_at_call 97; (with_reducible refine (P3.out _ ?_ _ _ ?_).mono ?_); (with_reducible (repeat (first | assumption | exact Below.refl _ _ | refine Below.drew' ?_ | refine Below.alloc' ?_ _))); (first | exact h1 | skip); rintro e wc ⟨A3, c3, rfl, h3, hc3⟩))
                all_goals
                  go_wp2_with fail
                  go_meet
                  exact ⟨_, _, rfl, h3, hc3⟩
              case rest =>
                obtain ⟨A2, c2, rfl, h1, h2⟩ := hcut
                have B3 := Lib.hid (HB2.out.trans (h2.mono hsz))
                have R3 := Lib.hid h1
                have K3 := Lib.hid (KR2.out.below h2 KR2.out.lt)
                clear h1 h2
                by_cases hL0 : L = []
                · have HF := Lib.hid (show pp = (0, false) from PD.out.trans (pm_nil (j := j + 1) (by rw [HL.out]; omega) (by rw [HT.out]; exact hL0)))
                  have hLl : ((L.length : Int) == 0) = true := by rw [hL0]; rfl
                  clear hL0
                  go_wp2
                  go_ret2
                  exact ⟨by rw [HF.out]; rfl, B3.out⟩
                · have hLl : ((L.length : Int) == 0) = false := by
                    rw [beq_eq_false_iff_ne]
                    intro h
                    exact hL0 (List.length_eq_zero_iff.1 (by omega))
                  have HL0 := Lib.hid hL0
                  clear hL0
                  go_wp2
                  go_roundw
                  case rel => exact ⟨j + 1, L, A2, c2, by omega, by go_num, HT.out.symm, rfl, ⟨HL0.out, R3.out, K3.out⟩, B3.out⟩
                  case measure => simp [intOf]; omega
        · obtain rfl : j = n := by omega
          have hob : -(nv : Int) ≤ o ∧ o < st := by
            rcases HO.out with h | h
            · omega
            · obtain ⟨i, hi, rfl⟩ := mem_ig h
              exact HE.out i (by rw [← HL.out]; exact hi)
          have RL := Lib.hid (show r.length ≤ 134217728 by rw [HR.out]; exact pow_bd (PFL.out j (Nat.le_refl _)) (by omega))
          have RT := Lib.hid (show ∀ y, y ∈ r → Tk y by rw [HR.out]; exact PFT.out j (Nat.le_refl _))
          have C1 := Lib.hid (CH.out wr o HB2.out hob.1)
          have hchb := CHB.out o hob.1 hob.2
          have hchi := Lib.hid (CHI.out o hob.1 hob.2)
          have hchl := hchb.1
          have PS := Lib.hid (fun k hk hb h => PD.out.trans <| pm_some (v := v) (l := l) (o := o) (ce := ce) (sc := sc) (a := a) (r := r) (k := k) (by rw [HL.out]; exact HR.out) HR0.out hk hb h)
          have PN := Lib.hid (fun hb => PD.out.trans <| pm_none (v := v) (l := l) (o := o) (ce := ce) (sc := sc) (a := a) (r := r) (by rw [HL.out]; exact HR.out) HR0.out hb)
          have PG := Lib.hid (fun k => show pg v l o ce sc r k = decide (wo (cnt l o l.length) r [ig (ch v l o ce sc) k] r.length ≠ []) from rfl)
          rw [HL.out] at PG
          have hcb := cnt_bd l o j
          generalize hcl : cnt l o j = cc at PG hcb
          have P2 := Lib.hid (fun w' (hb : Below w.heap.size w w') => by have := count_any AI j cI w'.heap.size l o w' (HI.out w' hb) (by omega); rwa [hcl] at this)
          generalize ch v l o ce sc = CL at C1 PS PN PG hchl hchi
          generalize pg v l o ce sc r = good at PS PN PG
          obtain ⟨m2, hm2⟩ : ∃ m2, m2 = CL.length := ⟨_, rfl⟩
          have HM2 := Lib.hid hm2
          clear hcl hchb hjn
          go_wp2_with (go_at_call 98; (with_reducible refine C1.out.mono ?_); rintro e w3 ⟨A2, c2, rfl, h1, h2⟩; have B3 := Lib.hid (HB2.out.trans (h2.mono hsz)); have RD3 := Lib.hid (HRD.out.later h2); have KR3 := Lib.hid (KR2.out.below h2 KR2.out.lt); have CR3 := Lib.hid h1; clear h1 h2)
          rw [← hm2]
          clear hm2
          have hs3 := B3.out.size
          clear k0 k1 k2 k3 k4
          go_loopw [71] (fun kv wr => ∃ k : Nat, k ≤ m2 ∧ kv = .int .i64 (k : Int) ∧ (∀ i, i < k → good i = false) ∧ Below w3.heap.size w3 wr) (fun kv _ => m2 - (intOf kv).toNat)
          case atStart => exact ⟨0, Nat.zero_le _, rfl, fun i hi => absurd hi (by omega), Below.refl _ _⟩
          case round =>
            obtain ⟨k, hk, rfl, hno, hbel⟩ := hrel
            have HN := Lib.hid hno
            have HX := Lib.hid hbel
            have B4 := Lib.hid (B3.out.trans (hbel.mono hs3))
            have hs4 := B4.out.size
            have KR4 := KR3.out.below hbel KR3.out.lt
            clear hno
            by_cases hkm : k < m2
            · have hkl : k < CL.length := by rw [← HM2.out]; exact hkm
              obtain ⟨ad, rfl, hb1, c1⟩ := il_at (CR3.out.below hbel) hkl
              have hsb := hchi.out k hkl
              have PSK := Lib.hid (fun h => PS.out k hkl HN.out h)
              have PGK := PG.out k
              have NX := Lib.hid (show good k = false → ∀ i, i < k + 1 → good i = false from fun h i hi => by
                by_cases e : i < k
                · exact HN.out i e
                · obtain rfl : i = k := by omega
                  exact h)
              generalize good k = gk at PSK PGK NX
              obtain ⟨s, hs⟩ : ∃ s, s = ig CL k := ⟨_, rfl⟩
              rw [← hs] at c1 hsb PSK PGK
              have K5 := Blk.new wr 3 #[.int .i64 s]
              have B5 := (Below.refl wr.heap.size wr).alloc (Nat.le_refl _) (.cells #[.int .i64 s] 3)
              have RS := Lib.hid (show Reads (wr.alloc (.cells #[.int .i64 s] 3)) (wr.alloc (.cells #[.int .i64 s] 3)).heap.size (some ⟨wr.heap.size, 0, none⟩) 1 (il [s]) from Reads.one (ad := ⟨wr.heap.size, 0, none⟩) (by simp) (by rw [K5.cell]; rfl))
              have P3 := without_any A' c' r (some ⟨wr.heap.size, 0, none⟩) 1 1 [s] cc (wr.alloc (.cells #[.int .i64 s] 3)) ((RD3.out.later hbel).later B5) RT.out RS.out (fun i hi => by
                have hi0 : i = 0 := by simpa using hi
                subst hi0
                exact hsb) hcb.1 (by omega) (by have := RL.out; omega) (by have := RL.out; simp; omega) (by omega)
              have P3 := Lib.hid (P3.mono (R' := fun e w'' => ∃ A2 c2, e = .returned (.slice A2 (wo cc r [s] r.length).length c2) ∧ Below wr.heap.size wr w'') fun e w'' ⟨A2, c2, he, h1, h2⟩ => ⟨A2, c2, he, B5.trans (h2.mono B5.size)⟩)
              have P2K := Lib.hid (P2.out (wr.alloc (.cells #[.int .i64 s] 3)) (B4.out.trans (B5.mono hs4)))
              obtain ⟨k0, k1, k2, k3, k4⟩ := (KR4.alloc (.cells #[.int .i64 s] 3)).two
              obtain ⟨L, hL⟩ : ∃ L, L = wo cc r [s] r.length := ⟨_, rfl⟩
              rw [← hL] at P3 PGK
              clear hL hs K5 B5 hbel KR4 hcb
              by_cases hL0 : L = []
              · have HT := Lib.hid (NX.out (by rw [PGK, hL0]; rfl))
                have hLl : decide (0 < (L.length : Int)) = false := by rw [hL0]; rfl
                have hLl2 : decide (0 < L.length) = false := by rw [hL0]; rfl
                clear hL0 PGK
                go_wp2_with (first
                  | (go_at_call 99; (with_reducible refine P2K.out.mono ?_); rintro e wb ⟨rfl, rfl⟩)
                  | (go_at_call 97; (with_reducible refine P3.out.mono ?_); rintro e wc ⟨A3, c3, rfl, h3⟩; have B6 := Lib.hid (HX.out.trans (h3.mono HX.out.size)); clear h3))
                go_roundw
                case rel => exact ⟨k + 1, by omega, by go_num, HT.out, B6.out⟩
                case measure => simp [intOf]; omega
              · have HF := Lib.hid (PSK.out (by rw [PGK]; exact decide_eq_true hL0))
                have hpos : 0 < L.length := List.length_pos_iff.2 hL0
                have hLl : decide (0 < (L.length : Int)) = true := by rw [decide_eq_true_iff]; omega
                have hLl2 : decide (0 < L.length) = true := decide_eq_true hpos
                clear hL0 PGK
                go_wp2_with (first
                  | (go_at_call 99; (with_reducible refine P2K.out.mono ?_); rintro e wb ⟨rfl, rfl⟩)
                  | (go_at_call 97; (with_reducible refine P3.out.mono ?_); rintro e wc ⟨A3, c3, rfl, h3⟩; have B6 := Lib.hid (B4.out.trans (h3.mono hs4)); clear h3))
                go_ret2
                exact ⟨by rw [HF.out]; rfl, B6.out⟩
            · obtain rfl : k = m2 := by omega
              have HF := Lib.hid (PN.out fun i hi => HN.out i (by rw [HM2.out]; exact hi))
              clear hbel KR4
              go_wp2
              go_ret2
              exact ⟨by rw [HF.out]; rfl, B4.out⟩
end Go.Proofs.YtcgkkppidkkjiaaGreatDoor
