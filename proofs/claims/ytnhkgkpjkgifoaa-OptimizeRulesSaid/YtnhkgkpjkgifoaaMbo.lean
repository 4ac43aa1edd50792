/- The walk of all at a valid circuit. -/
import Derived.Test.YtnhkgkpjkgifoaaMbn
import Derived.Test.YtnhkgkpjkgifoaaMak
namespace Go.Proofs.Ytnhkgkpjkgifoaa
open Go.RowKit

/-- k rounds -/
def itC (N : Nat) : Nat → List C3 × List Int → List C3 × List Int
  | 0, p => p
  | k + 1, p => rndC N (itC N k p).1 (itC N k p).2
theorem keeps_it {N : Nat} {gs : List C3} {os : List Int} (hc : COk N gs os) : ∀ k, Keeps N gs os (itC N k (gs, os)).1 (itC N k (gs, os)).2
  | 0 => ⟨hc, rfl, fun _ _ => rfl, Nat.le_refl _, fun _ => ⟨rfl, rfl⟩⟩
  | k + 1 => by
    have h := keeps_it hc k
    exact h.trans (keeps_rnd h.1)
theorem it_fix {N k : Nat} {p : List C3 × List Int} (h : rndC N (itC N k p).1 (itC N k p).2 = itC N k p) : ∀ d, itC N (k + d) p = itC N k p
  | 0 => rfl
  | d + 1 => by
    have := it_fix h d
    show rndC N (itC N (k + d) p).1 (itC N (k + d) p).2 = itC N k p
    rw [this, h]
theorem it_same {N k j : Nat} {p : List C3 × List Int} (h : rndC N (itC N k p).1 (itC N k p).2 = itC N k p) (h' : rndC N (itC N j p).1 (itC N j p).2 = itC N j p) : itC N k p = itC N j p := by
  rw [← it_fix h j, ← it_fix h' k, Nat.add_comm]
section
variable {wk b0 N : Nat} {gs gs' : List C3} {os ws os' ws' : List Int} {A O V V' : Option Addr} {cA cO cV cV' mb : Nat} {w : World}
theorem WK.uniq (h : WK wk b0 N gs os ws A O V cA cO cV mb w) (k : WK wk b0 N gs' os' ws' A O V' cA cO cV' mb w) : gs' = gs ∧ os' = os := by
  have e1 := h.blk.five.2.1.symm.trans k.blk.five.2.1
  injection e1 with e1
  injection e1 with _ e1 _
  have e2 := h.blk.five.2.2.1.symm.trans k.blk.five.2.2.1
  injection e2 with e2
  injection e2 with _ e2 _
  constructor
  · refine List.ext_getElem e1.symm fun i h1 h2 => ?_
    obtain ⟨g, o, eA, hg, c1⟩ := h.rk.rd (by omega)
    obtain ⟨g2, o2, eA2, hg2, c2⟩ := k.rk.rd (by omega)
    rw [eA] at eA2
    injection eA2 with eA2
    injection eA2 with q1 q2
    subst q1 q2
    obtain ⟨x1, x2, x3⟩ := c1 i h2
    obtain ⟨y1, y2, y3⟩ := c2 i h1
    rw [x1] at y1
    rw [x2] at y2
    rw [x3] at y3
    injection y1 with y1
    injection y1 with _ y1
    injection y2 with y2
    injection y2 with _ y2
    injection y3 with y3
    injection y3 with _ y3
    simp only [List.getD_eq_getElem?_getD, List.getElem?_eq_getElem h1, List.getElem?_eq_getElem h2, Option.getD_some] at y1 y2 y3
    exact Prod.ext y1.symm (Prod.ext y2.symm y3.symm)
  · refine same_ig e2.symm fun i hi => ?_
    obtain ⟨ad, e3, _, c1⟩ := il_at h.or_ (k := i) (by omega)
    obtain ⟨ad2, e4, _, c2⟩ := il_at k.or_ (k := i) hi
    rw [e3] at e4
    injection e4 with e4
    subst e4
    rw [c1] at c2
    injection c2 with c2
    injection c2 with _ c2
    exact c2.symm
open Classical in
/-- the measure, read in memory -/
noncomputable def muW (wk b0 N : Nat) (A O : Option Addr) (cA cO mb : Nat) (w : World) : Nat :=
  if h : ∃ (m : Nat) (gs : List C3) (os ws : List Int) (V : Option Addr) (cV : Nat), WK wk b0 N gs os ws A O V cA cO cV mb w ∧ mu gs os = m then h.choose else 0
theorem muW_eq (h : WK wk b0 N gs os ws A O V cA cO cV mb w) : muW wk b0 N A O cA cO mb w = mu gs os := by
  have hx : ∃ (m : Nat) (gs : List C3) (os ws : List Int) (V : Option Addr) (cV : Nat), WK wk b0 N gs os ws A O V cA cO cV mb w ∧ mu gs os = m := ⟨_, gs, os, ws, V, cV, h, rfl⟩
  unfold muW
  rw [dif_pos hx]
  obtain ⟨gs2, os2, ws2, V2, cV2, h2, h3⟩ := hx.choose_spec
  obtain ⟨e1, e2⟩ := h.uniq h2
  rw [← h3, e1, e2]
theorem WK.cs (h : WK wk b0 N gs os ws A O V cA cO cV mb w) : CS w A O (crL N gs os) := ⟨h.rk.rd, h.or_⟩
/-- what all answers -/
def AllOut (wk b0 N : Nat) (gs : List C3) (os : List Int) (A O V : Option Addr) (cA cO mb : Nat) (w : World) (e : Ending) (w' : World) : Prop :=
  ∃ k, rndC N (itC N k (gs, os)).1 (itC N k (gs, os)).2 = itC N k (gs, os) ∧ OpOut wk b0 N (itC N k (gs, os)).1 (itC N k (gs, os)).2 A O V cA cO mb w e w'
set_option maxRecDepth 100000 in
set_option maxHeartbeats 8000000 in
theorem all_any {S : C3 → Option Int} (h : WK wk b0 N gs os ws A O V cA cO cV mb w) (hm : GM w mb S) (hc : COk N gs os) (hol : os.length ≤ 1000) :
    Calls Try.prog 38 #[.pointer (some ⟨wk, 0, none⟩)] w fun e w' => AllOut wk b0 N gs os A O V cA cO mb w e w' := by
  have HW := Lib.hid h
  have HC := Lib.hid hc
  have HM := Lib.hid hm
  obtain ⟨Q, hQ⟩ : ∃ Q, AllOut wk b0 N gs os A O V cA cO mb w = Q := ⟨_, rfl⟩
  have HQ := Lib.hid hQ
  rw [hQ]
  have KI := Lib.hid (fun j => keeps_it hc j)
  clear h hc hm hQ
  go_enter Try.func38, Try.ntmps38
  go_wp2_with fail
  go_loopw [] (fun wr => ∃ (j : Nat) (gs' : List C3) (os' ws' : List Int) (V' : Option Addr) (c' : Nat) (S' : C3 → Option Int), Hid (itC N j (gs, os) = (gs', os')) ∧ Hid (WK wk b0 N gs' os' ws' A O V' cA cO c' mb wr) ∧ Hid (GM wr mb S') ∧ Hid (Fr (TS5 wk mb A O V) w (TS5 wk mb A O V') wr)) (fun wr => muW wk b0 N A O cA cO mb wr)
  case atStart => exact ⟨0, gs, os, ws, V, cV, S, Lib.hid rfl, HW, HM, Lib.hid (Fr.refl _ _)⟩
  case round =>
    obtain ⟨j, gs', os', ws', V', c', S', HP, HWR, HG, HF⟩ := hrel
    have hk := KI.out j
    rw [HP.out] at hk
    simp only at hk
    have HC' := Lib.hid hk.1
    have hol' : os'.length ≤ 1000 := by have := hk.2.1; omega
    have CP := Lib.hid (copyOf_any (N : Int) A O cA cO gs' os' wr HWR.out.rk.rd HWR.out.or_ hk.1.g hol')
    obtain ⟨c0, c1, c2, _, _, c5⟩ := HWR.out.blk.five
    have LT := Lib.hid (show ∀ k, TS5 wk mb A O V' k → k < wr.heap.size from fun k hk => by
      rcases hk with hk | rfl
      · exact (HWR.out.ge k hk).2
      · exact MapOf.lt HG.out)
    clear hk
    exact (by
      go_upto_region 1 with (go_at_call 67; (with_reducible refine (CP.out).mono ?_); rintro e w1 ⟨A1, c1', O1, d1, rfl, hg, ho, hb⟩; have G1 := Lib.hid hg; have O1' := Lib.hid ho; have B1 := Lib.hid hb; clear hg ho hb)
      have A2 := Lib.hid ((Below.refl w1.heap.size w1).alloc (Nat.le_refl _) (.cells #[.int .i64 (N : Int), .slice A1 gs'.length c1', .slice O1 os'.length d1] 34))
      have KB := Lib.hid (Blk.new w1 34 #[.int .i64 (N : Int), .slice A1 gs'.length c1', .slice O1 os'.length d1])
      have G2 := Lib.hid (own_belowk G1.out A2.out)
      have O2 := Lib.hid (own_belowk O1'.out A2.out)
      have B2 := Lib.hid (B1.out.trans (A2.out.mono B1.out.size))
      have W2 := Lib.hid (HWR.out.later B2.out)
      have M2 := Lib.hid (HG.out.of_fr (G := fun _ => False) (G' := fun _ => False) (Fr.of_below B2.out) (fun h => h))
      have l1 := B1.out.size
      generalize w1.alloc (.cells #[.int .i64 (N : Int), .slice A1 gs'.length c1', .slice O1 os'.length d1] 34) = w2 at *
      generalize w1.heap.size = tb at *
      clear c0 c1 c2 c5 CP G1 O1' B1 A2
      have FO := Lib.hid (fold_any W2.out M2.out HC'.out hol')
      go_upto_region 2 with (go_at_call 52; (with_reducible refine (FO.out).mono ?_); rintro e w3 ⟨rfl, ws3, V3, cV3, hw, ⟨S3, hm⟩, hf⟩; have W3 := Lib.hid hw; have M3 := Lib.hid hm; have F3 := Lib.hid hf; clear hw hm hf)
      have k3 := keeps_fold HC'.out
      obtain ⟨⟨gs3, os3⟩, h3⟩ : ∃ p, foldC N gs' os' = p := ⟨_, rfl⟩
      rw [h3] at k3
      have hol3 : os3.length ≤ 1000 := by have := k3.2.1; simp only at this; omega
      have C3' := Lib.hid k3.1
      have W3 := Lib.hid (show WK wk b0 N gs3 os3 ws3 A O V3 cA cO cV3 mb w3 from by have := W3.out; rwa [h3] at this)
      have H3 := Lib.hid h3
      clear k3 h3 FO
      exact (by
        have SH := Lib.hid (share_any W3.out M3.out C3'.out hol3)
        go_upto_region 3 with (go_at_call 54; (with_reducible refine (SH.out).mono ?_); rintro e w4 ⟨rfl, ws4, V4, cV4, hw, ⟨S4, hm⟩, hf⟩; have W4 := Lib.hid hw; have M4 := Lib.hid hm; have F4 := Lib.hid hf; clear hw hm hf)
        have k4 := keeps_share C3'.out
        obtain ⟨⟨gs4, os4⟩, h4⟩ : ∃ p, shareC N gs3 os3 = p := ⟨_, rfl⟩
        rw [h4] at k4
        have hol4 : os4.length ≤ 1000 := by have := k4.2.1; simp only at this; omega
        have C4' := Lib.hid k4.1
        have W4 := Lib.hid (show WK wk b0 N gs4 os4 ws4 A O V4 cA cO cV4 mb w4 from by have := W4.out; rwa [h4] at this)
        have H4 := Lib.hid h4
        clear k4 h4 SH
        exact (by
          have TR := Lib.hid (trim_any W4.out M4.out C4'.out hol4)
          go_upto_region 4 with (go_at_call 53; (with_reducible refine (TR.out).mono ?_); rintro e w5 ⟨rfl, ws5, V5, cV5, hw, ⟨S5, hm⟩, hf⟩; have W5 := Lib.hid hw; have M5 := Lib.hid hm; have F5 := Lib.hid hf; clear hw hm hf)
          have hr : rndC N gs' os' = trimC N gs4 os4 := by
            have q3 := H3.out
            have q4 := H4.out
            unfold rndC
            rw [q3]
            simp only
            rw [q4]
          have k5 := keeps_rnd HC'.out
          rw [hr] at k5
          obtain ⟨⟨gs5, os5⟩, h5⟩ : ∃ p, trimC N gs4 os4 = p := ⟨_, rfl⟩
          rw [h5] at k5 hr
          simp only at k5
          have W5 := Lib.hid (show WK wk b0 N gs5 os5 ws5 A O V5 cA cO cV5 mb w5 from by have := W5.out; rwa [h5] at this)
          have HR := Lib.hid hr
          have K5 := Lib.hid k5
          have F25 := Lib.hid ((F3.out.trans F4.out).trans F5.out)
          have FF5 := Lib.hid ((HF.out.trans (fr5b B2.out)).trans F25.out)
          have KB5 := Lib.hid (F25.out.blk KB.out (fun e => by have := LT.out _ e; omega))
          have G5 := F25.out.row G2.out (fun g hg e => by have := LT.out _ e; have := (G2.out.lt g hg).1; omega)
          have O5 := F25.out.row O2.out (fun g hg e => by have := LT.out _ e; have := (O2.out.lt g hg).1; omega)
          have CS5 := Lib.hid (show CS w5 A1 O1 (crL N gs' os') from ⟨creads_cg G5, Reads.of_own O5⟩)
          have g5 := k5.1.g
          have g' := HC'.out.g
          have SQ := Lib.hid (fun W (hb : Below w5.heap.size w5 W) => csame_any A O A1 O1 cA cO c1' d1 (crL N gs5 os5) (crL N gs' os') W (W5.out.cs.later hb) (CS5.out.later hb) (by show gs5.length ≤ 1000000; omega) (by show gs'.length ≤ 1000000; omega) (by have := k5.2.1; show os5.length ≤ 1000000; omega) (by show os'.length ≤ 1000000; omega))
          clear hr k5 h5 TR G5 O5 F3 F4 F5 g5 g'
          obtain ⟨b, hb⟩ : ∃ b, qs (crL N gs5 os5) (crL N gs' os') = b := ⟨_, rfl⟩
          rw [hb] at SQ
          have HB := Lib.hid hb
          clear hb
          have SQ := Lib.hid (show ∀ W, Below w5.heap.size w5 W → Calls Try.prog 68 #[.agg #[.int .i64 (N : Int), .slice A gs5.length cA, .slice O os5.length cO], .agg #[.int .i64 (N : Int), .slice A1 gs'.length c1', .slice O1 os'.length d1]] W fun e w' => e = .returned (.bool b) ∧ Below W.heap.size W w' from SQ.out)
          have KP := Lib.hid (fun W (hb : Below w5.heap.size w5 W) => show W.cell? ⟨wk, 0, none⟩ = some (.int .i64 (N : Int)) ∧ W.cell? ⟨wk, 1, none⟩ = some (.slice A gs5.length cA) ∧ W.cell? ⟨wk, 2, none⟩ = some (.slice O os5.length cO) ∧ W.cell? ⟨tb, 0, none⟩ = some (.int .i64 (N : Int)) ∧ W.cell? ⟨tb, 1, none⟩ = some (.slice A1 gs'.length c1') ∧ W.cell? ⟨tb, 2, none⟩ = some (.slice O1 os'.length d1) from by
            obtain ⟨k0, k1, k2, _, _, _⟩ := (W5.out.blk.below hb W5.out.blk.lt).five
            obtain ⟨l0, l1, l2, _, _, _, _⟩ := (KB5.out.below hb KB5.out.lt).three6
            exact ⟨k0, k1, k2, l0, l1, l2⟩)
          have S0 := KP.out w5 (Below.refl _ _)
          exact (by
            obtain ⟨s0, s1, s2, s3, s4, s5⟩ := S0
            go_region_with (go_at_call 68; (with_reducible refine (SQ.out _ (by first | exact (Below.refl _ _).drew | exact Below.refl _ _)).mono ?_); rintro e w6 ⟨rfl, hb⟩; have Z6 := Lib.hid (show Below w5.heap.size w5 w6 from by first | exact (Below.refl _ w5).drew.trans hb | exact hb); clear hb)
            all_goals
              have W6 := Lib.hid (W5.out.later Z6.out)
              have M6 := Lib.hid (M5.out.of_fr (G := fun _ => False) (G' := fun _ => False) (Fr.of_below Z6.out) (fun h => h))
              have F6 := Lib.hid (FF5.out.trans (fr5b Z6.out))
              cases b with
              | true =>
                have hq := (qs_iff _ _).1 HB.out
                have e1 : gs5 = gs' := List.ext_getElem hq.2.1.1 fun i h1 h2 => by
                  have := hq.2.1.2 i h1
                  simpa [crL, List.getD_eq_getElem?_getD, h1, h2] using this
                have e2 : os5 = os' := hq.2.2
                subst e1 e2
                have HR2 := HR.out
                clear hq
                go_wp2_with fail
                (try go_end0)
                rw [← HQ.out]
                refine ⟨j, ?_, ?_⟩
                · rw [HP.out]; exact HR2
                · rw [HP.out]; exact ⟨rfl, ws5, V5, cV5, W6.out, ⟨S5, M6.out⟩, F6.out⟩
              | false =>
                have hm : mu gs5 os5 < mu gs' os' := by
                  obtain ⟨_, _, _, k4, k5⟩ := K5.out
                  rcases Nat.lt_or_ge (mu gs5 os5) (mu gs' os') with h | h
                  · exact h
                  · obtain ⟨q1, q2⟩ := k5 (by omega)
                    subst q1 q2
                    have := (qs_iff (crL N gs5 os5) (crL N gs5 os5)).2 ⟨rfl, ⟨rfl, fun _ _ => rfl⟩, rfl⟩
                    rw [HB.out] at this
                    cases this
                have HMU := Lib.hid hm
                clear hm
                go_wp2_with fail
                go_roundw
                case rel => exact ⟨j + 1, gs5, os5, ws5, V5, cV5, S5, Lib.hid (by show rndC N (itC N j (gs, os)).1 (itC N j (gs, os)).2 = _; rw [HP.out]; exact HR.out), W6, M6, F6⟩
                case measure =>
                  rw [muW_eq W6.out, muW_eq HWR.out]
                  exact HMU.out))))
end
end Go.Proofs.Ytnhkgkpjkgifoaa
