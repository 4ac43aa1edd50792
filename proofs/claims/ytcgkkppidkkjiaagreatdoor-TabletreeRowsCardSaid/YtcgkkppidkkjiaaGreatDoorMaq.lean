/- The walk of ruletable.Right. -/
import Derived.Test.YtcgkkppidkkjiaaGreatDoorMad
import Derived.Test.YtcgkkppidkkjiaaGreatDoorMaa
import Derived.Test.YtcgkkppidkkjiaaGreatDoorMap
import Derived.Test.YtcgkkppidkkjiaaGreatDoorMab
import Derived.Test.YtcgkkppidkkjiaaGreatDoorMac
import Derived.Test.YtcgkkppidkkjiaaGreatDoorMaj
import Derived.Test.YtcgkkppidkkjiaaGreatDoorMag
import Derived.Below
import Derived.BigQuiet
import Derived.Deep.AppendLies
import Derived.Deep.CutRange
import Derived.Deep.Draws
import Derived.Deep.QuietTactic
import Derived.IntWalk
import Derived.Laws.BitsLemmas
import Derived.Laws.OwnMore
import Derived.Laws.Rows
import Derived.Lib.Hide
import Derived.Lib.SliceRun
import Derived.LoopN
import Derived.OwnWalk
import Derived.Shelf.SlLaysF0
import Derived.Sort.Grow
import Derived.Sort.Statements
import Derived.StillTail
import Derived.StillTailTactics
import Derived.Test.YtcgkkppidkkjiaaGreatDoorRows
import Derived.WalkKit
namespace Go.Proofs.YtcgkkppidkkjiaaGreatDoor
open Go.RowKit
/-- the states of a variable -/
def vv (st : Int) (l : List Int) : Bool := decide (l.length ≠ 0) && als st l && ups l
/-- a valid table -/
def rt (T : Tab) : Bool := decide (2 ≤ T.st) && decide (T.st ≤ 8) && decide (Hd T.f T.n) && pmt T.f T.n T.sy && decide (T.nv ≤ 40) && decide (T.nr ≤ 400) && ((List.range T.nv).all fun i => vv T.st (T.v i)) && ((List.range T.nr).all fun i => rr T.n T.st T.nv (T.ri i) (T.ro i))
/-- what a valid table is -/
structure Rt (T : Tab) : Prop where
  s1 : 2 ≤ T.st
  s2 : T.st ≤ 8
  hd : Hd T.f T.n
  pm : pmt T.f T.n T.sy = true
  v1 : T.nv ≤ 40
  r1 : T.nr ≤ 400
  vs : ∀ i, i < T.nv → vv T.st (T.v i) = true
  rs : ∀ i, i < T.nr → rr T.n T.st T.nv (T.ri i) (T.ro i) = true
theorem rt_iff (T : Tab) : rt T = true ↔ Rt T := by
  simp only [rt, Bool.and_eq_true, decide_eq_true_eq, List.all_eq_true, List.mem_range]
  exact ⟨fun ⟨⟨⟨⟨⟨⟨⟨a, b⟩, c⟩, d⟩, e⟩, f⟩, g⟩, h⟩ => ⟨a, b, c, d, e, f, g, h⟩, fun h => ⟨⟨⟨⟨⟨⟨⟨h.s1, h.s2⟩, h.hd⟩, h.pm⟩, h.v1⟩, h.r1⟩, h.vs⟩, h.rs⟩⟩
theorem rt_no {T : Tab} (h : ¬ Rt T) : rt T = false := by rw [← Bool.not_eq_true, rt_iff]; exact h

set_option maxRecDepth 100000 in
set_option maxHeartbeats 4000000 in
theorem rt_any (AH : Option Addr) (cH : Nat) (AV : Option Addr) (cV : Nat) (AR : Option Addr) (cR : Nat) (T : Tab) (w : World) (hM : Mat w) (h : TR w AH AV AR T) (hb : Bd T) :
    Calls Tryz.prog 17 #[.agg #[.int .i64 T.st, .int .i64 T.sy, .slice AH T.n cH, .slice AV T.nv cV, .slice AR T.nr cR]] w fun e w' => e = .returned (.bool (rt T)) ∧ Below w.heap.size w w' := by
  obtain ⟨hH, hV, hR⟩ := h
  obtain ⟨h1, h2, h3, h4, h5⟩ := hb
  have RY := Lib.hid (rt_iff T).2
  have RN := Lib.hid (rt_no (T := T))
  have RF := Lib.hid (fun (h : Rt T) => h)
  have K1 := Blk.new w 26 #[.int .i64 T.st, .int .i64 T.sy, .slice AH T.n cH, .slice AV T.nv cV, .slice AR T.nr cR]
  have B1 : Below w.heap.size w (w.alloc (.cells #[.int .i64 T.st, .int .i64 T.sy, .slice AH T.n cH, .slice AV T.nv cV, .slice AR T.nr cR] 26)) := (Below.refl _ _).alloc (Nat.le_refl _) _
  have HR1 := Lib.hid (fun w' (hb : Below w.heap.size w w') => hright_all AH T.n cH T.f w' (hH.later hb) h1)
  have PM := Lib.hid (fun w' (hb : Below w.heap.size w w') (hd : Hd T.f T.n) => permits_any T.sy AH T.n cH T.f w' (hM.below hb hM.1) (hH.later hb) hd)
  have HV := Lib.hid (fun w' (hb : Below w.heap.size w w') => hV.later hb)
  have HR := Lib.hid (fun w' (hb : Below w.heap.size w w') => hR.later hb)
  have H4 := Lib.hid h4
  have H5 := Lib.hid h5
  have F1 := Lib.hid (fun (h : Rt T) => h.s1)
  have F2 := Lib.hid (fun (h : Rt T) => h.s2)
  have F3 := Lib.hid (fun (h : Rt T) => h.hd)
  have F4 := Lib.hid (fun (h : Rt T) => h.pm)
  have F5 := Lib.hid (fun (h : Rt T) => h.v1)
  have F6 := Lib.hid (fun (h : Rt T) => h.r1)
  have F7 := Lib.hid (fun (h : Rt T) => h.vs)
  have F8 := Lib.hid (fun (h : Rt T) => h.rs)
  have F9 := Lib.hid (fun (a : 2 ≤ T.st) (b : T.st ≤ 8) (c : Hd T.f T.n) (d : pmt T.f T.n T.sy = true) (e : T.nv ≤ 40) (f : T.nr ≤ 400) (g : ∀ i, i < T.nv → vv T.st (T.v i) = true) (h : ∀ i, i < T.nr → rr T.n T.st T.nv (T.ri i) (T.ro i) = true) => RY.out ⟨a, b, c, d, e, f, g, h⟩)
  generalize Rt T = RTT at RY RN RF F1 F2 F3 F4 F5 F6 F7 F8
  generalize rt T = q at RY RN F9 ⊢
  obtain ⟨st, k, n, f, nv, v, nr, ri, ro⟩ := T
  simp only at *
  clear hH hV hR h4 h5 RF
  by_cases s1 : 2 ≤ st
  · by_cases s2 : st ≤ 8
    · by_cases hd : Hd f n
      · have PM2 := fun w' hb => PM.out w' hb hd
        have HR2 := HR1.out
        have HD := Lib.hid hd
        rw [decide_eq_true hd] at HR2
        have HR2 := Lib.hid HR2
        clear hd
        generalize hpm : pmt f n k = pq at PM2 F4 F9
        have PM2 := Lib.hid PM2
        cases pq with
        | true =>
          by_cases v1 : nv ≤ 40
          · by_cases r1 : nr ≤ 400
            · have V9 := Lib.hid (fun g h => F9.out s1 s2 HD.out rfl v1 r1 g h)
              have e1 : decide (st < 2) = false := by rw [decide_eq_false_iff_not]; omega
              have e2 : decide (8 < st) = false := by rw [decide_eq_false_iff_not]; omega
              have d1 : decide (40 < (nv : Int)) = false := by rw [decide_eq_false_iff_not]; omega
              have d2 : decide (400 < (nr : Int)) = false := by rw [decide_eq_false_iff_not]; omega
              go_enter Tryz.func17, Tryz.ntmps17
              go_wp2_with fail
              generalize w.alloc (.cells #[.int .i64 st, .int .i64 k, .slice AH n cH, .slice AV nv cV, .slice AR nr cR] 26) = w0 at K1 B1 ⊢
              obtain ⟨a0, a1, a2, a3, a4, a5⟩ := K1.five
              have K1 := Lib.hid K1
              have B1 := Lib.hid B1
              go_wp2_with (first
                | (go_at_call 37; (with_reducible refine (HR2.out _ B1.out).mono ?_); rintro e w1 ⟨rfl, hb⟩; have B2 := Lib.hid (B1.out.trans (hb.mono B1.out.size)); have K2 := Lib.hid (K1.out.below hb K1.out.lt); obtain ⟨b0, b1, b2, b3, b4, b5⟩ := K2.out.five; clear hb)
                | (go_at_call 38; (with_reducible refine (PM2.out _ B2.out).mono ?_); rintro e w2 ⟨rfl, hb⟩; have B3 := Lib.hid (B2.out.trans (hb.mono B2.out.size)); have K3 := Lib.hid (K2.out.below hb K2.out.lt); obtain ⟨c0, c1, c2, c3, c4, c5⟩ := K3.out.five; clear hb))
              go_loopw [42] (fun iv wr => ∃ j : Nat, j ≤ nv ∧ iv = .int .i64 (j : Int) ∧ (∀ i, i < j → vv st (v i) = true) ∧ Below w2.heap.size w2 wr) (fun iv _ => nv - (intOf iv).toNat)
              case atStart => exact ⟨0, Nat.zero_le _, rfl, fun i hi => absurd hi (by omega), Below.refl _ _⟩
              case round =>
                obtain ⟨j, hj, rfl, hno, hbel⟩ := hrel
                have HN := Lib.hid hno
                have B4 := Lib.hid (B3.out.trans (hbel.mono B3.out.size))
                have K4 := Lib.hid (K3.out.below hbel K3.out.lt)
                obtain ⟨d0, d1', d2', d3', d4', d5'⟩ := K4.out.five
                clear hno b0 b1 b2 b3 b4 b5 c0 c1 c2 c3 c4 c5 a0 a1 a2 a3 a4 a5
                by_cases hlt : j < nv
                · obtain ⟨ad, rfl, hb, hc⟩ := HV.out _ B4.out (by omega)
                  obtain ⟨A', c', hc, hr⟩ := hc j hlt
                  have hl := H4.out j hlt
                  have NO := Lib.hid (fun (h : vv st (v j) = false) => RN.out fun hrt => by have := F7.out hrt j hlt; rw [h] at this; cases this)
                  have NX := Lib.hid (fun (h : vv st (v j) = true) (i : Nat) (hi : i < j + 1) => show vv st (v i) = true from by
                    by_cases e : i < j
                    · exact HN.out i e
                    · obtain rfl : i = j := by omega
                      exact h)
                  have hvd : vv st (v j) = (decide ((v j).length ≠ 0) && als st (v j) && ups (v j)) := rfl
                  generalize vv st (v j) = qv at NO NX hvd
                  have AL := Lib.hid (allStates_any A' (v j).length c' _ (v j) wr st hr (by omega))
                  have UP := Lib.hid (ascends_any A' (v j).length c' (v j) wr hr (by omega))
                  generalize als st (v j) = q1 at AL hvd
                  generalize ups (v j) = q2 at UP hvd
                  generalize (v j).length = m at hc hl AL UP hvd
                  clear hr
                  by_cases hm : m = 0
                  · subst hm
                    have HF := Lib.hid (NO.out (by rw [hvd]; rfl))
                    clear hvd
                    go_wp2
                    go_ret
                    exact ⟨ret_bool HF.out.symm, B4.out⟩
                  · have hm0 : ((m : Int) == 0) = false := by rw [beq_eq_false_iff_ne]; omega
                    rw [decide_eq_true hm] at hvd
                    have HVD := Lib.hid hvd
                    clear hvd hm
                    cases q1 with
                    | false =>
                      have HF := Lib.hid (NO.out (by rw [HVD.out]; rfl))
                      go_wp2_with (go_at_call 39; (with_reducible refine AL.out.mono ?_); rintro e w' ⟨rfl, rfl⟩)
                      go_ret
                      exact ⟨ret_bool HF.out.symm, B4.out⟩
                    | true =>
                      cases q2 with
                      | false =>
                        have HF := Lib.hid (NO.out (by rw [HVD.out]; rfl))
                        go_wp2_with (first
                          | (go_at_call 39; (with_reducible refine AL.out.mono ?_); rintro e w' ⟨rfl, rfl⟩)
                          | (go_at_call 40; (with_reducible refine UP.out.mono ?_); rintro e w5 ⟨rfl, hb⟩; have B5 := Lib.hid (B4.out.trans (hb.mono B4.out.size)); clear hb))
                        go_ret
                        exact ⟨ret_bool HF.out.symm, B5.out⟩
                      | true =>
                        have HT := Lib.hid (NX.out (by rw [HVD.out]; rfl))
                        have HBL := Lib.hid hbel
                        go_wp2_with (first
                          | (go_at_call 39; (with_reducible refine AL.out.mono ?_); rintro e w' ⟨rfl, rfl⟩)
                          | (go_at_call 40; (with_reducible refine UP.out.mono ?_); rintro e w5 ⟨rfl, hb⟩; have B5 := Lib.hid (HBL.out.trans (hb.mono HBL.out.size)); clear hb))
                        go_roundw
                        case rel => exact ⟨j + 1, by omega, by go_num, HT.out, B5.out⟩
                        case measure => simp [intOf]; omega
                · obtain rfl : j = nv := by omega
                  clear hlt hbel
                  obtain ⟨w3, hw3⟩ : ∃ w3, w3 = wr := ⟨_, rfl⟩
                  subst hw3
                  go_wp2
                  go_loopw [65] (fun iv wr => ∃ i : Nat, i ≤ nr ∧ iv = .int .i64 (i : Int) ∧ (∀ i', i' < i → rr n st j (ri i') (ro i') = true) ∧ Below w3.heap.size w3 wr) (fun iv _ => nr - (intOf iv).toNat)
                  case atStart => exact ⟨0, Nat.zero_le _, rfl, fun i hi => absurd hi (by omega), Below.refl _ _⟩
                  case round =>
                    obtain ⟨i, hi, rfl, hno, hbel⟩ := hrel
                    have HM := Lib.hid hno
                    have B5 := Lib.hid (B4.out.trans (hbel.mono B4.out.size))
                    have K5 := Lib.hid (K4.out.below hbel K4.out.lt)
                    have HBL := Lib.hid hbel
                    obtain ⟨e0, e1', e2', e3', e4', e5'⟩ := K5.out.five
                    clear hno d0 d1' d2' d3' d4' d5' hbel
                    by_cases hlt : i < nr
                    · obtain ⟨g1, o1, rfl, hb1, hc⟩ := HR.out _ B5.out (by omega)
                      obtain ⟨A', c', hc, hr, hc2⟩ := hc i hlt
                      have hl := H5.out i hlt
                      have NO := Lib.hid (fun (h : rr n st j (ri i) (ro i) = false) => RN.out fun hrt => by have := F8.out hrt i hlt; rw [h] at this; cases this)
                      have NX := Lib.hid (fun (h : rr n st j (ri i) (ro i) = true) (i' : Nat) (hi : i' < i + 1) => show rr n st j (ri i') (ro i') = true from by
                        by_cases e : i' < i
                        · exact HM.out i' e
                        · obtain rfl : i' = i := by omega
                          exact h)
                      have RW := fun w' (hb : Below wr.heap.size wr w') => rightRow_any st k AH n cH AV j cV (some ⟨g1, o1, none⟩) nr cR A' (ri i).length c' (ri i) (ro i) w' (hr.later hb) hl h1 h2 (by omega) s2
                      generalize rr n st j (ri i) (ro i) = qr at NO NX RW
                      generalize (ri i).length = m at hc hl RW
                      generalize ro i = o at hc2 RW
                      have RW := Lib.hid RW
                      have K6 := Lib.hid (Blk.new wr 41 #[.slice A' m c', .int .i64 o])
                      have B6 := Lib.hid ((Below.refl wr.heap.size wr).alloc (Nat.le_refl _) (.cells #[.slice A' m c', .int .i64 o] 41))
                      have K7 := Lib.hid (K5.out.alloc (.cells #[.slice A' m c', .int .i64 o] 41))
                      clear hr
                      cases qr with
                      | false =>
                        have HF := Lib.hid (NO.out rfl)
                        go_upto_region 14 with (fail)
                        generalize wr.alloc (.cells #[.slice A' m c', .int .i64 o] 41) = w5 at K6 B6 K7 ⊢
                        obtain ⟨r0, r1, r2, r3, r4⟩ := K6.out.two
                        obtain ⟨e0, e1', e2', e3', e4', e5'⟩ := K7.out.five
                        go_wp2_with (go_at_call 41; (with_reducible refine (RW.out _ B6.out).mono ?_); rintro e w6 ⟨rfl, hb⟩; have B7 := Lib.hid (B5.out.trans ((B6.out.trans (hb.mono B6.out.size)).mono B5.out.size)); clear hb)
                        go_ret
                        exact ⟨ret_bool HF.out.symm, B7.out⟩
                      | true =>
                        have HT := Lib.hid (NX.out rfl)
                        go_upto_region 14 with (fail)
                        generalize wr.alloc (.cells #[.slice A' m c', .int .i64 o] 41) = w5 at K6 B6 K7 ⊢
                        obtain ⟨r0, r1, r2, r3, r4⟩ := K6.out.two
                        obtain ⟨e0, e1', e2', e3', e4', e5'⟩ := K7.out.five
                        go_wp2_with (go_at_call 41; (with_reducible refine (RW.out _ B6.out).mono ?_); rintro e w6 ⟨rfl, hb⟩; have B7 := Lib.hid (HBL.out.trans ((B6.out.trans (hb.mono B6.out.size)).mono HBL.out.size)); clear hb)
                        go_roundw
                        case rel => exact ⟨i + 1, by omega, by go_num, HT.out, B7.out⟩
                        case measure => simp [intOf]; omega
                    · obtain rfl : i = nr := by omega
                      have HF := Lib.hid (V9.out HN.out HM.out)
                      go_wp2
                      go_ret
                      exact ⟨ret_bool HF.out.symm, B5.out⟩
            · have e1 : decide (st < 2) = false := by rw [decide_eq_false_iff_not]; omega
              have e2 : decide (8 < st) = false := by rw [decide_eq_false_iff_not]; omega
              have d1 : decide (40 < (nv : Int)) = false := by rw [decide_eq_false_iff_not]; omega
              have d2 : decide (400 < (nr : Int)) = true := by rw [decide_eq_true_iff]; omega
              have HF := Lib.hid (RN.out fun h => r1 (F6.out h))
              go_enter Tryz.func17, Tryz.ntmps17
              go_wp2_with fail
              generalize w.alloc (.cells #[.int .i64 st, .int .i64 k, .slice AH n cH, .slice AV nv cV, .slice AR nr cR] 26) = w0 at K1 B1 ⊢
              obtain ⟨a0, a1, a2, a3, a4, a5⟩ := K1.five
              have K1 := Lib.hid K1
              have B1 := Lib.hid B1
              go_wp2_with (first
                | (go_at_call 37; (with_reducible refine (HR2.out _ B1.out).mono ?_); rintro e w1 ⟨rfl, hb⟩; have B2 := Lib.hid (B1.out.trans (hb.mono B1.out.size)); have K2 := Lib.hid (K1.out.below hb K1.out.lt); obtain ⟨b0, b1, b2, b3, b4, b5⟩ := K2.out.five; clear hb)
                | (go_at_call 38; (with_reducible refine (PM2.out _ B2.out).mono ?_); rintro e w2 ⟨rfl, hb⟩; have B3 := Lib.hid (B2.out.trans (hb.mono B2.out.size)); have K3 := Lib.hid (K2.out.below hb K2.out.lt); obtain ⟨c0, c1, c2, c3, c4, c5⟩ := K3.out.five; clear hb))
              go_ret
              exact ⟨ret_bool HF.out.symm, B3.out⟩
          · have e1 : decide (st < 2) = false := by rw [decide_eq_false_iff_not]; omega
            have e2 : decide (8 < st) = false := by rw [decide_eq_false_iff_not]; omega
            have d1 : decide (40 < (nv : Int)) = true := by rw [decide_eq_true_iff]; omega
            have HF := Lib.hid (RN.out fun h => v1 (F5.out h))
            go_enter Tryz.func17, Tryz.ntmps17
            go_wp2_with fail
            generalize w.alloc (.cells #[.int .i64 st, .int .i64 k, .slice AH n cH, .slice AV nv cV, .slice AR nr cR] 26) = w0 at K1 B1 ⊢
            obtain ⟨a0, a1, a2, a3, a4, a5⟩ := K1.five
            have K1 := Lib.hid K1
            have B1 := Lib.hid B1
            go_wp2_with (first
              | (go_at_call 37; (with_reducible refine (HR2.out _ B1.out).mono ?_); rintro e w1 ⟨rfl, hb⟩; have B2 := Lib.hid (B1.out.trans (hb.mono B1.out.size)); have K2 := Lib.hid (K1.out.below hb K1.out.lt); obtain ⟨b0, b1, b2, b3, b4, b5⟩ := K2.out.five; clear hb)
              | (go_at_call 38; (with_reducible refine (PM2.out _ B2.out).mono ?_); rintro e w2 ⟨rfl, hb⟩; have B3 := Lib.hid (B2.out.trans (hb.mono B2.out.size)); have K3 := Lib.hid (K2.out.below hb K2.out.lt); obtain ⟨c0, c1, c2, c3, c4, c5⟩ := K3.out.five; clear hb))
            go_ret
            exact ⟨ret_bool HF.out.symm, B3.out⟩
        | false =>
          have e1 : decide (st < 2) = false := by rw [decide_eq_false_iff_not]; omega
          have e2 : decide (8 < st) = false := by rw [decide_eq_false_iff_not]; omega
          have HF := Lib.hid (RN.out fun h => by have := F4.out h; cases this)
          go_enter Tryz.func17, Tryz.ntmps17
          go_wp2_with fail
          generalize w.alloc (.cells #[.int .i64 st, .int .i64 k, .slice AH n cH, .slice AV nv cV, .slice AR nr cR] 26) = w0 at K1 B1 ⊢
          obtain ⟨a0, a1, a2, a3, a4, a5⟩ := K1.five
          have K1 := Lib.hid K1
          have B1 := Lib.hid B1
          go_wp2_with (first
            | (go_at_call 37; (with_reducible refine (HR2.out _ B1.out).mono ?_); rintro e w1 ⟨rfl, hb⟩; have B2 := Lib.hid (B1.out.trans (hb.mono B1.out.size)); have K2 := Lib.hid (K1.out.below hb K1.out.lt); obtain ⟨b0, b1, b2, b3, b4, b5⟩ := K2.out.five; clear hb)
            | (go_at_call 38; (with_reducible refine (PM2.out _ B2.out).mono ?_); rintro e w2 ⟨rfl, hb⟩; have B3 := Lib.hid (B2.out.trans (hb.mono B2.out.size)); have K3 := Lib.hid (K2.out.below hb K2.out.lt); obtain ⟨c0, c1, c2, c3, c4, c5⟩ := K3.out.five; clear hb))
          go_ret
          exact ⟨ret_bool HF.out.symm, B3.out⟩
      · have HR2 := HR1.out
        rw [decide_eq_false hd] at HR2
        have HR2 := Lib.hid HR2
        have e1 : decide (st < 2) = false := by rw [decide_eq_false_iff_not]; omega
        have e2 : decide (8 < st) = false := by rw [decide_eq_false_iff_not]; omega
        have HF := Lib.hid (RN.out fun h => hd (F3.out h))
        go_enter Tryz.func17, Tryz.ntmps17
        go_wp2_with fail
        generalize w.alloc (.cells #[.int .i64 st, .int .i64 k, .slice AH n cH, .slice AV nv cV, .slice AR nr cR] 26) = w0 at K1 B1 ⊢
        obtain ⟨a0, a1, a2, a3, a4, a5⟩ := K1.five
        have K1 := Lib.hid K1
        have B1 := Lib.hid B1
        go_wp2_with (first
          | (go_at_call 37; (with_reducible refine (HR2.out _ B1.out).mono ?_); rintro e w1 ⟨rfl, hb⟩; have B2 := Lib.hid (B1.out.trans (hb.mono B1.out.size)); have K2 := Lib.hid (K1.out.below hb K1.out.lt); obtain ⟨b0, b1, b2, b3, b4, b5⟩ := K2.out.five; clear hb))
        go_ret
        exact ⟨ret_bool HF.out.symm, B2.out⟩
    · have e1 : decide (st < 2) = false := by rw [decide_eq_false_iff_not]; omega
      have e2 : decide (8 < st) = true := by rw [decide_eq_true_iff]; omega
      have HF := Lib.hid (RN.out fun h => s2 (F2.out h))
      go_enter Tryz.func17, Tryz.ntmps17
      go_wp2
      go_ret
      exact ⟨ret_bool HF.out.symm, B1⟩
  · have e1 : decide (st < 2) = true := by rw [decide_eq_true_iff]; omega
    have HF := Lib.hid (RN.out fun h => s1 (F1.out h))
    go_enter Tryz.func17, Tryz.ntmps17
    go_wp2
    go_ret
    exact ⟨ret_bool HF.out.symm, B1⟩
end Go.Proofs.YtcgkkppidkkjiaaGreatDoor
