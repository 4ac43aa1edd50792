/- The walk of Row of tabletree. -/
/- The walk of Few. -/
import Derived.Test.YtcgkkppidkkjiaaGreatDoorMay
import Derived.Test.YtcgkkppidkkjiaaGreatDoorMaa
import Derived.Test.YtcgkkppidkkjiaaGreatDoorMab
import Derived.Below
import Derived.BigQuiet
import Derived.Deep.AppendLies
import Derived.Deep.Draws
import Derived.Deep.QuietTactic
import Derived.IntWalk
import Derived.Laws.OwnMore
import Derived.Laws.Rows
import Derived.Lib.Hide
import Derived.LoopN
import Derived.OwnWalk
import Derived.Sort.Statements
import Derived.StillTail
import Derived.StillTailTactics
import Derived.Test.YtcgkkppidkkjiaaGreatDoorRows
import Derived.WalkKit
namespace Go.Proofs.YtcgkkppidkkjiaaGreatDoor
open Go.RowKit

theorem vr_le (T : Tab) (i : Nat) (m : List Int) : vr T i m ≤ 1 := by
  unfold vr
  split
  · exact Nat.le_refl _
  · exact Nat.zero_le _
set_option maxRecDepth 100000 in
set_option maxHeartbeats 40000000 in
theorem row_out (S : Nat) (AH : Option Addr) (cH : Nat) (AV : Option Addr) (cV : Nat) (AR : Option Addr) (cR : Nat) (T : Tab) (i : Nat) (w : World) (hM : Mat w) (h : TR w AH AV AR T) (hb : Bd T) (ht : Rt T) (hS : T.st = (S : Int)) (hi : i < T.nr) (hR : T.nr ≤ cR) :
    Calls Tryz.prog 8 #[.agg #[.int .i64 T.st, .int .i64 T.sy, .slice AH T.n cH, .slice AV T.nv cV, .slice AR T.nr cR], .int .i64 (i : Int)] w (TreeOut S T.n T.f (vr T i) w) := by
  have RT := Lib.hid (fun w' (hb' : Below w.heap.size w w') => rt_any AH cH AV cV AR cR T w' (hM.below hb' hM.1) (h.later hb') hb)
  rw [(rt_iff T).2 ht] at RT
  obtain ⟨g, o, rfl, -⟩ := h.2.2 (by omega)
  have hs1 : 2 ≤ S := by have := ht.s1; omega
  have hs2 : S ≤ 8 := by have := ht.s2; omega
  have hd := ht.hd
  have hnr : T.nr ≤ 1000 := hb.2.2.1
  have CO := Lib.hid (fun (w' : World) (gt : Nat) (hb' : Below w.heap.size w w') (hk : Blk w' gt 26 #[.int .i64 T.st, .int .i64 T.sy, .slice AH T.n cH, .slice AV T.nv cV, .slice (some ⟨g, o + i * 2, none⟩) 1 (cR - i)]) =>
    show Calls Tryz.prog 18 #[.agg #[.int .i64 T.st, .int .i64 T.sy, .slice AH T.n cH, .slice AV T.nv cV, .slice (some ⟨g, o + i * 2, none⟩) 1 (cR - i)], .func (.func 24) #[] #[.pointer (some ⟨gt, 0, none⟩)]] w' (TreeOut S T.n T.f (vr T i) w') by
      rw [hS]
      rw [hS] at hk
      by_cases hsm : S ^ T.n ≤ 65536
      · refine collect_any S T.sy AH T.n cH T.f AV T.nv cV (some ⟨g, o + i * 2, none⟩) 1 (cR - i) (vr T i) 24 #[.pointer (some ⟨gt, 0, none⟩)] w' hs1 hs2 hd.1.1 hd.1.2 hsm (h.later hb').1 (enters_of Tryz.func24 (by kernel_rfl) rfl) (fun w'' A c m hb2 hr hc hst hl => ?_) (fun m hst hl => ?_) (fun l m hst hl h3 he => ?_)
        · have hst' : als T.st m = true := by rw [hS]; exact sts_als.1 hst
          have hk2 := hk.below hb2 hk.lt
          rw [← hS] at hk2
          exact row1_any AH cH AV cV (some ⟨g, o + i * 2, none⟩) (cR - i) (alone T i) A c gt m w'' (hM.below (hb'.trans (hb2.mono hb'.size)) hM.1) (alone_tr ((h.later hb').later hb2) hi) (alone_bd hb hi) (alone_rt ht hi) rfl hr hc hst' hk2
        · have := vr_le T i m
          omega
        · unfold vr
          rw [av_eqv h3 hl he]
      · exact collect_big S T.sy AH T.n cH T.f AV T.nv cV (some ⟨g, o + i * 2, none⟩) 1 (cR - i) (vr T i) 24 #[.pointer (some ⟨gt, 0, none⟩)] w' hs1 hs2 hd.1.2 hsm)
  clear h hb ht hM hd
  obtain ⟨st, ky, n, f, nv, v, nr, ri, ro⟩ := T
  simp only at *
  have WR := Lib.hid (fun w' => withRows_any st ky AH AV (some ⟨g, o, none⟩) (some ⟨g, o + i * 2, none⟩) n nv nr 1 cH cV cR (cR - i) w')
  have K0 := (Blk.new w 26 #[.int .i64 st, .int .i64 ky, .slice AH n cH, .slice AV nv cV, .slice (some ⟨g, o, none⟩) nr cR]).alloc (.cells #[.int .i64 0, .slice none 0 0, .slice none 0 0] 32)
  have K1 := Blk.new (w.alloc (.cells #[.int .i64 st, .int .i64 ky, .slice AH n cH, .slice AV nv cV, .slice (some ⟨g, o, none⟩) nr cR] 26)) 32 #[.int .i64 0, .slice none 0 0, .slice none 0 0]
  rw [World.size_alloc] at K1
  have B0 := ((Below.refl w.heap.size w).alloc (Nat.le_refl _) (.cells #[.int .i64 st, .int .i64 ky, .slice AH n cH, .slice AV nv cV, .slice (some ⟨g, o, none⟩) nr cR] 26)).alloc (by simp) (.cells #[.int .i64 0, .slice none 0 0, .slice none 0 0] 32)
  generalize hV : vr ⟨st, ky, n, f, nv, v, nr, ri, ro⟩ i = V at CO ⊢
  clear hV hS
  have d0 : decide ((i : Int) < 0) = false := decide_eq_false (by omega)
  have d1 : decide ((nr : Int) ≤ (i : Int)) = false := decide_eq_false (by omega)
  have d2 : decide (nr ≤ i) = false := decide_eq_false (by omega)
  have hicR : i < cR := by omega
  have b1 : (0 : Int) ≤ (i : Int) := by omega
  have b2 : (i : Int) ≤ (i : Int) + 1 := by omega
  have b3 : (i : Int) + 1 ≤ (cR : Int) := by omega
  have b4 : (0 : Int) ≤ (i : Int) + 1 := by omega
  have b5 : ¬ cR = i := by omega
  have b6 : ¬ ((cR : Int) = (i : Int)) := by omega
  have b7 : ((i : Int) + 1).toNat = i + 1 := by omega
  have b8 : ((i : Int) + 1 - (i : Int)).toNat = 1 := by omega
  have b9 : (i : Int) < (cR : Int) := by omega
  have hw1 : IntKind.i64.wrap ((i : Int) + 1) = (i : Int) + 1 := IntWalk.i64_in _ (by omega)
  go_enter Tryz.func8, Tryz.ntmps8
  go_upto_region 1 with (fail)
  generalize (w.alloc (.cells #[.int .i64 st, .int .i64 ky, .slice AH n cH, .slice AV nv cV, .slice (some ⟨g, o, none⟩) nr cR] 26)).alloc (.cells #[.int .i64 0, .slice none 0 0, .slice none 0 0] 32) = w0 at K0 K1 B0 ⊢
  obtain ⟨t0, t1, t2, t3, t4, t5⟩ := K0.five
  have K0 := Lib.hid K0
  have K1 := Lib.hid K1
  have B0 := Lib.hid B0
  have hwR : w.heap.size ≤ w.heap.size + 1 := by omega
  go_upto_region 3 with (go_at_call 17; (with_reducible refine (RT.out _ B0.out).mono ?_); rintro e w1 ⟨rfl, hb⟩; have B1 := Lib.hid (B0.out.trans (hb.mono B0.out.size)); have K10 := Lib.hid (K0.out.below hb K0.out.lt); have K11 := Lib.hid (K1.out.below hb K1.out.lt); obtain ⟨u0, u1, u2, u3, u4, u5⟩ := K10.out.five; clear hb)
  have KP := Lib.hid (fun W (hb : Below w1.heap.size w1 W) => show W.cell? ⟨w.heap.size, 0, none⟩ = some (.int .i64 st) ∧ W.cell? ⟨w.heap.size, 1, none⟩ = some (.int .i64 ky) ∧ W.cell? ⟨w.heap.size, 2, none⟩ = some (.slice AH n cH) ∧ W.cell? ⟨w.heap.size, 3, none⟩ = some (.slice AV nv cV) ∧ W.cell? ⟨w.heap.size, 4, none⟩ = some (.slice (some ⟨g, o, none⟩) nr cR) from
    have q := (K10.out.below hb K10.out.lt).five
    ⟨q.1, q.2.1, q.2.2.1, q.2.2.2.1, q.2.2.2.2.1⟩)
  have S1 := KP.out w1 (Below.refl _ _)
  have P1 := Lib.hid (show ∀ W, Below w1.heap.size w1 W → Calls Tryz.prog 23 #[.agg #[.int .i64 st, .int .i64 ky, .slice AH n cH, .slice AV nv cV, .slice (some ⟨g, o, none⟩) nr cR], .slice (some ⟨g, o + i * 2, none⟩) 1 (cR - i)] W fun e W' => e = .returned (.agg #[.int .i64 st, .int .i64 ky, .slice AH n cH, .slice AV nv cV, .slice (some ⟨g, o + i * 2, none⟩) 1 (cR - i)]) ∧ Below w1.heap.size w1 W' ∧ Below W.heap.size W W' from
    fun W hb => (WR.out W).mono fun e W' ⟨he, hx⟩ => ⟨he, hb.trans (hx.mono hb.size), hx⟩)
  clear WR t0 t1 t2 t3 t4 t5 u0 u1 u2 u3 u4 u5
  go_cut [6] from 22 to 29 (fun s6 wx => ∃ gx, s6 = .pointer (some ⟨gx, 0, none⟩) ∧ Blk wx gx 26 #[.int .i64 st, .int .i64 ky, .slice AH n cH, .slice AV nv cV, .slice (some ⟨g, o + i * 2, none⟩) 1 (cR - i)] ∧ w1.heap.size ≤ gx ∧ Below w1.heap.size w1 wx)
  case first =>
    go_region_held_law (fun W => W.cell? ⟨w.heap.size, 0, none⟩ = some (.int .i64 st) ∧ W.cell? ⟨w.heap.size, 1, none⟩ = some (.int .i64 ky) ∧ W.cell? ⟨w.heap.size, 2, none⟩ = some (.slice AH n cH) ∧ W.cell? ⟨w.heap.size, 3, none⟩ = some (.slice AV nv cV) ∧ W.cell? ⟨w.heap.size, 4, none⟩ = some (.slice (some ⟨g, o, none⟩) nr cR))
      (first | assumption | (refine KP.out _ ?_; (with_reducible (repeat (first | assumption | exact Below.refl _ _ | refine Below.drew' ?_ | refine Below.alloc' ?_ _ | refine Below.set1 ?_ ?_ _ | exact Nat.le_refl _ | omega))); done) | go_keep)
      ((go_at_call 23; (with_reducible refine (P1.out _ ?_).mono ?_); (with_reducible (repeat (first | assumption | exact Below.refl _ _ | refine Below.drew' ?_ | refine Below.alloc' ?_ _))); rintro e wa ⟨rfl, ha1, ha2⟩; have sa := ha1.size; (try (have hk := Blk.below' (by first | exact Blk.drew (Blk.new1 _ _ 26 #[.int .i64 0, .int .i64 0, .slice none 0 0, .slice none 0 0, .slice none 0 0]) | exact Blk.new _ 26 #[.int .i64 0, .int .i64 0, .slice none 0 0, .slice none 0 0, .slice none 0 0] | exact Blk.drew (Blk.new _ 26 #[.int .i64 0, .int .i64 0, .slice none 0 0, .slice none 0 0, .slice none 0 0])) ha2; obtain ⟨k0, k1, k2, k3, k4, k5⟩ := hk.five; have g0 := hk.frozen 0; have g1 := hk.frozen 1; have g2 := hk.frozen 2; have g3 := hk.frozen 3; have g4 := hk.frozen 4))))
    all_goals
      go_wp2_with fail
      go_meet
      first
        | exact ⟨_, rfl, Blk.new wa _ _, sa, ha1.alloc ha1.size _⟩
        | exact ⟨_, rfl, hk.all5 _ _ _ _ _, (by first | exact Nat.le_refl _ | omega), below_set5 ha1 (by first | exact Nat.le_refl _ | omega) _ _ _ _ _⟩
  case rest =>
    obtain ⟨gx, rfl, hX, hgx, hBx⟩ := hcut
    have BX := Lib.hid (B1.out.trans (hBx.mono B1.out.size))
    have KX := Lib.hid (K11.out.below hBx K11.out.lt)
    obtain ⟨u0, u1, u2, u3, u4, u5⟩ := hX.five
    have CC := Lib.hid (CO.out _ gx BX.out hX)
    have BS := BX.out.size
    have hRl := KX.out.lt
    clear CO KP P1 S1 hBx hX
    go_wp2_with (go_at_call 18; (with_reducible refine (CC.out).mono ?_); rintro e w2 hto; obtain ⟨s, A1, n1, c1, A2, n2, c2, er, rfl, hb2⟩ := hto.form; have TO := Lib.hid hto; have K21 := Lib.hid (KX.out.below hb2 hRl); obtain ⟨r0, r1, r2, r3, r4, r5, r6⟩ := K21.out.three6; clear hto hb2)
    have KZ : Blk (((w2.setCell ⟨w.heap.size + 1, 0, none⟩ (.int .i64 s)).setCell ⟨w.heap.size + 1, 1, none⟩ (.slice A1 n1 c1)).setCell ⟨w.heap.size + 1, 2, none⟩ (.slice A2 n2 c2)) (w.heap.size + 1) 32 #[.int .i64 s, .slice A1 n1 c1, .slice A2 n2 c2] := by simpa using ((K21.out.set_ 0 (.int .i64 s)).set_ 1 (.slice A1 n1 c1)).set_ 2 (.slice A2 n2 c2)
    obtain ⟨y0, y1, y2, y3⟩ := KZ.three
    exact bodyPost_ret (v := .tuple #[.agg #[.int .i64 s, .slice A1 n1 c1, .slice A2 n2 c2], .int .i64 er]) (by simp [results, Tryz.results8, go_sem, y0, y1, y2]) rfl (TO.out.set BX.out hRl hwR _ _ _)
end Go.Proofs.YtcgkkppidkkjiaaGreatDoor
namespace Go.Proofs.YtcgkkppidkkjiaaGreatDoor
open Go.RowKit
/-- a small table -/
def Sm (T : Tab) : Prop := T.n ≤ 30 ∧ T.nv ≤ 50 ∧ T.nr ≤ 30 ∧ (∀ k, k < T.nv → (T.v k).length ≤ 30) ∧ ∀ k, k < T.nr → (T.ri k).length ≤ 30
/-- a bool came back; if it is true, S -/
def BoolThat (S : Prop) (w : World) (e : Ending) (w' : World) : Prop := ∃ q, e = .returned (.bool q) ∧ (q = true → S) ∧ Below w.heap.size w w'

set_option maxRecDepth 100000 in
set_option maxHeartbeats 2000000 in
theorem few_any (AH : Option Addr) (cH : Nat) (AV : Option Addr) (cV : Nat) (AR : Option Addr) (cR : Nat) (T : Tab) (w : World) (h : TR w AH AV AR T) (h1 : T.n < 9223372036854775808) (h2 : T.nv < 9223372036854775808) (h3 : T.nr < 9223372036854775808) (h4 : ∀ k, k < T.nv → (T.v k).length < 9223372036854775808) (h5 : ∀ k, k < T.nr → (T.ri k).length < 9223372036854775808) :
    Calls Tryz.prog 10 #[.agg #[.int .i64 T.st, .int .i64 T.sy, .slice AH T.n cH, .slice AV T.nv cV, .slice AR T.nr cR]] w fun e w' => BoolThat (Sm T) w e w' := by
  obtain ⟨-, hV, hR⟩ := h
  have SM := Lib.hid (show T.n ≤ 30 → T.nv ≤ 50 → T.nr ≤ 30 → (∀ k, k < T.nv → (T.v k).length ≤ 30) → (∀ k, k < T.nr → (T.ri k).length ≤ 30) → Sm T from fun a b c d e => ⟨a, b, c, d, e⟩)
  generalize Sm T = SMT at SM ⊢
  obtain ⟨st, k, n, f, nv, v, nr, ri, ro⟩ := T
  simp only at *
  have K1 := Blk.new w 26 #[.int .i64 st, .int .i64 k, .slice AH n cH, .slice AV nv cV, .slice AR nr cR]
  have B1 : Below w.heap.size w (w.alloc (.cells #[.int .i64 st, .int .i64 k, .slice AH n cH, .slice AV nv cV, .slice AR nr cR] 26)) := (Below.refl _ _).alloc (Nat.le_refl _) _
  have HV := Lib.hid hV
  have HR := Lib.hid hR
  have H4 := Lib.hid h4
  have H5 := Lib.hid h5
  clear hV hR h4 h5
  by_cases l1 : n ≤ 30
  · by_cases l2 : nv ≤ 50
    · by_cases l3 : nr ≤ 30
      · have d1 : decide (30 < (n : Int)) = false := by rw [decide_eq_false_iff_not]; omega
        have d2 : decide (50 < (nv : Int)) = false := by rw [decide_eq_false_iff_not]; omega
        have d3 : decide (30 < (nr : Int)) = false := by rw [decide_eq_false_iff_not]; omega
        go_enter Tryz.func10, Tryz.ntmps10
        go_wp2_with fail
        generalize w.alloc (.cells #[.int .i64 st, .int .i64 k, .slice AH n cH, .slice AV nv cV, .slice AR nr cR] 26) = w0 at K1 B1 ⊢
        obtain ⟨a0, a1, a2, a3, a4, a5⟩ := K1.five
        have B2 := Lib.hid B1
        clear K1 B1
        go_wp2
        go_loop [24] (fun iv => ∃ j : Nat, j ≤ nv ∧ iv = .int .i64 (j : Int) ∧ ∀ i, i < j → (v i).length ≤ 30) (fun iv => nv - (intOf iv).toNat)
        case atStart => exact ⟨0, Nat.zero_le _, rfl, fun i hi => absurd hi (by omega)⟩
        case round =>
          obtain ⟨j, hj, rfl, hno⟩ := hrel
          have HN := Lib.hid hno
          clear hno
          by_cases hlt : j < nv
          · obtain ⟨ad, rfl, hb, hc⟩ := HV.out.below B2.out (by omega)
            obtain ⟨A', c', hc, -⟩ := hc j hlt
            have hl := H4.out j hlt
            have HN2 := Lib.hid (show (v j).length ≤ 30 → ∀ i, i < j + 1 → (v i).length ≤ 30 from fun h i hi => by
              by_cases e : i < j
              · exact HN.out i e
              · obtain rfl : i = j := by omega
                exact h)
            generalize (v j).length = m at hc hl HN2
            by_cases hm : m ≤ 30
            · have HN3 := Lib.hid (HN2.out hm)
              go_wp2
              go_round
              case rel => exact ⟨j + 1, by omega, by go_num, HN3.out⟩
              case measure => simp [intOf]; omega
            · go_wp2
              go_ret
              exact ⟨_, rfl, fun h => (by cases h), B2.out⟩
          · obtain rfl : j = nv := by omega
            go_wp2
            go_loop [38] (fun iv => ∃ j : Nat, j ≤ nr ∧ iv = .int .i64 (j : Int) ∧ ∀ i, i < j → (ri i).length ≤ 30) (fun iv => nr - (intOf iv).toNat)
            case atStart => exact ⟨0, Nat.zero_le _, rfl, fun i hi => absurd hi (by omega)⟩
            case round =>
              obtain ⟨i, hi, rfl, hno⟩ := hrel
              have HM := Lib.hid hno
              clear hno
              by_cases hlt2 : i < nr
              · obtain ⟨g1, o1, rfl, hb1, hc⟩ := HR.out.below B2.out (by omega)
                obtain ⟨A', c', hc, -, -⟩ := hc i hlt2
                have hl := H5.out i hlt2
                have HN2 := Lib.hid (show (ri i).length ≤ 30 → ∀ i', i' < i + 1 → (ri i').length ≤ 30 from fun h i' hi' => by
                  by_cases e : i' < i
                  · exact HM.out i' e
                  · obtain rfl : i' = i := by omega
                    exact h)
                generalize (ri i).length = m at hc hl HN2
                by_cases hm : m ≤ 30
                · have HN3 := Lib.hid (HN2.out hm)
                  go_wp2
                  go_round
                  case rel => exact ⟨i + 1, by omega, by go_num, HN3.out⟩
                  case measure => simp [intOf]; omega
                · go_wp2
                  go_ret
                  exact ⟨_, rfl, fun h => (by cases h), B2.out⟩
              · obtain rfl : i = nr := by omega
                go_wp2
                go_ret
                exact ⟨_, rfl, fun _ => SM.out l1 l2 l3 HN.out HM.out, B2.out⟩
      · have d1 : decide (30 < (n : Int)) = false := by rw [decide_eq_false_iff_not]; omega
        have d2 : decide (50 < (nv : Int)) = false := by rw [decide_eq_false_iff_not]; omega
        have d3 : decide (30 < (nr : Int)) = true := by rw [decide_eq_true_iff]; omega
        go_enter Tryz.func10, Tryz.ntmps10
        go_wp2
        go_ret
        exact ⟨_, rfl, fun h => (by cases h), B1⟩
    · have d1 : decide (30 < (n : Int)) = false := by rw [decide_eq_false_iff_not]; omega
      have d2 : decide (50 < (nv : Int)) = true := by rw [decide_eq_true_iff]; omega
      go_enter Tryz.func10, Tryz.ntmps10
      go_wp2
      go_ret
      exact ⟨_, rfl, fun h => (by cases h), B1⟩
  · have d1 : decide (30 < (n : Int)) = true := by rw [decide_eq_true_iff]; omega
    go_enter Tryz.func10, Tryz.ntmps10
    go_wp2
    go_ret
    exact ⟨_, rfl, fun h => (by cases h), B1⟩
end Go.Proofs.YtcgkkppidkkjiaaGreatDoor
