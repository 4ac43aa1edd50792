/- The walk of the reference's Right for trees. -/
import Derived.Test.YtaicehkphokacaaMad
import Derived.Test.YtaicehkphokacaaMae
import Derived.Test.YtaicehkphokacaaMaa
import Derived.Test.YtaicehkphokacaaMak
import Derived.Test.YtaicehkphokacaaMag
import Derived.Test.YtaicehkphokacaaMab
import Derived.Test.YtaicehkphokacaaMah
import Derived.Below
import Derived.BigQuiet
import Derived.Deep.AppendLies
import Derived.Deep.CutRange
import Derived.Deep.Draws
import Derived.Deep.QuietTactic
import Derived.IntWalk
import Derived.Laws.OwnMore
import Derived.Laws.Rows
import Derived.Lib.Hide
import Derived.LoopN
import Derived.OwnWalk
import Derived.StillTail
import Derived.StillTailTactics
import Derived.Test.YtaicehkphokacaaRows
import Derived.WalkKit
namespace Go.Proofs.Ytaicehkphokacaa
open Go.RowKit
set_option maxRecDepth 100000 in
set_option maxHeartbeats 4000000 in
theorem rr_any (AH : Option Addr) (cH : Nat) (AN : Option Addr) (cN : Nat) (T : Tr) (w : World) (h : TS w AH AN T) (hs : Sm T) :
    Calls Try.prog 18 #[.agg #[.int .i64 T.st, .slice AH T.n cH, .slice AN T.m cN]] w fun e w' => BoolThat (Rt T) w e w' := by
  obtain ⟨hH, hN⟩ := h
  obtain ⟨l1, l2, l3⟩ := hs
  have F9 := Lib.hid (fun (a : 2 ≤ T.st) (b : T.st ≤ 8) (c : Hd T.f T.n) (d : 1 ≤ T.m) (e : T.m ≤ 4096) (f : ∀ i, i < T.m → Nd T.st T.n T.lv i (T.lv i) (T.nx i)) (g : T.lv (T.m - 1) = (T.n : Int)) => (Rt.mk a b c d e f g : Rt T))
  generalize Rt T = RTT at F9 ⊢
  obtain ⟨st, n, f, m, lv, nx⟩ := T
  simp only at *
  have HR := Lib.hid (fun w' (hb : Below w.heap.size w w') => rright_all AH n cH f w' (hH.later hb) (by omega))
  have HN := Lib.hid (fun w' (hb : Below w.heap.size w w') => hN.below hb)
  have L3 := Lib.hid l3
  have K1 := Blk.new w 25 #[.int .i64 st, .slice AH n cH, .slice AN m cN]
  have B1 : Below w.heap.size w (w.alloc (.cells #[.int .i64 st, .slice AH n cH, .slice AN m cN] 25)) := (Below.refl _ _).alloc (Nat.le_refl _) _
  clear hH hN l3
  by_cases s1 : 2 ≤ st
  · by_cases s2 : st ≤ 8
    · have e1 : decide (st < 2) = false := by rw [decide_eq_false_iff_not]; omega
      have e2 : decide (8 < st) = false := by rw [decide_eq_false_iff_not]; omega
      have d2 : decide (4096 < (m : Int)) = false := by rw [decide_eq_false_iff_not]; omega
      go_enter Try.func18, Try.ntmps18
      go_wp2_with fail
      generalize w.alloc (.cells #[.int .i64 st, .slice AH n cH, .slice AN m cN] 25) = w0 at K1 B1 ⊢
      obtain ⟨a0, a1, a2, a3⟩ := K1.three
      have K1 := Lib.hid K1
      have B1 := Lib.hid B1
      go_wp2_with fail
      go_at_call 39
      refine (HR.out _ B1.out).mono ?_
      rintro e w1 ⟨q, rfl, hq, hb⟩
      have HQ := Lib.hid hq
      have B2 := Lib.hid (B1.out.trans (hb.mono B1.out.size))
      have K2 := Lib.hid (K1.out.below hb K1.out.lt)
      clear a0 a1 a2 a3 hq hb
      obtain ⟨a0, a1, a2, a3⟩ := K2.out.three
      cases q with
      | false =>
        go_wp2
        go_ret
        exact ⟨_, rfl, fun h => (by cases h), B2.out⟩
      | true =>
        by_cases m1 : 1 ≤ m
        · have d1 : decide ((m : Int) < 1) = false := by rw [decide_eq_false_iff_not]; omega
          obtain ⟨S, rfl⟩ : ∃ S : Nat, st = (S : Int) := ⟨st.toNat, by omega⟩
          have HG := Lib.hid (fun nd top => F9.out s1 s2 (HQ.out rfl) m1 (by omega) nd top)
          go_wp2
          go_loopw [4] (fun iv wr => ∃ j : Nat, j ≤ m ∧ iv = .int .i64 (j : Int) ∧ (∀ i, i < j → Nd (S : Int) n lv i (lv i) (nx i)) ∧ Below w1.heap.size w1 wr) (fun iv _ => m - (intOf iv).toNat)
          case atStart => exact ⟨0, Nat.zero_le _, rfl, fun i hi => absurd hi (by omega), Below.refl _ _⟩
          case round =>
            obtain ⟨j, hj, rfl, hno, hbel⟩ := hrel
            have HJ := Lib.hid hno
            have B4 := Lib.hid (B2.out.trans (hbel.mono B2.out.size))
            have K4 := Lib.hid (K2.out.below hbel K2.out.lt)
            have BX := Lib.hid hbel
            clear hno a0 a1 a2 a3 hbel
            obtain ⟨a0, a1, a2, a3⟩ := K4.out.three
            obtain ⟨wo, rfl⟩ : ∃ wo, wo = wr := ⟨_, rfl⟩
            by_cases hlt : j < m
            · obtain ⟨g1, o1, rfl, hb1, hc⟩ := HN.out _ B4.out (by omega)
              obtain ⟨A', c', h1, h2, hr⟩ := hc j hlt
              have HC := Lib.hid (fun k (hk : k < m) => (hc k hk))
              have hq := L3.out j hlt
              have HE := Lib.hid (show Nd (S : Int) n lv j (lv j) (nx j) → ∀ i, i < j + 1 → Nd (S : Int) n lv i (lv i) (nx i) from fun h i hi => by
                by_cases e : i < j
                · exact HJ.out i e
                · obtain rfl : i = j := by omega
                  exact h)
              have HND := Lib.hid (show 1 ≤ lv j → lv j ≤ (n : Int) → ((nx j).length : Int) = (S : Int) → (∀ s, s < (nx j).length → El (S : Int) lv j (lv j) (ig (nx j) s)) → Nd (S : Int) n lv j (lv j) (nx j) from fun a b c d => ⟨a, b, c, d⟩)
              have HLN := Lib.hid (show ∃ q, q = (nx j).length from ⟨_, rfl⟩)
              generalize Nd (S : Int) n lv j (lv j) (nx j) = NDJ at HE HND
              generalize nx j = X at h2 hr hq HND
              generalize hlj : lv j = l at h1 HND
              have HLJ := Lib.hid hlj
              clear hlj hc HLN
              have h1' := (Below.alloc (Below.refl wo.heap.size wo) (Nat.le_refl _) (.cells #[.int .i64 l, .slice A' X.length c'] 70))
              have K7 := Lib.hid (Blk.new wo 70 #[.int .i64 l, .slice A' X.length c'])
              have B7 := Lib.hid (B4.out.trans (h1'.mono B4.out.size))
              have BY := Lib.hid h1'
              have RX := Lib.hid (show Reads (wo.alloc (.cells #[.int .i64 l, .slice A' X.length c'] 70)) w.heap.size A' X.length (il X) from (hr.below (h1'.mono B4.out.size)))
              have K5 := Lib.hid (K4.out.below h1' K4.out.lt)
              have hg1 : g1 < wo.heap.size := Nat.lt_of_lt_of_le hb1 B4.out.size
              clear hr h1'
              by_cases b1 : 1 ≤ l
              · by_cases b2 : l ≤ (n : Int)
                · have f1 : decide (l < 1) = false := by rw [decide_eq_false_iff_not]; omega
                  have f2 : decide ((n : Int) < l) = false := by rw [decide_eq_false_iff_not]; omega
                  by_cases b3 : X.length = S
                  · have f3 : ((S : Int) != (S : Int)) = false := by rw [bne_eq_false_iff_eq]
                    rw [b3] at h2 hq K7 B7 BY RX K5
                    have HXL := Lib.hid b3
                    clear b3
                    go_upto_region 8 with (fail)
                    generalize wo.alloc (.cells #[.int .i64 l, .slice A' S c'] 70) = w7 at K7 B7 BY RX K5 ⊢
                    clear a0 a1 a2 a3 h1 h2
                    obtain ⟨a0, a1, a2, a3⟩ := K5.out.three
                    obtain ⟨k0, k1, k2, k3, k4⟩ := K7.out.two
                    go_wp2
                    go_loopw [6] (fun iv wr => ∃ s : Nat, s ≤ S ∧ iv = .int .i64 (s : Int) ∧ (∀ i, i < s → El (S : Int) lv j l (ig X i)) ∧ Below w7.heap.size w7 wr) (fun iv _ => S - (intOf iv).toNat)
                    case atStart => exact ⟨0, Nat.zero_le _, rfl, fun i hi => absurd hi (by omega), Below.refl _ _⟩
                    case round =>
                      obtain ⟨s, hs, rfl, hno, hbel⟩ := hrel
                      have HSJ := Lib.hid hno
                      have K8 := Lib.hid (K7.out.below hbel K7.out.lt)
                      have K9 := Lib.hid (K5.out.below hbel K5.out.lt)
                      have B8 := Lib.hid (B7.out.trans (hbel.mono B7.out.size))
                      have BZ := Lib.hid hbel
                      clear hno a0 a1 a2 a3 k0 k1 k2 k3 k4 hbel
                      obtain ⟨a0, a1, a2, a3⟩ := K9.out.three
                      obtain ⟨k0, k1, k2, k3, k4⟩ := K8.out.two
                      by_cases hsl : s < S
                      · obtain ⟨ad, rfl, hb, hx⟩ := il_at (RX.out.below (BZ.out.mono B7.out.size)) hsl
                        have HEX := Lib.hid (show El (S : Int) lv j l (ig X s) → ∀ i, i < s + 1 → El (S : Int) lv j l (ig X i) from fun h i hi => by
                          by_cases e : i < s
                          · exact HSJ.out i e
                          · obtain rfl : i = s := by omega
                            exact h)
                        generalize ig X s = k at hx HEX
                        by_cases p0 : 0 ≤ k
                        · have g0 : decide (k < 0) = false := by rw [decide_eq_false_iff_not]; omega
                          by_cases p1 : l = 1
                          · subst p1
                            have q1 : decide ((1 : Int) < 1) = false := by decide
                            by_cases p2 : k < (S : Int)
                            · have q2 : decide ((S : Int) ≤ k) = false := by rw [decide_eq_false_iff_not]; omega
                              have HEY := Lib.hid (HEX.out ⟨p0, fun _ => p2, fun h => absurd h (by omega)⟩)
                              go_wp2_with fail
                              go_quiet (fail)
                              go_wp2
                              go_roundw
                              case rel => exact ⟨s + 1, by omega, by go_num, HEY.out, below_drewN BZ.out _⟩
                              case measure => simp [intOf]; omega
                            · have q2 : decide ((S : Int) ≤ k) = true := by rw [decide_eq_true_iff]; omega
                              go_wp2
                              go_ret
                              exact ⟨_, rfl, fun h => (by cases h), B8.out⟩
                          · have q0 : (l == 1) = false := by rw [beq_eq_false_iff_ne]; exact p1
                            have q1 : decide (1 < l) = true := by rw [decide_eq_true_iff]; omega
                            by_cases p2 : k < (j : Int)
                            · have q2 : decide ((j : Int) ≤ k) = false := by rw [decide_eq_false_iff_not]; omega
                              obtain ⟨kn, rfl⟩ : ∃ kn : Nat, k = (kn : Int) := ⟨k.toNat, by omega⟩
                              have hkm : kn < m := by omega
                              have q2n : decide (j ≤ kn) = false := by rw [decide_eq_false_iff_not]; omega
                              obtain ⟨A2, c2, y1, -, -⟩ := HC.out kn hkm
                              have y2 := (BZ.out.cell (p := ⟨g1, o1 + kn * 2, none⟩) (Nat.lt_of_lt_of_le hg1 BY.out.size)).trans ((BY.out.cell (p := ⟨g1, o1 + kn * 2, none⟩) hg1).trans y1)
                              clear y1
                              have HEY := Lib.hid (fun (h : lv kn = l - 1) => HEX.out ⟨p0, fun h => absurd h p1, fun _ => ⟨p2, by rw [Int.toNat_natCast]; exact h⟩⟩)
                              generalize lv kn = l' at y2 HEY
                              have hw : IntKind.i64.wrap (l - 1) = l - 1 := IntWalk.i64_in _ (by omega)
                              by_cases p3 : l' = l - 1
                              · have q3 : (l' != l - 1) = false := by rw [bne_eq_false_iff_eq]; exact p3
                                have HEZ := Lib.hid (HEY.out p3)
                                clear p3
                                go_wp2_with fail
                                go_quiet (fail)
                                go_wp2
                                go_roundw
                                case rel => exact ⟨s + 1, by omega, by go_num, HEZ.out, below_drewN BZ.out _⟩
                                case measure => simp [intOf]; omega
                              · have q3 : (l' != l - 1) = true := by rw [bne_iff_ne]; exact p3
                                clear p3
                                go_wp2_with fail
                                go_quiet (fail)
                                go_wp2
                                go_ret
                                exact ⟨_, rfl, fun h => (by cases h), below_drewN B8.out _⟩
                            · have q2 : decide ((j : Int) ≤ k) = true := by rw [decide_eq_true_iff]; omega
                              go_wp2_with fail
                              go_quiet (fail)
                              go_wp2
                              go_ret
                              exact ⟨_, rfl, fun h => (by cases h), below_drewN B8.out _⟩
                        · have g0 : decide (k < 0) = true := by rw [decide_eq_true_iff]; omega
                          go_wp2
                          go_ret
                          exact ⟨_, rfl, fun h => (by cases h), B8.out⟩
                      · obtain rfl : s = S := by omega
                        have HEY := Lib.hid (HE.out (HND.out b1 b2 (by rw [HXL.out]) (by rw [HXL.out]; exact HSJ.out)))
                        go_wp2
                        go_roundw
                        case rel => exact ⟨j + 1, by omega, by go_num, HEY.out, BX.out.trans ((BY.out.trans (BZ.out.mono BY.out.size)).mono BX.out.size)⟩
                        case measure => simp [intOf]; omega
                  · have f3 : ((X.length : Int) != (S : Int)) = true := by rw [bne_iff_ne]; omega
                    go_wp2
                    go_ret
                    exact ⟨_, rfl, fun h => (by cases h), B7.out⟩
                · have f1 : decide (l < 1) = false := by rw [decide_eq_false_iff_not]; omega
                  have f2 : decide ((n : Int) < l) = true := by rw [decide_eq_true_iff]; omega
                  go_wp2
                  go_ret
                  exact ⟨_, rfl, fun h => (by cases h), B7.out⟩
              · have f1 : decide (l < 1) = true := by rw [decide_eq_true_iff]; omega
                go_wp2
                go_ret
                exact ⟨_, rfl, fun h => (by cases h), B7.out⟩
            · obtain rfl : j = m := by omega
              obtain ⟨i, hi⟩ : ∃ i, j = i + 1 := ⟨j - 1, by omega⟩
              obtain ⟨g1, o1, rfl, hb1, hc⟩ := HN.out _ B4.out (by omega)
              obtain ⟨A', c', h1, -, -⟩ := hc i (by omega)
              have hw1 : IntKind.i64.wrap ((j : Int) - 1) = (i : Int) := by rw [show (j : Int) - 1 = (i : Int) by omega]; exact IntWalk.i64_in _ (by omega)
              have HGG := Lib.hid (fun top => HG.out HJ.out top)
              rw [show j - 1 = i by omega] at HGG
              have hij : i < j := by omega
              generalize lv i = l at h1 HGG
              clear hc hlt hi
              by_cases hl : l = (n : Int)
              · have q : (l == (n : Int)) = true := by rw [beq_iff_eq]; exact hl
                have HGH := Lib.hid (HGG.out hl)
                clear hl
                go_wp2_with fail
                go_quiet (fail)
                go_wp2
                go_ret
                exact ⟨_, rfl, fun _ => HGH.out, below_drewN B4.out _⟩
              · have q : (l == (n : Int)) = false := by rw [beq_eq_false_iff_ne]; exact hl
                clear hl
                go_wp2_with fail
                go_quiet (fail)
                go_wp2
                go_ret
                exact ⟨_, rfl, fun h => (by cases h), below_drewN B4.out _⟩
        · have d1 : decide ((m : Int) < 1) = true := by rw [decide_eq_true_iff]; omega
          go_wp2
          go_ret
          exact ⟨_, rfl, fun h => (by cases h), B2.out⟩
    · have e1 : decide (st < 2) = false := by rw [decide_eq_false_iff_not]; omega
      have e2 : decide (8 < st) = true := by rw [decide_eq_true_iff]; omega
      go_enter Try.func18, Try.ntmps18
      go_wp2
      go_ret
      exact ⟨_, rfl, fun h => (by cases h), B1⟩
  · have e1 : decide (st < 2) = true := by rw [decide_eq_true_iff]; omega
    go_enter Try.func18, Try.ntmps18
    go_wp2
    go_ret
    exact ⟨_, rfl, fun h => (by cases h), B1⟩
end Go.Proofs.Ytaicehkphokacaa
