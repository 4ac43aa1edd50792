/- The walk of Few. -/
import Derived.Test.YtbcihgimflljoaaGreatDoorStat
namespace Go.Proofs.YtbcihgimflljoaaGreatDoor
open Go.RowKit

/-- a small table -/
def Sm (T : Tab) : Prop := T.n ≤ 30 ∧ T.nv ≤ 50 ∧ T.nr ≤ 30 ∧ (∀ k, k < T.nv → (T.v k).length ≤ 30) ∧ ∀ k, k < T.nr → (T.ri k).length ≤ 30
theorem Sm.bd {T : Tab} (h : Sm T) : Bd T := ⟨by have := h.1; omega, by have := h.2.1; omega, by have := h.2.2.1; omega, fun k hk => by have := h.2.2.2.1 k hk; omega, fun k hk => by have := h.2.2.2.2 k hk; omega⟩

/-- a bool came back; if it is true, S -/
def BoolThat (S : Prop) (w : World) (e : Ending) (w' : World) : Prop := ∃ q, e = .returned (.bool q) ∧ (q = true → S) ∧ Below w.heap.size w w'

set_option maxRecDepth 100000 in
set_option maxHeartbeats 2000000 in
theorem few_any (AH : Option Addr) (cH : Nat) (AV : Option Addr) (cV : Nat) (AR : Option Addr) (cR : Nat) (T : Tab) (w : World) (h : TR w AH AV AR T) (h1 : T.n < 9223372036854775808) (h2 : T.nv < 9223372036854775808) (h3 : T.nr < 9223372036854775808) (h4 : ∀ k, k < T.nv → (T.v k).length < 9223372036854775808) (h5 : ∀ k, k < T.nr → (T.ri k).length < 9223372036854775808) :
    Calls Tryz.prog 4 #[.agg #[.int .i64 T.st, .int .i64 T.sy, .slice AH T.n cH, .slice AV T.nv cV, .slice AR T.nr cR]] w fun e w' => BoolThat (Sm T) w e w' := by
  obtain ⟨-, hV, hR⟩ := h
  have SM := Lib.hid (show T.n ≤ 30 → T.nv ≤ 50 → T.nr ≤ 30 → (∀ k, k < T.nv → (T.v k).length ≤ 30) → (∀ k, k < T.nr → (T.ri k).length ≤ 30) → Sm T from fun a b c d e => ⟨a, b, c, d, e⟩)
  generalize Sm T = SMT at SM ⊢
  obtain ⟨st, k, n, f, nv, v, nr, ri, ro⟩ := T
  simp only at *
  have K1 := Blk.new w 26 #[.int .i64 st, .int .i64 k, .slice AH n cH, .slice AV nv cV, .slice AR nr cR]
  have B1 : Below w.heap.size w (w.alloc (.cells #[.int .i64 st, .int .i64 k, .slice AH n cH, .slice AV nv cV, .slice AR nr cR] 26)) := (Below.refl _ _).alloc (Nat.le_refl _) _
  have HV := Lib.hid hV
  have HR := Lib.hid hR
  have H4 := Lib.hid h4
  have H5 := Lib.hid h5
  clear hV hR h4 h5
  by_cases l1 : n ≤ 30
  · by_cases l2 : nv ≤ 50
    · by_cases l3 : nr ≤ 30
      · have d1 : decide (30 < (n : Int)) = false := by rw [decide_eq_false_iff_not]; omega
        have d2 : decide (50 < (nv : Int)) = false := by rw [decide_eq_false_iff_not]; omega
        have d3 : decide (30 < (nr : Int)) = false := by rw [decide_eq_false_iff_not]; omega
        go_enter Tryz.func4, Tryz.ntmps4
        go_wp2_with fail
        generalize w.alloc (.cells #[.int .i64 st, .int .i64 k, .slice AH n cH, .slice AV nv cV, .slice AR nr cR] 26) = w0 at K1 B1 ⊢
        obtain ⟨a0, a1, a2, a3, a4, a5⟩ := K1.five
        have B2 := Lib.hid B1
        clear K1 B1
        go_wp2
        go_loop [24] (fun iv => ∃ j : Nat, j ≤ nv ∧ iv = .int .i64 (j : Int) ∧ ∀ i, i < j → (v i).length ≤ 30) (fun iv => nv - (intOf iv).toNat)
        case atStart => exact ⟨0, Nat.zero_le _, rfl, fun i hi => absurd hi (by omega)⟩
        case round =>
          obtain ⟨j, hj, rfl, hno⟩ := hrel
          have HN := Lib.hid hno
          clear hno
          by_cases hlt : j < nv
          · obtain ⟨ad, rfl, hb, hc⟩ := HV.out.below B2.out (by omega)
            obtain ⟨A', c', hc, -⟩ := hc j hlt
            have hl := H4.out j hlt
            have HN2 := Lib.hid (show (v j).length ≤ 30 → ∀ i, i < j + 1 → (v i).length ≤ 30 from fun h i hi => by
              by_cases e : i < j
              · exact HN.out i e
              · obtain rfl : i = j := by omega
                exact h)
            generalize (v j).length = m at hc hl HN2
            by_cases hm : m ≤ 30
            · have HN3 := Lib.hid (HN2.out hm)
              go_wp2
              go_round
              case rel => exact ⟨j + 1, by omega, by go_num, HN3.out⟩
              case measure => simp [intOf]; omega
            · go_wp2
              go_ret
              exact ⟨_, rfl, fun h => (by cases h), B2.out⟩
          · obtain rfl : j = nv := by omega
            go_wp2
            go_loop [38] (fun iv => ∃ j : Nat, j ≤ nr ∧ iv = .int .i64 (j : Int) ∧ ∀ i, i < j → (ri i).length ≤ 30) (fun iv => nr - (intOf iv).toNat)
            case atStart => exact ⟨0, Nat.zero_le _, rfl, fun i hi => absurd hi (by omega)⟩
            case round =>
              obtain ⟨i, hi, rfl, hno⟩ := hrel
              have HM := Lib.hid hno
              clear hno
              by_cases hlt2 : i < nr
              · obtain ⟨g1, o1, rfl, hb1, hc⟩ := HR.out.below B2.out (by omega)
                obtain ⟨A', c', hc, -, -⟩ := hc i hlt2
                have hl := H5.out i hlt2
                have HN2 := Lib.hid (show (ri i).length ≤ 30 → ∀ i', i' < i + 1 → (ri i').length ≤ 30 from fun h i' hi' => by
                  by_cases e : i' < i
                  · exact HM.out i' e
                  · obtain rfl : i' = i := by omega
                    exact h)
                generalize (ri i).length = m at hc hl HN2
                by_cases hm : m ≤ 30
                · have HN3 := Lib.hid (HN2.out hm)
                  go_wp2
                  go_round
                  case rel => exact ⟨i + 1, by omega, by go_num, HN3.out⟩
                  case measure => simp [intOf]; omega
                · go_wp2
                  go_ret
                  exact ⟨_, rfl, fun h => (by cases h), B2.out⟩
              · obtain rfl : i = nr := by omega
                go_wp2
                go_ret
                exact ⟨_, rfl, fun _ => SM.out l1 l2 l3 HN.out HM.out, B2.out⟩
      · have d1 : decide (30 < (n : Int)) = false := by rw [decide_eq_false_iff_not]; omega
        have d2 : decide (50 < (nv : Int)) = false := by rw [decide_eq_false_iff_not]; omega
        have d3 : decide (30 < (nr : Int)) = true := by rw [decide_eq_true_iff]; omega
        go_enter Tryz.func4, Tryz.ntmps4
        go_wp2
        go_ret
        exact ⟨_, rfl, fun h => (by cases h), B1⟩
    · have d1 : decide (30 < (n : Int)) = false := by rw [decide_eq_false_iff_not]; omega
      have d2 : decide (50 < (nv : Int)) = true := by rw [decide_eq_true_iff]; omega
      go_enter Tryz.func4, Tryz.ntmps4
      go_wp2
      go_ret
      exact ⟨_, rfl, fun h => (by cases h), B1⟩
  · have d1 : decide (30 < (n : Int)) = true := by rw [decide_eq_true_iff]; omega
    go_enter Tryz.func4, Tryz.ntmps4
    go_wp2
    go_ret
    exact ⟨_, rfl, fun h => (by cases h), B1⟩
end Go.Proofs.YtbcihgimflljoaaGreatDoor
