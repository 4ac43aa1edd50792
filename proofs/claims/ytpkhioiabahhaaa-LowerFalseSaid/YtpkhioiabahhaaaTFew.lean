/- The walk of Few. -/
import Derived.Test.YtpkhioiabahhaaaTCell
import Derived.Test.YtpkhioiabahhaaaTMem
import Derived.Test.YtpkhioiabahhaaaTTree
import Derived.Below
import Derived.BigQuiet
import Derived.Deep.AppendLies
import Derived.Deep.CutRange
import Derived.Deep.Draws
import Derived.Deep.QuietTactic
import Derived.IntWalk
import Derived.Laws.OwnMore
import Derived.Laws.Rows
import Derived.Lib.Hide
import Derived.LoopN
import Derived.OwnWalk
import Derived.StillTail
import Derived.StillTailTactics
import Derived.Test.YtpkhioiabahhaaaRows
import Derived.WalkKit
namespace Go.Proofs.Ytpkhioiabahhaaa
open Go.RowKit
set_option maxRecDepth 100000 in
set_option maxHeartbeats 2000000 in
theorem few_any (AH : Option Addr) (cH : Nat) (AN : Option Addr) (cN : Nat) (T : Tr) (w : World) (h : TS w AH AN T) (h1 : T.n < 9223372036854775808) (h2 : T.m < 9223372036854775808) (h4 : ∀ k, k < T.m → (T.nx k).length < 9223372036854775808) :
    Calls Try.prog 13 #[.agg #[.int .i64 T.st, .slice AH T.n cH, .slice AN T.m cN]] w fun e w' => BoolThat (Sm T) w e w' := by
  obtain ⟨-, hV⟩ := h
  have SM := Lib.hid (show T.n ≤ 40 → T.m ≤ 400 → (∀ k, k < T.m → (T.nx k).length ≤ 20) → Sm T from fun a b c => ⟨a, b, c⟩)
  generalize Sm T = SMT at SM ⊢
  obtain ⟨st, n, f, m, lv, nx⟩ := T
  simp only at *
  have K1 := Blk.new w 25 #[.int .i64 st, .slice AH n cH, .slice AN m cN]
  have B1 : Below w.heap.size w (w.alloc (.cells #[.int .i64 st, .slice AH n cH, .slice AN m cN] 25)) := (Below.refl _ _).alloc (Nat.le_refl _) _
  have HV := Lib.hid hV
  have H4 := Lib.hid h4
  clear hV h4
  by_cases l1 : n ≤ 40
  · by_cases l2 : m ≤ 400
    · have d1 : decide (40 < (n : Int)) = false := by rw [decide_eq_false_iff_not]; omega
      have d2 : decide (400 < (m : Int)) = false := by rw [decide_eq_false_iff_not]; omega
      go_enter Try.func13, Try.ntmps13
      go_wp2_with fail
      generalize w.alloc (.cells #[.int .i64 st, .slice AH n cH, .slice AN m cN] 25) = w0 at K1 B1 ⊢
      obtain ⟨a0, a1, a2, a3⟩ := K1.three
      have B2 := Lib.hid B1
      clear K1 B1
      go_wp2
      go_loop [17] (fun iv => ∃ j : Nat, j ≤ m ∧ iv = .int .i64 (j : Int) ∧ ∀ i, i < j → (nx i).length ≤ 20) (fun iv => m - (intOf iv).toNat)
      case atStart => exact ⟨0, Nat.zero_le _, rfl, fun i hi => absurd hi (by omega)⟩
      case round =>
        obtain ⟨j, hj, rfl, hno⟩ := hrel
        have HN := Lib.hid hno
        clear hno
        by_cases hlt : j < m
        · obtain ⟨g1, o1, rfl, hb, hc⟩ := HV.out.below B2.out (by omega)
          obtain ⟨A', c', -, hc, -⟩ := hc j hlt
          have hl := H4.out j hlt
          have HN2 := Lib.hid (show (nx j).length ≤ 20 → ∀ i, i < j + 1 → (nx i).length ≤ 20 from fun h i hi => by
            by_cases e : i < j
            · exact HN.out i e
            · obtain rfl : i = j := by omega
              exact h)
          generalize (nx j).length = q at hc hl HN2
          by_cases hm : q ≤ 20
          · have HN3 := Lib.hid (HN2.out hm)
            go_wp2
            go_round
            case rel => exact ⟨j + 1, by omega, by go_num, HN3.out⟩
            case measure => simp [intOf]; omega
          · go_wp2
            go_ret
            exact ⟨_, rfl, fun h => (by cases h), B2.out⟩
        · obtain rfl : j = m := by omega
          go_wp2
          go_ret
          exact ⟨_, rfl, fun _ => SM.out l1 l2 HN.out, B2.out⟩
    · have d1 : decide (40 < (n : Int)) = false := by rw [decide_eq_false_iff_not]; omega
      have d2 : decide (400 < (m : Int)) = true := by rw [decide_eq_true_iff]; omega
      go_enter Try.func13, Try.ntmps13
      go_wp2
      go_ret
      exact ⟨_, rfl, fun h => (by cases h), B1⟩
  · have d1 : decide (40 < (n : Int)) = true := by rw [decide_eq_true_iff]; omega
    go_enter Try.func13, Try.ntmps13
    go_wp2
    go_ret
    exact ⟨_, rfl, fun h => (by cases h), B1⟩
end Go.Proofs.Ytpkhioiabahhaaa
