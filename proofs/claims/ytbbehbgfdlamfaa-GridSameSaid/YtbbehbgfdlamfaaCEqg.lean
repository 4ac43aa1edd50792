/- The walks of slices.Equal at any two lists of gates and of numbers. -/
import Derived.Test.YtbbehbgfdlamfaaCPCell
import Derived.Test.YtbbehbgfdlamfaaTCell
import Derived.Test.YtbbehbgfdlamfaaTInts
import Derived.Test.YtbbehbgfdlamfaaTMem
import Derived.Test.YtbbehbgfdlamfaaTSmall
import Derived.Below
import Derived.BigQuiet
import Derived.Deep.AppendLies
import Derived.Deep.CutRange
import Derived.Deep.Draws
import Derived.Deep.OwnRows
import Derived.Deep.QuietTactic
import Derived.IntWalk
import Derived.Laws.CopyOwn
import Derived.Laws.OwnMore
import Derived.Laws.Rows
import Derived.Lib.Hide
import Derived.Lib.SliceRun
import Derived.LoopN
import Derived.OwnWalk
import Derived.StillTail
import Derived.StillTailTactics
import Derived.Test.YtbbehbgfdlamfaaRows
import Derived.WalkKit
namespace Go.Proofs.Ytbbehbgfdlamfaa
open Go.RowKit
/-- whether two lists have the same gates in the same order -/
def sm (f : Nat → C3) (n : Nat) (g : Nat → C3) (m : Nat) : Bool := decide (n = m) && (List.range n).all fun i => decide (f i = g i)
theorem sm_iff (f : Nat → C3) (n : Nat) (g : Nat → C3) (m : Nat) : sm f n g m = true ↔ (n = m ∧ ∀ i, i < n → f i = g i) := by
  simp [sm, Bool.and_eq_true, List.all_eq_true]
theorem same_ig {l x : List Int} (h : l.length = x.length) (hi : ∀ i, i < l.length → ig l i = ig x i) : l = x := by
  apply List.ext_getElem h
  intro i h1 h2
  have := hi i h1
  simpa [ig, List.getD, List.getElem?_eq_getElem h1, List.getElem?_eq_getElem h2] using this
set_option maxRecDepth 100000 in
set_option maxHeartbeats 1000000 in
theorem iequal_any (A A' : Option Addr) (n m c c' : Nat) (l x : List Int) (w : World) (h : Reads w w.heap.size A n (il l)) (h' : Reads w w.heap.size A' m (il x)) (hn : n ≤ 1000000) (hm : m ≤ 1000000) :
    Calls Try.prog 15 #[.slice A n c, .slice A' m c'] w fun e w' => e = .returned (.bool (decide (l = x))) ∧ Below w.heap.size w w' := by
  have L1 := reads_len h
  have L2 := reads_len h'
  by_cases hnm : n = m
  · subst hnm
    have SI := Lib.hid (same_ig (l := l) (x := x) (L1.trans L2.symm))
    have H := Lib.hid h
    have H' := Lib.hid h'
    have L1 := Lib.hid L1
    clear h h' L2
    go_enter Try.func15, Try.ntmps15
    go_wp2
    go_loopw [13] (fun iv wr => ∃ j : Nat, j ≤ n ∧ iv = .int .i64 (j : Int) ∧ (∀ i, i < j → ig l i = ig x i) ∧ Below w.heap.size w wr) (fun iv _ => n - (intOf iv).toNat)
    case atStart => exact ⟨0, Nat.zero_le _, rfl, fun i hi => absurd hi (by omega), Below.refl _ _⟩
    case round =>
      obtain ⟨j, hj, rfl, hE, hbel⟩ := hrel
      have R := H.out.below hbel
      have R' := H'.out.below hbel
      have HB := Lib.hid hbel
      have HE := Lib.hid hE
      clear hbel hE
      by_cases hk : j < n
      · obtain ⟨a1, rfl, hb1, hc1⟩ := il_at R hk
        obtain ⟨a2, rfl, hb2, hc2⟩ := il_at R' hk
        clear R R'
        by_cases heq : ig l j = ig x j
        · have HQ := Lib.hid heq
          rw [← heq] at hc2
          clear heq
          generalize ig l j = y at hc1 hc2
          go_wp2_with fail
          go_quiet (fail)
          go_wp2
          go_roundw
          case rel => exact ⟨j + 1, by omega, by go_num, fun i hi => by
            by_cases e : i < j
            · exact HE.out i e
            · obtain rfl : i = j := by omega
              exact HQ.out, below_drewN HB.out _⟩
          case measure => simp [intOf]; omega
        · have HF := Lib.hid (show decide (l = x) = false from decide_eq_false (fun e => heq (by rw [e])))
          generalize ig l j = y at hc1 heq
          generalize ig x j = z at hc2 heq
          have e1 : (y == z) = false := by rw [beq_eq_false_iff_ne]; exact heq
          clear heq
          go_wp2_with fail
          go_quiet (fail)
          go_wp2
          go_ret
          exact ⟨ret_bool HF.out.symm, below_drewN HB.out _⟩
      · obtain rfl : j = n := by omega
        have HF := Lib.hid (show decide (l = x) = true from decide_eq_true (SI.out (fun i hi => HE.out i (by rw [← L1.out]; exact hi))))
        clear hk R R'
        go_wp2
        go_ret
        exact ⟨ret_bool HF.out.symm, HB.out⟩
  · have HF := Lib.hid (show decide (l = x) = false from decide_eq_false (fun e => hnm (by rw [← L1, ← L2, e])))
    have e1 : ((n : Int) != (m : Int)) = true := by rw [bne_iff_ne]; omega
    clear h h' L1 L2
    go_enter Try.func15, Try.ntmps15
    go_wp2
    go_ret
    exact ⟨ret_bool HF.out.symm, Below.refl _ _⟩
end Go.Proofs.Ytbbehbgfdlamfaa
