/- The walk of SameBools at equal lists. -/
import Derived.Test.YtfoheeijdaknnaaUl
namespace Go.Proofs.Ytfoheeijdaknnaa
open Go.RowKit

set_option maxRecDepth 100000 in
set_option maxHeartbeats 1000000 in
theorem sbools_yes (A A' : Option Addr) (n c c' : Nat) (l : List Bool) (w : World) (h : Reads w w.heap.size A n (bl l)) (h' : Reads w w.heap.size A' n (bl l)) (hn : n ≤ 1000000) :
    Calls Try.prog 11 #[.slice A n c, .slice A' n c'] w fun e w' => e = .returned (.bool true) ∧ Below w.heap.size w w' := by
  have H := Lib.hid h
  have H' := Lib.hid h'
  clear h h'
  go_enter Try.func11, Try.ntmps11
  go_wp2
  go_loopw [5] (fun iv wr => ∃ j : Nat, j ≤ n ∧ iv = .int .i64 (j : Int) ∧ Below w.heap.size w wr) (fun iv _ => n - (intOf iv).toNat)
  case atStart => exact ⟨0, Nat.zero_le _, rfl, Below.refl _ _⟩
  case round =>
    obtain ⟨j, hj, rfl, hbel⟩ := hrel
    have HB := Lib.hid hbel
    by_cases hk : j < n
    · obtain ⟨a1, rfl, hb1, hc1⟩ := bl_at (H.out.below hbel) hk
      obtain ⟨a2, rfl, hb2, hc2⟩ := bl_at (H'.out.below hbel) hk
      clear hbel
      generalize bg l j = x at hc1 hc2
      have hx : (x != x) = false := by cases x <;> rfl
      go_wp2_with fail
      go_quiet (fail)
      go_wp2
      go_roundw
      case rel => exact ⟨j + 1, by omega, by go_num, below_drewN HB.out _⟩
      case measure => simp [intOf]; omega
    · obtain rfl : j = n := by omega
      clear hbel
      go_wp2
      go_ret
      exact ⟨rfl, HB.out⟩
end Go.Proofs.Ytfoheeijdaknnaa
