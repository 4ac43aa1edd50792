/- The walk of the reference's Same on two equal lists. -/
import Derived.Test.YtpcpelfjhpdndaaJoin
import Derived.Deep.Draws
namespace Go.Proofs.Ytpcpelfjhpdndaa
open Go.RowKit

theorem below_drewN {B : Nat} {a w : World} (h : Below B a w) (n : Nat) : Below B a (w.drewN n) := ⟨h.os, h.tape, h.output, h.size, h.block⟩
set_option maxHeartbeats 1000000 in
theorem same_yes (g1 g2 c1 c2 n : Nat) (f : Nat → Int × Int) (w : World) (h1 : PReads w w.heap.size g1 n f) (h2 : PReads w w.heap.size g2 n f) (hn : n ≤ 1000) :
    Calls Try.prog 12 #[.slice (some ⟨g1, 0, none⟩) n c1, .slice (some ⟨g2, 0, none⟩) n c2] w fun e w' => e = .returned (.bool true) ∧ Below w.heap.size w w' := by
  have H1 := Lib.hid h1
  have H2 := Lib.hid h2
  clear h1 h2
  go_enter Try.func12, Try.ntmps12
  go_wp2
  go_loopw [5] (fun iv wr => ∃ i k : Nat, i ≤ n ∧ iv = .int .i64 (i : Int) ∧ wr = w.drewN k) (fun iv _ => n - (intOf iv).toNat)
  case atStart => exact ⟨0, 0, Nat.zero_le _, rfl, rfl⟩
  case round =>
    obtain ⟨i, k, hi, rfl, rfl⟩ := hrel
    by_cases hlt : i < n
    · obtain ⟨a0, a1⟩ := H1.out.2 i hlt
      obtain ⟨b0, b1⟩ := H2.out.2 i hlt
      obtain ⟨x, hx⟩ : ∃ x, x = (f i).1 := ⟨_, rfl⟩
      obtain ⟨y, hy⟩ : ∃ y, y = (f i).2 := ⟨_, rfl⟩
      rw [← hx] at a0 b0
      rw [← hy] at a1 b1
      clear hx hy
      go_wp2_with fail
      go_quiet (fail)
      go_wp2
      go_roundw
      case rel => exact ⟨i + 1, _, by omega, by go_num, rfl⟩
      case measure => simp [intOf]; omega
    · obtain rfl : i = n := by omega
      go_wp2
      go_ret
      exact ⟨rfl, below_drewN (Below.refl _ _) k⟩
end Go.Proofs.Ytpcpelfjhpdndaa
