/- The walk of the reference's Same at equal big integers. -/
import Derived.Test.YtckkbeknjipddaaDoorSmall
import Derived.Deep.QuietTactic
import Derived.BigQuiet
namespace Go.Proofs.YtckkbeknjipddaaDoor
open Go.RowKit

theorem below_drewN' {B : Nat} {a w : World} (h : Below B a w) (n : Nat) : Below B a (w.drewN n) := ⟨h.os, h.tape, h.output, h.size, h.block⟩

set_option maxRecDepth 100000 in
set_option maxHeartbeats 1000000 in
theorem same_yes (neg : Bool) (A1 A2 : Option Addr) (n c1 c2 B : Nat) (xs : List Nat) (w : World) (h1 : Reads w B A1 n (u32s xs)) (h2 : Reads w B A2 n (u32s xs)) (hB : B ≤ w.heap.size) (hn : n ≤ maxLen) :
    Calls Tryd.prog 9 #[.agg #[.bool neg, .slice A1 n c1], .agg #[.bool neg, .slice A2 n c2]] w fun e w' => e = .returned (.bool true) ∧ Below w.heap.size w w' := by
  unfold maxLen at hn
  have hbt : Below w.heap.size w ((w.alloc (.cells #[.bool neg, .slice A1 n c1] 24)).alloc (.cells #[.bool neg, .slice A2 n c2] 24)) := ((Below.refl _ _).alloc (Nat.le_refl _) _).alloc (by simp) _
  have g1 := Lib.hid (h1.below (hbt.mono hB))
  have g2 := Lib.hid (h2.below (hbt.mono hB))
  have HBT := Lib.hid hbt
  have x1 := Lib.hid ((Blk.new w 24 #[.bool neg, .slice A1 n c1]).alloc (.cells #[.bool neg, .slice A2 n c2] 24))
  have x2 := Lib.hid (Blk.new (w.alloc (.cells #[.bool neg, .slice A1 n c1] 24)) 24 #[.bool neg, .slice A2 n c2])
  clear h1 h2 hbt
  cases neg
  · go_enter Tryd.func9, Tryd.ntmps9
    go_wp2
    go_loopw [5] (fun iv wr => ∃ i k : Nat, i ≤ n ∧ iv = .int .i64 i ∧ wr = ((w.alloc (.cells #[.bool false, .slice A1 n c1] 24)).alloc (.cells #[.bool false, .slice A2 n c2] 24)).drewN k) (fun iv _ => n - (intOf iv).toNat)
    case atStart => exact ⟨0, 0, Nat.zero_le _, rfl, rfl⟩
    case round =>
      obtain ⟨i, k, hi, rfl, rfl⟩ := hrel
      by_cases hlt : i < n
      · obtain ⟨a1, rfl, _, e1⟩ := u32s_at g1.out hlt
        obtain ⟨a2, rfl, _, e2⟩ := u32s_at g2.out hlt
        have hi0 : (0 : Int) ≤ (i : Int) := Int.natCast_nonneg _
        have hi1 : (i : Int) < (n : Int) := by omega
        go_wp2
        go_quiet (fail)
        go_wp2
        go_roundw
        case rel => exact ⟨i + 1, _, by omega, by go_num, rfl⟩
        case measure => simp [intOf]; omega
      · go_wp2
        go_ret
        exact ⟨rfl, below_drewN' HBT.out k⟩
  · go_enter Tryd.func9, Tryd.ntmps9
    go_wp2
    go_loopw [5] (fun iv wr => ∃ i k : Nat, i ≤ n ∧ iv = .int .i64 i ∧ wr = ((w.alloc (.cells #[.bool true, .slice A1 n c1] 24)).alloc (.cells #[.bool true, .slice A2 n c2] 24)).drewN k) (fun iv _ => n - (intOf iv).toNat)
    case atStart => exact ⟨0, 0, Nat.zero_le _, rfl, rfl⟩
    case round =>
      obtain ⟨i, k, hi, rfl, rfl⟩ := hrel
      by_cases hlt : i < n
      · obtain ⟨a1, rfl, _, e1⟩ := u32s_at g1.out hlt
        obtain ⟨a2, rfl, _, e2⟩ := u32s_at g2.out hlt
        have hi0 : (0 : Int) ≤ (i : Int) := Int.natCast_nonneg _
        have hi1 : (i : Int) < (n : Int) := by omega
        go_wp2
        go_quiet (fail)
        go_wp2
        go_roundw
        case rel => exact ⟨i + 1, _, by omega, by go_num, rfl⟩
        case measure => simp [intOf]; omega
      · go_wp2
        go_ret
        exact ⟨rfl, below_drewN' HBT.out k⟩

end Go.Proofs.YtckkbeknjipddaaDoor
