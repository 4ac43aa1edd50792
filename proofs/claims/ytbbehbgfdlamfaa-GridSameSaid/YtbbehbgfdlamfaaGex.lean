/- The calls of the examples. -/
import Derived.Test.YtbbehbgfdlamfaaGno
import Derived.Test.YtbbehbgfdlamfaaGrl
import Derived.Test.YtbbehbgfdlamfaaGst
import Derived.Test.YtbbehbgfdlamfaaGpt
import Derived.Test.YtbbehbgfdlamfaaGsm
namespace Go.Proofs.Ytbbehbgfdlamfaa
open Go.RowKit

theorem three_read {w : World} {g : Nat} {t : TypeId} {a b c : Int} (h : Blk w g t #[.int .i64 a, .int .i64 b, .int .i64 c]) : Reads w w.heap.size (some ⟨g, 0, none⟩) 3 (il [a, b, c]) := Reads.of_blk (xs := il [a, b, c]) h
theorem get_d1 (ga : Nat) (w : World) (h : Blk w ga 3 #[.int .i64 1, .int .i64 2, .int .i64 0]) : Calls Try.prog 12 #[.agg #[.int .i64 3, .int .i64 1, .int .i64 0, .slice (some ⟨ga, 0, none⟩) 3 3], .int .i64 (-1), .int .i64 0] w fun e w' => e = .returned (.int .i64 0) ∧ Below w.heap.size w w' := by
  have := gget_any (some ⟨ga, 0, none⟩) 3 1 0 3 3 [1, 2, 0] w (-1) 0 (three_read h) (by decide +kernel)
  rwa [show gst 3 1 0 [1, 2, 0] (-1) 0 = 0 by decide +kernel] at this
theorem get_f1 (ga : Nat) (w : World) (h : Blk w ga 3 #[.int .i64 1, .int .i64 2, .int .i64 0]) : Calls Try.prog 12 #[.agg #[.int .i64 3, .int .i64 1, .int .i64 2, .slice (some ⟨ga, 0, none⟩) 3 3], .int .i64 (-1), .int .i64 0] w fun e w' => e = .returned (.int .i64 1) ∧ Below w.heap.size w w' := by
  have := gget_any (some ⟨ga, 0, none⟩) 3 1 2 3 3 [1, 2, 0] w (-1) 0 (three_read h) (by decide +kernel)
  rwa [show gst 3 1 2 [1, 2, 0] (-1) 0 = 1 by decide +kernel] at this
theorem get_d4 (ga : Nat) (w : World) (h : Blk w ga 3 #[.int .i64 1, .int .i64 2, .int .i64 0]) : Calls Try.prog 12 #[.agg #[.int .i64 3, .int .i64 1, .int .i64 0, .slice (some ⟨ga, 0, none⟩) 3 3], .int .i64 4, .int .i64 0] w fun e w' => e = .returned (.int .i64 0) ∧ Below w.heap.size w w' := by
  have := gget_any (some ⟨ga, 0, none⟩) 3 1 0 3 3 [1, 2, 0] w 4 0 (three_read h) (by decide +kernel)
  rwa [show gst 3 1 0 [1, 2, 0] 4 0 = 0 by decide +kernel] at this
theorem get_t4 (ga : Nat) (w : World) (h : Blk w ga 3 #[.int .i64 1, .int .i64 2, .int .i64 0]) : Calls Try.prog 12 #[.agg #[.int .i64 3, .int .i64 1, .int .i64 1, .slice (some ⟨ga, 0, none⟩) 3 3], .int .i64 4, .int .i64 0] w fun e w' => e = .returned (.int .i64 2) ∧ Below w.heap.size w w' := by
  have := gget_any (some ⟨ga, 0, none⟩) 3 1 1 3 3 [1, 2, 0] w 4 0 (three_read h) (by decide +kernel)
  rwa [show gst 3 1 1 [1, 2, 0] 4 0 = 2 by decide +kernel] at this
theorem get_f4 (ga : Nat) (w : World) (h : Blk w ga 3 #[.int .i64 1, .int .i64 2, .int .i64 0]) : Calls Try.prog 12 #[.agg #[.int .i64 3, .int .i64 1, .int .i64 2, .slice (some ⟨ga, 0, none⟩) 3 3], .int .i64 4, .int .i64 0] w fun e w' => e = .returned (.int .i64 2) ∧ Below w.heap.size w w' := by
  have := gget_any (some ⟨ga, 0, none⟩) 3 1 2 3 3 [1, 2, 0] w 4 0 (three_read h) (by decide +kernel)
  rwa [show gst 3 1 2 [1, 2, 0] 4 0 = 2 by decide +kernel] at this
theorem roll_t (ga : Nat) (w : World) (h : Blk w ga 3 #[.int .i64 1, .int .i64 2, .int .i64 0]) : Calls Try.prog 8 #[.agg #[.int .i64 3, .int .i64 1, .int .i64 1, .slice (some ⟨ga, 0, none⟩) 3 3], .int .i64 1, .int .i64 0] w fun e w' => (∃ A' c', e = .returned (.tuple #[.agg #[.int .i64 3, .int .i64 1, .int .i64 1, .slice A' 3 c'], .int .i64 0]) ∧ Reads w' w'.heap.size A' 3 (il [0, 1, 2])) ∧ Below w.heap.size w w' := by
  have := groll_any (some ⟨ga, 0, none⟩) 3 [1, 2, 0] w 3 1 3 1 0 rfl (three_read h) (by decide +kernel)
  rw [show rlP 3 1 1 0 [1, 2, 0] 3 = [0, 1, 2] by decide +kernel] at this
  exact this.mono fun e w' ⟨A', c', h1, h2, h3⟩ => ⟨⟨A', c', h1, h2⟩, h3⟩
theorem roll_d (ga : Nat) (w : World) (h : Blk w ga 3 #[.int .i64 1, .int .i64 2, .int .i64 0]) : Calls Try.prog 8 #[.agg #[.int .i64 3, .int .i64 1, .int .i64 0, .slice (some ⟨ga, 0, none⟩) 3 3], .int .i64 1, .int .i64 0] w fun e w' => e = .returned (.tuple #[.agg #[.int .i64 0, .int .i64 0, .int .i64 0, .slice none 0 0], .int .i64 2]) ∧ Below w.heap.size w w' := groll_no (some ⟨ga, 0, none⟩) 3 1 0 3 3 [1, 2, 0] w 1 0 (three_read h) (by decide) (by decide +kernel) (by decide)
theorem pat_d (ga : Nat) (w : World) (h : Blk w ga 3 #[.int .i64 1, .int .i64 2, .int .i64 0]) : Calls Try.prog 13 #[.agg #[.int .i64 3, .int .i64 1, .int .i64 0, .slice (some ⟨ga, 0, none⟩) 3 3]] w fun e w' => (∃ X d, e = .returned (.slice X 2 d)) ∧ Below w.heap.size w w' := by
  have := gpat_any (some ⟨ga, 0, none⟩) 3 1 3 3 0 [1, 2, 0] w (three_read h) (by decide +kernel)
  exact this.mono fun e w' ⟨X, m, d, h1, h2, _, h4⟩ => ⟨⟨X, d, by rw [h1, h2, show (pcs 3 [1, 2, 0] 3).length = 2 by decide +kernel]⟩, h4⟩
theorem right_d (ga : Nat) (w : World) (h : Blk w ga 3 #[.int .i64 1, .int .i64 2, .int .i64 0]) : Calls Try.prog 14 #[.agg #[.int .i64 3, .int .i64 1, .int .i64 0, .slice (some ⟨ga, 0, none⟩) 3 3]] w fun e w' => e = .returned (.bool true) ∧ Below w.heap.size w w' := by
  have := gright_any (some ⟨ga, 0, none⟩) 3 1 0 3 3 [1, 2, 0] w (three_read h) (by decide)
  rwa [show grt 3 1 0 [1, 2, 0] = true by decide +kernel] at this
theorem right_z (w : World) : Calls Try.prog 14 #[.agg #[.int .i64 0, .int .i64 0, .int .i64 0, .slice none 0 0]] w fun e w' => e = .returned (.bool false) ∧ Below w.heap.size w w' := by
  have := gright_any none 0 0 0 0 0 [] w ⟨rfl, fun h => absurd h (by omega)⟩ (by decide)
  rwa [show grt 0 0 0 [] = false by decide +kernel] at this
theorem same_dd (ga : Nat) (w : World) (h : Blk w ga 3 #[.int .i64 1, .int .i64 2, .int .i64 0]) : Calls Try.prog 6 #[.agg #[.int .i64 3, .int .i64 1, .int .i64 0, .slice (some ⟨ga, 0, none⟩) 3 3], .agg #[.int .i64 3, .int .i64 1, .int .i64 0, .slice (some ⟨ga, 0, none⟩) 3 3]] w fun e w' => e = .returned (.bool true) ∧ Below w.heap.size w w' := by
  have := gsame_any (some ⟨ga, 0, none⟩) (some ⟨ga, 0, none⟩) 3 3 ⟨3, 1, 0, [1, 2, 0]⟩ ⟨3, 1, 0, [1, 2, 0]⟩ w (three_read h) (three_read h) (by decide) (by decide)
  rwa [show gq ⟨3, 1, 0, [1, 2, 0]⟩ ⟨3, 1, 0, [1, 2, 0]⟩ = true by decide +kernel] at this
theorem same_dt (ga : Nat) (w : World) (h : Blk w ga 3 #[.int .i64 1, .int .i64 2, .int .i64 0]) : Calls Try.prog 6 #[.agg #[.int .i64 3, .int .i64 1, .int .i64 0, .slice (some ⟨ga, 0, none⟩) 3 3], .agg #[.int .i64 3, .int .i64 1, .int .i64 1, .slice (some ⟨ga, 0, none⟩) 3 3]] w fun e w' => e = .returned (.bool false) ∧ Below w.heap.size w w' := by
  have := gsame_any (some ⟨ga, 0, none⟩) (some ⟨ga, 0, none⟩) 3 3 ⟨3, 1, 0, [1, 2, 0]⟩ ⟨3, 1, 1, [1, 2, 0]⟩ w (three_read h) (three_read h) (by decide) (by decide)
  rwa [show gq ⟨3, 1, 0, [1, 2, 0]⟩ ⟨3, 1, 1, [1, 2, 0]⟩ = false by decide +kernel] at this
theorem new_3 (w : World) : Calls Try.prog 10 #[.int .i64 3, .int .i64 1, .int .i64 0] w fun e w' => (∃ g, e = .returned (.tuple #[.agg #[.int .i64 3, .int .i64 1, .int .i64 0, .slice (some ⟨g, 0, none⟩) 3 3], .int .i64 0]) ∧ Reads w' w'.heap.size (some ⟨g, 0, none⟩) 3 (il [0, 0, 0])) ∧ Below w.heap.size w w' :=
  Calls.mono (show Calls Try.prog 10 #[.int .i64 3, .int .i64 1, .int .i64 0] w fun e w' => ∃ g, e = .returned (.tuple #[.agg #[.int .i64 3, .int .i64 1, .int .i64 0, .slice (some ⟨g, 0, none⟩) 3 3], .int .i64 0]) ∧ w'.ownsRow (w.heap.size + 1) 3 1 (.slice (some ⟨g, 0, none⟩) 3 3) 3 (il (List.replicate 3 0)) ∧ Below w.heap.size w w' from gnew_any 3 1 3 0 w rfl (by decide +kernel)) fun e w' ⟨g, h1, h2, h3⟩ => ⟨⟨g, h1, Reads.of_own h2⟩, h3⟩
theorem set_3 (g : Nat) (w : World) (h : Reads w w.heap.size (some ⟨g, 0, none⟩) 3 (il [0, 0, 0])) : Calls Try.prog 11 #[.agg #[.int .i64 3, .int .i64 1, .int .i64 0, .slice (some ⟨g, 0, none⟩) 3 3], .int .i64 1, .int .i64 0, .int .i64 2] w fun e w' => (∃ A' c', e = .returned (.tuple #[.agg #[.int .i64 3, .int .i64 1, .int .i64 0, .slice A' 3 c'], .int .i64 0]) ∧ Reads w' w'.heap.size A' 3 (il [0, 2, 0])) ∧ Below w.heap.size w w' :=
  (gset_any (some ⟨g, 0, none⟩) 3 1 0 3 3 [0, 0, 0] w 1 0 2 h (by decide +kernel) (by decide) (by decide) (by decide) (by decide) (by decide) (by decide)).mono fun e w' ⟨A', c', h1, h2, h3⟩ => ⟨⟨A', c', h1, h2⟩, h3⟩
theorem get_s (A : Option Addr) (c : Nat) (w : World) (h : Reads w w.heap.size A 3 (il [0, 2, 0])) : Calls Try.prog 12 #[.agg #[.int .i64 3, .int .i64 1, .int .i64 0, .slice A 3 c], .int .i64 1, .int .i64 0] w fun e w' => e = .returned (.int .i64 2) ∧ Below w.heap.size w w' := by
  have := gget_any A 3 1 0 3 c [0, 2, 0] w 1 0 h (by decide +kernel)
  rwa [show gst 3 1 0 [0, 2, 0] 1 0 = 2 by decide +kernel] at this
end Go.Proofs.Ytbbehbgfdlamfaa
