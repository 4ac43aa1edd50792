/- Mirror and Conjugate at the number 110, Elementary at 90. -/
import Derived.Test.YtdbeomibajcecaaDoorReb
namespace Go.Proofs.YtdbeomibajcecaaDoor
open Go.RowKit

theorem elem90 (w : World) : Calls Tryd.prog 7 #[.int .i64 90] w fun e w' => e = .returned (.tuple #[.agg (oct 0 1 0 1 1 0 1 0), .int .i64 0]) ∧ Below w.heap.size w w' := by
  have h := elem_in 90 w (by decide)
  rw [show eb ((90 : Nat) : Int) = oct 0 1 0 1 1 0 1 0 by kernel_rfl] at h
  exact h
def vm (i : Nat) : Int := ([0, 0, 1, 1, 1, 1, 1, 0] : List Int).getD i 0
theorem fn_m (i : Nat) (h : i < 8) (w : World) : Calls Tryd.prog 18 #[.agg #[.int .i64 0, .int .i64 1, .int .i64 1, .int .i64 1, .int .i64 0, .int .i64 1, .int .i64 1, .int .i64 0], .int .i64 (i : Int)] w fun e w' => e = .returned (.int .i64 (vm i)) ∧ Below w.heap.size w w' := by
  match i, h with
  | 0, _ => exact fn_m0 w
  | 1, _ => exact fn_m1 w
  | 2, _ => exact fn_m2 w
  | 3, _ => exact fn_m3 w
  | 4, _ => exact fn_m4 w
  | 5, _ => exact fn_m5 w
  | 6, _ => exact fn_m6 w
  | 7, _ => exact fn_m7 w
set_option maxRecDepth 100000 in
theorem mirror110 (w : World) : Calls Tryd.prog 8 #[.int .i64 110] w fun e w' => e = .returned (.tuple #[.int .i64 124, .int .i64 0]) ∧ Below w.heap.size w w' := by
  have R := Lib.hid (reb_any 18 vm 124 w (enters_of Tryd.func18 (by kernel_rfl) rfl) fn_m (fun w => number_m w))
  go_enter Tryd.func8, Tryd.ntmps8
  go_wp2_with (go_at_call 17; (with_reducible refine R.out.mono ?_); rintro e w1 ⟨rfl, hb⟩)
  go_ret2
  exact ⟨rfl, hb⟩
def vc (i : Nat) : Int := ([1, 0, 0, 1, 0, 0, 0, 1] : List Int).getD i 0
theorem fn_c (i : Nat) (h : i < 8) (w : World) : Calls Tryd.prog 19 #[.agg #[.int .i64 0, .int .i64 1, .int .i64 1, .int .i64 1, .int .i64 0, .int .i64 1, .int .i64 1, .int .i64 0], .int .i64 (i : Int)] w fun e w' => e = .returned (.int .i64 (vc i)) ∧ Below w.heap.size w w' := by
  match i, h with
  | 0, _ => exact fn_c0 w
  | 1, _ => exact fn_c1 w
  | 2, _ => exact fn_c2 w
  | 3, _ => exact fn_c3 w
  | 4, _ => exact fn_c4 w
  | 5, _ => exact fn_c5 w
  | 6, _ => exact fn_c6 w
  | 7, _ => exact fn_c7 w
set_option maxRecDepth 100000 in
theorem conjugate110 (w : World) : Calls Tryd.prog 9 #[.int .i64 110] w fun e w' => e = .returned (.tuple #[.int .i64 137, .int .i64 0]) ∧ Below w.heap.size w w' := by
  have R := Lib.hid (reb_any 19 vc 137 w (enters_of Tryd.func19 (by kernel_rfl) rfl) fn_c (fun w => number_c w))
  go_enter Tryd.func9, Tryd.ntmps9
  go_wp2_with (go_at_call 17; (with_reducible refine R.out.mono ?_); rintro e w1 ⟨rfl, hb⟩)
  go_ret2
  exact ⟨rfl, hb⟩
end Go.Proofs.YtdbeomibajcecaaDoor
