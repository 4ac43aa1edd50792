/- The walks of point's small functions. -/
import Derived.Test.YtbbehbgfdlamfaaTMem
import Derived.Test.YtbbehbgfdlamfaaTSmall
import Derived.Below
import Derived.BigQuiet
import Derived.Deep.AppendLies
import Derived.Deep.Draws
import Derived.Deep.QuietTactic
import Derived.Laws.OwnMore
import Derived.Laws.Rows
import Derived.Lib.Hide
import Derived.StillTail
import Derived.Test.YtbbehbgfdlamfaaRows
import Derived.WalkKit
namespace Go.Proofs.Ytbbehbgfdlamfaa
open Go.RowKit
theorem validCoord_no (c : Int) (w : World) (h : ¬ (-1048576 ≤ c ∧ c ≤ 1048576)) :
    Calls Try.prog 37 #[.int .i64 c] w fun e w' => e = .returned (.bool false) ∧ w = w' := by
  by_cases h1 : -1048576 ≤ c
  · have h2 : ¬ c ≤ 1048576 := fun h2 => h ⟨h1, h2⟩
    clear h
    go_enter Try.func37, Try.ntmps37
    go_wp2
    go_ret
    exact ⟨rfl, rfl⟩
  · clear h
    go_enter Try.func37, Try.ntmps37
    go_wp2
    go_ret
    exact ⟨rfl, rfl⟩

theorem validSide_no (c n : Int) (w : World) (h : ¬ OkS c n) :
    Calls Try.prog 35 #[.int .i64 c, .int .i64 n] w fun e w' => e = .returned (.bool false) ∧ w = w' := by
  by_cases h1 : -1048576 ≤ c ∧ c ≤ 1048576
  · have hc := validCoord_yes c w h1.1 h1.2
    obtain ⟨h1, h2⟩ := h1
    by_cases h3 : 1 ≤ n
    · have h5 : ¬ n ≤ 1048576 - c + 1 := fun h4 => h ⟨h1, h2, h3, by omega⟩
      clear h
      go_enter Try.func35, Try.ntmps35
      go_wp2_with (go_at_call 37; refine hc.mono ?_; rintro e w' ⟨rfl, rfl⟩)
      go_ret
      exact ⟨ret_bool (decide_eq_false (by omega)), rfl⟩
    · clear h
      go_enter Try.func35, Try.ntmps35
      go_wp2_with (go_at_call 37; refine hc.mono ?_; rintro e w' ⟨rfl, rfl⟩)
      go_ret
      exact ⟨rfl, rfl⟩
  · have hc := validCoord_no c w h1
    clear h h1
    go_enter Try.func35, Try.ntmps35
    go_wp2_with (go_at_call 37; refine hc.mono ?_; rintro e w' ⟨rfl, rfl⟩)
    go_ret
    exact ⟨rfl, rfl⟩

theorem right_no (x y ww hh : Int) (w : World) (h : ¬ Ok x y ww hh) :
    Calls Try.prog 32 #[.agg #[.int .i64 x, .int .i64 y, .int .i64 ww, .int .i64 hh]] w fun e w' => e = .returned (.bool false) ∧ Below w.heap.size w w' := by
  by_cases h1 : OkS x ww
  · have h2 : ¬ OkS y hh := fun h2 => h ⟨h1, h2⟩
    have hx := fun w => validSide_yes x ww w h1
    have hy := fun w => validSide_no y hh w h2
    clear h h1 h2
    go_enter Try.func32, Try.ntmps32
    go_wp2_with (first | (go_at_call 35; (with_reducible refine (hx _).mono ?_); rintro e w' ⟨rfl, rfl⟩) | (go_at_call 35; (with_reducible refine (hy _).mono ?_); rintro e w' ⟨rfl, rfl⟩))
    go_ret
    exact ⟨rfl, (Below.refl _ _).alloc (Nat.le_refl _) _⟩
  · have hx := fun w => validSide_no x ww w h1
    clear h h1
    go_enter Try.func32, Try.ntmps32
    go_wp2_with (go_at_call 35; (with_reducible refine (hx _).mono ?_); rintro e w' ⟨rfl, rfl⟩)
    go_ret
    exact ⟨rfl, (Below.refl _ _).alloc (Nat.le_refl _) _⟩
end Go.Proofs.Ytbbehbgfdlamfaa
