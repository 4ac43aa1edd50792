/- The walks of point's small functions. -/
import Derived.Test.YtbdgfegafckkbaaGreatDoorTail
import Derived.BigQuiet
namespace Go.Proofs.YtbdgfegafckkbaaGreatDoor
open Go.RowKit

theorem ret_bool {a b : Bool} (h : a = b) : Ending.returned (.bool a) = .returned (.bool b) := by rw [h]

/-- one direction of a valid box -/
def OkS (c n : Int) : Prop := -1048576 ≤ c ∧ c ≤ 1048576 ∧ 1 ≤ n ∧ n ≤ 1048577 - c
/-- a valid box -/
def Ok (x y w h : Int) : Prop := OkS x w ∧ OkS y h

theorem validCoord_yes (c : Int) (w : World) (h1 : -1048576 ≤ c) (h2 : c ≤ 1048576) :
    Calls Tryz.prog 104 #[.int .i64 c] w fun e w' => e = .returned (.bool true) ∧ w = w' := by
  go_enter Tryz.func104, Tryz.ntmps104
  go_wp2
  go_ret
  exact ⟨rfl, rfl⟩
theorem validCoord_no (c : Int) (w : World) (h : ¬ (-1048576 ≤ c ∧ c ≤ 1048576)) :
    Calls Tryz.prog 104 #[.int .i64 c] w fun e w' => e = .returned (.bool false) ∧ w = w' := by
  by_cases h1 : -1048576 ≤ c
  · have h2 : ¬ c ≤ 1048576 := fun h2 => h ⟨h1, h2⟩
    clear h
    go_enter Tryz.func104, Tryz.ntmps104
    go_wp2
    go_ret
    exact ⟨rfl, rfl⟩
  · clear h
    go_enter Tryz.func104, Tryz.ntmps104
    go_wp2
    go_ret
    exact ⟨rfl, rfl⟩

theorem validSide_yes (c n : Int) (w : World) (h : OkS c n) :
    Calls Tryz.prog 103 #[.int .i64 c, .int .i64 n] w fun e w' => e = .returned (.bool true) ∧ w = w' := by
  obtain ⟨h1, h2, h3, h4⟩ := h
  have hc := validCoord_yes c w h1 h2
  have h5 : n ≤ 1048576 - c + 1 := by omega
  clear h4
  go_enter Tryz.func103, Tryz.ntmps103
  go_wp2_with (go_at_call 104; refine hc.mono ?_; rintro e w' ⟨rfl, rfl⟩)
  go_ret
  exact ⟨rfl, rfl⟩
theorem validSide_no (c n : Int) (w : World) (h : ¬ OkS c n) :
    Calls Tryz.prog 103 #[.int .i64 c, .int .i64 n] w fun e w' => e = .returned (.bool false) ∧ w = w' := by
  by_cases h1 : -1048576 ≤ c ∧ c ≤ 1048576
  · have hc := validCoord_yes c w h1.1 h1.2
    obtain ⟨h1, h2⟩ := h1
    by_cases h3 : 1 ≤ n
    · have h5 : ¬ n ≤ 1048576 - c + 1 := fun h4 => h ⟨h1, h2, h3, by omega⟩
      clear h
      go_enter Tryz.func103, Tryz.ntmps103
      go_wp2_with (go_at_call 104; refine hc.mono ?_; rintro e w' ⟨rfl, rfl⟩)
      go_ret
      exact ⟨ret_bool (decide_eq_false (by omega)), rfl⟩
    · clear h
      go_enter Tryz.func103, Tryz.ntmps103
      go_wp2_with (go_at_call 104; refine hc.mono ?_; rintro e w' ⟨rfl, rfl⟩)
      go_ret
      exact ⟨rfl, rfl⟩
  · have hc := validCoord_no c w h1
    clear h h1
    go_enter Tryz.func103, Tryz.ntmps103
    go_wp2_with (go_at_call 104; refine hc.mono ?_; rintro e w' ⟨rfl, rfl⟩)
    go_ret
    exact ⟨rfl, rfl⟩

theorem right_yes (x y ww hh : Int) (w : World) (h : Ok x y ww hh) :
    Calls Tryz.prog 93 #[.agg #[.int .i64 x, .int .i64 y, .int .i64 ww, .int .i64 hh]] w fun e w' => e = .returned (.bool true) ∧ Below w.heap.size w w' := by
  have hx := fun w => validSide_yes x ww w h.1
  have hy := fun w => validSide_yes y hh w h.2
  clear h
  go_enter Tryz.func93, Tryz.ntmps93
  go_wp2_with (first | (go_at_call 103; (with_reducible refine (hx _).mono ?_); rintro e w' ⟨rfl, rfl⟩) | (go_at_call 103; (with_reducible refine (hy _).mono ?_); rintro e w' ⟨rfl, rfl⟩))
  go_ret
  exact ⟨rfl, (Below.refl _ _).alloc (Nat.le_refl _) _⟩
theorem right_no (x y ww hh : Int) (w : World) (h : ¬ Ok x y ww hh) :
    Calls Tryz.prog 93 #[.agg #[.int .i64 x, .int .i64 y, .int .i64 ww, .int .i64 hh]] w fun e w' => e = .returned (.bool false) ∧ Below w.heap.size w w' := by
  by_cases h1 : OkS x ww
  · have h2 : ¬ OkS y hh := fun h2 => h ⟨h1, h2⟩
    have hx := fun w => validSide_yes x ww w h1
    have hy := fun w => validSide_no y hh w h2
    clear h h1 h2
    go_enter Tryz.func93, Tryz.ntmps93
    go_wp2_with (first | (go_at_call 103; (with_reducible refine (hx _).mono ?_); rintro e w' ⟨rfl, rfl⟩) | (go_at_call 103; (with_reducible refine (hy _).mono ?_); rintro e w' ⟨rfl, rfl⟩))
    go_ret
    exact ⟨rfl, (Below.refl _ _).alloc (Nat.le_refl _) _⟩
  · have hx := fun w => validSide_no x ww w h1
    clear h h1
    go_enter Tryz.func93, Tryz.ntmps93
    go_wp2_with (go_at_call 103; (with_reducible refine (hx _).mono ?_); rintro e w' ⟨rfl, rfl⟩)
    go_ret
    exact ⟨rfl, (Below.refl _ _).alloc (Nat.le_refl _) _⟩
end Go.Proofs.YtbdgfegafckkbaaGreatDoor
