/- The walks of validPlace, examine and validShift. -/
import Derived.Test.YtobaabankhpfjaaDoorCmp
namespace Go.Proofs.YtobaabankhpfjaaDoor
open Go.RowKit

/-- a valid position -/
def OkP (a : C3) : Prop := -1048576 ≤ a.1 ∧ a.1 ≤ 1048576 ∧ -1048576 ≤ a.2.1 ∧ a.2.1 ≤ 1048576
instance (a : C3) : Decidable (OkP a) := by unfold OkP; exact inferInstance
theorem okp_ok {a : C3} : OkP a ↔ Ok a.1 a.2.1 1 1 := by unfold OkP Ok OkS; omega
/-- the error of a cell -/
def ex (a : C3) : Int := if ¬ OkP a then 5 else if a.2.2 < 0 ∨ 8 ≤ a.2.2 then 10 else 0

theorem vplace_any (a : C3) (w : World) :
    Calls Tryd.prog 25 #[cv a] w fun e w' => e = .returned (.bool (decide (OkP a))) ∧ Below w.heap.size w w' := by
  have R : ∀ w, Calls Tryd.prog 42 #[.agg #[.int .i64 a.1, .int .i64 a.2.1, .int .i64 1, .int .i64 1]] w fun e w' => e = .returned (.bool (decide (OkP a))) ∧ Below w.heap.size w w' := fun w => by
    by_cases h : OkP a
    · rw [decide_eq_true h]; exact right_yes _ _ _ _ w (okp_ok.1 h)
    · rw [decide_eq_false h]; exact right_no _ _ _ _ w (fun h' => h (okp_ok.2 h'))
  generalize decide (OkP a) = b at R ⊢
  obtain ⟨x, y, s⟩ := a
  have R := Lib.hid R
  have B0 := Lib.hid ((Below.refl w.heap.size w).alloc (Nat.le_refl _) (.cells #[.int .i64 x, .int .i64 y, .int .i64 s] 40))
  go_enter Tryd.func25, Tryd.ntmps25
  go_wp2_with (go_at_call 42; (with_reducible refine (R.out _).mono ?_); rintro e w1 ⟨rfl, hb⟩; have B1 := Lib.hid (B0.out.trans (hb.mono B0.out.size)); clear hb)
  go_ret
  exact ⟨rfl, B1.out⟩

theorem examine_any (a : C3) (w : World) :
    Calls Tryd.prog 37 #[cv a] w fun e w' => e = .returned (.int .i64 (ex a)) ∧ Below w.heap.size w w' := by
  have V := fun w => vplace_any a w
  obtain ⟨x, y, s⟩ := a
  have K0 := Blk.new w 40 #[.int .i64 x, .int .i64 y, .int .i64 s]
  have B0 := Lib.hid ((Below.refl w.heap.size w).alloc (Nat.le_refl _) (.cells #[.int .i64 x, .int .i64 y, .int .i64 s] 40))
  unfold ex
  by_cases h : OkP (x, y, s)
  · rw [if_neg (fun h' => h' h)]
    rw [show decide (OkP (x, y, s)) = true from decide_eq_true h] at V
    have K0 := Lib.hid K0
    have V := Lib.hid V
    clear h
    by_cases h1 : s < 0
    · rw [if_pos (Or.inl h1)]
      go_enter Tryd.func37, Tryd.ntmps37
      go_wp2_with (go_at_call 25; (with_reducible refine (V.out _).mono ?_); rintro e w1 ⟨rfl, hb⟩; obtain ⟨k0, k1, k2, k3⟩ := (K0.out.below hb K0.out.lt).three; have B1 := Lib.hid (B0.out.trans (hb.mono B0.out.size)); clear hb)
      go_ret
      exact ⟨rfl, B1.out⟩
    · by_cases h2 : 8 ≤ s
      · rw [if_pos (Or.inr h2)]
        go_enter Tryd.func37, Tryd.ntmps37
        go_wp2_with (go_at_call 25; (with_reducible refine (V.out _).mono ?_); rintro e w1 ⟨rfl, hb⟩; obtain ⟨k0, k1, k2, k3⟩ := (K0.out.below hb K0.out.lt).three; have B1 := Lib.hid (B0.out.trans (hb.mono B0.out.size)); clear hb)
        go_ret
        exact ⟨rfl, B1.out⟩
      · rw [if_neg (by rintro (h | h) <;> contradiction)]
        go_enter Tryd.func37, Tryd.ntmps37
        go_wp2_with (go_at_call 25; (with_reducible refine (V.out _).mono ?_); rintro e w1 ⟨rfl, hb⟩; obtain ⟨k0, k1, k2, k3⟩ := (K0.out.below hb K0.out.lt).three; have B1 := Lib.hid (B0.out.trans (hb.mono B0.out.size)); clear hb)
        go_ret
        exact ⟨rfl, B1.out⟩
  · rw [if_pos h]
    rw [show decide (OkP (x, y, s)) = false from decide_eq_false h] at V
    have K0 := Lib.hid K0
    have V := Lib.hid V
    clear h
    go_enter Tryd.func37, Tryd.ntmps37
    go_wp2_with (go_at_call 25; (with_reducible refine (V.out _).mono ?_); rintro e w1 ⟨rfl, hb⟩; obtain ⟨k0, k1, k2, k3⟩ := (K0.out.below hb K0.out.lt).three; have B1 := Lib.hid (B0.out.trans (hb.mono B0.out.size)); clear hb)
    go_ret
    exact ⟨rfl, B1.out⟩

theorem vshift_yes (d : Int) (w : World) (h1 : -2097152 ≤ d) (h2 : d ≤ 2097152) :
    Calls Tryd.prog 24 #[.int .i64 d] w fun e w' => e = .returned (.bool true) ∧ w = w' := by
  go_enter Tryd.func24, Tryd.ntmps24
  go_wp2
  go_ret
  exact ⟨rfl, rfl⟩
end Go.Proofs.YtobaabankhpfjaaDoor
