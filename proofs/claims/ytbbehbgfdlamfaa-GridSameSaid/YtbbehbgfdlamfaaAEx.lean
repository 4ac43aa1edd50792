/- The walks of validPlace, examine and validShift. -/
import Derived.Test.YtbbehbgfdlamfaaACell
import Derived.Test.YtbbehbgfdlamfaaASmall
import Derived.Test.YtbbehbgfdlamfaaCPCell
import Derived.Test.YtbbehbgfdlamfaaTMem
import Derived.Test.YtbbehbgfdlamfaaTSmall
import Derived.Test.YtbbehbgfdlamfaaTTree
import Derived.Below
import Derived.BigQuiet
import Derived.Deep.AppendLies
import Derived.Deep.Draws
import Derived.Deep.QuietTactic
import Derived.Laws.OwnMore
import Derived.Laws.Rows
import Derived.Lib.Hide
import Derived.LoopN
import Derived.StillTail
import Derived.StillTailTactics
import Derived.Test.YtbbehbgfdlamfaaRows
import Derived.WalkKit
namespace Go.Proofs.Ytbbehbgfdlamfaa
open Go.RowKit
/-- a valid position -/
def OkP (a : C3) : Prop := -1048576 ≤ a.1 ∧ a.1 ≤ 1048576 ∧ -1048576 ≤ a.2.1 ∧ a.2.1 ≤ 1048576
instance (a : C3) : Decidable (OkP a) := by unfold OkP; exact inferInstance
theorem okp_ok {a : C3} : OkP a ↔ Ok a.1 a.2.1 1 1 := by unfold OkP Ok OkS; omega
/-- the error of a cell -/
def ex (a : C3) : Int := if ¬ OkP a then 5 else if a.2.2 < 0 ∨ 8 ≤ a.2.2 then 10 else 0

theorem vplace_any (a : C3) (w : World) :
    Calls Try.prog 29 #[cv a] w fun e w' => e = .returned (.bool (decide (OkP a))) ∧ Below w.heap.size w w' := by
  have R : ∀ w, Calls Try.prog 32 #[.agg #[.int .i64 a.1, .int .i64 a.2.1, .int .i64 1, .int .i64 1]] w fun e w' => e = .returned (.bool (decide (OkP a))) ∧ Below w.heap.size w w' := fun w => by
    by_cases h : OkP a
    · rw [decide_eq_true h]; exact right_yes _ _ _ _ w (okp_ok.1 h)
    · rw [decide_eq_false h]; exact right_no _ _ _ _ w (fun h' => h (okp_ok.2 h'))
  generalize decide (OkP a) = b at R ⊢
  obtain ⟨x, y, s⟩ := a
  have R := Lib.hid R
  have B0 := Lib.hid ((Below.refl w.heap.size w).alloc (Nat.le_refl _) (.cells #[.int .i64 x, .int .i64 y, .int .i64 s] 33))
  go_enter Try.func29, Try.ntmps29
  go_wp2_with (go_at_call 32; (with_reducible refine (R.out _).mono ?_); rintro e w1 ⟨rfl, hb⟩; have B1 := Lib.hid (B0.out.trans (hb.mono B0.out.size)); clear hb)
  go_ret
  exact ⟨rfl, B1.out⟩

theorem examine_any (a : C3) (w : World) :
    Calls Try.prog 25 #[cv a] w fun e w' => e = .returned (.int .i64 (ex a)) ∧ Below w.heap.size w w' := by
  have V := fun w => vplace_any a w
  obtain ⟨x, y, s⟩ := a
  have K0 := Blk.new w 33 #[.int .i64 x, .int .i64 y, .int .i64 s]
  have B0 := Lib.hid ((Below.refl w.heap.size w).alloc (Nat.le_refl _) (.cells #[.int .i64 x, .int .i64 y, .int .i64 s] 33))
  unfold ex
  by_cases h : OkP (x, y, s)
  · rw [if_neg (fun h' => h' h)]
    rw [show decide (OkP (x, y, s)) = true from decide_eq_true h] at V
    have K0 := Lib.hid K0
    have V := Lib.hid V
    clear h
    by_cases h1 : s < 0
    · rw [if_pos (Or.inl h1)]
      go_enter Try.func25, Try.ntmps25
      go_wp2_with (go_at_call 29; (with_reducible refine (V.out _).mono ?_); rintro e w1 ⟨rfl, hb⟩; obtain ⟨k0, k1, k2, k3⟩ := (K0.out.below hb K0.out.lt).three; have B1 := Lib.hid (B0.out.trans (hb.mono B0.out.size)); clear hb)
      go_ret
      exact ⟨rfl, B1.out⟩
    · by_cases h2 : 8 ≤ s
      · rw [if_pos (Or.inr h2)]
        go_enter Try.func25, Try.ntmps25
        go_wp2_with (go_at_call 29; (with_reducible refine (V.out _).mono ?_); rintro e w1 ⟨rfl, hb⟩; obtain ⟨k0, k1, k2, k3⟩ := (K0.out.below hb K0.out.lt).three; have B1 := Lib.hid (B0.out.trans (hb.mono B0.out.size)); clear hb)
        go_ret
        exact ⟨rfl, B1.out⟩
      · rw [if_neg (by rintro (h | h) <;> contradiction)]
        go_enter Try.func25, Try.ntmps25
        go_wp2_with (go_at_call 29; (with_reducible refine (V.out _).mono ?_); rintro e w1 ⟨rfl, hb⟩; obtain ⟨k0, k1, k2, k3⟩ := (K0.out.below hb K0.out.lt).three; have B1 := Lib.hid (B0.out.trans (hb.mono B0.out.size)); clear hb)
        go_ret
        exact ⟨rfl, B1.out⟩
  · rw [if_pos h]
    rw [show decide (OkP (x, y, s)) = false from decide_eq_false h] at V
    have K0 := Lib.hid K0
    have V := Lib.hid V
    clear h
    go_enter Try.func25, Try.ntmps25
    go_wp2_with (go_at_call 29; (with_reducible refine (V.out _).mono ?_); rintro e w1 ⟨rfl, hb⟩; obtain ⟨k0, k1, k2, k3⟩ := (K0.out.below hb K0.out.lt).three; have B1 := Lib.hid (B0.out.trans (hb.mono B0.out.size)); clear hb)
    go_ret
    exact ⟨rfl, B1.out⟩

end Go.Proofs.Ytbbehbgfdlamfaa
