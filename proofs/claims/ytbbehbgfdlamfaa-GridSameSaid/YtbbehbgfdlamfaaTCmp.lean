/- The walks of cmp.Compare, cmp.Or, point.Compare. -/
import Derived.Test.YtbbehbgfdlamfaaTCell
import Derived.Test.YtbbehbgfdlamfaaTMem
import Derived.Test.YtbbehbgfdlamfaaTSmall
import Derived.Below
import Derived.BigQuiet
import Derived.Deep.AppendLies
import Derived.Deep.Draws
import Derived.Deep.QuietTactic
import Derived.IntWalk
import Derived.Laws.OwnMore
import Derived.Laws.Rows
import Derived.Lib.Hide
import Derived.LoopN
import Derived.OwnWalk
import Derived.StillTail
import Derived.StillTailTactics
import Derived.Test.YtbbehbgfdlamfaaRows
import Derived.WalkKit
namespace Go.Proofs.Ytbbehbgfdlamfaa
open Go.RowKit
theorem isnan_any (a : Int) (w : World) : Calls Try.prog 36 #[.int .i64 a] w fun e w' => e = .returned (.bool false) ∧ w = w' := by
  go_enter Try.func36, Try.ntmps36
  go_wp2
  go_ret
  exact ⟨rfl, rfl⟩
theorem cmp_any (a b : Int) (w : World) : Calls Try.prog 34 #[.int .i64 a, .int .i64 b] w fun e w' => e = .returned (.int .i64 (sg a b)) ∧ w = w' := by
  unfold sg
  split
  · next h =>
    go_enter Try.func34, Try.ntmps34
    go_wp2_with (go_at_call 36; refine (isnan_any _ _).mono ?_; rintro e w' ⟨rfl, rfl⟩)
    go_ret
    exact ⟨rfl, rfl⟩
  · next h =>
    split
    · next h2 =>
      go_enter Try.func34, Try.ntmps34
      go_wp2_with (go_at_call 36; refine (isnan_any _ _).mono ?_; rintro e w' ⟨rfl, rfl⟩)
      go_ret
      exact ⟨rfl, rfl⟩
    · next h2 =>
      go_enter Try.func34, Try.ntmps34
      go_wp2_with (go_at_call 36; refine (isnan_any _ _).mono ?_; rintro e w' ⟨rfl, rfl⟩)
      go_ret
      exact ⟨rfl, rfl⟩

theorem or_any (u v : Int) (g : Nat) (t : TypeId) (w : World) (h : Blk w g t #[.int .i64 u, .int .i64 v]) :
    Calls Try.prog 33 #[.slice (some ⟨g, 0, none⟩) 2 2] w fun e w' => e = .returned (.int .i64 (or2 u v)) ∧ w = w' := by
  obtain ⟨k0, k1, k2, k3, k4⟩ := h.two
  clear h
  unfold or2
  split
  · next e =>
    subst e
    by_cases e : v = 0
    · subst e
      go_enter Try.func33, Try.ntmps33
      go_wp2
      refine wp_loop_rounds 3 ?_
      rw [rounds_succ]
      go_wp2
      rw [rounds_succ]
      go_wp2
      rw [rounds_succ]
      go_wp2
      go_ret
      exact ⟨rfl, rfl⟩
    · have hz : (v == 0) = false := by rw [beq_eq_false_iff_ne]; exact e
      go_enter Try.func33, Try.ntmps33
      go_wp2
      refine wp_loop_rounds 2 ?_
      rw [rounds_succ]
      go_wp2
      rw [rounds_succ]
      go_wp2
      go_ret
      exact ⟨rfl, rfl⟩
  · next e =>
    have hz : (u == 0) = false := by rw [beq_eq_false_iff_ne]; exact e
    go_enter Try.func33, Try.ntmps33
    go_wp2
    refine wp_loop_rounds 1 ?_
    rw [rounds_succ]
    go_wp2
    go_ret
    exact ⟨rfl, rfl⟩

theorem below_quiet {P : Program} {f : FuncId} {args : Array Value} {w : World} {v : Value} (h : Calls P f args w fun e w' => e = .returned v ∧ w = w') : Calls P f args w fun e w' => e = .returned v ∧ Below w.heap.size w w' :=
  h.mono fun _ _ ⟨he, hw⟩ => ⟨he, hw ▸ Below.refl _ _⟩
set_option maxHeartbeats 1000000 in
theorem pcompare_any (x y u v : Int) (w : World) :
    Calls Try.prog 30 #[.agg #[.int .i64 x, .int .i64 y], .agg #[.int .i64 u, .int .i64 v]] w fun e w' => e = .returned (.int .i64 (or2 (sg y v) (sg x u))) ∧ Below w.heap.size w w' := by
  have K1 := (Blk.new w 57 #[.int .i64 x, .int .i64 y]).alloc (.cells #[.int .i64 u, .int .i64 v] 57)
  have K2 := Blk.new (w.alloc (.cells #[.int .i64 x, .int .i64 y] 57)) 57 #[.int .i64 u, .int .i64 v]
  rw [show (w.alloc (.cells #[.int .i64 x, .int .i64 y] 57)).heap.size = w.heap.size + 1 by simp] at K2
  have B2 : Below w.heap.size w ((w.alloc (.cells #[.int .i64 x, .int .i64 y] 57)).alloc (.cells #[.int .i64 u, .int .i64 v] 57)) := ((Below.refl _ _).alloc (Nat.le_refl _) _).alloc (by simp) _
  have C1 := Lib.hid cmp_any
  go_enter Try.func30, Try.ntmps30
  go_wp2_with fail
  generalize (w.alloc (.cells #[.int .i64 x, .int .i64 y] 57)).alloc (.cells #[.int .i64 u, .int .i64 v] 57) = w0 at K1 K2 B2 ⊢
  have k10 := fun p : LowW w0.heap.size w0 => (K1.below p.below K1.lt).two.1
  have k11 := fun p : LowW w0.heap.size w0 => (K1.below p.below K1.lt).two.2.1
  have k20 := fun p : LowW w0.heap.size w0 => (K2.below p.below K2.lt).two.1
  have k21 := fun p : LowW w0.heap.size w0 => (K2.below p.below K2.lt).two.2.1
  have B2 := Lib.hid B2
  clear K1 K2
  refine wp_region_low_tail w0.heap.size w0 10 (by kernel_rfl) (by kernel_rfl) (Below.refl _ _) ?_
  simp only [List.take_succ_cons, List.take_zero, List.drop_succ_cons, List.drop_zero]
  repeat (quiet_step (first | (go_at_call 34; with_reducible exact LowW.of_call _ (Nat.le_refl _) (below_quiet (C1.out _ _ _)))))
  refine wpQuiet_nil ?_
  rintro w' ⟨p, rfl⟩
  have PB := Lib.hid p.below
  clear k10 k11 k20 k21
  generalize p.w = w1 at PB ⊢
  go_wp2_with (go_at_call 33; refine (or_any _ _ _ 3 _ (Blk.new _ _ _)).mono ?_; rintro e w2 ⟨rfl, rfl⟩)
  go_ret
  exact ⟨rfl, (B2.out.trans (PB.out.mono B2.out.size)).alloc (Nat.le_trans B2.out.size PB.out.size) _⟩

end Go.Proofs.Ytbbehbgfdlamfaa
