/- The walks of cmp.Compare, cmp.Or and Compare at the chapter's examples. -/
import Derived.Test.YtpcpelfjhpdndaaGeo
import Derived.LoopN
import Derived.StillTailTactics
namespace Go.Proofs.Ytpcpelfjhpdndaa
open Go.RowKit

theorem isnan_any (a : Int) (w : World) : Calls Try.prog 31 #[.int .i64 a] w fun e w' => e = .returned (.bool false) ∧ w = w' := by
  go_enter Try.func31, Try.ntmps31
  go_wp2
  go_ret
  exact ⟨rfl, rfl⟩
theorem cmp_lt (a b : Int) (w : World) (h : a < b) : Calls Try.prog 27 #[.int .i64 a, .int .i64 b] w fun e w' => e = .returned (.int .i64 (-1)) ∧ w = w' := by
  go_enter Try.func27, Try.ntmps27
  go_wp2_with (go_at_call 31; refine (isnan_any _ _).mono ?_; rintro e w' ⟨rfl, rfl⟩)
  go_ret
  exact ⟨rfl, rfl⟩
theorem cmp_gt (a b : Int) (w : World) (h : b < a) : Calls Try.prog 27 #[.int .i64 a, .int .i64 b] w fun e w' => e = .returned (.int .i64 1) ∧ w = w' := by
  have h2 : ¬ a < b := by omega
  go_enter Try.func27, Try.ntmps27
  go_wp2_with (go_at_call 31; refine (isnan_any _ _).mono ?_; rintro e w' ⟨rfl, rfl⟩)
  go_ret
  exact ⟨rfl, rfl⟩
theorem cmp_eq (a : Int) (w : World) : Calls Try.prog 27 #[.int .i64 a, .int .i64 a] w fun e w' => e = .returned (.int .i64 0) ∧ w = w' := by
  go_enter Try.func27, Try.ntmps27
  go_wp2_with (go_at_call 31; refine (isnan_any _ _).mono ?_; rintro e w' ⟨rfl, rfl⟩)
  go_ret
  exact ⟨rfl, rfl⟩

theorem or_first (u : Int) (g : Nat) (t : TypeId) (w : World) (h : Blk w g t #[.int .i64 (-1), .int .i64 u]) :
    Calls Try.prog 26 #[.slice (some ⟨g, 0, none⟩) 2 2] w fun e w' => e = .returned (.int .i64 (-1)) ∧ w = w' := by
  obtain ⟨k0, k1, k2, k3, k4⟩ := h.two
  clear h
  go_enter Try.func26, Try.ntmps26
  go_wp2
  refine wp_loop_rounds 1 ?_
  rw [rounds_succ]
  go_wp2
  go_ret
  exact ⟨rfl, rfl⟩
theorem or_none (g : Nat) (t : TypeId) (w : World) (h : Blk w g t #[.int .i64 0, .int .i64 0]) :
    Calls Try.prog 26 #[.slice (some ⟨g, 0, none⟩) 2 2] w fun e w' => e = .returned (.int .i64 0) ∧ w = w' := by
  obtain ⟨k0, k1, k2, k3, k4⟩ := h.two
  clear h
  go_enter Try.func26, Try.ntmps26
  go_wp2
  refine wp_loop_rounds 3 ?_
  rw [rounds_succ]
  go_wp2
  rw [rounds_succ]
  go_wp2
  rw [rounds_succ]
  go_wp2
  go_ret
  exact ⟨rfl, rfl⟩

section
variable (w : World)
theorem below_quiet {P : Program} {f : FuncId} {args : Array Value} {w : World} {v : Value} (h : Calls P f args w fun e w' => e = .returned v ∧ w = w') : Calls P f args w fun e w' => e = .returned v ∧ Below w.heap.size w w' :=
  h.mono fun _ _ ⟨he, hw⟩ => ⟨he, hw ▸ Below.refl _ _⟩
set_option maxHeartbeats 1000000 in
/-- Compare at two positions, by what cmp.Compare and cmp.Or say -/
theorem compare_by (x y u v a b r : Int) (h1 : ∀ w, Calls Try.prog 27 #[.int .i64 y, .int .i64 v] w fun e w' => e = .returned (.int .i64 a) ∧ w = w')
    (h2 : ∀ w, Calls Try.prog 27 #[.int .i64 x, .int .i64 u] w fun e w' => e = .returned (.int .i64 b) ∧ w = w')
    (h3 : ∀ g t w, Blk w g t #[.int .i64 a, .int .i64 b] → Calls Try.prog 26 #[.slice (some ⟨g, 0, none⟩) 2 2] w fun e w' => e = .returned (.int .i64 r) ∧ w = w') :
    Calls Try.prog 14 #[.agg #[.int .i64 x, .int .i64 y], .agg #[.int .i64 u, .int .i64 v]] w fun e w' => e = .returned (.int .i64 r) ∧ Below w.heap.size w w' := by
  have K1 := (Blk.new w 36 #[.int .i64 x, .int .i64 y]).alloc (.cells #[.int .i64 u, .int .i64 v] 36)
  have K2 := Blk.new (w.alloc (.cells #[.int .i64 x, .int .i64 y] 36)) 36 #[.int .i64 u, .int .i64 v]
  rw [show (w.alloc (.cells #[.int .i64 x, .int .i64 y] 36)).heap.size = w.heap.size + 1 by simp] at K2
  have B2 : Below w.heap.size w ((w.alloc (.cells #[.int .i64 x, .int .i64 y] 36)).alloc (.cells #[.int .i64 u, .int .i64 v] 36)) := ((Below.refl _ _).alloc (Nat.le_refl _) _).alloc (by simp) _
  have C1 := Lib.hid h1
  have C2 := Lib.hid h2
  have C3 := Lib.hid h3
  clear h1 h2 h3
  go_enter Try.func14, Try.ntmps14
  go_wp2_with fail
  generalize (w.alloc (.cells #[.int .i64 x, .int .i64 y] 36)).alloc (.cells #[.int .i64 u, .int .i64 v] 36) = w0 at K1 K2 B2 ⊢
  have k10 := fun p : LowW w0.heap.size w0 => (K1.below p.below K1.lt).two.1
  have k11 := fun p : LowW w0.heap.size w0 => (K1.below p.below K1.lt).two.2.1
  have k20 := fun p : LowW w0.heap.size w0 => (K2.below p.below K2.lt).two.1
  have k21 := fun p : LowW w0.heap.size w0 => (K2.below p.below K2.lt).two.2.1
  have B2 := Lib.hid B2
  clear K1 K2
  refine wp_region_low_tail w0.heap.size w0 10 (by kernel_rfl) (by kernel_rfl) (Below.refl _ _) ?_
  simp only [List.take_succ_cons, List.take_zero, List.drop_succ_cons, List.drop_zero]
  repeat (quiet_step (first | (go_at_call 27; with_reducible exact LowW.of_call _ (Nat.le_refl _) (below_quiet (C1.out _))) | (go_at_call 27; with_reducible exact LowW.of_call _ (Nat.le_refl _) (below_quiet (C2.out _)))))
  refine wpQuiet_nil ?_
  rintro w' ⟨p, rfl⟩
  have PB := Lib.hid p.below
  clear k10 k11 k20 k21
  generalize p.w = w1 at PB ⊢
  go_wp2_with (go_at_call 26; refine (C3.out _ 3 _ (Blk.new _ _ _)).mono ?_; rintro e w2 ⟨rfl, rfl⟩)
  go_ret
  exact ⟨rfl, (B2.out.trans (PB.out.mono B2.out.size)).alloc (Nat.le_trans B2.out.size PB.out.size) _⟩
theorem compare_less :
    Calls Try.prog 14 #[.agg #[.int .i64 5, .int .i64 0], .agg #[.int .i64 2, .int .i64 1]] w fun e w' => e = .returned (.int .i64 (-1)) ∧ Below w.heap.size w w' :=
  compare_by w 5 0 2 1 (-1) 1 (-1) (fun w => cmp_lt 0 1 w (by decide)) (fun w => cmp_gt 5 2 w (by decide)) (fun g t w h => or_first 1 g t w h)
theorem compare_same :
    Calls Try.prog 14 #[.agg #[.int .i64 2, .int .i64 1], .agg #[.int .i64 2, .int .i64 1]] w fun e w' => e = .returned (.int .i64 0) ∧ Below w.heap.size w w' :=
  compare_by w 2 1 2 1 0 0 0 (fun w => cmp_eq 1 w) (fun w => cmp_eq 2 w) (fun g t w h => or_none g t w h)
end
end Go.Proofs.Ytpcpelfjhpdndaa
