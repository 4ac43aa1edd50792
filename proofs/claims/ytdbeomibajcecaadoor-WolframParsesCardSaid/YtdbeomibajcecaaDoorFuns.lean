/- The walks of Number, of Mirror's and Conjugate's functions, of rebuilt, at the chapter's examples. -/
import Derived.Test.YtdbeomibajcecaaDoorElem
namespace Go.Proofs.YtdbeomibajcecaaDoor
open Go.RowKit

theorem run_oct (cs : Array Value) (i : Nat) (h : i < 8) (v : Value) (hv : cs[i]? = some v) (w : World) : (Instr.index 27 (.agg cs) (.int .i64 (i : Int))).run Tryd.prog w = .ok v w := by
  obtain ⟨i0, hi, hz0, hz1, hz2⟩ := info_parts Tryd.info_int
  exact run_index_one Tryd.underlying27 (run_isAgg_plain Tryd.underlying3 rfl) hi hz1 w cs .i64 i h v hv
set_option maxRecDepth 100000 in
set_option maxHeartbeats 2000000 in
theorem number_m (w : World) :
    Calls Tryd.prog 27 #[.agg (oct 0 0 1 1 1 1 1 0)] w fun e w' => e = .returned (.tuple #[.int .i64 124, .int .i64 0]) ∧ Below w.heap.size w w' := by
  unfold oct
  have x0 : ∀ w : World, (Instr.index 27 (.agg #[.int .i64 0, .int .i64 0, .int .i64 1, .int .i64 1, .int .i64 1, .int .i64 1, .int .i64 1, .int .i64 0]) (.int .i64 0)).run Tryd.prog w = .ok (.int .i64 0) w := fun w => run_oct _ 0 (by decide) _ rfl w
  have x1 : ∀ w : World, (Instr.index 27 (.agg #[.int .i64 0, .int .i64 0, .int .i64 1, .int .i64 1, .int .i64 1, .int .i64 1, .int .i64 1, .int .i64 0]) (.int .i64 1)).run Tryd.prog w = .ok (.int .i64 0) w := fun w => run_oct _ 1 (by decide) _ rfl w
  have x2 : ∀ w : World, (Instr.index 27 (.agg #[.int .i64 0, .int .i64 0, .int .i64 1, .int .i64 1, .int .i64 1, .int .i64 1, .int .i64 1, .int .i64 0]) (.int .i64 2)).run Tryd.prog w = .ok (.int .i64 1) w := fun w => run_oct _ 2 (by decide) _ rfl w
  have x3 : ∀ w : World, (Instr.index 27 (.agg #[.int .i64 0, .int .i64 0, .int .i64 1, .int .i64 1, .int .i64 1, .int .i64 1, .int .i64 1, .int .i64 0]) (.int .i64 3)).run Tryd.prog w = .ok (.int .i64 1) w := fun w => run_oct _ 3 (by decide) _ rfl w
  have x4 : ∀ w : World, (Instr.index 27 (.agg #[.int .i64 0, .int .i64 0, .int .i64 1, .int .i64 1, .int .i64 1, .int .i64 1, .int .i64 1, .int .i64 0]) (.int .i64 4)).run Tryd.prog w = .ok (.int .i64 1) w := fun w => run_oct _ 4 (by decide) _ rfl w
  have x5 : ∀ w : World, (Instr.index 27 (.agg #[.int .i64 0, .int .i64 0, .int .i64 1, .int .i64 1, .int .i64 1, .int .i64 1, .int .i64 1, .int .i64 0]) (.int .i64 5)).run Tryd.prog w = .ok (.int .i64 1) w := fun w => run_oct _ 5 (by decide) _ rfl w
  have x6 : ∀ w : World, (Instr.index 27 (.agg #[.int .i64 0, .int .i64 0, .int .i64 1, .int .i64 1, .int .i64 1, .int .i64 1, .int .i64 1, .int .i64 0]) (.int .i64 6)).run Tryd.prog w = .ok (.int .i64 1) w := fun w => run_oct _ 6 (by decide) _ rfl w
  have x7 : ∀ w : World, (Instr.index 27 (.agg #[.int .i64 0, .int .i64 0, .int .i64 1, .int .i64 1, .int .i64 1, .int .i64 1, .int .i64 1, .int .i64 0]) (.int .i64 7)).run Tryd.prog w = .ok (.int .i64 0) w := fun w => run_oct _ 7 (by decide) _ rfl w
  go_enter Tryd.func27, Tryd.ntmps27
  go_wp2
  refine wp_loop_rounds 9 ?_
  rw [rounds_succ]
  go_wp2
  rw [rounds_succ]
  go_wp2
  rw [rounds_succ]
  go_wp2
  rw [rounds_succ]
  go_wp2
  rw [rounds_succ]
  go_wp2
  rw [rounds_succ]
  go_wp2
  rw [rounds_succ]
  go_wp2
  rw [rounds_succ]
  go_wp2
  rw [rounds_succ]
  go_wp2
  go_ret2
  exact ⟨rfl, (Below.refl _ _).alloc (Nat.le_refl _) _⟩
set_option maxRecDepth 100000 in
set_option maxHeartbeats 2000000 in
theorem number_c (w : World) :
    Calls Tryd.prog 27 #[.agg (oct 1 0 0 1 0 0 0 1)] w fun e w' => e = .returned (.tuple #[.int .i64 137, .int .i64 0]) ∧ Below w.heap.size w w' := by
  unfold oct
  have x0 : ∀ w : World, (Instr.index 27 (.agg #[.int .i64 1, .int .i64 0, .int .i64 0, .int .i64 1, .int .i64 0, .int .i64 0, .int .i64 0, .int .i64 1]) (.int .i64 0)).run Tryd.prog w = .ok (.int .i64 1) w := fun w => run_oct _ 0 (by decide) _ rfl w
  have x1 : ∀ w : World, (Instr.index 27 (.agg #[.int .i64 1, .int .i64 0, .int .i64 0, .int .i64 1, .int .i64 0, .int .i64 0, .int .i64 0, .int .i64 1]) (.int .i64 1)).run Tryd.prog w = .ok (.int .i64 0) w := fun w => run_oct _ 1 (by decide) _ rfl w
  have x2 : ∀ w : World, (Instr.index 27 (.agg #[.int .i64 1, .int .i64 0, .int .i64 0, .int .i64 1, .int .i64 0, .int .i64 0, .int .i64 0, .int .i64 1]) (.int .i64 2)).run Tryd.prog w = .ok (.int .i64 0) w := fun w => run_oct _ 2 (by decide) _ rfl w
  have x3 : ∀ w : World, (Instr.index 27 (.agg #[.int .i64 1, .int .i64 0, .int .i64 0, .int .i64 1, .int .i64 0, .int .i64 0, .int .i64 0, .int .i64 1]) (.int .i64 3)).run Tryd.prog w = .ok (.int .i64 1) w := fun w => run_oct _ 3 (by decide) _ rfl w
  have x4 : ∀ w : World, (Instr.index 27 (.agg #[.int .i64 1, .int .i64 0, .int .i64 0, .int .i64 1, .int .i64 0, .int .i64 0, .int .i64 0, .int .i64 1]) (.int .i64 4)).run Tryd.prog w = .ok (.int .i64 0) w := fun w => run_oct _ 4 (by decide) _ rfl w
  have x5 : ∀ w : World, (Instr.index 27 (.agg #[.int .i64 1, .int .i64 0, .int .i64 0, .int .i64 1, .int .i64 0, .int .i64 0, .int .i64 0, .int .i64 1]) (.int .i64 5)).run Tryd.prog w = .ok (.int .i64 0) w := fun w => run_oct _ 5 (by decide) _ rfl w
  have x6 : ∀ w : World, (Instr.index 27 (.agg #[.int .i64 1, .int .i64 0, .int .i64 0, .int .i64 1, .int .i64 0, .int .i64 0, .int .i64 0, .int .i64 1]) (.int .i64 6)).run Tryd.prog w = .ok (.int .i64 0) w := fun w => run_oct _ 6 (by decide) _ rfl w
  have x7 : ∀ w : World, (Instr.index 27 (.agg #[.int .i64 1, .int .i64 0, .int .i64 0, .int .i64 1, .int .i64 0, .int .i64 0, .int .i64 0, .int .i64 1]) (.int .i64 7)).run Tryd.prog w = .ok (.int .i64 1) w := fun w => run_oct _ 7 (by decide) _ rfl w
  go_enter Tryd.func27, Tryd.ntmps27
  go_wp2
  refine wp_loop_rounds 9 ?_
  rw [rounds_succ]
  go_wp2
  rw [rounds_succ]
  go_wp2
  rw [rounds_succ]
  go_wp2
  rw [rounds_succ]
  go_wp2
  rw [rounds_succ]
  go_wp2
  rw [rounds_succ]
  go_wp2
  rw [rounds_succ]
  go_wp2
  rw [rounds_succ]
  go_wp2
  rw [rounds_succ]
  go_wp2
  go_ret2
  exact ⟨rfl, (Below.refl _ _).alloc (Nat.le_refl _) _⟩
set_option maxRecDepth 100000 in
theorem fn_m0 (w : World) :
    Calls Tryd.prog 18 #[.agg (oct 0 1 1 1 0 1 1 0), .int .i64 0] w fun e w' => e = .returned (.int .i64 0) ∧ Below w.heap.size w w' := by
  unfold oct
  have q0 : bits .and .i64 0 1 = 0 := by decide +kernel
  have q1 : bits .and .i64 0 1 = 0 := by decide +kernel
  have q2 : bits .or .i64 0 0 = 0 := by decide +kernel
  have q3 : bits .or .i64 0 0 = 0 := by decide +kernel
  go_enter Tryd.func18, Tryd.ntmps18
  go_wp2
  go_ret
  exact ⟨rfl, (Below.refl _ _).alloc (Nat.le_refl _) _⟩
set_option maxRecDepth 100000 in
theorem fn_m1 (w : World) :
    Calls Tryd.prog 18 #[.agg (oct 0 1 1 1 0 1 1 0), .int .i64 1] w fun e w' => e = .returned (.int .i64 0) ∧ Below w.heap.size w w' := by
  unfold oct
  have q0 : bits .and .i64 0 1 = 0 := by decide +kernel
  have q1 : bits .and .i64 1 1 = 1 := by decide +kernel
  have q2 : bits .or .i64 4 0 = 4 := by decide +kernel
  have q3 : bits .or .i64 4 0 = 4 := by decide +kernel
  go_enter Tryd.func18, Tryd.ntmps18
  go_wp2
  go_ret
  exact ⟨rfl, (Below.refl _ _).alloc (Nat.le_refl _) _⟩
set_option maxRecDepth 100000 in
theorem fn_m2 (w : World) :
    Calls Tryd.prog 18 #[.agg (oct 0 1 1 1 0 1 1 0), .int .i64 2] w fun e w' => e = .returned (.int .i64 1) ∧ Below w.heap.size w w' := by
  unfold oct
  have q0 : bits .and .i64 1 1 = 1 := by decide +kernel
  have q1 : bits .and .i64 2 1 = 0 := by decide +kernel
  have q2 : bits .or .i64 0 2 = 2 := by decide +kernel
  have q3 : bits .or .i64 2 0 = 2 := by decide +kernel
  go_enter Tryd.func18, Tryd.ntmps18
  go_wp2
  go_ret
  exact ⟨rfl, (Below.refl _ _).alloc (Nat.le_refl _) _⟩
set_option maxRecDepth 100000 in
theorem fn_m3 (w : World) :
    Calls Tryd.prog 18 #[.agg (oct 0 1 1 1 0 1 1 0), .int .i64 3] w fun e w' => e = .returned (.int .i64 1) ∧ Below w.heap.size w w' := by
  unfold oct
  have q0 : bits .and .i64 1 1 = 1 := by decide +kernel
  have q1 : bits .and .i64 3 1 = 1 := by decide +kernel
  have q2 : bits .or .i64 4 2 = 6 := by decide +kernel
  have q3 : bits .or .i64 6 0 = 6 := by decide +kernel
  go_enter Tryd.func18, Tryd.ntmps18
  go_wp2
  go_ret
  exact ⟨rfl, (Below.refl _ _).alloc (Nat.le_refl _) _⟩
set_option maxRecDepth 100000 in
theorem fn_m4 (w : World) :
    Calls Tryd.prog 18 #[.agg (oct 0 1 1 1 0 1 1 0), .int .i64 4] w fun e w' => e = .returned (.int .i64 1) ∧ Below w.heap.size w w' := by
  unfold oct
  have q0 : bits .and .i64 2 1 = 0 := by decide +kernel
  have q1 : bits .and .i64 4 1 = 0 := by decide +kernel
  have q2 : bits .or .i64 0 0 = 0 := by decide +kernel
  have q3 : bits .or .i64 0 1 = 1 := by decide +kernel
  go_enter Tryd.func18, Tryd.ntmps18
  go_wp2
  go_ret
  exact ⟨rfl, (Below.refl _ _).alloc (Nat.le_refl _) _⟩
set_option maxRecDepth 100000 in
theorem fn_m5 (w : World) :
    Calls Tryd.prog 18 #[.agg (oct 0 1 1 1 0 1 1 0), .int .i64 5] w fun e w' => e = .returned (.int .i64 1) ∧ Below w.heap.size w w' := by
  unfold oct
  have q0 : bits .and .i64 2 1 = 0 := by decide +kernel
  have q1 : bits .and .i64 5 1 = 1 := by decide +kernel
  have q2 : bits .or .i64 4 0 = 4 := by decide +kernel
  have q3 : bits .or .i64 4 1 = 5 := by decide +kernel
  go_enter Tryd.func18, Tryd.ntmps18
  go_wp2
  go_ret
  exact ⟨rfl, (Below.refl _ _).alloc (Nat.le_refl _) _⟩
set_option maxRecDepth 100000 in
theorem fn_m6 (w : World) :
    Calls Tryd.prog 18 #[.agg (oct 0 1 1 1 0 1 1 0), .int .i64 6] w fun e w' => e = .returned (.int .i64 1) ∧ Below w.heap.size w w' := by
  unfold oct
  have q0 : bits .and .i64 3 1 = 1 := by decide +kernel
  have q1 : bits .and .i64 6 1 = 0 := by decide +kernel
  have q2 : bits .or .i64 0 2 = 2 := by decide +kernel
  have q3 : bits .or .i64 2 1 = 3 := by decide +kernel
  go_enter Tryd.func18, Tryd.ntmps18
  go_wp2
  go_ret
  exact ⟨rfl, (Below.refl _ _).alloc (Nat.le_refl _) _⟩
set_option maxRecDepth 100000 in
theorem fn_m7 (w : World) :
    Calls Tryd.prog 18 #[.agg (oct 0 1 1 1 0 1 1 0), .int .i64 7] w fun e w' => e = .returned (.int .i64 0) ∧ Below w.heap.size w w' := by
  unfold oct
  have q0 : bits .and .i64 3 1 = 1 := by decide +kernel
  have q1 : bits .and .i64 7 1 = 1 := by decide +kernel
  have q2 : bits .or .i64 4 2 = 6 := by decide +kernel
  have q3 : bits .or .i64 6 1 = 7 := by decide +kernel
  go_enter Tryd.func18, Tryd.ntmps18
  go_wp2
  go_ret
  exact ⟨rfl, (Below.refl _ _).alloc (Nat.le_refl _) _⟩
set_option maxRecDepth 100000 in
theorem fn_c0 (w : World) :
    Calls Tryd.prog 19 #[.agg (oct 0 1 1 1 0 1 1 0), .int .i64 0] w fun e w' => e = .returned (.int .i64 1) ∧ Below w.heap.size w w' := by
  unfold oct
  go_enter Tryd.func19, Tryd.ntmps19
  go_wp2
  go_ret
  exact ⟨rfl, (Below.refl _ _).alloc (Nat.le_refl _) _⟩
set_option maxRecDepth 100000 in
theorem fn_c1 (w : World) :
    Calls Tryd.prog 19 #[.agg (oct 0 1 1 1 0 1 1 0), .int .i64 1] w fun e w' => e = .returned (.int .i64 0) ∧ Below w.heap.size w w' := by
  unfold oct
  go_enter Tryd.func19, Tryd.ntmps19
  go_wp2
  go_ret
  exact ⟨rfl, (Below.refl _ _).alloc (Nat.le_refl _) _⟩
set_option maxRecDepth 100000 in
theorem fn_c2 (w : World) :
    Calls Tryd.prog 19 #[.agg (oct 0 1 1 1 0 1 1 0), .int .i64 2] w fun e w' => e = .returned (.int .i64 0) ∧ Below w.heap.size w w' := by
  unfold oct
  go_enter Tryd.func19, Tryd.ntmps19
  go_wp2
  go_ret
  exact ⟨rfl, (Below.refl _ _).alloc (Nat.le_refl _) _⟩
set_option maxRecDepth 100000 in
theorem fn_c3 (w : World) :
    Calls Tryd.prog 19 #[.agg (oct 0 1 1 1 0 1 1 0), .int .i64 3] w fun e w' => e = .returned (.int .i64 1) ∧ Below w.heap.size w w' := by
  unfold oct
  go_enter Tryd.func19, Tryd.ntmps19
  go_wp2
  go_ret
  exact ⟨rfl, (Below.refl _ _).alloc (Nat.le_refl _) _⟩
set_option maxRecDepth 100000 in
theorem fn_c4 (w : World) :
    Calls Tryd.prog 19 #[.agg (oct 0 1 1 1 0 1 1 0), .int .i64 4] w fun e w' => e = .returned (.int .i64 0) ∧ Below w.heap.size w w' := by
  unfold oct
  go_enter Tryd.func19, Tryd.ntmps19
  go_wp2
  go_ret
  exact ⟨rfl, (Below.refl _ _).alloc (Nat.le_refl _) _⟩
set_option maxRecDepth 100000 in
theorem fn_c5 (w : World) :
    Calls Tryd.prog 19 #[.agg (oct 0 1 1 1 0 1 1 0), .int .i64 5] w fun e w' => e = .returned (.int .i64 0) ∧ Below w.heap.size w w' := by
  unfold oct
  go_enter Tryd.func19, Tryd.ntmps19
  go_wp2
  go_ret
  exact ⟨rfl, (Below.refl _ _).alloc (Nat.le_refl _) _⟩
set_option maxRecDepth 100000 in
theorem fn_c6 (w : World) :
    Calls Tryd.prog 19 #[.agg (oct 0 1 1 1 0 1 1 0), .int .i64 6] w fun e w' => e = .returned (.int .i64 0) ∧ Below w.heap.size w w' := by
  unfold oct
  go_enter Tryd.func19, Tryd.ntmps19
  go_wp2
  go_ret
  exact ⟨rfl, (Below.refl _ _).alloc (Nat.le_refl _) _⟩
set_option maxRecDepth 100000 in
theorem fn_c7 (w : World) :
    Calls Tryd.prog 19 #[.agg (oct 0 1 1 1 0 1 1 0), .int .i64 7] w fun e w' => e = .returned (.int .i64 1) ∧ Below w.heap.size w w' := by
  unfold oct
  go_enter Tryd.func19, Tryd.ntmps19
  go_wp2
  go_ret
  exact ⟨rfl, (Below.refl _ _).alloc (Nat.le_refl _) _⟩
end Go.Proofs.YtdbeomibajcecaaDoor
