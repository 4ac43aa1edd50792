/- The walks of bits.Mul and slices.Repeat at the examples. -/
import Derived.Test.YtkdcciajihoimaaUr
import Derived.LoopN
import Derived.Laws.CopyOwn
namespace Go.Proofs.Ytkdcciajihoimaa
open Go.RowKit

theorem mul64_any (S : Nat) (hS : S = 2 ∨ S = 3) (w : World) : Calls Try.prog 42 #[.int .u64 1, .int .u64 (S : Int)] w fun e w' => e = .returned (.tuple #[.int .u64 0, .int .u64 (S : Int)]) ∧ w = w' := by
  rcases hS with rfl | rfl
  all_goals
    go_enter Try.func42, Try.ntmps42
    go_wp2
    go_ret2
    exact ⟨rfl, rfl⟩
theorem mul_any (S : Nat) (hS : S = 2 ∨ S = 3) (w : World) : Calls Try.prog 36 #[.int .u64 1, .int .u64 (S : Int)] w fun e w' => e = .returned (.tuple #[.int .u64 0, .int .u64 (S : Int)]) ∧ w = w' := by
  have M := Lib.hid (mul64_any S hS w)
  go_enter Try.func36, Try.ntmps36
  go_wp2_with (go_at_call 42; (with_reducible refine M.out.mono ?_); rintro e w' ⟨rfl, rfl⟩)
  go_ret2
  exact ⟨rfl, rfl⟩
/-- a copy of one number -/
theorem copy_at (w w0 : World) (g gs off dLen dCap sLen sCap B : Nat) (cur : List Value) (k : Int) (hg : Blk w g 3 cur.toArray) (hn : Nat.min sLen dLen = 1) (hc : w.cell? ⟨gs, 0, none⟩ = some (.int .i64 k)) (hf : off + 1 ≤ cur.length) (hb : Below B w0 w) (hB : B ≤ g) :
    ∃ w2, (Builtin.copy_ #[26, 26] 3 #[.slice (some ⟨g, off, none⟩) dLen dCap, .slice (some ⟨gs, 0, none⟩) sLen sCap]).run Try.prog w = .ok (.int .i64 1) w2 ∧ Blk w2 g 3 (cur.take off ++ [Value.int .i64 k] ++ cur.drop (off + 1)).toArray ∧ Below B w0 w2 := by
  obtain ⟨i0, hi, hz0, hz1, hz2⟩ := info_parts Try.info_int
  have hsz1 : (Try.prog.info? 3).map (·.size) = some 1 := by rw [hi]; simp [hz1]
  have h := run_copy_row (P := Try.prog) w 26 26 3 3 g off dLen dCap ⟨gs, 0, none⟩ sLen sCap cur.toArray 3 [.int .i64 k] Try.underlying26 hsz1 hg (by rw [hn]; rfl)
    (fun j v hj => by match j, hj with | 0, hj => simp at hj; subst hj; exact hc) (by simpa using hf) (fun v hv => by simp at hv; subst hv; rfl)
  exact ⟨_, h, (show _ = _ from by simpa using setRow_heap w g _ _ _ _ hg), below_setRow hb hB _⟩

set_option maxRecDepth 100000 in
set_option maxHeartbeats 1000000 in
theorem rep2 (k : Int) (gx : Nat) (w : World) (hx : gx < w.heap.size) (hc : w.cell? ⟨gx, 0, none⟩ = some (.int .i64 k)) :
    Calls Try.prog 30 #[.slice (some ⟨gx, 0, none⟩) 1 1, .int .i64 2] w fun e w' => e = .returned (.slice (some ⟨w.heap.size, 0, none⟩) 2 2) ∧ Blk w' w.heap.size 3 #[.int .i64 k, .int .i64 k] ∧ Below w.heap.size w w' := by
  have M := Lib.hid (fun w => show Calls Try.prog 36 #[.int .u64 1, .int .u64 2] w fun e w' => e = .returned (.tuple #[.int .u64 0, .int .u64 2]) ∧ w = w' from mul_any 2 (by omega) w)
  have mk := fun w => show (Instr.makeSlice 26 (.int .i64 2) (.int .i64 2)).run Try.prog w = .ok (.slice (some ⟨w.heap.size, 0, none⟩) 2 2) (w.alloc (.cells (zs 2) 3)) from mk_zs (S := 2) (by omega) (by omega) w
  have G := Lib.hid (show Blk (w.alloc (.cells (zs 2) 3)) w.heap.size 3 [.int .i64 0, .int .i64 0].toArray from Blk.new w _ _)
  have B0 := Lib.hid ((Below.refl w.heap.size w).alloc (Nat.le_refl _) (.cells (zs 2) 3))
  have C0 := Lib.hid ((World.cell?_alloc_lt w (.cells (zs 2) 3) ⟨gx, 0, none⟩ hx).trans hc)
  clear hc
  go_enter Try.func30, Try.ntmps30
  go_upto_region 7 with (go_at_call 36; (with_reducible refine (M.out _).mono ?_); rintro e w' ⟨rfl, rfl⟩)
  generalize w.alloc (.cells (zs 2) 3) = w0 at *
  obtain ⟨w1, run1, G1, B1⟩ := copy_at w0 w w.heap.size gx 0 2 2 1 1 w.heap.size _ k G.out rfl C0.out (by simp) B0.out (Nat.le_refl _)
  have G1 := Lib.hid (show Blk w1 w.heap.size 3 #[.int .i64 k, .int .i64 0] from G1)
  have B1 := Lib.hid B1
  clear G B0 C0 mk M
  go_wp2
  clear run1
  refine wp_loop_rounds 2 ?_
  rw [rounds_succ]
  obtain ⟨w2, run2, G2, B2⟩ := copy_at w1.drew w w.heap.size w.heap.size 1 1 1 1 2 w.heap.size [.int .i64 k, .int .i64 0] k G1.out rfl (G1.out.cell 0) (by simp) B1.out.drew (Nat.le_refl _)
  have G2 := Lib.hid (show Blk w2 w.heap.size 3 #[.int .i64 k, .int .i64 k] from G2)
  have B2 := Lib.hid B2
  go_wp2_with fail
  go_region
  go_wp2_with fail
  clear run2 G1 B1
  rw [rounds_succ]
  go_wp2
  go_ret
  exact ⟨rfl, G2.out, B2.out⟩

set_option maxRecDepth 100000 in
set_option maxHeartbeats 1000000 in
theorem rep3 (k : Int) (gx : Nat) (w : World) (hx : gx < w.heap.size) (hc : w.cell? ⟨gx, 0, none⟩ = some (.int .i64 k)) :
    Calls Try.prog 30 #[.slice (some ⟨gx, 0, none⟩) 1 1, .int .i64 3] w fun e w' => e = .returned (.slice (some ⟨w.heap.size, 0, none⟩) 3 3) ∧ Blk w' w.heap.size 3 #[.int .i64 k, .int .i64 k, .int .i64 k] ∧ Below w.heap.size w w' := by
  have M := Lib.hid (fun w => show Calls Try.prog 36 #[.int .u64 1, .int .u64 3] w fun e w' => e = .returned (.tuple #[.int .u64 0, .int .u64 3]) ∧ w = w' from mul_any 3 (by omega) w)
  have mk := fun w => show (Instr.makeSlice 26 (.int .i64 3) (.int .i64 3)).run Try.prog w = .ok (.slice (some ⟨w.heap.size, 0, none⟩) 3 3) (w.alloc (.cells (zs 3) 3)) from mk_zs (S := 3) (by omega) (by omega) w
  have G := Lib.hid (show Blk (w.alloc (.cells (zs 3) 3)) w.heap.size 3 [.int .i64 0, .int .i64 0, .int .i64 0].toArray from Blk.new w _ _)
  have B0 := Lib.hid ((Below.refl w.heap.size w).alloc (Nat.le_refl _) (.cells (zs 3) 3))
  have C0 := Lib.hid ((World.cell?_alloc_lt w (.cells (zs 3) 3) ⟨gx, 0, none⟩ hx).trans hc)
  clear hc
  go_enter Try.func30, Try.ntmps30
  go_upto_region 7 with (go_at_call 36; (with_reducible refine (M.out _).mono ?_); rintro e w' ⟨rfl, rfl⟩)
  generalize w.alloc (.cells (zs 3) 3) = w0 at *
  obtain ⟨w1, run1, G1, B1⟩ := copy_at w0 w w.heap.size gx 0 3 3 1 1 w.heap.size _ k G.out rfl C0.out (by simp) B0.out (Nat.le_refl _)
  have G1 := Lib.hid (show Blk w1 w.heap.size 3 #[.int .i64 k, .int .i64 0, .int .i64 0] from G1)
  have B1 := Lib.hid B1
  clear G B0 C0 mk M
  go_wp2
  clear run1
  refine wp_loop_rounds 3 ?_
  rw [rounds_succ]
  obtain ⟨w2, run2, G2, B2⟩ := copy_at w1.drew w w.heap.size w.heap.size 1 2 2 1 3 w.heap.size [.int .i64 k, .int .i64 0, .int .i64 0] k G1.out rfl (G1.out.cell 0) (by simp) B1.out.drew (Nat.le_refl _)
  have G2 := Lib.hid (show Blk w2 w.heap.size 3 #[.int .i64 k, .int .i64 k, .int .i64 0] from G2)
  have B2 := Lib.hid B2
  go_wp2_with fail
  go_region
  go_wp2_with fail
  clear run2 G1 B1
  rw [rounds_succ]
  obtain ⟨w3, run3, G3, B3⟩ := copy_at w2.drew w w.heap.size w.heap.size 2 1 1 2 3 w.heap.size [.int .i64 k, .int .i64 k, .int .i64 0] k G2.out rfl (G2.out.cell 0) (by simp) B2.out.drew (Nat.le_refl _)
  have G3 := Lib.hid (show Blk w3 w.heap.size 3 #[.int .i64 k, .int .i64 k, .int .i64 k] from G3)
  have B3 := Lib.hid B3
  go_wp2_with fail
  go_region
  go_wp2_with fail
  clear run3 G2 B2
  rw [rounds_succ]
  go_wp2
  go_ret
  exact ⟨rfl, G3.out, B3.out⟩
end Go.Proofs.Ytkdcciajihoimaa
