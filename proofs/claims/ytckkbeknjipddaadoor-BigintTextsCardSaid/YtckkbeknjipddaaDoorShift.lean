/- The walks of shiftUp and shiftDown at the examples of the chapter. -/
import Derived.Test.YtckkbeknjipddaaDoorAdd
namespace Go.Proofs.YtckkbeknjipddaaDoor
open Go.RowKit

set_option maxRecDepth 100000 in
set_option maxHeartbeats 1000000 in
theorem shiftUp_one (A : Option Addr) (c B : Nat) (w : World) (h : Reads w B A 1 (u32s [1])) (hB : B ≤ w.heap.size) :
    Calls Tryd.prog 31 #[.slice A 1 c, .int .i64 64] w fun e w' => ∃ g, e = .returned (.slice (some ⟨g, 0, none⟩) 4 4) ∧
      w'.ownsRow w.heap.size 42 1 (.slice (some ⟨g, 0, none⟩) 4 4) 4 (u32s [0, 0, 1, 0]) ∧ Below w.heap.size w w' := by
  obtain ⟨i0, hi, hz0, hz1, hz2⟩ := info_parts Tryd.info_u32
  obtain ⟨ad, rfl, had, hc0⟩ := u32s_at h (k := 0) (by omega)
  have HC0 := Lib.hid hc0
  clear hc0
  go_enter Tryd.func31, Tryd.ntmps31
  go_wp2_with (at_make; refine wpList_make_full _ rfl _ _ 22 rfl w.heap.size 42 i0 (.int .u32 0) 1 Tryd.underlying22 hi hz0 hz1 .i64 .i64 _ _ 4 rfl rfl rfl rfl (by rw [hz2]; omega) (by unfold maxLen; omega) (Nat.le_refl _) ?_; intro w1 hown1 hgrow1)
  rw [made_u32] at hown1
  have hbel : Below w.heap.size w w1 := (Below.refl _ _).grown hgrow1 (Nat.le_refl _) (fun k hk => by cases hk)
  have hc0 : w1.cell? ad = some (.int .u32 1) := by
    have := (hbel.cell (p := ad.add 0) (by rw [block_of_add]; omega)).trans HC0.out
    simpa [Addr.add] using this
  have hc2 := own_cell hown1 (k := 2) (by omega)
  have hc3 := own_cell hown1 (k := 3) (by omega)
  have hf2 : w1.frozen? ⟨w.heap.size, 2, none⟩ = false := hown1.frozenAt 2
  have hf3 : w1.frozen? ⟨w.heap.size, 3, none⟩ = false := hown1.frozenAt 3
  refine wp_loop_rounds 2 ?_
  rw [rounds_succ]
  go_wp2
  rw [rounds_succ]
  go_wp2
  go_ret
  have hs := ((hown1.stored 2 (.int .u32 ((1 : Nat) : Int))).1.stored 3 (.int .u32 ((0 : Nat) : Int))).1
  rw [u32s_set, u32s_set] at hs
  exact ⟨w.heap.size, rfl, hs, (hbel.setCell (p := ⟨w.heap.size, 2, none⟩) (Nat.le_refl _) _).setCell (p := ⟨w.heap.size, 3, none⟩) (Nat.le_refl _) _⟩

set_option maxRecDepth 100000 in
theorem shiftDown_far (A : Option Addr) (c : Nat) (w : World) :
    Calls Tryd.prog 32 #[.slice A 1 c, .int .i64 1000] w fun e w' => ∃ g, e = .returned (.slice (some ⟨g, 0, none⟩) 0 0) ∧ Below w.heap.size w w' := by
  obtain ⟨i0, hi, hz0, hz1, hz2⟩ := info_parts Tryd.info_u32
  go_enter Tryd.func32, Tryd.ntmps32
  go_wp2_with (at_make; refine wpList_make_full _ rfl _ _ 22 rfl w.heap.size 42 i0 (.int .u32 0) 1 Tryd.underlying22 hi hz0 hz1 .i64 .i64 _ _ 0 rfl rfl rfl rfl (by rw [hz2]; omega) (by unfold maxLen; omega) (Nat.le_refl _) ?_; intro w1 hown1 hgrow1)
  have hbel : Below w.heap.size w w1 := (Below.refl _ _).grown hgrow1 (Nat.le_refl _) (fun k hk => by cases hk)
  refine wp_loop_rounds 1 ?_
  rw [rounds_succ]
  go_wp2
  go_ret
  exact ⟨w.heap.size, rfl, hbel⟩

/-- compare at two lengths that differ -/
theorem compare_int (x y : Int) (w : World) (h : y < x) : Calls Tryd.prog 48 #[.int .i64 x, .int .i64 y] w fun e w' => e = .returned (.int .i64 1) ∧ w = w' := by
  go_enter Tryd.func48, Tryd.ntmps48
  go_wp2_with (go_in)
  go_ret
  exact ⟨rfl, rfl⟩
theorem compare_len (A1 A2 : Option Addr) (n m c1 c2 : Nat) (w : World) (h : m < n) (hn : n ≤ 1000) :
    Calls Tryd.prog 36 #[.slice A1 n c1, .slice A2 m c2] w fun e w' => e = .returned (.int .i64 1) ∧ w = w' := by
  have hne : ((n : Int) != (m : Int)) = true := by rw [bne_iff_ne]; omega
  go_enter Tryd.func36, Tryd.ntmps36
  go_wp2_with (go_at_call 48; refine (compare_int _ _ _ (by omega)).mono ?_; rintro e w' ⟨rfl, rfl⟩)
  go_ret
  exact ⟨rfl, rfl⟩

end Go.Proofs.YtckkbeknjipddaaDoor
