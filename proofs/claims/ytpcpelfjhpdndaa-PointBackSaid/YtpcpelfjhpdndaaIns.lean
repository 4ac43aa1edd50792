/- The walks of the sort's functions at the chapter's list of three positions. -/
import Derived.Test.YtpcpelfjhpdndaaCmp
import Derived.Lib.BitFns
namespace Go.Proofs.Ytpcpelfjhpdndaa
open Go.RowKit

/-- block g begins with these six numbers, none frozen -/
def Row6 (w : World) (g : Nat) (a b c d e f : Int) : Prop :=
  g < w.heap.size ∧ (∀ j, w.frozen? ⟨g, j, none⟩ = false) ∧ w.cell? ⟨g, 0, none⟩ = some (.int .i64 a) ∧ w.cell? ⟨g, 1, none⟩ = some (.int .i64 b) ∧ w.cell? ⟨g, 2, none⟩ = some (.int .i64 c) ∧ w.cell? ⟨g, 3, none⟩ = some (.int .i64 d) ∧
  w.cell? ⟨g, 4, none⟩ = some (.int .i64 e) ∧ w.cell? ⟨g, 5, none⟩ = some (.int .i64 f)
section
variable {w w' : World} {B g : Nat} {a b c d e f : Int}
theorem Row6.below (h : Row6 w g a b c d e f) (hb : Below B w w') (hg : g < B) : Row6 w' g a b c d e f :=
  ⟨Nat.lt_of_lt_of_le h.1 hb.size, fun j => (hb.frozen hg).trans (h.2.1 j), (hb.cell hg).trans h.2.2.1, (hb.cell hg).trans h.2.2.2.1, (hb.cell hg).trans h.2.2.2.2.1, (hb.cell hg).trans h.2.2.2.2.2.1, (hb.cell hg).trans h.2.2.2.2.2.2.1, (hb.cell hg).trans h.2.2.2.2.2.2.2⟩
theorem Row6.drew (h : Row6 w g a b c d e f) : Row6 w.drew g a b c d e f := h
end
theorem Row6.swap {w : World} {g : Nat} {a b c d e f : Int} (h : Row6 w g a b c d e f) :
    Row6 ((((w.setCell ⟨g, 2, none⟩ (.int .i64 a)).setCell ⟨g, 3, none⟩ (.int .i64 b)).setCell ⟨g, 0, none⟩ (.int .i64 c)).setCell ⟨g, 1, none⟩ (.int .i64 d)).drew g c d a b e f := by
  obtain ⟨l0, l1, l2, l3, l4, l5, l6, l7⟩ := h
  refine ⟨by simpa [World.setCell] using l0, fun j => ?_, ?_, ?_, ?_, ?_, ?_, ?_⟩
  · simpa using l1 j
  all_goals simp [go_sem, l0, l1, l2, l3, l4, l5, l6, l7]


theorem len_three (w : World) : Calls Try.prog 30 #[.int .u64 3] w fun e w' => ∃ l : Int, e = .returned (.int .i64 l) ∧ w = w' := by
  have h : Calls Try.prog 41 #[.int .u64 3] w fun e w' => ∃ l : Int, e = .returned (.int .i64 l) ∧ w = w' := by
    go_enter Try.func41, Try.ntmps41
    go_wp2
    go_ret
    exact ⟨_, rfl, rfl⟩
  go_enter Try.func30, Try.ntmps30
  go_wp2_with (go_at_call 41; refine h.mono ?_; rintro e w' ⟨l, rfl, rfl⟩)
  go_ret
  exact ⟨_, rfl, rfl⟩

set_option maxRecDepth 100000 in
set_option maxHeartbeats 1000000 in
theorem ins_ex (g c : Nat) (w : World) (h : Row6 w g 2 1 5 0 2 1) :
    Calls Try.prog 32 #[.slice (some ⟨g, 0, none⟩) 3 c, .int .i64 0, .int .i64 3, .func (.func 14) #[] #[]] w fun e w' => e = .returned (.tuple #[]) ∧ Row6 w' g 5 0 2 1 2 1 ∧ Below g w w' := by
  have H := Lib.hid h
  have k0 := fun p : LowW w.heap.size w => (H.out.below p.below H.out.1).2.2.1
  have k1 := fun p : LowW w.heap.size w => (H.out.below p.below H.out.1).2.2.2.1
  have k2 := fun p : LowW w.heap.size w => (H.out.below p.below H.out.1).2.2.2.2.1
  have k3 := fun p : LowW w.heap.size w => (H.out.below p.below H.out.1).2.2.2.2.2.1
  have hw0 : IntKind.i64.wrap 0 = 0 := by decide
  have hw1 : IntKind.i64.wrap 1 = 1 := by decide
  have c1 := Lib.hid compare_less
  have c2 := Lib.hid compare_same
  clear h
  go_enter Try.func32, Try.ntmps32
  go_wp2
  refine wp_loop_rounds 3 ?_
  rw [rounds_succ]
  go_wp2
  refine wp_loop_rounds 2 ?_
  rw [rounds_succ]
  go_wp2_with fail
  refine wp_region_low w.heap.size w (by kernel_rfl) (by kernel_rfl) (Below.refl _ _) ?_
  repeat (quiet_step (first | (go_at_call 14; with_reducible exact LowW.of_call _ (Nat.le_refl _) (c1.out _))))
  refine wpQuiet_nil ?_
  rintro w' ⟨p, rfl⟩
  have H1 := H.out.below p.below H.out.1
  have B1 := Lib.hid (p.below.mono (Nat.le_of_lt H.out.1))
  clear k0 k1 k2 k3
  generalize p.w = w1 at H1 B1 ⊢
  obtain ⟨l0, l1, l2, l3, l4, l5, l6, l7⟩ := H1
  have l1a := l1 0
  have l1b := l1 1
  have l1c := l1 2
  have l1d := l1 3
  go_wp2_with fail
  go_region
  have H2 := Row6.swap ⟨l0, l1, l2, l3, l4, l5, l6, l7⟩
  have B2 := Lib.hid (((((B1.out.setCell (p := ⟨g, 2, none⟩) (Nat.le_refl _) (.int .i64 2)).setCell (p := ⟨g, 3, none⟩) (Nat.le_refl _) (.int .i64 1)).setCell (p := ⟨g, 0, none⟩) (Nat.le_refl _) (.int .i64 5)).setCell (p := ⟨g, 1, none⟩) (Nat.le_refl _) (.int .i64 0)).drew)
  clear l0 l1 l2 l3 l4 l5 l6 l7 l1a l1b l1c l1d
  generalize ((((w1.setCell ⟨g, 2, none⟩ (.int .i64 2)).setCell ⟨g, 3, none⟩ (.int .i64 1)).setCell ⟨g, 0, none⟩ (.int .i64 5)).setCell ⟨g, 1, none⟩ (.int .i64 0)).drew = w2 at H2 B2 ⊢
  go_wp2
  rw [rounds_succ]
  go_wp2_with fail
  have H3 := Lib.hid H2.drew
  have B3 := Lib.hid B2.out.drew
  clear H2 B2
  go_region
  generalize w2.drew = w3 at H3 B3 ⊢
  go_wp2
  rw [rounds_succ]
  go_wp2
  refine wp_loop_rounds 1 ?_
  rw [rounds_succ]
  have k0 := fun p : LowW w3.heap.size w3 => (H3.out.below p.below H3.out.1).2.2.2.2.1
  have k1 := fun p : LowW w3.heap.size w3 => (H3.out.below p.below H3.out.1).2.2.2.2.2.1
  have k2 := fun p : LowW w3.heap.size w3 => (H3.out.below p.below H3.out.1).2.2.2.2.2.2.1
  have k3 := fun p : LowW w3.heap.size w3 => (H3.out.below p.below H3.out.1).2.2.2.2.2.2.2
  go_wp2_with fail
  refine wp_region_low w3.heap.size w3 (by kernel_rfl) (by kernel_rfl) (Below.refl _ _) ?_
  repeat (quiet_step (first | (go_at_call 14; with_reducible exact LowW.of_call _ (Nat.le_refl _) (c2.out _))))
  refine wpQuiet_nil ?_
  rintro w' ⟨p3, rfl⟩
  have H4 := Lib.hid (H3.out.below p3.below H3.out.1)
  have B4 := Lib.hid (B3.out.trans (p3.below.mono (Nat.le_of_lt H3.out.1)))
  clear k0 k1 k2 k3
  generalize p3.w = w4 at H4 B4 ⊢
  go_wp2
  rw [rounds_succ]
  go_wp2
  go_end0
  exact ⟨rfl, H4.out, B4.out⟩
end Go.Proofs.Ytpcpelfjhpdndaa
