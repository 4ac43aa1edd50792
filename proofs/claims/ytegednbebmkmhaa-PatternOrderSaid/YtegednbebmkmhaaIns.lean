/- The walks of the sort's functions at two cells. -/
import Derived.Test.YtegednbebmkmhaaCmp
import Derived.Lib.BitFns
namespace Go.Proofs.Ytegednbebmkmhaa
open Go.RowKit

/-- block g begins with these two cells, none frozen -/
def Row2 (w : World) (g : Nat) (a b : C3) : Prop :=
  g < w.heap.size ∧ (∀ j, w.frozen? ⟨g, j, none⟩ = false) ∧ w.cell? ⟨g, 0, none⟩ = some (.int .i64 a.1) ∧ w.cell? ⟨g, 1, none⟩ = some (.int .i64 a.2.1) ∧ w.cell? ⟨g, 2, none⟩ = some (.int .i64 a.2.2) ∧
  w.cell? ⟨g, 3, none⟩ = some (.int .i64 b.1) ∧ w.cell? ⟨g, 4, none⟩ = some (.int .i64 b.2.1) ∧ w.cell? ⟨g, 5, none⟩ = some (.int .i64 b.2.2)
section
variable {w w' : World} {B g : Nat} {a b : C3}
theorem Row2.below (h : Row2 w g a b) (hb : Below B w w') (hg : g < B) : Row2 w' g a b :=
  ⟨Nat.lt_of_lt_of_le h.1 hb.size, fun j => (hb.frozen hg).trans (h.2.1 j), (hb.cell hg).trans h.2.2.1, (hb.cell hg).trans h.2.2.2.1, (hb.cell hg).trans h.2.2.2.2.1, (hb.cell hg).trans h.2.2.2.2.2.1, (hb.cell hg).trans h.2.2.2.2.2.2.1, (hb.cell hg).trans h.2.2.2.2.2.2.2⟩
theorem Row2.drew (h : Row2 w g a b) : Row2 w.drew g a b := h
end
theorem Row2.swap {w : World} {g : Nat} {a b : C3} (h : Row2 w g a b) :
    Row2 ((((((w.setCell ⟨g, 3, none⟩ (.int .i64 a.1)).setCell ⟨g, 4, none⟩ (.int .i64 a.2.1)).setCell ⟨g, 5, none⟩ (.int .i64 a.2.2)).setCell ⟨g, 0, none⟩ (.int .i64 b.1)).setCell ⟨g, 1, none⟩ (.int .i64 b.2.1)).setCell ⟨g, 2, none⟩ (.int .i64 b.2.2)).drew g b a := by
  obtain ⟨l0, l1, l2, l3, l4, l5, l6, l7⟩ := h
  refine ⟨by simpa [World.setCell] using l0, fun j => ?_, ?_, ?_, ?_, ?_, ?_, ?_⟩
  · simpa using l1 j
  all_goals simp [go_sem, l0, l1, l2, l3, l4, l5, l6, l7]
theorem len_two (w : World) : Calls Try.prog 33 #[.int .u64 2] w fun e w' => ∃ l : Int, e = .returned (.int .i64 l) ∧ w = w' := by
  have h : Calls Try.prog 50 #[.int .u64 2] w fun e w' => ∃ l : Int, e = .returned (.int .i64 l) ∧ w = w' := by
    go_enter Try.func50, Try.ntmps50
    go_wp2
    go_ret
    exact ⟨_, rfl, rfl⟩
  go_enter Try.func33, Try.ntmps33
  go_wp2_with (go_at_call 50; refine h.mono ?_; rintro e w' ⟨l, rfl, rfl⟩)
  go_ret
  exact ⟨_, rfl, rfl⟩

set_option maxRecDepth 100000 in
set_option maxHeartbeats 1000000 in
/-- two cells, the second one before the first -/
theorem ins_swap (g c : Nat) (a b : C3) (w : World) (h : Row2 w g a b) (hc : cp b a < 0) :
    Calls Try.prog 41 #[.slice (some ⟨g, 0, none⟩) 2 c, .int .i64 0, .int .i64 2, .func (.func 19) #[] #[]] w fun e w' => e = .returned (.tuple #[]) ∧ Row2 w' g b a ∧ Below g w w' := by
  have P := fun w => places_any b a w
  generalize cp b a = r at P hc
  obtain ⟨a1, a2, a3⟩ := a
  obtain ⟨b1, b2, b3⟩ := b
  have P := Lib.hid P
  have H := Lib.hid h
  have k0 := fun p : LowW w.heap.size w => (H.out.below p.below H.out.1).2.2.1
  have k1 := fun p : LowW w.heap.size w => (H.out.below p.below H.out.1).2.2.2.1
  have k2 := fun p : LowW w.heap.size w => (H.out.below p.below H.out.1).2.2.2.2.1
  have k3 := fun p : LowW w.heap.size w => (H.out.below p.below H.out.1).2.2.2.2.2.1
  have k4 := fun p : LowW w.heap.size w => (H.out.below p.below H.out.1).2.2.2.2.2.2.1
  have k5 := fun p : LowW w.heap.size w => (H.out.below p.below H.out.1).2.2.2.2.2.2.2
  have hw0 : IntKind.i64.wrap 0 = 0 := by decide
  clear h
  go_enter Try.func41, Try.ntmps41
  go_wp2
  refine wp_loop_rounds 2 ?_
  rw [rounds_succ]
  go_wp2
  refine wp_loop_rounds 2 ?_
  rw [rounds_succ]
  go_wp2_with fail
  refine wp_region_low w.heap.size w (by kernel_rfl) (by kernel_rfl) (Below.refl _ _) ?_
  repeat (quiet_step (first | (go_at_call 19; with_reducible exact LowW.of_call _ (Nat.le_refl _) (P.out _))))
  refine wpQuiet_nil ?_
  rintro w' ⟨p, rfl⟩
  have H1 := H.out.below p.below H.out.1
  have B1 := Lib.hid (p.below.mono (Nat.le_of_lt H.out.1))
  clear k0 k1 k2 k3 k4 k5
  generalize p.w = w1 at H1 B1 ⊢
  obtain ⟨l0, l1, l2, l3, l4, l5, l6, l7⟩ := H1
  have l1a := l1 0
  have l1b := l1 1
  have l1c := l1 2
  have l1d := l1 3
  have l1e := l1 4
  have l1f := l1 5
  go_wp2_with fail
  go_region
  have H2 := Row2.swap (a := (a1, a2, a3)) (b := (b1, b2, b3)) ⟨l0, l1, l2, l3, l4, l5, l6, l7⟩
  have B2 := Lib.hid (((((((B1.out.setCell (p := ⟨g, 3, none⟩) (Nat.le_refl _) (.int .i64 a1)).setCell (p := ⟨g, 4, none⟩) (Nat.le_refl _) (.int .i64 a2)).setCell (p := ⟨g, 5, none⟩) (Nat.le_refl _) (.int .i64 a3)).setCell (p := ⟨g, 0, none⟩) (Nat.le_refl _) (.int .i64 b1)).setCell (p := ⟨g, 1, none⟩) (Nat.le_refl _) (.int .i64 b2)).setCell (p := ⟨g, 2, none⟩) (Nat.le_refl _) (.int .i64 b3)).drew)
  clear l0 l1 l2 l3 l4 l5 l6 l7 l1a l1b l1c l1d l1e l1f
  simp only at H2
  generalize ((((((w1.setCell ⟨g, 3, none⟩ (.int .i64 a1)).setCell ⟨g, 4, none⟩ (.int .i64 a2)).setCell ⟨g, 5, none⟩ (.int .i64 a3)).setCell ⟨g, 0, none⟩ (.int .i64 b1)).setCell ⟨g, 1, none⟩ (.int .i64 b2)).setCell ⟨g, 2, none⟩ (.int .i64 b3)).drew = w2 at H2 B2 ⊢
  go_wp2
  rw [rounds_succ]
  go_wp2_with fail
  have H3 := Lib.hid H2.drew
  have B3 := Lib.hid B2.out.drew
  clear H2 B2
  go_region
  generalize w2.drew = w3 at H3 B3 ⊢
  go_wp2
  rw [rounds_succ]
  go_wp2
  go_end0
  exact ⟨rfl, H3.out, B3.out⟩
set_option maxRecDepth 100000 in
set_option maxHeartbeats 1000000 in
/-- two cells, the second one not before the first -/
theorem ins_stay (g c : Nat) (a b : C3) (w : World) (h : Row2 w g a b) (hc : 0 ≤ cp b a) :
    Calls Try.prog 41 #[.slice (some ⟨g, 0, none⟩) 2 c, .int .i64 0, .int .i64 2, .func (.func 19) #[] #[]] w fun e w' => e = .returned (.tuple #[]) ∧ Row2 w' g a b ∧ Below g w w' := by
  have P := fun w => places_any b a w
  generalize cp b a = r at P hc
  have hc2 : ¬ r < 0 := by omega
  obtain ⟨a1, a2, a3⟩ := a
  obtain ⟨b1, b2, b3⟩ := b
  have P := Lib.hid P
  have H := Lib.hid h
  have k0 := fun p : LowW w.heap.size w => (H.out.below p.below H.out.1).2.2.1
  have k1 := fun p : LowW w.heap.size w => (H.out.below p.below H.out.1).2.2.2.1
  have k2 := fun p : LowW w.heap.size w => (H.out.below p.below H.out.1).2.2.2.2.1
  have k3 := fun p : LowW w.heap.size w => (H.out.below p.below H.out.1).2.2.2.2.2.1
  have k4 := fun p : LowW w.heap.size w => (H.out.below p.below H.out.1).2.2.2.2.2.2.1
  have k5 := fun p : LowW w.heap.size w => (H.out.below p.below H.out.1).2.2.2.2.2.2.2
  have hw0 : IntKind.i64.wrap 0 = 0 := by decide
  clear h
  go_enter Try.func41, Try.ntmps41
  go_wp2
  refine wp_loop_rounds 2 ?_
  rw [rounds_succ]
  go_wp2
  refine wp_loop_rounds 1 ?_
  rw [rounds_succ]
  go_wp2_with fail
  refine wp_region_low w.heap.size w (by kernel_rfl) (by kernel_rfl) (Below.refl _ _) ?_
  repeat (quiet_step (first | (go_at_call 19; with_reducible exact LowW.of_call _ (Nat.le_refl _) (P.out _))))
  refine wpQuiet_nil ?_
  rintro w' ⟨p, rfl⟩
  have H1 := Lib.hid (H.out.below p.below H.out.1)
  have B1 := Lib.hid (p.below.mono (Nat.le_of_lt H.out.1))
  clear k0 k1 k2 k3 k4 k5
  generalize p.w = w1 at H1 B1 ⊢
  go_wp2
  rw [rounds_succ]
  go_wp2
  go_end0
  exact ⟨rfl, H1.out, B1.out⟩

/-- two cells sorted -/
theorem pdq_by (g c : Nat) (l : Int) (x y : C3) (w : World)
    (hi : Calls Try.prog 41 #[.slice (some ⟨g, 0, none⟩) 2 c, .int .i64 0, .int .i64 2, .func (.func 19) #[] #[]] w fun e w' => e = .returned (.tuple #[]) ∧ Row2 w' g x y ∧ Below g w w') :
    Calls Try.prog 32 #[.slice (some ⟨g, 0, none⟩) 2 c, .int .i64 0, .int .i64 2, .int .i64 l, .func (.func 19) #[] #[]] w fun e w' => e = .returned (.tuple #[]) ∧ Row2 w' g x y ∧ Below g w w' := by
  have hi := Lib.hid hi
  go_enter Try.func32, Try.ntmps32
  go_wp2
  refine wp_loop_rounds 1 ?_
  rw [rounds_succ]
  go_wp2_with (go_at_call 41; (with_reducible refine hi.out.mono ?_); rintro e w' ⟨rfl, h1, h2⟩; have H1 := Lib.hid h1; have H2 := Lib.hid h2; clear h1 h2)
  (try simp only [Exit.inBlock, Exit.then])
  refine bodyPost_ret (results_none rfl _ _ _) rfl ?_
  exact ⟨rfl, H1.out, H2.out⟩
theorem sortf_by (g c : Nat) (x y : C3) (w : World)
    (hi : Calls Try.prog 41 #[.slice (some ⟨g, 0, none⟩) 2 c, .int .i64 0, .int .i64 2, .func (.func 19) #[] #[]] w fun e w' => e = .returned (.tuple #[]) ∧ Row2 w' g x y ∧ Below g w w') :
    Calls Try.prog 23 #[.slice (some ⟨g, 0, none⟩) 2 c, .func (.func 19) #[] #[]] w fun e w' => e = .returned (.tuple #[]) ∧ Row2 w' g x y ∧ Below g w w' := by
  have hp := Lib.hid (fun l => pdq_by g c l x y w hi)
  clear hi
  go_enter Try.func23, Try.ntmps23
  go_wp2_with (first | (go_at_call 33; refine (len_two _).mono ?_; rintro e w' ⟨l, rfl, rfl⟩) | (go_at_call 32; (with_reducible refine (hp.out _).mono ?_); rintro e w' ⟨rfl, h1, h2⟩; have H1 := Lib.hid h1; have H2 := Lib.hid h2; clear h1 h2))
  go_end0
  exact ⟨rfl, H1.out, H2.out⟩
theorem sortf_swap (g c : Nat) (a b : C3) (w : World) (h : Row2 w g a b) (hc : cp b a < 0) :
    Calls Try.prog 23 #[.slice (some ⟨g, 0, none⟩) 2 c, .func (.func 19) #[] #[]] w fun e w' => e = .returned (.tuple #[]) ∧ Row2 w' g b a ∧ Below g w w' :=
  sortf_by g c b a w (ins_swap g c a b w h hc)
theorem sortf_stay (g c : Nat) (a b : C3) (w : World) (h : Row2 w g a b) (hc : 0 ≤ cp b a) :
    Calls Try.prog 23 #[.slice (some ⟨g, 0, none⟩) 2 c, .func (.func 19) #[] #[]] w fun e w' => e = .returned (.tuple #[]) ∧ Row2 w' g a b ∧ Below g w w' :=
  sortf_by g c a b w (ins_stay g c a b w h hc)
end Go.Proofs.Ytegednbebmkmhaa
