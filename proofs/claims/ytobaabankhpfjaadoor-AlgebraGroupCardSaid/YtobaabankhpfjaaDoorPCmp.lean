/- The walk of Compare. -/
import Derived.Test.YtobaabankhpfjaaDoorCom
import Derived.Test.YtobaabankhpfjaaDoorCmp
namespace Go.Proofs.YtobaabankhpfjaaDoor
open Go.RowKit

section
variable (A A' : Option Addr) (n m c c' : Nat) (f g : Nat → C3) (w : World)
set_option maxHeartbeats 1000000 in
theorem compare_any (h : CReads w w.heap.size A n f) (h' : CReads w w.heap.size A' m g) (hn : n ≤ 1000000) (hm : m ≤ 1000000) :
    Calls Tryd.prog 54 #[.slice A n c, .slice A' m c'] w fun e w' => e = .returned (.int .i64 (cl f n g m)) ∧ Below w.heap.size w w' := by
  have C := Lib.hid (common_any A A' n m c c' w.heap.size f g w h h' hn hm (Nat.le_refl _))
  have G := Lib.hid (fun w => cmp_any n m w)
  have H := Lib.hid h
  have H' := Lib.hid h'
  have L := com_le f n g m
  unfold cl
  generalize com f n g m = k at C L ⊢
  obtain ⟨L1, L2⟩ := L
  clear h h'
  by_cases e1 : k = n
  · subst e1
    rw [if_pos (Or.inl rfl)]
    go_enter Tryd.func54, Tryd.ntmps54
    go_wp2_with (first
      | (go_at_call 66; (with_reducible refine C.out.mono ?_); rintro e w' ⟨rfl, hb⟩; have HB := Lib.hid hb; clear hb)
      | (go_at_call 55; (with_reducible refine (G.out _).mono ?_); rintro e w' ⟨rfl, rfl⟩))
    go_ret
    exact ⟨rfl, HB.out⟩
  · have hz1 : ((k : Int) == (n : Int)) = false := by rw [beq_eq_false_iff_ne]; omega
    by_cases e2 : k = m
    · subst e2
      rw [if_pos (Or.inr rfl)]
      clear e1
      go_enter Tryd.func54, Tryd.ntmps54
      go_wp2_with (first
        | (go_at_call 66; (with_reducible refine C.out.mono ?_); rintro e w' ⟨rfl, hb⟩; have HB := Lib.hid hb; clear hb)
        | (go_at_call 55; (with_reducible refine (G.out _).mono ?_); rintro e w' ⟨rfl, rfl⟩))
      go_ret
      exact ⟨rfl, HB.out⟩
    · rw [if_neg (by rintro (h | h) <;> contradiction)]
      have hz2 : ((k : Int) == (m : Int)) = false := by rw [beq_eq_false_iff_ne]; omega
      have l1 : k < n := by omega
      have l2 : k < m := by omega
      clear e1 e2
      obtain ⟨g1, o1, rfl, hb1, hc1⟩ := H.out (by omega)
      obtain ⟨g2, o2, rfl, hb2, hc2⟩ := H'.out (by omega)
      have P1 := Lib.hid (fun w => places_any (f k) (g k) w)
      have P2 := Lib.hid (fun w => cmp_any (f k).2.2 (g k).2.2 w)
      have c1 := hc1 k l1
      have c2 := hc2 k l2
      unfold cc
      generalize cp (f k) (g k) = r at P1 ⊢
      generalize f k = x at c1 P1 P2 ⊢
      generalize g k = y at c2 P1 P2 ⊢
      obtain ⟨x1, x2, x3⟩ := x
      obtain ⟨y1, y2, y3⟩ := y
      clear hc1 hc2 H H'
      go_enter Tryd.func54, Tryd.ntmps54
      go_wp2_with (go_at_call 66; (with_reducible refine C.out.mono ?_); rintro e w' ⟨rfl, hb⟩; have HB := Lib.hid hb; clear hb)
      have k10 := fun p : LowW w.heap.size w => LowW.cell (a := ⟨g1, o1 + k * 3, none⟩) hb1 c1.1 p
      have k11 := fun p : LowW w.heap.size w => LowW.cell (a := ⟨g1, o1 + k * 3 + 1, none⟩) hb1 c1.2.1 p
      have k12 := fun p : LowW w.heap.size w => LowW.cell (a := ⟨g1, o1 + k * 3 + 2, none⟩) hb1 c1.2.2 p
      have k20 := fun p : LowW w.heap.size w => LowW.cell (a := ⟨g2, o2 + k * 3, none⟩) hb2 c2.1 p
      have k21 := fun p : LowW w.heap.size w => LowW.cell (a := ⟨g2, o2 + k * 3 + 1, none⟩) hb2 c2.2.1 p
      have k22 := fun p : LowW w.heap.size w => LowW.cell (a := ⟨g2, o2 + k * 3 + 2, none⟩) hb2 c2.2.2 p
      clear c1 c2
      refine wp_region_low_tail w.heap.size w 20 (by kernel_rfl) (by kernel_rfl) HB.out ?_
      simp only [List.take_succ_cons, List.take_zero, List.drop_succ_cons, List.drop_zero]
      repeat (quiet_step (first | (go_at_call 38; with_reducible exact LowW.of_call _ (Nat.le_refl _) (P1.out _)) | (go_at_call 55; with_reducible exact LowW.of_call _ (Nat.le_refl _) (below_quiet (P2.out _)))))
      refine wpQuiet_nil ?_
      rintro w1 ⟨p, rfl⟩
      have PB := Lib.hid p.below
      clear k10 k11 k12 k20 k21 k22
      generalize p.w = w1 at PB ⊢
      go_wp2_with (go_at_call 30; refine (or_any _ _ _ 3 _ (Blk.new _ _ _)).mono ?_; rintro e w2 ⟨rfl, rfl⟩)
      go_ret
      exact ⟨rfl, PB.out.alloc PB.out.size _⟩
end
end Go.Proofs.YtobaabankhpfjaaDoor
