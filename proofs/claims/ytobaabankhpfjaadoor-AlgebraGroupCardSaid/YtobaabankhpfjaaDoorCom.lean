/- The walk of common. -/
import Derived.Test.YtobaabankhpfjaaDoorCell
import Derived.BigQuiet
namespace Go.Proofs.YtobaabankhpfjaaDoor
open Go.RowKit

section
variable (A A' : Option Addr) (n m c c' B : Nat) (f g : Nat → C3) (w : World)
set_option maxHeartbeats 1000000 in
theorem common_any (h : CReads w B A n f) (h' : CReads w B A' m g) (hn : n ≤ 1000000) (hm : m ≤ 1000000) (hB : B ≤ w.heap.size) :
    Calls Tryd.prog 66 #[.slice A n c, .slice A' m c'] w fun e w' => e = .returned (.int .i64 (com f n g m : Nat)) ∧ Below w.heap.size w w' := by
  have H := Lib.hid h
  have H' := Lib.hid h'
  have L := com_le f n g m
  have E := Lib.hid (com_eq f n g m)
  have N := Lib.hid (com_ne f n g m)
  generalize com f n g m = k at L E N ⊢
  obtain ⟨L1, L2⟩ := L
  clear h h'
  go_enter Tryd.func66, Tryd.ntmps66
  go_wp2
  go_loopw [5] (fun iv wr => ∃ j : Nat, j ≤ k ∧ iv = .int .i64 (j : Int) ∧ Below w.heap.size w wr) (fun iv _ => k - (intOf iv).toNat)
  case atStart => exact ⟨0, Nat.zero_le _, rfl, Below.refl _ _⟩
  case round =>
    obtain ⟨j, hj, rfl, hbel⟩ := hrel
    have R := H.out.below (hbel.mono hB)
    have R' := H'.out.below (hbel.mono hB)
    have HB := Lib.hid hbel
    clear hbel
    by_cases hk : j < k
    · obtain ⟨g1, o1, rfl, hb1, hc1⟩ := R (by omega)
      obtain ⟨g2, o2, rfl, hb2, hc2⟩ := R' (by omega)
      obtain ⟨c10, c11, c12⟩ := hc1 j (by omega)
      obtain ⟨c20, c21, c22⟩ := hc2 j (by omega)
      have d1 : decide (j < n) = true := by rw [decide_eq_true_iff]; omega
      have d2 : decide (j < m) = true := by rw [decide_eq_true_iff]; omega
      rw [← E.out j hk] at c20 c21 c22
      clear hc1 hc2 R R'
      generalize f j = x at c10 c11 c12 c20 c21 c22
      go_wp2_with fail
      go_quiet (fail)
      go_wp2
      go_roundw
      case rel => exact ⟨j + 1, by omega, by go_num, below_drewN HB.out _⟩
      case measure => simp [intOf]; omega
    · obtain rfl : j = k := by omega
      clear hk
      by_cases h1 : j < n
      · have d1 : decide (j < n) = true := by rw [decide_eq_true_iff]; omega
        by_cases h2 : j < m
        · have d2 : decide (j < m) = true := by rw [decide_eq_true_iff]; omega
          obtain ⟨g1, o1, rfl, hb1, hc1⟩ := R (by omega)
          obtain ⟨g2, o2, rfl, hb2, hc2⟩ := R' (by omega)
          obtain ⟨c10, c11, c12⟩ := hc1 j (by omega)
          obtain ⟨c20, c21, c22⟩ := hc2 j (by omega)
          have hne := N.out h1 h2
          clear hc1 hc2 R R'
          obtain ⟨⟨x1, x2, x3⟩, hx⟩ : ∃ x, x = f j := ⟨_, rfl⟩
          obtain ⟨⟨y1, y2, y3⟩, hy⟩ : ∃ y, y = g j := ⟨_, rfl⟩
          rw [← hx] at c10 c11 c12 hne
          rw [← hy] at c20 c21 c22 hne
          clear hx hy
          by_cases e1 : x1 = y1
          · subst e1
            by_cases e2 : x2 = y2
            · subst e2
              have e3 : (x3 == y3) = false := by rw [beq_eq_false_iff_ne]; intro e; exact hne (by rw [e])
              clear hne
              go_wp2_with fail
              go_quiet (fail)
              go_wp2
              go_ret
              exact ⟨rfl, below_drewN HB.out _⟩
            · have e2 : (x2 == y2) = false := by rw [beq_eq_false_iff_ne]; exact e2
              clear hne
              go_wp2_with fail
              go_quiet (fail)
              go_wp2
              go_ret
              exact ⟨rfl, below_drewN HB.out _⟩
          · have e1 : (x1 == y1) = false := by rw [beq_eq_false_iff_ne]; exact e1
            clear hne
            go_wp2_with fail
            go_quiet (fail)
            go_wp2
            go_ret
            exact ⟨rfl, below_drewN HB.out _⟩
        · have d2 : decide (j < m) = false := by rw [decide_eq_false_iff_not]; omega
          clear R R'
          go_wp2_with fail
          go_quiet (fail)
          go_wp2
          go_ret
          exact ⟨rfl, below_drewN HB.out _⟩
      · have d1 : decide (j < n) = false := by rw [decide_eq_false_iff_not]; omega
        clear R R'
        go_wp2_with fail
        go_quiet (fail)
        go_wp2
        go_ret
        exact ⟨rfl, below_drewN HB.out _⟩
end
end Go.Proofs.YtobaabankhpfjaaDoor
