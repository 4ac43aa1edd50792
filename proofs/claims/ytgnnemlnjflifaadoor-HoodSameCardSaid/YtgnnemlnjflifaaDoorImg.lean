/- The walks of Compact and point.Sort on positions that are all different, and of image. -/
import Derived.Test.YtgnnemlnjflifaaDoorClone
import Derived.Test.YtgnnemlnjflifaaDoorSort
import Derived.Test.YtgnnemlnjflifaaDoorApp
namespace Go.Proofs.YtgnnemlnjflifaaDoor
open Go.RowKit

set_option maxRecDepth 100000 in
set_option maxHeartbeats 1000000 in
theorem compact_any (A : Option Addr) (n c : Nat) (f : Nat → P2) (w : World) (h : QReads w w.heap.size A n f) (hn : n ≤ 5000) (hne : ∀ i, i + 1 < n → f i ≠ f (i + 1)) :
    Calls Tryd.prog 38 #[.slice A n c] w fun e w' => e = .returned (.slice A n c) ∧ Below w.heap.size w w' := by
  have H := Lib.hid h
  have HN := Lib.hid hne
  clear h hne
  by_cases h2 : n < 2
  · go_enter Tryd.func38, Tryd.ntmps38
    go_wp2
    go_ret
    exact ⟨rfl, Below.refl _ _⟩
  · go_enter Tryd.func38, Tryd.ntmps38
    go_wp2
    go_loopw [3] (fun iv wr => ∃ j : Nat, 1 ≤ j ∧ j ≤ n ∧ iv = .int .i64 (j : Int) ∧ Below w.heap.size w wr) (fun iv _ => n - (intOf iv).toNat)
    case atStart => exact ⟨1, Nat.le_refl _, by omega, rfl, Below.refl _ _⟩
    case round =>
      obtain ⟨j, hj1, hj, rfl, hbel⟩ := hrel
      have R := H.out.below hbel
      have HB := Lib.hid hbel
      clear hbel
      by_cases hjn : j < n
      · obtain ⟨i, hi⟩ : ∃ i, j = i + 1 := ⟨j - 1, by omega⟩
        have hin : i < n := by omega
        have e1 : (j : Int) - 1 = (i : Int) := by omega
        have hw1 : IntKind.i64.wrap ((j : Int) - 1) = (i : Int) := by rw [e1]; exact IntWalk.i64_in _ (by omega)
        obtain ⟨g1, o1, rfl, hb1, hc1⟩ := R (by omega)
        obtain ⟨c10, c11⟩ := hc1 j hjn
        obtain ⟨c20, c21⟩ := hc1 i hin
        have hne := HN.out i (by omega)
        rw [← hi] at hne
        obtain ⟨⟨x1, x2⟩, hx⟩ : ∃ x, x = f j := ⟨_, rfl⟩
        obtain ⟨⟨y1, y2⟩, hy⟩ : ∃ y, y = f i := ⟨_, rfl⟩
        rw [← hx] at c10 c11 hne
        rw [← hy] at c20 c21 hne
        simp only at c10 c11 c20 c21
        clear hx hy hc1 R hi e1
        by_cases e1 : x1 = y1
        · subst e1
          have e2 : (x2 == y2) = false := by rw [beq_eq_false_iff_ne]; intro e; exact hne (by rw [e])
          clear hne
          go_wp2_with fail
          go_quiet (fail)
          clear hw1
          go_wp2
          go_roundw
          case rel => exact ⟨j + 1, by omega, by omega, by go_num, below_drewN HB.out _⟩
          case measure => simp [intOf]; omega
        · have e1 : (x1 == y1) = false := by rw [beq_eq_false_iff_ne]; exact e1
          clear hne
          go_wp2_with fail
          go_quiet (fail)
          clear hw1
          go_wp2
          go_roundw
          case rel => exact ⟨j + 1, by omega, by omega, by go_num, below_drewN HB.out _⟩
          case measure => simp [intOf]; omega
      · obtain rfl : j = n := by omega
        clear R
        go_wp2
        go_ret
        exact ⟨rfl, HB.out⟩
theorem psort_any (A : Option Addr) (n c : Nat) (f : Nat → P2) (w : World) (h : QReads w w.heap.size A n f) (hn0 : 1 ≤ n) (hn : n ≤ 5000) (hap : ∀ i j, i < j → j < n → f i ≠ f j) :
    Calls Tryd.prog 32 #[.slice A n c] w fun e w' => ∃ A' c' f', e = .returned (.slice A' n c') ∧ QReads w' w'.heap.size A' n f' ∧ (lst f' n).Perm (lst f n) ∧ Up f' n ∧ Below w.heap.size w w' := by
  have CL := Lib.hid (clone_any A n c f w h hn)
  have ST := Lib.hid (fun g c base e (w : World) (h : w.ownsRow base e 2 (.slice (some ⟨g, 0, none⟩) n c) n (cells2 f n)) => sortf_any g c n base e f w h (by omega) hap)
  clear h hap
  go_enter Tryd.func32, Tryd.ntmps32
  go_wp2_with (first
    | (go_at_call 36; (with_reducible refine CL.out.mono ?_); rintro e w1 ⟨A', c', rfl, hown, hb⟩; have B1 := Lib.hid hb; obtain ⟨g, cc, hv, hg, hs5⟩ := hown.form (by omega); injection hv with hv1 hv2 hv3; subst hv1 hv3; have hb5 := (hown.lt g rfl).1; have S1 := Lib.hid (ST.out _ _ _ _ _ hown); clear hb hown hv2)
    | (go_at_call 37; (with_reducible refine S1.out.mono ?_); rintro e w2 ⟨rfl, f', h1, h2, h3, h4⟩; have R5 := Lib.hid h1; have P5 := Lib.hid h2; have U5 := Lib.hid h3; have B2 := Lib.hid (B1.out.trans (h4.mono hb5)); have CP := Lib.hid (compact_any (some ⟨g, 0, none⟩) n c' f' w2 h1 hn (fun i hi e => by have := h3 i (i + 1) (by omega) hi; rw [e, pc_lt] at this; omega)); clear h1 h2 h3 h4)
    | (go_at_call 38; (with_reducible refine CP.out.mono ?_); rintro e w3 ⟨rfl, hb⟩; have R6 := Lib.hid (R5.out.later hb); have B3 := Lib.hid (B2.out.trans (hb.mono B2.out.size)); clear hb))
  go_ret
  exact ⟨_, _, f', rfl, R6.out, P5.out, U5.out, B3.out⟩
end Go.Proofs.YtgnnemlnjflifaaDoor
