/- The walk of the reference's Same on equal lists of numbers; the chapter's examples of Parse and Digits. -/
import Derived.Test.YtdbeomibajcecaaDoorBoth
import Derived.Test.YtdbeomibajcecaaDoorTurns
import Derived.Deep.QuietTactic
namespace Go.Proofs.YtdbeomibajcecaaDoor
open Go.RowKit

theorem below_drewN {B : Nat} {a w : World} (h : Below B a w) (n : Nat) : Below B a (w.drewN n) := ⟨h.os, h.tape, h.output, h.size, h.block⟩
set_option maxRecDepth 100000 in
set_option maxHeartbeats 1000000 in
theorem isame_yes (A A' : Option Addr) (n c c' : Nat) (l : List Int) (w : World) (h : Reads w w.heap.size A n (il l)) (h' : Reads w w.heap.size A' n (il l)) (hn : n ≤ 1000000) :
    Calls Tryd.prog 11 #[.slice A n c, .slice A' n c'] w fun e w' => e = .returned (.bool true) ∧ Below w.heap.size w w' := by
  have H := Lib.hid h
  have H' := Lib.hid h'
  clear h h'
  go_enter Tryd.func11, Tryd.ntmps11
  go_wp2
  go_loopw [5] (fun iv wr => ∃ j : Nat, j ≤ n ∧ iv = .int .i64 (j : Int) ∧ Below w.heap.size w wr) (fun iv _ => n - (intOf iv).toNat)
  case atStart => exact ⟨0, Nat.zero_le _, rfl, Below.refl _ _⟩
  case round =>
    obtain ⟨j, hj, rfl, hbel⟩ := hrel
    have HB := Lib.hid hbel
    by_cases hk : j < n
    · obtain ⟨a1, rfl, hb1, hc1⟩ := il_at (H.out.below hbel) hk
      obtain ⟨a2, rfl, hb2, hc2⟩ := il_at (H'.out.below hbel) hk
      clear hbel
      generalize ig l j = x at hc1 hc2
      go_wp2_with fail
      go_quiet (fail)
      go_wp2
      go_roundw
      case rel => exact ⟨j + 1, by omega, by go_num, below_drewN HB.out _⟩
      case measure => simp [intOf]; omega
    · obtain rfl : j = n := by omega
      clear hbel
      go_wp2
      go_ret
      exact ⟨rfl, HB.out⟩
theorem digits777 (w : World) : Calls Tryd.prog 10 #[.int .i64 3, .int .i64 777] w fun e w' => ∃ A c, e = .returned (.tuple #[.slice A 7 c, .int .i64 0]) ∧ Reads w' w'.heap.size A 7 (il [0, 1, 2, 1, 0, 0, 1]) ∧ Below w.heap.size w w' := by
  refine (digits_pos 3 777 7 w (by decide) (by decide) rfl (by decide)).mono ?_
  rintro e w' ⟨A, k, c, rfl, hr, hb⟩
  have h := hr (by decide +kernel)
  have hd : digl 3 777 7 = [0, 1, 2, 1, 0, 0, 1] := by decide +kernel
  rw [hd] at h
  obtain rfl : 7 = k := h.1
  exact ⟨A, c, by rw [if_neg (by decide +kernel)], h, hb⟩
section
variable (u : TypeId) (v : Value) (w : World) (hv : Vr u v w)
theorem parse777 (hv : Vr u v w) : Calls Tryd.prog 5 #[.string ⟨#[84, 55, 55, 55, 47, 51]⟩] w fun e w' => e = .returned (.tuple #[.int .i64 3, .int .i64 777, .bool true, .int .i64 0]) ∧ Below w.heap.size w w' := by
  have h := go_t u v [55, 55, 55] [51] w hv (by decide) (by decide +kernel) (by decide +kernel) (by decide +kernel)
  rw [show nv [55, 55, 55] = 777 by decide +kernel, show nv [51] = 3 by decide +kernel] at h
  exact h
theorem parse256 (hv : Vr u v w) : Calls Tryd.prog 5 #[.string ⟨#[87, 50, 53, 54]⟩] w fun e w' => e = .returned (.tuple #[.int .i64 0, .int .i64 0, .bool false, .int .i64 5]) ∧ Below w.heap.size w w' :=
  go_w5 u v [50, 53, 54] w hv (by decide) (by decide +kernel) (by decide +kernel)
theorem parse030 (hv : Vr u v w) : Calls Tryd.prog 5 #[.string ⟨#[87, 48, 51, 48]⟩] w fun e w' => e = .returned (.tuple #[.int .i64 0, .int .i64 0, .bool false, .int .i64 15]) ∧ Below w.heap.size w w' :=
  go_syn u v [87, 48, 51, 48] [48, 51, 48] [50] false w hv (by decide) (by decide) (by decide +kernel) (divide_w [48, 51, 48] w (by decide))
end
end Go.Proofs.YtdbeomibajcecaaDoor
