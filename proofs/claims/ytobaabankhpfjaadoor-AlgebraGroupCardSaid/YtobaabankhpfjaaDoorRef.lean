/- The walks of the reference's Compare and Same at equal lists. -/
import Derived.Test.YtobaabankhpfjaaDoorCom
import Derived.LoopN
namespace Go.Proofs.YtobaabankhpfjaaDoor
open Go.RowKit

theorem order_same (a : Int) (w : World) : Calls Tryd.prog 41 #[.int .i64 a, .int .i64 a] w fun e w' => e = .returned (.int .i64 0) ∧ w = w' := by
  go_enter Tryd.func41, Tryd.ntmps41
  go_wp2
  go_ret
  exact ⟨rfl, rfl⟩
section
variable (A A' : Option Addr) (n c c' : Nat) (f g : Nat → C3) (w : World)
set_option maxRecDepth 100000 in
set_option maxHeartbeats 1000000 in
theorem rcompare_same (h : CReads w w.heap.size A n f) (h' : CReads w w.heap.size A' n g) (hn : n ≤ 1000000) (hfg : ∀ i, i < n → f i = g i) :
    Calls Tryd.prog 23 #[.slice A n c, .slice A' n c'] w fun e w' => e = .returned (.int .i64 0) ∧ Below w.heap.size w w' := by
  have H := Lib.hid h
  have H' := Lib.hid h'
  have E := Lib.hid hfg
  have O := Lib.hid (fun w => order_same n w)
  clear h h' hfg
  go_enter Tryd.func23, Tryd.ntmps23
  go_wp2
  go_loopw [5] (fun iv wr => ∃ j : Nat, j ≤ n ∧ iv = .int .i64 (j : Int) ∧ Below w.heap.size w wr) (fun iv _ => n - (intOf iv).toNat)
  case atStart => exact ⟨0, Nat.zero_le _, rfl, Below.refl _ _⟩
  case round =>
    obtain ⟨j, hj, rfl, hbel⟩ := hrel
    have R := H.out.below hbel
    have R' := H'.out.below hbel
    have HB := Lib.hid hbel
    clear hbel
    by_cases hk : j < n
    · obtain ⟨g1, o1, rfl, hb1, hc1⟩ := R (by omega)
      obtain ⟨g2, o2, rfl, hb2, hc2⟩ := R' (by omega)
      obtain ⟨c10, c11, c12⟩ := hc1 j (by omega)
      obtain ⟨c20, c21, c22⟩ := hc2 j (by omega)
      rw [← E.out j hk] at c20 c21 c22
      clear hc1 hc2 R R'
      generalize f j = x at c10 c11 c12 c20 c21 c22
      go_wp2_with fail
      go_quiet (fail)
      go_wp2_with fail
      go_quiet (fail)
      go_wp2_with fail
      go_quiet (fail)
      go_wp2
      go_roundw
      case rel => exact ⟨j + 1, by omega, by go_num, below_drewN HB.out _⟩
      case measure => simp [intOf]; omega
    · obtain rfl : j = n := by omega
      clear hk R R'
      go_wp2_with (go_at_call 41; (with_reducible refine (O.out _).mono ?_); rintro e w' ⟨rfl, rfl⟩)
      go_ret
      exact ⟨rfl, HB.out⟩
theorem rsame_yes (h : CReads w w.heap.size A n f) (h' : CReads w w.heap.size A' n g) (hn : n ≤ 1000000) (hfg : ∀ i, i < n → f i = g i) :
    Calls Tryd.prog 9 #[.slice A n c, .slice A' n c'] w fun e w' => e = .returned (.bool true) ∧ Below w.heap.size w w' := by
  have C := Lib.hid (rcompare_same A A' n c c' f g w h h' hn hfg)
  clear h h' hfg
  go_enter Tryd.func9, Tryd.ntmps9
  go_wp2_with (go_at_call 23; (with_reducible refine C.out.mono ?_); rintro e w' ⟨rfl, hb⟩; have HB := Lib.hid hb; clear hb)
  go_ret
  exact ⟨rfl, HB.out⟩
end

end Go.Proofs.YtobaabankhpfjaaDoor
