/- The walk of Sort on a row of at most eight numbers without repetition. -/
import Derived.Test.YthjamghemmanfaaDoorIns
import Derived.Lib.BitFns
import Derived.Lib.SliceRun
namespace Go.Proofs.YthjamghemmanfaaDoor
open Go.RowKit

theorem len_eight (n : Nat) (w : World) (h : n ≤ 8) : Calls Tryd.prog 41 #[.int .u64 (n : Nat)] w fun e w' => (∃ l : Int, e = .returned (.int .i64 l)) ∧ w = w' := by
  have h64 : Calls Tryd.prog 54 #[.int .u64 (n : Nat)] w fun e w' => (∃ l : Int, e = .returned (.int .i64 l)) ∧ w = w' := by
    have hc : n = 0 ∨ n = 1 ∨ n = 2 ∨ n = 3 ∨ n = 4 ∨ n = 5 ∨ n = 6 ∨ n = 7 ∨ n = 8 := by omega
    rcases hc with rfl | rfl | rfl | rfl | rfl | rfl | rfl | rfl | rfl
    all_goals
      go_enter Tryd.func54, Tryd.ntmps54
      go_wp2
      go_ret
      exact ⟨⟨_, rfl⟩, rfl⟩
  have H := Lib.hid h64
  clear h64
  go_enter Tryd.func41, Tryd.ntmps41
  go_wp2_with (go_at_call 54; refine H.out.mono ?_; rintro e w' ⟨⟨l, rfl⟩, rfl⟩)
  go_ret
  exact ⟨⟨_, rfl⟩, rfl⟩

theorem pdq_any (g c n : Nat) (l : Int) (f0 : Nat → Nat) (w : World) (h : Row w g n f0) (hn : n ≤ 8) (hinj : ∀ p q, p < n → q < n → f0 p = f0 q → p = q) :
    Calls Tryd.prog 40 #[.slice (some ⟨g, 0, none⟩) n c, .int .i64 0, .int .i64 (n : Nat), .int .i64 l] w fun e w' => e = .returned (.tuple #[]) ∧ (∃ f, Row w' g n f ∧ Mix n f0 f ∧ Asc n f) ∧ Below g w w' := by
  have hi := Lib.hid (ins_any g c n f0 w h hn hinj)
  clear h hinj
  go_enter Tryd.func40, Tryd.ntmps40
  go_wp2
  refine wp_loop_rounds 1 ?_
  rw [rounds_succ]
  go_wp2_with (go_at_call 44; (with_reducible refine hi.out.mono ?_); rintro e w' ⟨rfl, h1, h2⟩; have H1 := Lib.hid h1; have H2 := Lib.hid h2; clear h1 h2)
  (try simp only [Exit.inBlock, Exit.then])
  refine bodyPost_ret (results_none rfl _ _ _) rfl ?_
  exact ⟨rfl, H1.out, H2.out⟩

theorem sort_any (g c n : Nat) (f0 : Nat → Nat) (w : World) (h : Row w g n f0) (hn : n ≤ 8) (hinj : ∀ p q, p < n → q < n → f0 p = f0 q → p = q) :
    Calls Tryd.prog 24 #[.slice (some ⟨g, 0, none⟩) n c] w fun e w' => e = .returned (.tuple #[]) ∧ (∃ f, Row w' g n f ∧ Mix n f0 f ∧ Asc n f) ∧ Below g w w' := by
  have hp := Lib.hid (fun l => pdq_any g c n l f0 w h hn hinj)
  have L := Lib.hid (fun w => len_eight n w hn)
  clear h hinj
  go_enter Tryd.func24, Tryd.ntmps24
  go_wp2_with (first | (go_at_call 41; refine (L.out _).mono ?_; rintro e w' ⟨⟨l, rfl⟩, rfl⟩) | (go_at_call 40; (with_reducible refine (hp.out _).mono ?_); rintro e w' ⟨rfl, h1, h2⟩; have H1 := Lib.hid h1; have H2 := Lib.hid h2; clear h1 h2))
  go_end0
  exact ⟨rfl, H1.out, H2.out⟩
end Go.Proofs.YthjamghemmanfaaDoor
