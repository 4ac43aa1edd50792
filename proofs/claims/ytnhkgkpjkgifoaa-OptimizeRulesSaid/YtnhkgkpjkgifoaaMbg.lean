/- The walk of State at one, two or three truth values. -/
/- Blocks laid one after the other. -/
/- The walk of the law. -/
import Derived.Test.YtnhkgkpjkgifoaaMbe
import Derived.Test.YtnhkgkpjkgifoaaMaw
import Derived.Test.YtnhkgkpjkgifoaaMaf
namespace Go.Proofs.Ytnhkgkpjkgifoaa
open Go.RowKit

theorem lsa_0 (B cI : Nat) (ad : Addr) (w : World) (h : Reads w B (some ad) 1 (bl [false])) : Calls Try.prog 13 #[.slice (some ad) 1 cI] w fun e w' => e = .returned (.int .i64 0) ∧ w = w' := by
  have c0 : w.cell? (ad.add 0) = some (.bool false) := by obtain ⟨ad', e, _, hc⟩ := bl_at h (show 0 < 1 by decide); injection e with e; subst e; exact hc
  have c0 : w.cell? ad = some (.bool false) := by simpa [Addr.add] using c0
  obtain ⟨g, o, rfl⟩ : ∃ g o, ad = ⟨g, o, none⟩ := ⟨_, _, spot_of_cell c0⟩
  have c0 : w.cell? ⟨g, o, none⟩ = some (.bool false) := c0
  clear h
  go_enter Try.func13, Try.ntmps13
  go_wp2_with fail
  refine wp_loop_rounds 2 ?_
  rw [rounds_succ]
  go_wp2
  rw [rounds_succ]
  go_wp2
  go_ret
  exact ⟨rfl, rfl⟩
theorem lsa_1 (B cI : Nat) (ad : Addr) (w : World) (h : Reads w B (some ad) 1 (bl [true])) : Calls Try.prog 13 #[.slice (some ad) 1 cI] w fun e w' => e = .returned (.int .i64 1) ∧ w = w' := by
  have c0 : w.cell? (ad.add 0) = some (.bool true) := by obtain ⟨ad', e, _, hc⟩ := bl_at h (show 0 < 1 by decide); injection e with e; subst e; exact hc
  have c0 : w.cell? ad = some (.bool true) := by simpa [Addr.add] using c0
  obtain ⟨g, o, rfl⟩ : ∃ g o, ad = ⟨g, o, none⟩ := ⟨_, _, spot_of_cell c0⟩
  have c0 : w.cell? ⟨g, o, none⟩ = some (.bool true) := c0
  clear h
  go_enter Try.func13, Try.ntmps13
  go_wp2_with fail
  refine wp_loop_rounds 2 ?_
  rw [rounds_succ]
  go_wp2
  rw [rounds_succ]
  go_wp2
  go_ret
  exact ⟨rfl, rfl⟩
theorem lsa_00 (B cI : Nat) (ad : Addr) (w : World) (h : Reads w B (some ad) 2 (bl [false, false])) : Calls Try.prog 13 #[.slice (some ad) 2 cI] w fun e w' => e = .returned (.int .i64 0) ∧ w = w' := by
  have c0 : w.cell? (ad.add 0) = some (.bool false) := by obtain ⟨ad', e, _, hc⟩ := bl_at h (show 0 < 2 by decide); injection e with e; subst e; exact hc
  have c1 : w.cell? (ad.add 1) = some (.bool false) := by obtain ⟨ad', e, _, hc⟩ := bl_at h (show 1 < 2 by decide); injection e with e; subst e; exact hc
  have c0 : w.cell? ad = some (.bool false) := by simpa [Addr.add] using c0
  obtain ⟨g, o, rfl⟩ : ∃ g o, ad = ⟨g, o, none⟩ := ⟨_, _, spot_of_cell c0⟩
  have c0 : w.cell? ⟨g, o, none⟩ = some (.bool false) := c0
  have c1 : w.cell? ⟨g, o + 1, none⟩ = some (.bool false) := by simpa [Addr.add] using c1
  clear h
  go_enter Try.func13, Try.ntmps13
  go_wp2_with fail
  refine wp_loop_rounds 3 ?_
  rw [rounds_succ]
  go_wp2
  rw [rounds_succ]
  go_wp2
  rw [rounds_succ]
  go_wp2
  go_ret
  exact ⟨rfl, rfl⟩
theorem lsa_01 (B cI : Nat) (ad : Addr) (w : World) (h : Reads w B (some ad) 2 (bl [false, true])) : Calls Try.prog 13 #[.slice (some ad) 2 cI] w fun e w' => e = .returned (.int .i64 2) ∧ w = w' := by
  have c0 : w.cell? (ad.add 0) = some (.bool false) := by obtain ⟨ad', e, _, hc⟩ := bl_at h (show 0 < 2 by decide); injection e with e; subst e; exact hc
  have c1 : w.cell? (ad.add 1) = some (.bool true) := by obtain ⟨ad', e, _, hc⟩ := bl_at h (show 1 < 2 by decide); injection e with e; subst e; exact hc
  have c0 : w.cell? ad = some (.bool false) := by simpa [Addr.add] using c0
  obtain ⟨g, o, rfl⟩ : ∃ g o, ad = ⟨g, o, none⟩ := ⟨_, _, spot_of_cell c0⟩
  have c0 : w.cell? ⟨g, o, none⟩ = some (.bool false) := c0
  have c1 : w.cell? ⟨g, o + 1, none⟩ = some (.bool true) := by simpa [Addr.add] using c1
  clear h
  go_enter Try.func13, Try.ntmps13
  go_wp2_with fail
  refine wp_loop_rounds 3 ?_
  rw [rounds_succ]
  go_wp2
  rw [rounds_succ]
  go_wp2
  rw [rounds_succ]
  go_wp2
  go_ret
  exact ⟨rfl, rfl⟩
theorem lsa_10 (B cI : Nat) (ad : Addr) (w : World) (h : Reads w B (some ad) 2 (bl [true, false])) : Calls Try.prog 13 #[.slice (some ad) 2 cI] w fun e w' => e = .returned (.int .i64 1) ∧ w = w' := by
  have c0 : w.cell? (ad.add 0) = some (.bool true) := by obtain ⟨ad', e, _, hc⟩ := bl_at h (show 0 < 2 by decide); injection e with e; subst e; exact hc
  have c1 : w.cell? (ad.add 1) = some (.bool false) := by obtain ⟨ad', e, _, hc⟩ := bl_at h (show 1 < 2 by decide); injection e with e; subst e; exact hc
  have c0 : w.cell? ad = some (.bool true) := by simpa [Addr.add] using c0
  obtain ⟨g, o, rfl⟩ : ∃ g o, ad = ⟨g, o, none⟩ := ⟨_, _, spot_of_cell c0⟩
  have c0 : w.cell? ⟨g, o, none⟩ = some (.bool true) := c0
  have c1 : w.cell? ⟨g, o + 1, none⟩ = some (.bool false) := by simpa [Addr.add] using c1
  clear h
  go_enter Try.func13, Try.ntmps13
  go_wp2_with fail
  refine wp_loop_rounds 3 ?_
  rw [rounds_succ]
  go_wp2
  rw [rounds_succ]
  go_wp2
  rw [rounds_succ]
  go_wp2
  go_ret
  exact ⟨rfl, rfl⟩
theorem lsa_11 (B cI : Nat) (ad : Addr) (w : World) (h : Reads w B (some ad) 2 (bl [true, true])) : Calls Try.prog 13 #[.slice (some ad) 2 cI] w fun e w' => e = .returned (.int .i64 3) ∧ w = w' := by
  have c0 : w.cell? (ad.add 0) = some (.bool true) := by obtain ⟨ad', e, _, hc⟩ := bl_at h (show 0 < 2 by decide); injection e with e; subst e; exact hc
  have c1 : w.cell? (ad.add 1) = some (.bool true) := by obtain ⟨ad', e, _, hc⟩ := bl_at h (show 1 < 2 by decide); injection e with e; subst e; exact hc
  have c0 : w.cell? ad = some (.bool true) := by simpa [Addr.add] using c0
  obtain ⟨g, o, rfl⟩ : ∃ g o, ad = ⟨g, o, none⟩ := ⟨_, _, spot_of_cell c0⟩
  have c0 : w.cell? ⟨g, o, none⟩ = some (.bool true) := c0
  have c1 : w.cell? ⟨g, o + 1, none⟩ = some (.bool true) := by simpa [Addr.add] using c1
  clear h
  go_enter Try.func13, Try.ntmps13
  go_wp2_with fail
  refine wp_loop_rounds 3 ?_
  rw [rounds_succ]
  go_wp2
  rw [rounds_succ]
  go_wp2
  rw [rounds_succ]
  go_wp2
  go_ret
  exact ⟨rfl, rfl⟩
theorem lsa_000 (B cI : Nat) (ad : Addr) (w : World) (h : Reads w B (some ad) 3 (bl [false, false, false])) : Calls Try.prog 13 #[.slice (some ad) 3 cI] w fun e w' => e = .returned (.int .i64 0) ∧ w = w' := by
  have c0 : w.cell? (ad.add 0) = some (.bool false) := by obtain ⟨ad', e, _, hc⟩ := bl_at h (show 0 < 3 by decide); injection e with e; subst e; exact hc
  have c1 : w.cell? (ad.add 1) = some (.bool false) := by obtain ⟨ad', e, _, hc⟩ := bl_at h (show 1 < 3 by decide); injection e with e; subst e; exact hc
  have c2 : w.cell? (ad.add 2) = some (.bool false) := by obtain ⟨ad', e, _, hc⟩ := bl_at h (show 2 < 3 by decide); injection e with e; subst e; exact hc
  have c0 : w.cell? ad = some (.bool false) := by simpa [Addr.add] using c0
  obtain ⟨g, o, rfl⟩ : ∃ g o, ad = ⟨g, o, none⟩ := ⟨_, _, spot_of_cell c0⟩
  have c0 : w.cell? ⟨g, o, none⟩ = some (.bool false) := c0
  have c1 : w.cell? ⟨g, o + 1, none⟩ = some (.bool false) := by simpa [Addr.add] using c1
  have c2 : w.cell? ⟨g, o + 2, none⟩ = some (.bool false) := by simpa [Addr.add] using c2
  clear h
  go_enter Try.func13, Try.ntmps13
  go_wp2_with fail
  refine wp_loop_rounds 4 ?_
  rw [rounds_succ]
  go_wp2
  rw [rounds_succ]
  go_wp2
  rw [rounds_succ]
  go_wp2
  rw [rounds_succ]
  go_wp2
  go_ret
  exact ⟨rfl, rfl⟩
theorem lsa_001 (B cI : Nat) (ad : Addr) (w : World) (h : Reads w B (some ad) 3 (bl [false, false, true])) : Calls Try.prog 13 #[.slice (some ad) 3 cI] w fun e w' => e = .returned (.int .i64 4) ∧ w = w' := by
  have c0 : w.cell? (ad.add 0) = some (.bool false) := by obtain ⟨ad', e, _, hc⟩ := bl_at h (show 0 < 3 by decide); injection e with e; subst e; exact hc
  have c1 : w.cell? (ad.add 1) = some (.bool false) := by obtain ⟨ad', e, _, hc⟩ := bl_at h (show 1 < 3 by decide); injection e with e; subst e; exact hc
  have c2 : w.cell? (ad.add 2) = some (.bool true) := by obtain ⟨ad', e, _, hc⟩ := bl_at h (show 2 < 3 by decide); injection e with e; subst e; exact hc
  have c0 : w.cell? ad = some (.bool false) := by simpa [Addr.add] using c0
  obtain ⟨g, o, rfl⟩ : ∃ g o, ad = ⟨g, o, none⟩ := ⟨_, _, spot_of_cell c0⟩
  have c0 : w.cell? ⟨g, o, none⟩ = some (.bool false) := c0
  have c1 : w.cell? ⟨g, o + 1, none⟩ = some (.bool false) := by simpa [Addr.add] using c1
  have c2 : w.cell? ⟨g, o + 2, none⟩ = some (.bool true) := by simpa [Addr.add] using c2
  clear h
  go_enter Try.func13, Try.ntmps13
  go_wp2_with fail
  refine wp_loop_rounds 4 ?_
  rw [rounds_succ]
  go_wp2
  rw [rounds_succ]
  go_wp2
  rw [rounds_succ]
  go_wp2
  rw [rounds_succ]
  go_wp2
  go_ret
  exact ⟨rfl, rfl⟩
theorem lsa_010 (B cI : Nat) (ad : Addr) (w : World) (h : Reads w B (some ad) 3 (bl [false, true, false])) : Calls Try.prog 13 #[.slice (some ad) 3 cI] w fun e w' => e = .returned (.int .i64 2) ∧ w = w' := by
  have c0 : w.cell? (ad.add 0) = some (.bool false) := by obtain ⟨ad', e, _, hc⟩ := bl_at h (show 0 < 3 by decide); injection e with e; subst e; exact hc
  have c1 : w.cell? (ad.add 1) = some (.bool true) := by obtain ⟨ad', e, _, hc⟩ := bl_at h (show 1 < 3 by decide); injection e with e; subst e; exact hc
  have c2 : w.cell? (ad.add 2) = some (.bool false) := by obtain ⟨ad', e, _, hc⟩ := bl_at h (show 2 < 3 by decide); injection e with e; subst e; exact hc
  have c0 : w.cell? ad = some (.bool false) := by simpa [Addr.add] using c0
  obtain ⟨g, o, rfl⟩ : ∃ g o, ad = ⟨g, o, none⟩ := ⟨_, _, spot_of_cell c0⟩
  have c0 : w.cell? ⟨g, o, none⟩ = some (.bool false) := c0
  have c1 : w.cell? ⟨g, o + 1, none⟩ = some (.bool true) := by simpa [Addr.add] using c1
  have c2 : w.cell? ⟨g, o + 2, none⟩ = some (.bool false) := by simpa [Addr.add] using c2
  clear h
  go_enter Try.func13, Try.ntmps13
  go_wp2_with fail
  refine wp_loop_rounds 4 ?_
  rw [rounds_succ]
  go_wp2
  rw [rounds_succ]
  go_wp2
  rw [rounds_succ]
  go_wp2
  rw [rounds_succ]
  go_wp2
  go_ret
  exact ⟨rfl, rfl⟩
theorem lsa_011 (B cI : Nat) (ad : Addr) (w : World) (h : Reads w B (some ad) 3 (bl [false, true, true])) : Calls Try.prog 13 #[.slice (some ad) 3 cI] w fun e w' => e = .returned (.int .i64 6) ∧ w = w' := by
  have c0 : w.cell? (ad.add 0) = some (.bool false) := by obtain ⟨ad', e, _, hc⟩ := bl_at h (show 0 < 3 by decide); injection e with e; subst e; exact hc
  have c1 : w.cell? (ad.add 1) = some (.bool true) := by obtain ⟨ad', e, _, hc⟩ := bl_at h (show 1 < 3 by decide); injection e with e; subst e; exact hc
  have c2 : w.cell? (ad.add 2) = some (.bool true) := by obtain ⟨ad', e, _, hc⟩ := bl_at h (show 2 < 3 by decide); injection e with e; subst e; exact hc
  have c0 : w.cell? ad = some (.bool false) := by simpa [Addr.add] using c0
  obtain ⟨g, o, rfl⟩ : ∃ g o, ad = ⟨g, o, none⟩ := ⟨_, _, spot_of_cell c0⟩
  have c0 : w.cell? ⟨g, o, none⟩ = some (.bool false) := c0
  have c1 : w.cell? ⟨g, o + 1, none⟩ = some (.bool true) := by simpa [Addr.add] using c1
  have c2 : w.cell? ⟨g, o + 2, none⟩ = some (.bool true) := by simpa [Addr.add] using c2
  clear h
  go_enter Try.func13, Try.ntmps13
  go_wp2_with fail
  refine wp_loop_rounds 4 ?_
  rw [rounds_succ]
  go_wp2
  rw [rounds_succ]
  go_wp2
  rw [rounds_succ]
  go_wp2
  rw [rounds_succ]
  go_wp2
  go_ret
  exact ⟨rfl, rfl⟩
theorem lsa_100 (B cI : Nat) (ad : Addr) (w : World) (h : Reads w B (some ad) 3 (bl [true, false, false])) : Calls Try.prog 13 #[.slice (some ad) 3 cI] w fun e w' => e = .returned (.int .i64 1) ∧ w = w' := by
  have c0 : w.cell? (ad.add 0) = some (.bool true) := by obtain ⟨ad', e, _, hc⟩ := bl_at h (show 0 < 3 by decide); injection e with e; subst e; exact hc
  have c1 : w.cell? (ad.add 1) = some (.bool false) := by obtain ⟨ad', e, _, hc⟩ := bl_at h (show 1 < 3 by decide); injection e with e; subst e; exact hc
  have c2 : w.cell? (ad.add 2) = some (.bool false) := by obtain ⟨ad', e, _, hc⟩ := bl_at h (show 2 < 3 by decide); injection e with e; subst e; exact hc
  have c0 : w.cell? ad = some (.bool true) := by simpa [Addr.add] using c0
  obtain ⟨g, o, rfl⟩ : ∃ g o, ad = ⟨g, o, none⟩ := ⟨_, _, spot_of_cell c0⟩
  have c0 : w.cell? ⟨g, o, none⟩ = some (.bool true) := c0
  have c1 : w.cell? ⟨g, o + 1, none⟩ = some (.bool false) := by simpa [Addr.add] using c1
  have c2 : w.cell? ⟨g, o + 2, none⟩ = some (.bool false) := by simpa [Addr.add] using c2
  clear h
  go_enter Try.func13, Try.ntmps13
  go_wp2_with fail
  refine wp_loop_rounds 4 ?_
  rw [rounds_succ]
  go_wp2
  rw [rounds_succ]
  go_wp2
  rw [rounds_succ]
  go_wp2
  rw [rounds_succ]
  go_wp2
  go_ret
  exact ⟨rfl, rfl⟩
theorem lsa_101 (B cI : Nat) (ad : Addr) (w : World) (h : Reads w B (some ad) 3 (bl [true, false, true])) : Calls Try.prog 13 #[.slice (some ad) 3 cI] w fun e w' => e = .returned (.int .i64 5) ∧ w = w' := by
  have c0 : w.cell? (ad.add 0) = some (.bool true) := by obtain ⟨ad', e, _, hc⟩ := bl_at h (show 0 < 3 by decide); injection e with e; subst e; exact hc
  have c1 : w.cell? (ad.add 1) = some (.bool false) := by obtain ⟨ad', e, _, hc⟩ := bl_at h (show 1 < 3 by decide); injection e with e; subst e; exact hc
  have c2 : w.cell? (ad.add 2) = some (.bool true) := by obtain ⟨ad', e, _, hc⟩ := bl_at h (show 2 < 3 by decide); injection e with e; subst e; exact hc
  have c0 : w.cell? ad = some (.bool true) := by simpa [Addr.add] using c0
  obtain ⟨g, o, rfl⟩ : ∃ g o, ad = ⟨g, o, none⟩ := ⟨_, _, spot_of_cell c0⟩
  have c0 : w.cell? ⟨g, o, none⟩ = some (.bool true) := c0
  have c1 : w.cell? ⟨g, o + 1, none⟩ = some (.bool false) := by simpa [Addr.add] using c1
  have c2 : w.cell? ⟨g, o + 2, none⟩ = some (.bool true) := by simpa [Addr.add] using c2
  clear h
  go_enter Try.func13, Try.ntmps13
  go_wp2_with fail
  refine wp_loop_rounds 4 ?_
  rw [rounds_succ]
  go_wp2
  rw [rounds_succ]
  go_wp2
  rw [rounds_succ]
  go_wp2
  rw [rounds_succ]
  go_wp2
  go_ret
  exact ⟨rfl, rfl⟩
theorem lsa_110 (B cI : Nat) (ad : Addr) (w : World) (h : Reads w B (some ad) 3 (bl [true, true, false])) : Calls Try.prog 13 #[.slice (some ad) 3 cI] w fun e w' => e = .returned (.int .i64 3) ∧ w = w' := by
  have c0 : w.cell? (ad.add 0) = some (.bool true) := by obtain ⟨ad', e, _, hc⟩ := bl_at h (show 0 < 3 by decide); injection e with e; subst e; exact hc
  have c1 : w.cell? (ad.add 1) = some (.bool true) := by obtain ⟨ad', e, _, hc⟩ := bl_at h (show 1 < 3 by decide); injection e with e; subst e; exact hc
  have c2 : w.cell? (ad.add 2) = some (.bool false) := by obtain ⟨ad', e, _, hc⟩ := bl_at h (show 2 < 3 by decide); injection e with e; subst e; exact hc
  have c0 : w.cell? ad = some (.bool true) := by simpa [Addr.add] using c0
  obtain ⟨g, o, rfl⟩ : ∃ g o, ad = ⟨g, o, none⟩ := ⟨_, _, spot_of_cell c0⟩
  have c0 : w.cell? ⟨g, o, none⟩ = some (.bool true) := c0
  have c1 : w.cell? ⟨g, o + 1, none⟩ = some (.bool true) := by simpa [Addr.add] using c1
  have c2 : w.cell? ⟨g, o + 2, none⟩ = some (.bool false) := by simpa [Addr.add] using c2
  clear h
  go_enter Try.func13, Try.ntmps13
  go_wp2_with fail
  refine wp_loop_rounds 4 ?_
  rw [rounds_succ]
  go_wp2
  rw [rounds_succ]
  go_wp2
  rw [rounds_succ]
  go_wp2
  rw [rounds_succ]
  go_wp2
  go_ret
  exact ⟨rfl, rfl⟩
theorem lsa_111 (B cI : Nat) (ad : Addr) (w : World) (h : Reads w B (some ad) 3 (bl [true, true, true])) : Calls Try.prog 13 #[.slice (some ad) 3 cI] w fun e w' => e = .returned (.int .i64 7) ∧ w = w' := by
  have c0 : w.cell? (ad.add 0) = some (.bool true) := by obtain ⟨ad', e, _, hc⟩ := bl_at h (show 0 < 3 by decide); injection e with e; subst e; exact hc
  have c1 : w.cell? (ad.add 1) = some (.bool true) := by obtain ⟨ad', e, _, hc⟩ := bl_at h (show 1 < 3 by decide); injection e with e; subst e; exact hc
  have c2 : w.cell? (ad.add 2) = some (.bool true) := by obtain ⟨ad', e, _, hc⟩ := bl_at h (show 2 < 3 by decide); injection e with e; subst e; exact hc
  have c0 : w.cell? ad = some (.bool true) := by simpa [Addr.add] using c0
  obtain ⟨g, o, rfl⟩ : ∃ g o, ad = ⟨g, o, none⟩ := ⟨_, _, spot_of_cell c0⟩
  have c0 : w.cell? ⟨g, o, none⟩ = some (.bool true) := c0
  have c1 : w.cell? ⟨g, o + 1, none⟩ = some (.bool true) := by simpa [Addr.add] using c1
  have c2 : w.cell? ⟨g, o + 2, none⟩ = some (.bool true) := by simpa [Addr.add] using c2
  clear h
  go_enter Try.func13, Try.ntmps13
  go_wp2_with fail
  refine wp_loop_rounds 4 ?_
  rw [rounds_succ]
  go_wp2
  rw [rounds_succ]
  go_wp2
  rw [rounds_succ]
  go_wp2
  rw [rounds_succ]
  go_wp2
  go_ret
  exact ⟨rfl, rfl⟩
theorem lsa_any (B cI b : Nat) (ad : Addr) (l : List Bool) (w : World) (hl : l.length = b) (h1 : 1 ≤ b) (h2 : b ≤ 3) (h : Reads w B (some ad) b (bl l)) : Calls Try.prog 13 #[.slice (some ad) b cI] w fun e w' => e = .returned (.int .i64 (nmv l : Int)) ∧ w = w' := by
  match l, hl with
  | [], hl => simp at hl; omega
  | [x], hl =>
    obtain rfl : 1 = b := hl
    cases x
    · exact lsa_0 B cI ad w h
    · exact lsa_1 B cI ad w h
  | [x, y], hl =>
    obtain rfl : 2 = b := hl
    cases x <;> cases y
    · exact lsa_00 B cI ad w h
    · exact lsa_01 B cI ad w h
    · exact lsa_10 B cI ad w h
    · exact lsa_11 B cI ad w h
  | [x, y, z], hl =>
    obtain rfl : 3 = b := hl
    cases x <;> cases y <;> cases z
    · exact lsa_000 B cI ad w h
    · exact lsa_001 B cI ad w h
    · exact lsa_010 B cI ad w h
    · exact lsa_011 B cI ad w h
    · exact lsa_100 B cI ad w h
    · exact lsa_101 B cI ad w h
    · exact lsa_110 B cI ad w h
    · exact lsa_111 B cI ad w h
  | _ :: _ :: _ :: _ :: _, hl => simp at hl; omega
end Go.Proofs.Ytnhkgkpjkgifoaa
namespace Go.Proofs.Ytnhkgkpjkgifoaa
open Go.RowKit

/-- blocks laid one after the other -/
def lay : World → List (Array Value × TypeId) → World
  | w, [] => w
  | w, (c, t) :: r => lay (w.alloc (.cells c t)) r
theorem lay_keep {g : Nat} {t : TypeId} {c : Array Value} : ∀ (r : List (Array Value × TypeId)) (w : World), Blk w g t c → Blk (lay w r) g t c
  | [], _, h => h
  | (c, t) :: r, w, h => lay_keep r _ (h.alloc _)
theorem lay_blk {t : TypeId} {c : Array Value} : ∀ (r : List (Array Value × TypeId)) (w : World) (k : Nat), r[k]? = some (c, t) → Blk (lay w r) (w.heap.size + k) t c
  | [], _, _, h => by simp at h
  | (c', t') :: r, w, 0, h => by
    simp only [List.getElem?_cons_zero, Option.some.injEq, Prod.mk.injEq] at h
    obtain ⟨rfl, rfl⟩ := h
    exact lay_keep r _ (Blk.new w _ _)
  | (c', t') :: r, w, k + 1, h => by
    have := lay_blk r (w.alloc (.cells c' t')) k (by simpa using h)
    rw [World.size_alloc] at this
    rw [show w.heap.size + (k + 1) = w.heap.size + 1 + k by omega]
    exact this
theorem lay_below : ∀ (r : List (Array Value × TypeId)) (w : World), Below w.heap.size w (lay w r)
  | [], w => Below.refl _ _
  | (c, t) :: r, w => by
    have h := lay_below r (w.alloc (.cells c t))
    exact ((Below.refl _ w).alloc (Nat.le_refl _) _).trans (h.mono (by simp))
theorem balloc {w0 w : World} (h : Below w0.heap.size w0 w) (o : Obj) : Below w0.heap.size w0 (w.alloc o) := h.alloc h.size o
theorem blk2 (w : World) (c1 c2 : Array Value) (t1 t2 : TypeId) : Blk ((w.alloc (.cells c1 t1)).alloc (.cells c2 t2)) (w.heap.size + 1) t2 c2 := lay_blk [(c1, t1), (c2, t2)] w 1 rfl
end Go.Proofs.Ytnhkgkpjkgifoaa
namespace Go.Proofs.Ytnhkgkpjkgifoaa
open Go.RowKit

/-- numbers that fit -/
def Fits (T : Tr) : Prop := T.n < 9223372036854775808 ∧ T.m < 9223372036854775808 ∧ ∀ k, k < T.m → (T.nx k).length < 9223372036854775808
/-- a position ahead of i has no state -/
def wrongF (l : List Bool) (b st i : Nat) : Bool := (List.range i).any fun p => decide (st ≤ nmv ((l.drop (p * b)).take b))
/-- what the law wants of a rule -/
def Wants (T : Tr) (AH AN : Option Addr) (cH cN nL : Nat) (l : List Bool) (w : World) (st b : Nat) : Prop := T.st = (st : Int) ∧ bs st = b ∧ 2 ≤ st ∧ st ≤ 8 ∧ 1 ≤ b ∧ b ≤ 3 ∧ 1 ≤ T.n ∧ T.n ≤ 40 ∧ (nL = T.n * b → ∃ C : Cr, rt C = true ∧ C.ins = (nL : Int) ∧ C.o.length = b ∧
    (∀ w', Below w.heap.size w w' → Calls Try.prog 9 #[.agg #[.int .i64 T.st, .slice AH T.n cH, .slice AN T.m cN]] w' fun e w'' => LowOut C w' e w'') ∧ (wrongF l b st T.n = true → bo17 (bvn C.g l C.n) C.o = List.replicate b false))
theorem wants_any (AH AN : Option Addr) (cH cN nL : Nat) (T : Tr) (l : List Bool) (w : World) (h : TS w AH AN T) (hl : l.length = nL) (hs : Sm T ∧ T.m ≤ 60) (ht : Rt T) : ∃ st b, Wants T AH AN cH cN nL l w st b := by
  have s1 := ht.s1
  have s2 := ht.s2
  obtain ⟨st, hst⟩ : ∃ st : Nat, T.st = (st : Int) := ⟨T.st.toNat, by omega⟩
  have hb3 : bs st ≤ 3 := by unfold bs; split <;> (try split) <;> omega
  have hb1 : 1 ≤ bs st := by unfold bs; split <;> (try split) <;> omega
  have n1 : 1 ≤ T.n := by
    have m1 := ht.m1
    obtain ⟨q1, q2, _, _⟩ := ht.nd 0 (by omega)
    omega
  refine ⟨st, bs st, hst, rfl, by omega, by omega, hb1, hb3, n1, hs.1.1, fun hn => ?_⟩
  obtain ⟨r1, r2⟩ := crO_sem ht hst hs.1.1 hs.2 l (by rw [hl]; exact hn)
  refine ⟨crO T st, r1, by rw [hn]; rfl, crO_outs ht st, fun w' hb => lower_ok AH AN cH cN T st w' (h.later hb) ht hst hs.1.1 hs.2, fun hw => ?_⟩
  rw [r2]
  rw [wrongF, List.any_eq_true] at hw
  obtain ⟨i, hi, hw⟩ := hw
  rw [List.mem_range] at hi
  refine crO_wrong ht hst l i hi fun s hs' => te_wrong l st i (by omega) (by omega) ?_ (by simpa using hw) s hs'
  rw [hl, hn, ← Nat.succ_mul]
  exact Nat.mul_le_mul_right _ hi
end Go.Proofs.Ytnhkgkpjkgifoaa
