/- Bits and State of the reference, State of the program, bools. -/
import Derived.Test.YtpkhioiabahhaaaSem
import Derived.Test.YtpkhioiabahhaaaBit
namespace Go.Proofs.Ytpkhioiabahhaaa
open Go.RowKit

theorem spot_of_cell {w : World} {a : Addr} {u : Value} (h : w.cell? a = some u) : a = ⟨a.block, a.off, none⟩ := by
  obtain ⟨b, o, s⟩ := a
  cases s with
  | none => rfl
  | some s =>
    unfold World.cell? at h
    split at h
    · simp at h
    · cases h
set_option maxRecDepth 100000 in
theorem rbits_any (st : Nat) (w : World) (h1 : 2 ≤ st) (h2 : st ≤ 8) : Calls Try.prog 8 #[.int .i64 (st : Int)] w fun e w' => e = .returned (.int .i64 (bs st : Int)) ∧ w = w' := by
  have h : st = 2 ∨ st = 3 ∨ st = 4 ∨ st = 5 ∨ st = 6 ∨ st = 7 ∨ st = 8 := by omega
  rcases h with rfl | rfl | rfl | rfl | rfl | rfl | rfl <;>
    (go_enter Try.func8, Try.ntmps8
     go_wp2
     go_ret
     exact ⟨rfl, rfl⟩)
theorem rst_0 (B cI : Nat) (ad : Addr) (w : World) (h : Reads w B (some ad) 1 (bl [false])) : Calls Try.prog 9 #[.slice (some ad) 1 cI] w fun e w' => e = .returned (.int .i64 0) ∧ w = w' := by
  have c0 : w.cell? (ad.add 0) = some (.bool false) := by obtain ⟨ad', e, _, hc⟩ := bl_at h (show 0 < 1 by decide); injection e with e; subst e; exact hc
  have c0 : w.cell? ad = some (.bool false) := by simpa [Addr.add] using c0
  obtain ⟨g, o, rfl⟩ : ∃ g o, ad = ⟨g, o, none⟩ := ⟨_, _, spot_of_cell c0⟩
  have c0 : w.cell? ⟨g, o, none⟩ = some (.bool false) := c0
  clear h
  go_enter Try.func9, Try.ntmps9
  go_wp2_with fail
  refine wp_loop_rounds 2 ?_
  rw [rounds_succ]
  go_wp2
  rw [rounds_succ]
  go_wp2
  go_ret
  exact ⟨rfl, rfl⟩
theorem rst_1 (B cI : Nat) (ad : Addr) (w : World) (h : Reads w B (some ad) 1 (bl [true])) : Calls Try.prog 9 #[.slice (some ad) 1 cI] w fun e w' => e = .returned (.int .i64 1) ∧ w = w' := by
  have c0 : w.cell? (ad.add 0) = some (.bool true) := by obtain ⟨ad', e, _, hc⟩ := bl_at h (show 0 < 1 by decide); injection e with e; subst e; exact hc
  have c0 : w.cell? ad = some (.bool true) := by simpa [Addr.add] using c0
  obtain ⟨g, o, rfl⟩ : ∃ g o, ad = ⟨g, o, none⟩ := ⟨_, _, spot_of_cell c0⟩
  have c0 : w.cell? ⟨g, o, none⟩ = some (.bool true) := c0
  clear h
  go_enter Try.func9, Try.ntmps9
  go_wp2_with fail
  refine wp_loop_rounds 2 ?_
  rw [rounds_succ]
  go_wp2
  rw [rounds_succ]
  go_wp2
  go_ret
  exact ⟨rfl, rfl⟩
theorem rst_00 (B cI : Nat) (ad : Addr) (w : World) (h : Reads w B (some ad) 2 (bl [false, false])) : Calls Try.prog 9 #[.slice (some ad) 2 cI] w fun e w' => e = .returned (.int .i64 0) ∧ w = w' := by
  have c0 : w.cell? (ad.add 0) = some (.bool false) := by obtain ⟨ad', e, _, hc⟩ := bl_at h (show 0 < 2 by decide); injection e with e; subst e; exact hc
  have c1 : w.cell? (ad.add 1) = some (.bool false) := by obtain ⟨ad', e, _, hc⟩ := bl_at h (show 1 < 2 by decide); injection e with e; subst e; exact hc
  have c0 : w.cell? ad = some (.bool false) := by simpa [Addr.add] using c0
  obtain ⟨g, o, rfl⟩ : ∃ g o, ad = ⟨g, o, none⟩ := ⟨_, _, spot_of_cell c0⟩
  have c0 : w.cell? ⟨g, o, none⟩ = some (.bool false) := c0
  have c1 : w.cell? ⟨g, o + 1, none⟩ = some (.bool false) := by simpa [Addr.add] using c1
  clear h
  go_enter Try.func9, Try.ntmps9
  go_wp2_with fail
  refine wp_loop_rounds 3 ?_
  rw [rounds_succ]
  go_wp2
  rw [rounds_succ]
  go_wp2
  rw [rounds_succ]
  go_wp2
  go_ret
  exact ⟨rfl, rfl⟩
theorem rst_01 (B cI : Nat) (ad : Addr) (w : World) (h : Reads w B (some ad) 2 (bl [false, true])) : Calls Try.prog 9 #[.slice (some ad) 2 cI] w fun e w' => e = .returned (.int .i64 2) ∧ w = w' := by
  have c0 : w.cell? (ad.add 0) = some (.bool false) := by obtain ⟨ad', e, _, hc⟩ := bl_at h (show 0 < 2 by decide); injection e with e; subst e; exact hc
  have c1 : w.cell? (ad.add 1) = some (.bool true) := by obtain ⟨ad', e, _, hc⟩ := bl_at h (show 1 < 2 by decide); injection e with e; subst e; exact hc
  have c0 : w.cell? ad = some (.bool false) := by simpa [Addr.add] using c0
  obtain ⟨g, o, rfl⟩ : ∃ g o, ad = ⟨g, o, none⟩ := ⟨_, _, spot_of_cell c0⟩
  have c0 : w.cell? ⟨g, o, none⟩ = some (.bool false) := c0
  have c1 : w.cell? ⟨g, o + 1, none⟩ = some (.bool true) := by simpa [Addr.add] using c1
  clear h
  go_enter Try.func9, Try.ntmps9
  go_wp2_with fail
  refine wp_loop_rounds 3 ?_
  rw [rounds_succ]
  go_wp2
  rw [rounds_succ]
  go_wp2
  rw [rounds_succ]
  go_wp2
  go_ret
  exact ⟨rfl, rfl⟩
theorem rst_10 (B cI : Nat) (ad : Addr) (w : World) (h : Reads w B (some ad) 2 (bl [true, false])) : Calls Try.prog 9 #[.slice (some ad) 2 cI] w fun e w' => e = .returned (.int .i64 1) ∧ w = w' := by
  have c0 : w.cell? (ad.add 0) = some (.bool true) := by obtain ⟨ad', e, _, hc⟩ := bl_at h (show 0 < 2 by decide); injection e with e; subst e; exact hc
  have c1 : w.cell? (ad.add 1) = some (.bool false) := by obtain ⟨ad', e, _, hc⟩ := bl_at h (show 1 < 2 by decide); injection e with e; subst e; exact hc
  have c0 : w.cell? ad = some (.bool true) := by simpa [Addr.add] using c0
  obtain ⟨g, o, rfl⟩ : ∃ g o, ad = ⟨g, o, none⟩ := ⟨_, _, spot_of_cell c0⟩
  have c0 : w.cell? ⟨g, o, none⟩ = some (.bool true) := c0
  have c1 : w.cell? ⟨g, o + 1, none⟩ = some (.bool false) := by simpa [Addr.add] using c1
  clear h
  go_enter Try.func9, Try.ntmps9
  go_wp2_with fail
  refine wp_loop_rounds 3 ?_
  rw [rounds_succ]
  go_wp2
  rw [rounds_succ]
  go_wp2
  rw [rounds_succ]
  go_wp2
  go_ret
  exact ⟨rfl, rfl⟩
theorem rst_11 (B cI : Nat) (ad : Addr) (w : World) (h : Reads w B (some ad) 2 (bl [true, true])) : Calls Try.prog 9 #[.slice (some ad) 2 cI] w fun e w' => e = .returned (.int .i64 3) ∧ w = w' := by
  have c0 : w.cell? (ad.add 0) = some (.bool true) := by obtain ⟨ad', e, _, hc⟩ := bl_at h (show 0 < 2 by decide); injection e with e; subst e; exact hc
  have c1 : w.cell? (ad.add 1) = some (.bool true) := by obtain ⟨ad', e, _, hc⟩ := bl_at h (show 1 < 2 by decide); injection e with e; subst e; exact hc
  have c0 : w.cell? ad = some (.bool true) := by simpa [Addr.add] using c0
  obtain ⟨g, o, rfl⟩ : ∃ g o, ad = ⟨g, o, none⟩ := ⟨_, _, spot_of_cell c0⟩
  have c0 : w.cell? ⟨g, o, none⟩ = some (.bool true) := c0
  have c1 : w.cell? ⟨g, o + 1, none⟩ = some (.bool true) := by simpa [Addr.add] using c1
  clear h
  go_enter Try.func9, Try.ntmps9
  go_wp2_with fail
  refine wp_loop_rounds 3 ?_
  rw [rounds_succ]
  go_wp2
  rw [rounds_succ]
  go_wp2
  rw [rounds_succ]
  go_wp2
  go_ret
  exact ⟨rfl, rfl⟩
theorem rst_000 (B cI : Nat) (ad : Addr) (w : World) (h : Reads w B (some ad) 3 (bl [false, false, false])) : Calls Try.prog 9 #[.slice (some ad) 3 cI] w fun e w' => e = .returned (.int .i64 0) ∧ w = w' := by
  have c0 : w.cell? (ad.add 0) = some (.bool false) := by obtain ⟨ad', e, _, hc⟩ := bl_at h (show 0 < 3 by decide); injection e with e; subst e; exact hc
  have c1 : w.cell? (ad.add 1) = some (.bool false) := by obtain ⟨ad', e, _, hc⟩ := bl_at h (show 1 < 3 by decide); injection e with e; subst e; exact hc
  have c2 : w.cell? (ad.add 2) = some (.bool false) := by obtain ⟨ad', e, _, hc⟩ := bl_at h (show 2 < 3 by decide); injection e with e; subst e; exact hc
  have c0 : w.cell? ad = some (.bool false) := by simpa [Addr.add] using c0
  obtain ⟨g, o, rfl⟩ : ∃ g o, ad = ⟨g, o, none⟩ := ⟨_, _, spot_of_cell c0⟩
  have c0 : w.cell? ⟨g, o, none⟩ = some (.bool false) := c0
  have c1 : w.cell? ⟨g, o + 1, none⟩ = some (.bool false) := by simpa [Addr.add] using c1
  have c2 : w.cell? ⟨g, o + 2, none⟩ = some (.bool false) := by simpa [Addr.add] using c2
  clear h
  go_enter Try.func9, Try.ntmps9
  go_wp2_with fail
  refine wp_loop_rounds 4 ?_
  rw [rounds_succ]
  go_wp2
  rw [rounds_succ]
  go_wp2
  rw [rounds_succ]
  go_wp2
  rw [rounds_succ]
  go_wp2
  go_ret
  exact ⟨rfl, rfl⟩
theorem rst_001 (B cI : Nat) (ad : Addr) (w : World) (h : Reads w B (some ad) 3 (bl [false, false, true])) : Calls Try.prog 9 #[.slice (some ad) 3 cI] w fun e w' => e = .returned (.int .i64 4) ∧ w = w' := by
  have c0 : w.cell? (ad.add 0) = some (.bool false) := by obtain ⟨ad', e, _, hc⟩ := bl_at h (show 0 < 3 by decide); injection e with e; subst e; exact hc
  have c1 : w.cell? (ad.add 1) = some (.bool false) := by obtain ⟨ad', e, _, hc⟩ := bl_at h (show 1 < 3 by decide); injection e with e; subst e; exact hc
  have c2 : w.cell? (ad.add 2) = some (.bool true) := by obtain ⟨ad', e, _, hc⟩ := bl_at h (show 2 < 3 by decide); injection e with e; subst e; exact hc
  have c0 : w.cell? ad = some (.bool false) := by simpa [Addr.add] using c0
  obtain ⟨g, o, rfl⟩ : ∃ g o, ad = ⟨g, o, none⟩ := ⟨_, _, spot_of_cell c0⟩
  have c0 : w.cell? ⟨g, o, none⟩ = some (.bool false) := c0
  have c1 : w.cell? ⟨g, o + 1, none⟩ = some (.bool false) := by simpa [Addr.add] using c1
  have c2 : w.cell? ⟨g, o + 2, none⟩ = some (.bool true) := by simpa [Addr.add] using c2
  clear h
  go_enter Try.func9, Try.ntmps9
  go_wp2_with fail
  refine wp_loop_rounds 4 ?_
  rw [rounds_succ]
  go_wp2
  rw [rounds_succ]
  go_wp2
  rw [rounds_succ]
  go_wp2
  rw [rounds_succ]
  go_wp2
  go_ret
  exact ⟨rfl, rfl⟩
theorem rst_010 (B cI : Nat) (ad : Addr) (w : World) (h : Reads w B (some ad) 3 (bl [false, true, false])) : Calls Try.prog 9 #[.slice (some ad) 3 cI] w fun e w' => e = .returned (.int .i64 2) ∧ w = w' := by
  have c0 : w.cell? (ad.add 0) = some (.bool false) := by obtain ⟨ad', e, _, hc⟩ := bl_at h (show 0 < 3 by decide); injection e with e; subst e; exact hc
  have c1 : w.cell? (ad.add 1) = some (.bool true) := by obtain ⟨ad', e, _, hc⟩ := bl_at h (show 1 < 3 by decide); injection e with e; subst e; exact hc
  have c2 : w.cell? (ad.add 2) = some (.bool false) := by obtain ⟨ad', e, _, hc⟩ := bl_at h (show 2 < 3 by decide); injection e with e; subst e; exact hc
  have c0 : w.cell? ad = some (.bool false) := by simpa [Addr.add] using c0
  obtain ⟨g, o, rfl⟩ : ∃ g o, ad = ⟨g, o, none⟩ := ⟨_, _, spot_of_cell c0⟩
  have c0 : w.cell? ⟨g, o, none⟩ = some (.bool false) := c0
  have c1 : w.cell? ⟨g, o + 1, none⟩ = some (.bool true) := by simpa [Addr.add] using c1
  have c2 : w.cell? ⟨g, o + 2, none⟩ = some (.bool false) := by simpa [Addr.add] using c2
  clear h
  go_enter Try.func9, Try.ntmps9
  go_wp2_with fail
  refine wp_loop_rounds 4 ?_
  rw [rounds_succ]
  go_wp2
  rw [rounds_succ]
  go_wp2
  rw [rounds_succ]
  go_wp2
  rw [rounds_succ]
  go_wp2
  go_ret
  exact ⟨rfl, rfl⟩
theorem rst_011 (B cI : Nat) (ad : Addr) (w : World) (h : Reads w B (some ad) 3 (bl [false, true, true])) : Calls Try.prog 9 #[.slice (some ad) 3 cI] w fun e w' => e = .returned (.int .i64 6) ∧ w = w' := by
  have c0 : w.cell? (ad.add 0) = some (.bool false) := by obtain ⟨ad', e, _, hc⟩ := bl_at h (show 0 < 3 by decide); injection e with e; subst e; exact hc
  have c1 : w.cell? (ad.add 1) = some (.bool true) := by obtain ⟨ad', e, _, hc⟩ := bl_at h (show 1 < 3 by decide); injection e with e; subst e; exact hc
  have c2 : w.cell? (ad.add 2) = some (.bool true) := by obtain ⟨ad', e, _, hc⟩ := bl_at h (show 2 < 3 by decide); injection e with e; subst e; exact hc
  have c0 : w.cell? ad = some (.bool false) := by simpa [Addr.add] using c0
  obtain ⟨g, o, rfl⟩ : ∃ g o, ad = ⟨g, o, none⟩ := ⟨_, _, spot_of_cell c0⟩
  have c0 : w.cell? ⟨g, o, none⟩ = some (.bool false) := c0
  have c1 : w.cell? ⟨g, o + 1, none⟩ = some (.bool true) := by simpa [Addr.add] using c1
  have c2 : w.cell? ⟨g, o + 2, none⟩ = some (.bool true) := by simpa [Addr.add] using c2
  clear h
  go_enter Try.func9, Try.ntmps9
  go_wp2_with fail
  refine wp_loop_rounds 4 ?_
  rw [rounds_succ]
  go_wp2
  rw [rounds_succ]
  go_wp2
  rw [rounds_succ]
  go_wp2
  rw [rounds_succ]
  go_wp2
  go_ret
  exact ⟨rfl, rfl⟩
theorem rst_100 (B cI : Nat) (ad : Addr) (w : World) (h : Reads w B (some ad) 3 (bl [true, false, false])) : Calls Try.prog 9 #[.slice (some ad) 3 cI] w fun e w' => e = .returned (.int .i64 1) ∧ w = w' := by
  have c0 : w.cell? (ad.add 0) = some (.bool true) := by obtain ⟨ad', e, _, hc⟩ := bl_at h (show 0 < 3 by decide); injection e with e; subst e; exact hc
  have c1 : w.cell? (ad.add 1) = some (.bool false) := by obtain ⟨ad', e, _, hc⟩ := bl_at h (show 1 < 3 by decide); injection e with e; subst e; exact hc
  have c2 : w.cell? (ad.add 2) = some (.bool false) := by obtain ⟨ad', e, _, hc⟩ := bl_at h (show 2 < 3 by decide); injection e with e; subst e; exact hc
  have c0 : w.cell? ad = some (.bool true) := by simpa [Addr.add] using c0
  obtain ⟨g, o, rfl⟩ : ∃ g o, ad = ⟨g, o, none⟩ := ⟨_, _, spot_of_cell c0⟩
  have c0 : w.cell? ⟨g, o, none⟩ = some (.bool true) := c0
  have c1 : w.cell? ⟨g, o + 1, none⟩ = some (.bool false) := by simpa [Addr.add] using c1
  have c2 : w.cell? ⟨g, o + 2, none⟩ = some (.bool false) := by simpa [Addr.add] using c2
  clear h
  go_enter Try.func9, Try.ntmps9
  go_wp2_with fail
  refine wp_loop_rounds 4 ?_
  rw [rounds_succ]
  go_wp2
  rw [rounds_succ]
  go_wp2
  rw [rounds_succ]
  go_wp2
  rw [rounds_succ]
  go_wp2
  go_ret
  exact ⟨rfl, rfl⟩
theorem rst_101 (B cI : Nat) (ad : Addr) (w : World) (h : Reads w B (some ad) 3 (bl [true, false, true])) : Calls Try.prog 9 #[.slice (some ad) 3 cI] w fun e w' => e = .returned (.int .i64 5) ∧ w = w' := by
  have c0 : w.cell? (ad.add 0) = some (.bool true) := by obtain ⟨ad', e, _, hc⟩ := bl_at h (show 0 < 3 by decide); injection e with e; subst e; exact hc
  have c1 : w.cell? (ad.add 1) = some (.bool false) := by obtain ⟨ad', e, _, hc⟩ := bl_at h (show 1 < 3 by decide); injection e with e; subst e; exact hc
  have c2 : w.cell? (ad.add 2) = some (.bool true) := by obtain ⟨ad', e, _, hc⟩ := bl_at h (show 2 < 3 by decide); injection e with e; subst e; exact hc
  have c0 : w.cell? ad = some (.bool true) := by simpa [Addr.add] using c0
  obtain ⟨g, o, rfl⟩ : ∃ g o, ad = ⟨g, o, none⟩ := ⟨_, _, spot_of_cell c0⟩
  have c0 : w.cell? ⟨g, o, none⟩ = some (.bool true) := c0
  have c1 : w.cell? ⟨g, o + 1, none⟩ = some (.bool false) := by simpa [Addr.add] using c1
  have c2 : w.cell? ⟨g, o + 2, none⟩ = some (.bool true) := by simpa [Addr.add] using c2
  clear h
  go_enter Try.func9, Try.ntmps9
  go_wp2_with fail
  refine wp_loop_rounds 4 ?_
  rw [rounds_succ]
  go_wp2
  rw [rounds_succ]
  go_wp2
  rw [rounds_succ]
  go_wp2
  rw [rounds_succ]
  go_wp2
  go_ret
  exact ⟨rfl, rfl⟩
theorem rst_110 (B cI : Nat) (ad : Addr) (w : World) (h : Reads w B (some ad) 3 (bl [true, true, false])) : Calls Try.prog 9 #[.slice (some ad) 3 cI] w fun e w' => e = .returned (.int .i64 3) ∧ w = w' := by
  have c0 : w.cell? (ad.add 0) = some (.bool true) := by obtain ⟨ad', e, _, hc⟩ := bl_at h (show 0 < 3 by decide); injection e with e; subst e; exact hc
  have c1 : w.cell? (ad.add 1) = some (.bool true) := by obtain ⟨ad', e, _, hc⟩ := bl_at h (show 1 < 3 by decide); injection e with e; subst e; exact hc
  have c2 : w.cell? (ad.add 2) = some (.bool false) := by obtain ⟨ad', e, _, hc⟩ := bl_at h (show 2 < 3 by decide); injection e with e; subst e; exact hc
  have c0 : w.cell? ad = some (.bool true) := by simpa [Addr.add] using c0
  obtain ⟨g, o, rfl⟩ : ∃ g o, ad = ⟨g, o, none⟩ := ⟨_, _, spot_of_cell c0⟩
  have c0 : w.cell? ⟨g, o, none⟩ = some (.bool true) := c0
  have c1 : w.cell? ⟨g, o + 1, none⟩ = some (.bool true) := by simpa [Addr.add] using c1
  have c2 : w.cell? ⟨g, o + 2, none⟩ = some (.bool false) := by simpa [Addr.add] using c2
  clear h
  go_enter Try.func9, Try.ntmps9
  go_wp2_with fail
  refine wp_loop_rounds 4 ?_
  rw [rounds_succ]
  go_wp2
  rw [rounds_succ]
  go_wp2
  rw [rounds_succ]
  go_wp2
  rw [rounds_succ]
  go_wp2
  go_ret
  exact ⟨rfl, rfl⟩
theorem rst_111 (B cI : Nat) (ad : Addr) (w : World) (h : Reads w B (some ad) 3 (bl [true, true, true])) : Calls Try.prog 9 #[.slice (some ad) 3 cI] w fun e w' => e = .returned (.int .i64 7) ∧ w = w' := by
  have c0 : w.cell? (ad.add 0) = some (.bool true) := by obtain ⟨ad', e, _, hc⟩ := bl_at h (show 0 < 3 by decide); injection e with e; subst e; exact hc
  have c1 : w.cell? (ad.add 1) = some (.bool true) := by obtain ⟨ad', e, _, hc⟩ := bl_at h (show 1 < 3 by decide); injection e with e; subst e; exact hc
  have c2 : w.cell? (ad.add 2) = some (.bool true) := by obtain ⟨ad', e, _, hc⟩ := bl_at h (show 2 < 3 by decide); injection e with e; subst e; exact hc
  have c0 : w.cell? ad = some (.bool true) := by simpa [Addr.add] using c0
  obtain ⟨g, o, rfl⟩ : ∃ g o, ad = ⟨g, o, none⟩ := ⟨_, _, spot_of_cell c0⟩
  have c0 : w.cell? ⟨g, o, none⟩ = some (.bool true) := c0
  have c1 : w.cell? ⟨g, o + 1, none⟩ = some (.bool true) := by simpa [Addr.add] using c1
  have c2 : w.cell? ⟨g, o + 2, none⟩ = some (.bool true) := by simpa [Addr.add] using c2
  clear h
  go_enter Try.func9, Try.ntmps9
  go_wp2_with fail
  refine wp_loop_rounds 4 ?_
  rw [rounds_succ]
  go_wp2
  rw [rounds_succ]
  go_wp2
  rw [rounds_succ]
  go_wp2
  rw [rounds_succ]
  go_wp2
  go_ret
  exact ⟨rfl, rfl⟩
theorem lst_0 (B cI : Nat) (ad : Addr) (w : World) (h : Reads w B (some ad) 1 (bl [false])) : Calls Try.prog 12 #[.slice (some ad) 1 cI] w fun e w' => e = .returned (.int .i64 0) ∧ w = w' := by
  have c0 : w.cell? (ad.add 0) = some (.bool false) := by obtain ⟨ad', e, _, hc⟩ := bl_at h (show 0 < 1 by decide); injection e with e; subst e; exact hc
  have c0 : w.cell? ad = some (.bool false) := by simpa [Addr.add] using c0
  obtain ⟨g, o, rfl⟩ : ∃ g o, ad = ⟨g, o, none⟩ := ⟨_, _, spot_of_cell c0⟩
  have c0 : w.cell? ⟨g, o, none⟩ = some (.bool false) := c0
  clear h
  go_enter Try.func12, Try.ntmps12
  go_wp2_with fail
  refine wp_loop_rounds 2 ?_
  rw [rounds_succ]
  go_wp2
  rw [rounds_succ]
  go_wp2
  go_ret
  exact ⟨rfl, rfl⟩
theorem lst_00 (B cI : Nat) (ad : Addr) (w : World) (h : Reads w B (some ad) 2 (bl [false, false])) : Calls Try.prog 12 #[.slice (some ad) 2 cI] w fun e w' => e = .returned (.int .i64 0) ∧ w = w' := by
  have c0 : w.cell? (ad.add 0) = some (.bool false) := by obtain ⟨ad', e, _, hc⟩ := bl_at h (show 0 < 2 by decide); injection e with e; subst e; exact hc
  have c1 : w.cell? (ad.add 1) = some (.bool false) := by obtain ⟨ad', e, _, hc⟩ := bl_at h (show 1 < 2 by decide); injection e with e; subst e; exact hc
  have c0 : w.cell? ad = some (.bool false) := by simpa [Addr.add] using c0
  obtain ⟨g, o, rfl⟩ : ∃ g o, ad = ⟨g, o, none⟩ := ⟨_, _, spot_of_cell c0⟩
  have c0 : w.cell? ⟨g, o, none⟩ = some (.bool false) := c0
  have c1 : w.cell? ⟨g, o + 1, none⟩ = some (.bool false) := by simpa [Addr.add] using c1
  clear h
  go_enter Try.func12, Try.ntmps12
  go_wp2_with fail
  refine wp_loop_rounds 3 ?_
  rw [rounds_succ]
  go_wp2
  rw [rounds_succ]
  go_wp2
  rw [rounds_succ]
  go_wp2
  go_ret
  exact ⟨rfl, rfl⟩
theorem lst_000 (B cI : Nat) (ad : Addr) (w : World) (h : Reads w B (some ad) 3 (bl [false, false, false])) : Calls Try.prog 12 #[.slice (some ad) 3 cI] w fun e w' => e = .returned (.int .i64 0) ∧ w = w' := by
  have c0 : w.cell? (ad.add 0) = some (.bool false) := by obtain ⟨ad', e, _, hc⟩ := bl_at h (show 0 < 3 by decide); injection e with e; subst e; exact hc
  have c1 : w.cell? (ad.add 1) = some (.bool false) := by obtain ⟨ad', e, _, hc⟩ := bl_at h (show 1 < 3 by decide); injection e with e; subst e; exact hc
  have c2 : w.cell? (ad.add 2) = some (.bool false) := by obtain ⟨ad', e, _, hc⟩ := bl_at h (show 2 < 3 by decide); injection e with e; subst e; exact hc
  have c0 : w.cell? ad = some (.bool false) := by simpa [Addr.add] using c0
  obtain ⟨g, o, rfl⟩ : ∃ g o, ad = ⟨g, o, none⟩ := ⟨_, _, spot_of_cell c0⟩
  have c0 : w.cell? ⟨g, o, none⟩ = some (.bool false) := c0
  have c1 : w.cell? ⟨g, o + 1, none⟩ = some (.bool false) := by simpa [Addr.add] using c1
  have c2 : w.cell? ⟨g, o + 2, none⟩ = some (.bool false) := by simpa [Addr.add] using c2
  clear h
  go_enter Try.func12, Try.ntmps12
  go_wp2_with fail
  refine wp_loop_rounds 4 ?_
  rw [rounds_succ]
  go_wp2
  rw [rounds_succ]
  go_wp2
  rw [rounds_succ]
  go_wp2
  rw [rounds_succ]
  go_wp2
  go_ret
  exact ⟨rfl, rfl⟩
theorem lst_011 (B cI : Nat) (ad : Addr) (w : World) (h : Reads w B (some ad) 3 (bl [false, true, true])) : Calls Try.prog 12 #[.slice (some ad) 3 cI] w fun e w' => e = .returned (.int .i64 6) ∧ w = w' := by
  have c0 : w.cell? (ad.add 0) = some (.bool false) := by obtain ⟨ad', e, _, hc⟩ := bl_at h (show 0 < 3 by decide); injection e with e; subst e; exact hc
  have c1 : w.cell? (ad.add 1) = some (.bool true) := by obtain ⟨ad', e, _, hc⟩ := bl_at h (show 1 < 3 by decide); injection e with e; subst e; exact hc
  have c2 : w.cell? (ad.add 2) = some (.bool true) := by obtain ⟨ad', e, _, hc⟩ := bl_at h (show 2 < 3 by decide); injection e with e; subst e; exact hc
  have c0 : w.cell? ad = some (.bool false) := by simpa [Addr.add] using c0
  obtain ⟨g, o, rfl⟩ : ∃ g o, ad = ⟨g, o, none⟩ := ⟨_, _, spot_of_cell c0⟩
  have c0 : w.cell? ⟨g, o, none⟩ = some (.bool false) := c0
  have c1 : w.cell? ⟨g, o + 1, none⟩ = some (.bool true) := by simpa [Addr.add] using c1
  have c2 : w.cell? ⟨g, o + 2, none⟩ = some (.bool true) := by simpa [Addr.add] using c2
  clear h
  go_enter Try.func12, Try.ntmps12
  go_wp2_with fail
  refine wp_loop_rounds 4 ?_
  rw [rounds_succ]
  go_wp2
  rw [rounds_succ]
  go_wp2
  rw [rounds_succ]
  go_wp2
  rw [rounds_succ]
  go_wp2
  go_ret
  exact ⟨rfl, rfl⟩
theorem rstate_any (B cI b : Nat) (ad : Addr) (l : List Bool) (w : World) (hl : l.length = b) (h1 : 1 ≤ b) (h2 : b ≤ 3) (h : Reads w B (some ad) b (bl l)) : Calls Try.prog 9 #[.slice (some ad) b cI] w fun e w' => e = .returned (.int .i64 (nmv l : Int)) ∧ w = w' := by
  match l, hl with
  | [], hl => simp at hl; omega
  | [x], hl =>
    obtain rfl : 1 = b := hl
    cases x
    · exact rst_0 B cI ad w h
    · exact rst_1 B cI ad w h
  | [x, y], hl =>
    obtain rfl : 2 = b := hl
    cases x <;> cases y
    · exact rst_00 B cI ad w h
    · exact rst_01 B cI ad w h
    · exact rst_10 B cI ad w h
    · exact rst_11 B cI ad w h
  | [x, y, z], hl =>
    obtain rfl : 3 = b := hl
    cases x <;> cases y <;> cases z
    · exact rst_000 B cI ad w h
    · exact rst_001 B cI ad w h
    · exact rst_010 B cI ad w h
    · exact rst_011 B cI ad w h
    · exact rst_100 B cI ad w h
    · exact rst_101 B cI ad w h
    · exact rst_110 B cI ad w h
    · exact rst_111 B cI ad w h
  | _ :: _ :: _ :: _ :: _, hl => simp at hl; omega
theorem lstate_any (B cI b : Nat) (ad : Addr) (w : World) (h1 : 1 ≤ b) (h2 : b ≤ 3) (h : Reads w B (some ad) b (bl (List.replicate b false))) : Calls Try.prog 12 #[.slice (some ad) b cI] w fun e w' => e = .returned (.int .i64 0) ∧ w = w' := by
  have hb : b = 1 ∨ b = 2 ∨ b = 3 := by omega
  rcases hb with rfl | rfl | rfl
  · exact lst_0 B cI ad w h
  · exact lst_00 B cI ad w h
  · exact lst_000 B cI ad w h
end Go.Proofs.Ytpkhioiabahhaaa
