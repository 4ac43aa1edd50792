/- The walks of hood's small functions: the absolute value, the square, and the three predicates. -/
import Derived.Test.YtbcihgimflljoaaGreatDoorCmp
namespace Go.Proofs.YtbcihgimflljoaaGreatDoor
open Go.RowKit

/-- the absolute value -/
def ab (c : Int) : Int := max c (-c)
theorem size_any (c : Int) (w : World) (h1 : -1000000 ≤ c) (h2 : c ≤ 1000000) :
    Calls Tryz.prog 122 #[.int .i64 c] w fun e w' => e = .returned (.int .i64 (ab c)) ∧ w = w' := by
  rcases Int.lt_trichotomy c 0 with h | h | h
  · have e : ab c = -c := by unfold ab; omega
    rw [e]
    clear e
    go_enter Tryz.func122, Tryz.ntmps122
    go_wp2
    go_ret
    exact ⟨rfl, rfl⟩
  · subst h
    go_enter Tryz.func122, Tryz.ntmps122
    go_wp2
    go_ret
    exact ⟨rfl, rfl⟩
  · have e : ab c = c := by unfold ab; omega
    rw [e]
    clear e
    go_enter Tryz.func122, Tryz.ntmps122
    go_wp2
    go_ret
    exact ⟨rfl, rfl⟩
theorem square_any (r : Int) (n : Nat) (w : World) (h1 : 0 ≤ r) (h2 : r ≤ 2) (hn : 2 * r + 1 = (n : Int)) :
    Calls Tryz.prog 28 #[.int .i64 r] w fun e w' => e = .returned (.agg #[.int .i64 (-r), .int .i64 (-r), .int .i64 (n : Int), .int .i64 (n : Int)]) ∧ Below w.heap.size w w' := by
  go_enter Tryz.func28, Tryz.ntmps28
  go_wp2
  refine bodyPost_ret (v := .agg #[.int .i64 (-r), .int .i64 (-r), .int .i64 (n : Int), .int .i64 (n : Int)]) (by simp [results, Tryz.results28, go_sem, hn]) rfl ⟨rfl, ?_⟩
  exact (Below.refl _ _).alloc (Nat.le_refl _) _
theorem fnMoore_any (x y : Int) (w : World) : Calls Tryz.prog 120 #[.agg #[.int .i64 x, .int .i64 y]] w fun e w' => e = .returned (.bool true) ∧ Below w.heap.size w w' := by
  go_enter Tryz.func120, Tryz.ntmps120
  go_wp2
  go_ret
  exact ⟨rfl, (Below.refl _ _).alloc (Nat.le_refl _) _⟩
theorem fnHex_any (x y : Int) (w : World) (h1 : -4 ≤ x) (h2 : x ≤ 4) (h3 : -4 ≤ y) (h4 : y ≤ 4) : Calls Tryz.prog 123 #[.agg #[.int .i64 x, .int .i64 y]] w fun e w' => e = .returned (.bool (decide (ab (x - y) ≤ 1))) ∧ Below w.heap.size w w' := by
  have S := Lib.hid (fun w => size_any (x - y) w (by omega) (by omega))
  generalize ab (x - y) = s at S
  go_enter Tryz.func123, Tryz.ntmps123
  go_wp2_with (go_at_call 122; (with_reducible refine (S.out _).mono ?_); rintro e w' ⟨rfl, rfl⟩)
  go_ret
  exact ⟨rfl, (Below.refl _ _).alloc (Nat.le_refl _) _⟩
set_option maxRecDepth 100000 in
theorem fnNeumann_any (x y r : Int) (g : Nat) (t : TypeId) (w : World) (h1 : -4 ≤ x) (h2 : x ≤ 4) (h3 : -4 ≤ y) (h4 : y ≤ 4) (hg : Blk w g t #[.int .i64 r]) : Calls Tryz.prog 121 #[.agg #[.int .i64 x, .int .i64 y], .pointer (some ⟨g, 0, none⟩)] w fun e w' => e = .returned (.bool (decide (ab x + ab y ≤ r))) ∧ Below w.heap.size w w' := by
  have bx : 0 ≤ ab x ∧ ab x ≤ 4 := by unfold ab; omega
  have by_ : 0 ≤ ab y ∧ ab y ≤ 4 := by unfold ab; omega
  have S1 := Lib.hid (fun w => size_any x w (by omega) (by omega))
  have S2 := Lib.hid (fun w => size_any y w (by omega) (by omega))
  generalize ab x = s1 at S1 bx
  generalize ab y = s2 at S2 by_
  have c0 : (w.alloc (.cells #[.int .i64 x, .int .i64 y] 35)).cell? ⟨g, 0, none⟩ = some (.int .i64 r) := by rw [(hg.alloc _).cell]; rfl
  clear hg
  go_enter Tryz.func121, Tryz.ntmps121
  go_wp2_with fail
  go_quiet (first | (go_at_call 122; exact Calls.quiet_of_same ((S1.out _).mono fun _ _ h => ⟨h.1, h.2.symm⟩)) | (go_at_call 122; exact Calls.quiet_of_same ((S2.out _).mono fun _ _ h => ⟨h.1, h.2.symm⟩)))
  go_wp2
  go_ret
  exact ⟨rfl, below_drewN ((Below.refl _ _).alloc (Nat.le_refl _) _) _⟩
end Go.Proofs.YtbcihgimflljoaaGreatDoor
