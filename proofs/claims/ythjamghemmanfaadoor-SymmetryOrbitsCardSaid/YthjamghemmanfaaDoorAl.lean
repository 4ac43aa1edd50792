/- The comparison of two equal lists, and what the fixed examples call. -/
import Derived.Test.YthjamghemmanfaaDoorOrbits
import Derived.Test.YthjamghemmanfaaDoorWithin
import Derived.BigQuiet
namespace Go.Proofs.YthjamghemmanfaaDoor
open Go.RowKit

theorem below_drewN2 {B : Nat} {a w : World} (h : Below B a w) (n : Nat) : Below B a (w.drewN n) := ⟨h.os, h.tape, h.output, h.size, h.block⟩
set_option maxHeartbeats 1000000 in
theorem same_yes (A1 A2 : Option Addr) (n c1 c2 B : Nat) (xs : List Nat) (w : World) (h1 : Reads w B A1 n (ints xs)) (h2 : Reads w B A2 n (ints xs)) (hn : n ≤ 1000000) :
    Calls Tryd.prog 7 #[.slice A1 n c1, .slice A2 n c2] w fun e w' => e = .returned (.bool true) ∧ Below w.heap.size w w' := by
  have g1 := Lib.hid h1
  have g2 := Lib.hid h2
  clear h1 h2
  go_enter Tryd.func7, Tryd.ntmps7
  go_wp2
  go_loopw [5] (fun iv wr => ∃ i k : Nat, i ≤ n ∧ iv = .int .i64 i ∧ wr = w.drewN k) (fun iv _ => n - (intOf iv).toNat)
  case atStart => exact ⟨0, 0, Nat.zero_le _, rfl, rfl⟩
  case round =>
    obtain ⟨i, k, hi, rfl, rfl⟩ := hrel
    by_cases hlt : i < n
    · obtain ⟨a1, rfl, _, e1⟩ := ints_at g1.out hlt
      obtain ⟨a2, rfl, _, e2⟩ := ints_at g2.out hlt
      have hi0 : (0 : Int) ≤ (i : Int) := Int.natCast_nonneg _
      have hi1 : (i : Int) < (n : Int) := by omega
      generalize xs.getD i 0 = x at e1 e2
      go_wp2
      go_quiet (fail)
      go_wp2
      go_roundw
      case rel => exact ⟨i + 1, _, by omega, by go_num, rfl⟩
      case measure => simp [intOf]; omega
    · go_wp2
      go_ret
      exact ⟨rfl, below_drewN2 (Below.refl _ _) k⟩

/-- the cells of a literal list -/
theorem lit_ins1 (w : World) (a : Int) (ha : -9223372036854775808 ≤ a ∧ a ≤ 9223372036854775807) : Ins (w.alloc (.cells #[.int .i64 a] 3)) (w.alloc (.cells #[.int .i64 a] 3)).heap.size (some ⟨w.heap.size, 0, none⟩) 1 [a] :=
  ⟨Reads.of_own (World.ownsRow_lit (e := 3) (size := 1) (base := w.heap.size) w #[.int .i64 a] 1 (Nat.le_refl _) (by decide) rfl), fun z hz => by simp at hz; subst hz; exact ha⟩
theorem lit_ins2 (w : World) (a b : Int) (ha : -9223372036854775808 ≤ a ∧ a ≤ 9223372036854775807) (hb : -9223372036854775808 ≤ b ∧ b ≤ 9223372036854775807) : Ins (w.alloc (.cells #[.int .i64 a, .int .i64 b] 3)) (w.alloc (.cells #[.int .i64 a, .int .i64 b] 3)).heap.size (some ⟨w.heap.size, 0, none⟩) 2 [a, b] :=
  ⟨Reads.of_own (World.ownsRow_lit (e := 3) (size := 1) (base := w.heap.size) w #[.int .i64 a, .int .i64 b] 2 (Nat.le_refl _) (by decide) rfl), fun z hz => by simp at hz; rcases hz with rfl | rfl <;> assumption⟩
theorem lit_reads3 (w : World) : Reads (w.alloc (.cells #[.int .i64 0, .int .i64 1, .int .i64 0] 3)) (w.alloc (.cells #[.int .i64 0, .int .i64 1, .int .i64 0] 3)).heap.size (some ⟨w.heap.size, 0, none⟩) 3 (ints [0, 1, 0]) :=
  Reads.of_own (World.ownsRow_lit (e := 3) (size := 1) (base := w.heap.size) w #[.int .i64 0, .int .i64 1, .int .i64 0] 3 (Nat.le_refl _) (by decide) rfl)

theorem comp_even : ∀ a, a < 8 → ∀ b, b < 8 → a % 2 = 0 → b % 2 = 0 → comp a b % 2 = 0 := by decide
theorem gen_even {l : List Nat} (hl : ∀ s ∈ l, s < 8) (he : ∀ s ∈ l, s % 2 = 0) {k : Nat} (h : Gen l k) : k % 2 = 0 := by
  exact gen_ind (P := fun k => k % 2 = 0) rfl (fun x s hg ih hs => comp_even _ (Gen.lt hl hg) _ (hl _ hs) ih (he _ hs)) h
theorem two_even : ∀ k ∈ grp (mds [2]), k % 2 = 0 := fun k hk => gen_even (mds_lt _) (fun s hs => by simp [mds, md] at hs; omega) ((mem_grp (mds_lt _)).1 hk)
theorem two_in : 2 ∈ grp (mds [2]) := (mem_grp (mds_lt _)).2 (Gen.one (mds_lt _) (by simp [mds, md]))
theorem two_orbits : olist (grp (mds [2])) 2 0 3 = [0, 1, 0] := by
  have e : olist (grp (mds [2])) 2 0 3 = [orb (grp (mds [2])) 2 0 0, orb (grp (mds [2])) 2 0 1, orb (grp (mds [2])) 2 0 2] := rfl
  have h0 : orb (grp (mds [2])) 2 0 0 = 0 := by have := orb_le (grp (mds [2])) 2 0 0; omega
  have h2 : orb (grp (mds [2])) 2 0 2 = 0 := by
    have := mn_le (G := grp (mds [2])) (k := 2) 2 0 2 0 2 two_in
    have hv : val 2 2 0 2 0 = 0 := rfl
    have ho : orb (grp (mds [2])) 2 0 2 = mn (grp (mds [2])) 2 2 0 2 0 := rfl
    omega
  have h1 : orb (grp (mds [2])) 2 0 1 = 1 := by
    have ho : orb (grp (mds [2])) 2 0 1 = mn (grp (mds [2])) 1 2 0 1 0 := rfl
    rw [ho]
    rcases mn_in (grp (mds [2])) 2 0 1 0 1 with h | ⟨k, hk, h⟩
    · exact h
    · rw [h]
      have h8 := grp_lt hk
      have h2 := two_even k hk
      have hc : k = 0 ∨ k = 2 ∨ k = 4 ∨ k = 6 := by omega
      rcases hc with rfl | rfl | rfl | rfl <;> rfl
  rw [e, h0, h1, h2]
theorem all_eight : (grp (mds [1, 4])).length = 8 := by
  have hl := mds_lt [1, 4]
  have m1 : 1 ∈ mds [1, 4] := by simp [mds, md]
  have m4 : 4 ∈ mds [1, 4] := by simp [mds, md]
  have g0 : Gen (mds [1, 4]) 0 := Gen.zero
  have g1 : Gen (mds [1, 4]) 1 := g0.step m1
  have g2 : Gen (mds [1, 4]) 2 := g1.step m1
  have g3 : Gen (mds [1, 4]) 3 := g2.step m1
  have g4 : Gen (mds [1, 4]) 4 := g0.step m4
  have g5 : Gen (mds [1, 4]) 5 := g4.step m1
  have g6 : Gen (mds [1, 4]) 6 := g5.step m1
  have g7 : Gen (mds [1, 4]) 7 := g6.step m1
  have e : grp (mds [1, 4]) = List.range 8 := sorted_eq _ _ (grp_sorted _) List.pairwise_lt_range fun k => by
    rw [mem_grp hl, List.mem_range]
    exact ⟨fun h => h.lt hl, fun h => eight g0 g1 g2 g3 g4 g5 g6 g7 k h⟩
  rw [e]; rfl

theorem al_orb1 (w : World) (hM : Mat w) : Calls Tryd.prog 5 #[.slice (some ⟨w.heap.size, 0, none⟩) 1 1, .int .i64 3, .int .i64 1] (w.alloc (.cells #[.int .i64 2] 3)) fun e w' =>
    (∃ b c', e = .returned (.tuple #[.slice (some ⟨b, 0, none⟩) 3 c', .int .i64 0]) ∧ Reads w' w'.heap.size (some ⟨b, 0, none⟩) 3 (ints [0, 1, 0])) ∧ Below w.heap.size w w' := by
  have H := orbits_good (some ⟨w.heap.size, 0, none⟩) 1 1 _ 3 1 2 0 3 [2] _ (lit_ins1 w 2 (by omega)) (Nat.le_refl _) (by omega) (hM.alloc _) rfl rfl (by omega) (by omega) rfl (by omega) (fun k hk => .inl (two_even k hk))
  refine H.mono fun e w' h => ?_
  obtain ⟨b, c', he, hr, hb⟩ := h
  rw [two_orbits] at hr
  exact ⟨⟨b, c', he, hr⟩, ((Below.refl _ _).alloc (Nat.le_refl _) _).trans (hb.mono (by simp))⟩
theorem al_orb2 (w : World) : Calls Tryd.prog 5 #[.slice (some ⟨w.heap.size, 0, none⟩) 1 1, .int .i64 3, .int .i64 1] (w.alloc (.cells #[.int .i64 1] 3)) fun e w' =>
    e = .returned (.tuple #[.slice none 0 0, .int .i64 2]) ∧ Below w.heap.size w w' := by
  have H := orbits_bad (some ⟨w.heap.size, 0, none⟩) 1 1 _ 3 1 [1] _ (lit_ins1 w 1 (by omega)) (Nat.le_refl _) (by omega) ⟨by omega, by omega, by omega, by omega, by decide⟩ (by decide) ⟨1, (mem_grp (mds_lt _)).2 (Gen.one (mds_lt _) (by simp [mds, md])), rfl⟩
  refine H.mono fun e w' h => ?_
  exact ⟨h.1, ((Below.refl _ _).alloc (Nat.le_refl _) _).trans (h.2.mono (by simp))⟩
theorem al_app1 (w : World) (hM : Mat w) : Calls Tryd.prog 8 #[.int .i64 1, .agg #[.int .i64 1, .int .i64 0]] w fun e w' => e = .returned (.agg #[.int .i64 0, .int .i64 1]) ∧ Below w.heap.size w w' :=
  apply_any 1 1 0 w hM (by omega) (by omega) (by omega) (by omega)
theorem al_app5 (w : World) (hM : Mat w) : Calls Tryd.prog 8 #[.int .i64 5, .agg #[.int .i64 1, .int .i64 0]] w fun e w' => e = .returned (.agg #[.int .i64 0, .int .i64 (-1)]) ∧ Below w.heap.size w w' :=
  apply_any 5 1 0 w hM (by omega) (by omega) (by omega) (by omega)
theorem al_turn (w : World) (hM : Mat w) : Calls Tryd.prog 11 #[.int .i64 1, .agg #[.int .i64 0, .int .i64 0, .int .i64 3, .int .i64 2]] w fun e w' => e = .returned (.agg #[.int .i64 (-1), .int .i64 0, .int .i64 2, .int .i64 3]) ∧ Below w.heap.size w w' :=
  turn_any 1 3 2 2 1 w hM rfl rfl (by omega) (by omega)
theorem al_within (w : World) (hM : Mat w) : Calls Tryd.prog 13 #[.int .i64 1, .agg #[.int .i64 0, .int .i64 0, .int .i64 3, .int .i64 2], .agg #[.int .i64 2, .int .i64 1]] w fun e w' => e = .returned (.agg #[.int .i64 0, .int .i64 2]) ∧ Below w.heap.size w w' :=
  within_any 1 3 2 2 1 2 1 w hM rfl rfl (by omega) (by omega) (by omega) (by omega)
theorem al_group (w : World) : Calls Tryd.prog 12 #[.slice (some ⟨w.heap.size, 0, none⟩) 2 2] (w.alloc (.cells #[.int .i64 1, .int .i64 4] 3)) fun e w' => (∃ b c', e = .returned (.slice (some ⟨b, 0, none⟩) 8 c')) ∧ Below w.heap.size w w' := by
  have H := group_any (some ⟨w.heap.size, 0, none⟩) 2 2 _ [1, 4] _ (lit_ins2 w 1 4 (by omega) (by omega)) (Nat.le_refl _) (by omega)
  refine H.mono fun e w' h => ?_
  obtain ⟨b, c', he, hr, hb⟩ := h
  rw [all_eight] at he
  exact ⟨⟨b, c', he⟩, ((Below.refl _ _).alloc (Nat.le_refl _) _).trans (hb.mono (by simp))⟩
end Go.Proofs.YthjamghemmanfaaDoor
