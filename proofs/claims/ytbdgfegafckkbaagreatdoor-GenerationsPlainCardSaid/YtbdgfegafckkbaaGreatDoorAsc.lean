/- The walks of ascends and of the reference's numbers. -/
import Derived.Test.YtbdgfegafckkbaaGreatDoorInts
namespace Go.Proofs.YtbdgfegafckkbaaGreatDoor
open Go.RowKit

set_option maxRecDepth 100000 in
set_option maxHeartbeats 2000000 in
theorem ascends_any (A : Option Addr) (n c B : Nat) (l : List Int) (m : Int) (w : World) (h : Reads w B A n (il l)) (hn : n ≤ 1000000) :
    Calls Tryz.prog 32 #[.slice A n c, .int .i64 m] w fun e w' => e = .returned (.bool (asc l m)) ∧ w = w' := by
  have hl := reads_len h
  have H := Lib.hid h
  have HL := Lib.hid hl
  clear h hl
  go_enter Tryz.func32, Tryz.ntmps32
  go_wp2
  go_loop [9] (fun iv => ∃ j : Nat, j ≤ n ∧ iv = .int .i64 (j : Int) ∧ ∀ i, i < j → 0 ≤ ig l i ∧ ig l i < m ∧ (0 < i → ig l (i - 1) < ig l i)) (fun iv => n - (intOf iv).toNat)
  case atStart => exact ⟨0, Nat.zero_le _, rfl, fun i hi => absurd hi (by omega)⟩
  case round =>
    obtain ⟨j, hj, rfl, hok⟩ := hrel
    have HN := Lib.hid hok
    clear hok
    by_cases hlt : j < n
    · obtain ⟨ad, rfl, hb, hc⟩ := il_at H.out hlt
      have hno := Lib.hid (fun h => asc_no (l := l) (m := m) (i := j) (by rw [HL.out]; exact hlt) h)
      obtain ⟨x, hx⟩ : ∃ x, x = ig l j := ⟨_, rfl⟩
      rw [← hx] at hc
      have HXX := Lib.hid hx
      clear hx
      by_cases h1 : x < 0
      · have HF := Lib.hid (show asc l m = false from hno.out (by rw [← HXX.out]; omega))
        go_wp2
        go_ret
        exact ⟨ret_bool HF.out.symm, rfl⟩
      · by_cases h2 : m ≤ x
        · have HF := Lib.hid (show asc l m = false from hno.out (by rw [← HXX.out]; omega))
          go_wp2
          go_ret
          exact ⟨ret_bool HF.out.symm, rfl⟩
        · by_cases h3 : j = 0
          · subst h3
            have hs := Lib.hid (show ∀ i, i < 0 + 1 → 0 ≤ ig l i ∧ ig l i < m ∧ (0 < i → ig l (i - 1) < ig l i) from fun i hi => by
              obtain rfl : i = 0 := by omega
              rw [← HXX.out]
              exact ⟨by omega, by omega, fun h => absurd h (by omega)⟩)
            rw [show ad.add 0 = ad by simp [Addr.add]] at hc
            go_wp2
            go_round
            case rel => exact ⟨0 + 1, by omega, by go_num, hs.out⟩
            case measure => simp [intOf]; omega
          · obtain ⟨i, hi⟩ : ∃ i, j = i + 1 := ⟨j - 1, by omega⟩
            obtain ⟨ad', he, hb', hc'⟩ := il_at H.out (show i < n by omega)
            obtain rfl : ad = ad' := by injection he
            have e1 : (j : Int) - 1 = (i : Int) := by omega
            have hd1 : 0 < j := by omega
            have hdi : (0 : Int) < (j : Int) := by omega
            obtain ⟨y, hy⟩ : ∃ y, y = ig l i := ⟨_, rfl⟩
            rw [← hy] at hc'
            have HY := Lib.hid hy
            have HI := Lib.hid hi
            clear hy he hi
            by_cases h4 : x ≤ y
            · have HF := Lib.hid (show asc l m = false from hno.out (by
                rintro ⟨_, _, h⟩
                have h := h hd1
                rw [HI.out, show i + 1 - 1 = i by omega, ← HY.out, ← HI.out, ← HXX.out] at h
                omega))
              go_wp2
              go_ret
              exact ⟨ret_bool HF.out.symm, rfl⟩
            · have hs := Lib.hid (show ∀ i, i < j + 1 → 0 ≤ ig l i ∧ ig l i < m ∧ (0 < i → ig l (i - 1) < ig l i) from fun i' hi' => by
                by_cases e : i' = j
                · subst e
                  rw [← HXX.out]
                  refine ⟨by omega, by omega, fun _ => ?_⟩
                  rw [HI.out, show i + 1 - 1 = i by omega, ← HY.out]
                  omega
                · exact HN.out i' (by omega))
              go_wp2
              go_round
              case rel => exact ⟨j + 1, by omega, by go_num, hs.out⟩
              case measure => simp [intOf]; omega
    · obtain rfl : j = n := by omega
      have HF := Lib.hid (show asc l m = true by rw [asc_iff, HL.out]; exact HN.out)
      go_wp2
      go_ret
      exact ⟨ret_bool HF.out.symm, rfl⟩
set_option maxRecDepth 100000 in
set_option maxHeartbeats 2000000 in
theorem numbers_any (A : Option Addr) (n c : Nat) (l : List Int) (m : Int) (w : World) (h : Reads w w.heap.size A n (il l)) (hn : n ≤ 1000000) :
    Calls Tryz.prog 12 #[.slice A n c, .int .i64 m] w fun e w' => e = .returned (.bool (asc l (m + 1))) ∧ Below w.heap.size w w' := by
  have hl := reads_len h
  have H := Lib.hid h
  have HL := Lib.hid hl
  clear h hl
  go_enter Tryz.func12, Tryz.ntmps12
  go_wp2
  go_loopw [5] (fun iv wr => ∃ j : Nat, j ≤ n ∧ iv = .int .i64 (j : Int) ∧ (∀ i, i < j → 0 ≤ ig l i ∧ ig l i < m + 1 ∧ (0 < i → ig l (i - 1) < ig l i)) ∧ Below w.heap.size w wr) (fun iv _ => n - (intOf iv).toNat)
  case atStart => exact ⟨0, Nat.zero_le _, rfl, fun i hi => absurd hi (by omega), Below.refl _ _⟩
  case round =>
    obtain ⟨j, hj, rfl, hok, hbel⟩ := hrel
    have HN := Lib.hid hok
    have HB := Lib.hid hbel
    have R := Lib.hid (H.out.below hbel)
    clear hok hbel
    by_cases hlt : j < n
    · obtain ⟨ad, rfl, hb, hc⟩ := il_at R.out hlt
      have hno := Lib.hid (fun h => asc_no (l := l) (m := m + 1) (i := j) (by rw [HL.out]; exact hlt) h)
      obtain ⟨x, hx⟩ : ∃ x, x = ig l j := ⟨_, rfl⟩
      rw [← hx] at hc
      have HXX := Lib.hid hx
      clear hx
      by_cases h1 : x < 0
      · have HF := Lib.hid (show asc l (m + 1) = false from hno.out (by rw [← HXX.out]; omega))
        have d1 : decide (x < 0) = true := decide_eq_true h1
        go_wp2_with fail
        go_quiet (fail)
        go_wp2
        go_ret
        exact ⟨ret_bool HF.out.symm, below_drewN HB.out _⟩
      · have d1 : decide (x < 0) = false := decide_eq_false h1
        by_cases h2 : m < x
        · have HF := Lib.hid (show asc l (m + 1) = false from hno.out (by rw [← HXX.out]; omega))
          have d2 : decide (m < x) = true := decide_eq_true h2
          go_wp2_with fail
          go_quiet (fail)
          go_wp2
          go_ret
          exact ⟨ret_bool HF.out.symm, below_drewN HB.out _⟩
        · have d2 : decide (m < x) = false := decide_eq_false h2
          by_cases h3 : j = 0
          · subst h3
            have hs := Lib.hid (show ∀ i, i < 0 + 1 → 0 ≤ ig l i ∧ ig l i < m + 1 ∧ (0 < i → ig l (i - 1) < ig l i) from fun i hi => by
              obtain rfl : i = 0 := by omega
              rw [← HXX.out]
              exact ⟨by omega, by omega, fun h => absurd h (by omega)⟩)
            rw [show ad.add 0 = ad by simp [Addr.add]] at hc
            go_wp2_with fail
            go_quiet (fail)
            go_wp2
            go_roundw
            case rel => exact ⟨0 + 1, by omega, by go_num, hs.out, below_drewN HB.out _⟩
            case measure => simp [intOf]; omega
          · obtain ⟨i, hi⟩ : ∃ i, j = i + 1 := ⟨j - 1, by omega⟩
            obtain ⟨ad', he, hb', hc'⟩ := il_at R.out (show i < n by omega)
            obtain rfl : ad = ad' := by injection he
            have e1 : (j : Int) - 1 = (i : Int) := by omega
            have hw1 : IntKind.i64.wrap ((j : Int) - 1) = (i : Int) := by rw [e1]; exact IntWalk.i64_in _ (by omega)
            have hin : i < n := by omega
            have hd1 : 0 < j := by omega
            have d3 : decide ((0 : Int) < (j : Int)) = true := decide_eq_true (by omega)
            have d3' : decide (0 < j) = true := decide_eq_true hd1
            obtain ⟨y, hy⟩ : ∃ y, y = ig l i := ⟨_, rfl⟩
            rw [← hy] at hc'
            have HY := Lib.hid hy
            have HI := Lib.hid hi
            clear hy he hi e1
            by_cases h4 : x ≤ y
            · have HF := Lib.hid (show asc l (m + 1) = false from hno.out (by
                rintro ⟨_, _, h⟩
                have h := h hd1
                rw [HI.out, show i + 1 - 1 = i by omega, ← HY.out, ← HI.out, ← HXX.out] at h
                omega))
              have d4 : decide (x ≤ y) = true := decide_eq_true h4
              go_wp2_with fail
              go_quiet (fail)
              go_wp2
              go_ret
              exact ⟨ret_bool HF.out.symm, below_drewN HB.out _⟩
            · have hs := Lib.hid (show ∀ i, i < j + 1 → 0 ≤ ig l i ∧ ig l i < m + 1 ∧ (0 < i → ig l (i - 1) < ig l i) from fun i' hi' => by
                by_cases e : i' = j
                · subst e
                  rw [← HXX.out]
                  refine ⟨by omega, by omega, fun _ => ?_⟩
                  rw [HI.out, show i + 1 - 1 = i by omega, ← HY.out]
                  omega
                · exact HN.out i' (by omega))
              have d4 : decide (x ≤ y) = false := decide_eq_false h4
              go_wp2_with fail
              go_quiet (fail)
              go_wp2
              go_roundw
              case rel => exact ⟨j + 1, by omega, by go_num, hs.out, below_drewN HB.out _⟩
              case measure => simp [intOf]; omega
    · obtain rfl : j = n := by omega
      have HF := Lib.hid (show asc l (m + 1) = true by rw [asc_iff, HL.out]; exact HN.out)
      go_wp2
      go_ret
      exact ⟨ret_bool HF.out.symm, HB.out⟩
end Go.Proofs.YtbdgfegafckkbaaGreatDoor
