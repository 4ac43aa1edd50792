/- The walks of ContainsFunc with exchangesSides, and of both Orbits at sizes that are not valid. -/
import Derived.Test.YthjamghemmanfaaDoorHas
namespace Go.Proofs.YthjamghemmanfaaDoor
open Go.RowKit

section
variable (A : Option Addr) (n c B : Nat) (g : List Nat) (w : World)
theorem indexf_no (h : Reads w B A n (ints g)) (hn : n ≤ 1000000) (h8 : ∀ k ∈ g, k < 8) (hk : ∀ k ∈ g, k % 2 = 0) :
    Calls Tryd.prog 26 #[.slice A n c, .func (.func 15) #[] #[]] w fun e w' => e = .returned (.int .i64 (-1)) ∧ w = w' := by
  have HL := Lib.hid (ints_len h)
  have H := Lib.hid h
  have H8 := Lib.hid h8
  have HK := Lib.hid hk
  clear h h8 hk
  go_enter Tryd.func26, Tryd.ntmps26
  go_wp2
  go_loop [8] (fun iv => ∃ j : Nat, j ≤ n ∧ iv = .int .i64 (j : Int)) (fun iv => n - (intOf iv).toNat)
  case atStart => exact ⟨0, Nat.zero_le _, rfl⟩
  case round =>
    obtain ⟨j, hj, rfl⟩ := hrel
    by_cases hlt : j < n
    · obtain ⟨ad, rfl, hb, hc⟩ := ints_at H.out hlt
      have hm := getD_mem (show j < g.length by rw [HL.out]; exact hlt)
      have E := Lib.hid (fun w => by have := exch_any (g.getD j 0) w (H8.out _ hm); rwa [show decide (g.getD j 0 % 2 = 1) = false by rw [decide_eq_false_iff_not]; have := HK.out _ hm; omega] at this)
      generalize g.getD j 0 = x at hc E
      clear hm
      go_wp2_with (go_at_call 15; (with_reducible refine (E.out _).mono ?_); rintro e w' ⟨rfl, rfl⟩)
      go_round
      case rel => exact ⟨j + 1, by omega, by go_num⟩
      case measure => simp [intOf]; omega
    · obtain rfl : j = n := by omega
      go_wp2
      go_ret
      exact ⟨rfl, rfl⟩
theorem indexf_yes (h : Reads w B A n (ints g)) (hn : n ≤ 1000000) (h8 : ∀ k ∈ g, k < 8) (hk : ∃ k ∈ g, k % 2 = 1) :
    Calls Tryd.prog 26 #[.slice A n c, .func (.func 15) #[] #[]] w fun e w' => (∃ r : Nat, e = .returned (.int .i64 (r : Nat))) ∧ w = w' := by
  have HL := Lib.hid (ints_len h)
  have H := Lib.hid h
  have H8 := Lib.hid h8
  have HK := Lib.hid hk
  clear h h8 hk
  go_enter Tryd.func26, Tryd.ntmps26
  go_wp2
  go_loop [8] (fun iv => ∃ j : Nat, j ≤ n ∧ iv = .int .i64 (j : Int) ∧ ∀ i, i < j → g.getD i 0 % 2 = 0) (fun iv => n - (intOf iv).toNat)
  case atStart => exact ⟨0, Nat.zero_le _, rfl, fun i hi => absurd hi (by omega)⟩
  case round =>
    obtain ⟨j, hj, rfl, hno⟩ := hrel
    have HN := Lib.hid hno
    clear hno
    by_cases hlt : j < n
    · obtain ⟨ad, rfl, hb, hc⟩ := ints_at H.out hlt
      have hm := getD_mem (show j < g.length by rw [HL.out]; exact hlt)
      by_cases hx : g.getD j 0 % 2 = 1
      · have E := Lib.hid (fun w => by have := exch_any (g.getD j 0) w (H8.out _ hm); rwa [show decide (g.getD j 0 % 2 = 1) = true by rw [decide_eq_true_iff]; exact hx] at this)
        generalize g.getD j 0 = x at hc E
        clear hm hx
        go_wp2_with (go_at_call 15; (with_reducible refine (E.out _).mono ?_); rintro e w' ⟨rfl, rfl⟩)
        go_ret
        exact ⟨⟨j, rfl⟩, rfl⟩
      · have E := Lib.hid (fun w => by have := exch_any (g.getD j 0) w (H8.out _ hm); rwa [show decide (g.getD j 0 % 2 = 1) = false by rw [decide_eq_false_iff_not]; exact hx] at this)
        have HX := Lib.hid (show g.getD j 0 % 2 = 0 by omega)
        clear hm hx
        obtain ⟨x, hx⟩ : ∃ x, x = g.getD j 0 := ⟨_, rfl⟩
        rw [← hx] at hc E
        clear hx
        go_wp2_with (go_at_call 15; (with_reducible refine (E.out _).mono ?_); rintro e w' ⟨rfl, rfl⟩)
        go_round
        case rel =>
          exact ⟨j + 1, by omega, by go_num, fun i hi => by
            by_cases e : i = j
            · subst e; exact HX.out
            · exact HN.out i (by omega)⟩
        case measure => simp [intOf]; omega
    · exfalso
      obtain ⟨k, hk, ho⟩ := HK.out
      obtain ⟨i, hi, he⟩ := mem_getD hk
      have := HN.out i (by have := HL.out; omega)
      omega
theorem containsf_no (h : Reads w B A n (ints g)) (hn : n ≤ 1000000) (h8 : ∀ k ∈ g, k < 8) (hk : ∀ k ∈ g, k % 2 = 0) :
    Calls Tryd.prog 14 #[.slice A n c, .func (.func 15) #[] #[]] w fun e w' => e = .returned (.bool false) ∧ w = w' := by
  have I := Lib.hid (indexf_no A n c B g w h hn h8 hk)
  clear h hk h8
  go_enter Tryd.func14, Tryd.ntmps14
  go_wp2_with (go_at_call 26; (with_reducible refine I.out.mono ?_); rintro e w' ⟨rfl, rfl⟩)
  go_ret
  exact ⟨by first | rfl | exact ret_bool (by simp), rfl⟩
theorem containsf_yes (h : Reads w B A n (ints g)) (hn : n ≤ 1000000) (h8 : ∀ k ∈ g, k < 8) (hk : ∃ k ∈ g, k % 2 = 1) :
    Calls Tryd.prog 14 #[.slice A n c, .func (.func 15) #[] #[]] w fun e w' => e = .returned (.bool true) ∧ w = w' := by
  have I := Lib.hid (indexf_yes A n c B g w h hn h8 hk)
  clear h hk h8
  go_enter Tryd.func14, Tryd.ntmps14
  go_wp2_with (go_at_call 26; (with_reducible refine I.out.mono ?_); rintro e w' ⟨⟨r, rfl⟩, rfl⟩)
  go_ret
  exact ⟨by first | rfl | exact ret_bool (by simp), rfl⟩
end

/-- a size that Orbits takes -/
def Size (W H : Int) : Prop := 1 ≤ W ∧ W ≤ 256 ∧ 1 ≤ H ∧ H ≤ 256 ∧ W * H ≤ 4096
set_option maxHeartbeats 1000000 in
theorem orbits_size (s : Value) (W H : Int) (w : World) (h : ¬ Size W H) :
    Calls Tryd.prog 5 #[s, .int .i64 W, .int .i64 H] w fun e w' => e = .returned (.tuple #[.slice none 0 0, .int .i64 2]) ∧ w = w' := by
  by_cases h1 : W < 1
  · clear h
    go_enter Tryd.func5, Tryd.ntmps5
    go_wp2
    go_ret2
    exact ⟨rfl, rfl⟩
  by_cases h2 : 256 < W
  · clear h
    go_enter Tryd.func5, Tryd.ntmps5
    go_wp2
    go_ret2
    exact ⟨rfl, rfl⟩
  by_cases h3 : H < 1
  · clear h
    go_enter Tryd.func5, Tryd.ntmps5
    go_wp2
    go_ret2
    exact ⟨rfl, rfl⟩
  by_cases h4 : 256 < H
  · clear h
    go_enter Tryd.func5, Tryd.ntmps5
    go_wp2
    go_ret2
    exact ⟨rfl, rfl⟩
  have h5 : 4096 < W * H := by
    rcases Int.lt_or_le 4096 (W * H) with h5 | h5
    · exact h5
    · exact absurd ⟨by omega, by omega, by omega, by omega, h5⟩ h
  have h6 : W * H ≤ 256 * 256 := Int.mul_le_mul (by omega) (by omega) (by omega) (by omega)
  obtain ⟨S, hS⟩ : ∃ S, S = W * H := ⟨_, rfl⟩
  rw [← hS] at h5 h6
  have hS2 : W * H = S := hS.symm
  clear h hS
  go_enter Tryd.func5, Tryd.ntmps5
  go_wp2
  go_ret2
  exact ⟨rfl, rfl⟩
set_option maxHeartbeats 1000000 in
theorem rorbits_size (s : Value) (W H : Int) (w : World) (h : ¬ Size W H) :
    Calls Tryd.prog 6 #[s, .int .i64 W, .int .i64 H] w fun e w' => e = .returned (.tuple #[.slice none 0 0, .int .i64 2]) ∧ w = w' := by
  by_cases h1 : W < 1
  · clear h
    go_enter Tryd.func6, Tryd.ntmps6
    go_wp2
    go_ret2
    exact ⟨rfl, rfl⟩
  by_cases h2 : 256 < W
  · clear h
    go_enter Tryd.func6, Tryd.ntmps6
    go_wp2
    go_ret2
    exact ⟨rfl, rfl⟩
  by_cases h3 : H < 1
  · clear h
    go_enter Tryd.func6, Tryd.ntmps6
    go_wp2
    go_ret2
    exact ⟨rfl, rfl⟩
  by_cases h4 : 256 < H
  · clear h
    go_enter Tryd.func6, Tryd.ntmps6
    go_wp2
    go_ret2
    exact ⟨rfl, rfl⟩
  have h5 : 4096 < W * H := by
    rcases Int.lt_or_le 4096 (W * H) with h5 | h5
    · exact h5
    · exact absurd ⟨by omega, by omega, by omega, by omega, h5⟩ h
  have h6 : W * H ≤ 256 * 256 := Int.mul_le_mul (by omega) (by omega) (by omega) (by omega)
  obtain ⟨S, hS⟩ : ∃ S, S = W * H := ⟨_, rfl⟩
  rw [← hS] at h5 h6
  have hS2 : W * H = S := hS.symm
  clear h hS
  go_enter Tryd.func6, Tryd.ntmps6
  go_wp2
  go_ret2
  exact ⟨rfl, rfl⟩
end Go.Proofs.YthjamghemmanfaaDoor
