/- The walks of the searches in a list of numbers, and of the comparison of two lists. -/
import Derived.Test.YthjamghemmanfaaDoorNum
import Derived.BigQuiet
namespace Go.Proofs.YthjamghemmanfaaDoor
open Go.RowKit

theorem getD_mem {g : List Nat} {j : Nat} (h : j < g.length) : g.getD j 0 ∈ g := by
  rw [List.getD_eq_getElem?_getD, List.getElem?_eq_getElem h]; exact List.getElem_mem h
theorem mem_getD {g : List Nat} {k : Nat} (h : k ∈ g) : ∃ j, j < g.length ∧ g.getD j 0 = k := by
  obtain ⟨j, hj, rfl⟩ := List.getElem_of_mem h
  exact ⟨j, hj, by rw [List.getD_eq_getElem?_getD, List.getElem?_eq_getElem hj]; rfl⟩

section
variable (A : Option Addr) (n c B : Nat) (g : List Nat) (k : Nat) (w : World)
theorem has_any (h : Reads w B A n (ints g)) (hn : n ≤ 1000000) :
    Calls Tryd.prog 27 #[.slice A n c, .int .i64 (k : Nat)] w fun e w' => e = .returned (.bool (decide (k ∈ g))) ∧ w = w' := by
  have hl := ints_len h
  have H := Lib.hid h
  have HL := Lib.hid hl
  clear h hl
  go_enter Tryd.func27, Tryd.ntmps27
  go_wp2
  go_loop [5] (fun iv => ∃ j : Nat, j ≤ n ∧ iv = .int .i64 (j : Int) ∧ ∀ i, i < j → g.getD i 0 ≠ k) (fun iv => n - (intOf iv).toNat)
  case atStart => exact ⟨0, Nat.zero_le _, rfl, fun i hi => absurd hi (by omega)⟩
  case round =>
    obtain ⟨j, hj, rfl, hno⟩ := hrel
    have HN := Lib.hid hno
    clear hno
    by_cases hlt : j < n
    · obtain ⟨ad, rfl, hb, hc⟩ := ints_at H.out hlt
      obtain ⟨x, hx⟩ : ∃ x, x = g.getD j 0 := ⟨_, rfl⟩
      rw [← hx] at hc
      have HXX := Lib.hid hx
      clear hx
      by_cases hxk : x = k
      · subst hxk
        go_wp2
        go_ret
        exact ⟨ret_bool (by rw [eq_comm, decide_eq_true_iff, HXX.out]; exact getD_mem (by rw [HL.out]; exact hlt)), rfl⟩
      · have ht : ((x : Int) == (k : Int)) = false := by rw [beq_eq_false_iff_ne]; omega
        go_wp2
        go_round
        case rel =>
          exact ⟨j + 1, by omega, by go_num, fun i hi => by
            by_cases e : i = j
            · subst e; rw [← HXX.out]; exact hxk
            · exact HN.out i (by omega)⟩
        case measure => simp [intOf]; omega
    · obtain rfl : j = n := by omega
      go_wp2
      go_ret
      exact ⟨ret_bool (by
        rw [eq_comm, decide_eq_false_iff_not]
        intro hm
        obtain ⟨i, hi, he⟩ := mem_getD hm
        exact HN.out i (by have := HL.out; omega) he), rfl⟩
theorem index_no (h : Reads w B A n (ints g)) (hn : n ≤ 1000000) (hk : k ∉ g) :
    Calls Tryd.prog 39 #[.slice A n c, .int .i64 (k : Nat)] w fun e w' => e = .returned (.int .i64 (-1)) ∧ w = w' := by
  have HL := Lib.hid (ints_len h)
  have H := Lib.hid h
  clear h
  go_enter Tryd.func39, Tryd.ntmps39
  go_wp2
  go_loop [8] (fun iv => ∃ j : Nat, j ≤ n ∧ iv = .int .i64 (j : Int)) (fun iv => n - (intOf iv).toNat)
  case atStart => exact ⟨0, Nat.zero_le _, rfl⟩
  case round =>
    obtain ⟨j, hj, rfl⟩ := hrel
    by_cases hlt : j < n
    · obtain ⟨ad, rfl, hb, hc⟩ := ints_at H.out hlt
      have hx : g.getD j 0 ≠ k := fun e => hk (by rw [← e]; exact getD_mem (by rw [HL.out]; exact hlt))
      generalize g.getD j 0 = x at hc hx
      have ht : ((x : Int) == (k : Int)) = false := by rw [beq_eq_false_iff_ne]; omega
      have ht2 : ((k : Int) == (x : Int)) = false := by rw [beq_eq_false_iff_ne]; omega
      go_wp2
      go_round
      case rel => exact ⟨j + 1, by omega, by go_num⟩
      case measure => simp [intOf]; omega
    · obtain rfl : j = n := by omega
      go_wp2
      go_ret
      exact ⟨rfl, rfl⟩
theorem index_yes (h : Reads w B A n (ints g)) (hn : n ≤ 1000000) (hk : k ∈ g) :
    Calls Tryd.prog 39 #[.slice A n c, .int .i64 (k : Nat)] w fun e w' => ∃ r : Nat, e = .returned (.int .i64 (r : Nat)) ∧ w = w' := by
  have HL := Lib.hid (ints_len h)
  have H := Lib.hid h
  clear h
  go_enter Tryd.func39, Tryd.ntmps39
  go_wp2
  go_loop [8] (fun iv => ∃ j : Nat, j ≤ n ∧ iv = .int .i64 (j : Int) ∧ ∀ i, i < j → g.getD i 0 ≠ k) (fun iv => n - (intOf iv).toNat)
  case atStart => exact ⟨0, Nat.zero_le _, rfl, fun i hi => absurd hi (by omega)⟩
  case round =>
    obtain ⟨j, hj, rfl, hno⟩ := hrel
    have HN := Lib.hid hno
    clear hno
    by_cases hlt : j < n
    · obtain ⟨ad, rfl, hb, hc⟩ := ints_at H.out hlt
      obtain ⟨x, hx⟩ : ∃ x, x = g.getD j 0 := ⟨_, rfl⟩
      rw [← hx] at hc
      have HXX := Lib.hid hx
      clear hx
      by_cases hxk : x = k
      · subst hxk
        go_wp2
        go_ret
        exact ⟨⟨j, rfl⟩, rfl⟩
      · have ht : ((x : Int) == (k : Int)) = false := by rw [beq_eq_false_iff_ne]; omega
        have ht2 : ((k : Int) == (x : Int)) = false := by rw [beq_eq_false_iff_ne]; omega
        go_wp2
        go_round
        case rel =>
          exact ⟨j + 1, by omega, by go_num, fun i hi => by
            by_cases e : i = j
            · subst e; rw [← HXX.out]; exact hxk
            · exact HN.out i (by omega)⟩
        case measure => simp [intOf]; omega
    · exfalso
      obtain ⟨i, hi, he⟩ := mem_getD hk
      exact HN.out i (by have := HL.out; omega) he
theorem contains_any (h : Reads w B A n (ints g)) (hn : n ≤ 1000000) :
    Calls Tryd.prog 23 #[.slice A n c, .int .i64 (k : Nat)] w fun e w' => e = .returned (.bool (decide (k ∈ g))) ∧ w = w' := by
  by_cases hk : k ∈ g
  · have I := Lib.hid (index_yes A n c B g k w h hn hk)
    have hd := Lib.hid (show decide (k ∈ g) = true by simpa using hk)
    clear h hk
    go_enter Tryd.func23, Tryd.ntmps23
    go_wp2_with (go_at_call 39; (with_reducible refine I.out.mono ?_); rintro e w' ⟨r, rfl, rfl⟩)
    go_ret
    exact ⟨by rw [hd.out] <;> first | rfl | exact ret_bool (by simp), rfl⟩
  · have I := Lib.hid (index_no A n c B g k w h hn hk)
    have hd := Lib.hid (show decide (k ∈ g) = false by simpa using hk)
    clear h hk
    go_enter Tryd.func23, Tryd.ntmps23
    go_wp2_with (go_at_call 39; (with_reducible refine I.out.mono ?_); rintro e w' ⟨rfl, rfl⟩)
    go_ret
    exact ⟨by rw [hd.out] <;> first | rfl | exact ret_bool (by simp), rfl⟩
end
end Go.Proofs.YthjamghemmanfaaDoor
