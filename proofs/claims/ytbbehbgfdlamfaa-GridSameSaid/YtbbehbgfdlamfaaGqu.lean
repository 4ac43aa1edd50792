/- The walks of grid's small functions at any numbers. -/
import Derived.Test.YtbbehbgfdlamfaaTSmall
import Derived.Test.YtbbehbgfdlamfaaTInts
namespace Go.Proofs.Ytbbehbgfdlamfaa
open Go.RowKit

/-- a side that a valid grid can have -/
def vsd (n : Int) : Bool := decide (1 ≤ n) && decide (n ≤ 256)
/-- a size and an edge that a valid grid can have -/
def vsh (W H E : Int) : Bool := vsd W && (vsd H && (decide (W * H ≤ 4096) && (decide (0 ≤ E) && decide (E ≤ 2))))
/-- no state of a grid's cell -/
def nst (s : Int) : Bool := decide (s < 0) || decide (8 ≤ s)
theorem vsd_iff (n : Int) : vsd n = true ↔ 1 ≤ n ∧ n ≤ 256 := by simp [vsd]
theorem vsh_iff (W H E : Int) : vsh W H E = true ↔ (1 ≤ W ∧ W ≤ 256) ∧ (1 ≤ H ∧ H ≤ 256) ∧ W * H ≤ 4096 ∧ 0 ≤ E ∧ E ≤ 2 := by simp [vsh, vsd_iff, and_assoc]
theorem prod_bd {W H : Int} (h1 : 1 ≤ W) (h2 : W ≤ 256) (h3 : 1 ≤ H) (h4 : H ≤ 256) : 1 ≤ W * H ∧ W * H ≤ 65536 := by
  have a := Int.mul_le_mul h1 h3 (by omega) (by omega)
  have b := Int.mul_le_mul h2 h4 (by omega) (by omega)
  omega
theorem gside_any (n : Int) (w : World) : Calls Try.prog 27 #[.int .i64 n] w fun e w' => e = .returned (.bool (vsd n)) ∧ w = w' := by
  by_cases h1 : 1 ≤ n
  · by_cases h2 : n ≤ 256
    · have e : vsd n = true := by simp [vsd, h1, h2]
      rw [e]
      clear e
      go_enter Try.func27, Try.ntmps27
      go_wp2
      go_ret
      exact ⟨rfl, rfl⟩
    · have e : vsd n = false := by simp [vsd, h2]
      rw [e]
      clear e
      go_enter Try.func27, Try.ntmps27
      go_wp2
      go_ret
      exact ⟨rfl, rfl⟩
  · have e : vsd n = false := by simp [vsd, h1]
    rw [e]
    clear e
    go_enter Try.func27, Try.ntmps27
    go_wp2
    go_ret
    exact ⟨rfl, rfl⟩
theorem gstate_any (n : Int) (w : World) : Calls Try.prog 21 #[.int .i64 n] w fun e w' => e = .returned (.bool (nst n)) ∧ w = w' := by
  by_cases h1 : n < 0
  · have e : nst n = true := by simp [nst, h1]
    rw [e]
    clear e
    go_enter Try.func21, Try.ntmps21
    go_wp2
    go_ret
    exact ⟨rfl, rfl⟩
  · by_cases h2 : 8 ≤ n
    · have e : nst n = true := by simp [nst, h2]
      rw [e]
      clear e
      go_enter Try.func21, Try.ntmps21
      go_wp2
      go_ret
      exact ⟨rfl, rfl⟩
    · have e : nst n = false := by simp [nst, h1, h2]
      rw [e]
      clear e
      go_enter Try.func21, Try.ntmps21
      go_wp2
      go_ret
      exact ⟨rfl, rfl⟩
set_option maxHeartbeats 1000000 in
theorem gshape_any (W H E : Int) (w : World) : Calls Try.prog 20 #[.int .i64 W, .int .i64 H, .int .i64 E] w fun e w' => e = .returned (.bool (vsh W H E)) ∧ w = w' := by
  have hW := fun w => gside_any W w
  have hH := fun w => gside_any H w
  have PB := fun (a : vsd W = true) (b : vsd H = true) => prod_bd ((vsd_iff W).1 a).1 ((vsd_iff W).1 a).2 ((vsd_iff H).1 b).1 ((vsd_iff H).1 b).2
  unfold vsh
  generalize vsd W = a at *
  generalize vsd H = b at *
  cases a with
  | false =>
    clear PB hH
    go_enter Try.func20, Try.ntmps20
    go_wp2_with (go_at_call 27; (with_reducible refine (hW _).mono ?_); rintro e w' ⟨rfl, rfl⟩)
    go_ret
    exact ⟨rfl, rfl⟩
  | true =>
    cases b with
    | false =>
      clear PB
      go_enter Try.func20, Try.ntmps20
      go_wp2_with (first | (go_at_call 27; (with_reducible refine (hW _).mono ?_); rintro e w' ⟨rfl, rfl⟩) | (go_at_call 27; (with_reducible refine (hH _).mono ?_); rintro e w' ⟨rfl, rfl⟩))
      go_ret
      exact ⟨rfl, rfl⟩
    | true =>
      obtain ⟨p1, p2⟩ := PB rfl rfl
      clear PB
      by_cases h1 : W * H ≤ 4096
      · by_cases h2 : 0 ≤ E
        · by_cases h3 : E ≤ 2
          · go_enter Try.func20, Try.ntmps20
            go_wp2_with (first | (go_at_call 27; (with_reducible refine (hW _).mono ?_); rintro e w' ⟨rfl, rfl⟩) | (go_at_call 27; (with_reducible refine (hH _).mono ?_); rintro e w' ⟨rfl, rfl⟩))
            go_ret
            exact ⟨ret_bool (by simp [h1, h2, h3]), rfl⟩
          · go_enter Try.func20, Try.ntmps20
            go_wp2_with (first | (go_at_call 27; (with_reducible refine (hW _).mono ?_); rintro e w' ⟨rfl, rfl⟩) | (go_at_call 27; (with_reducible refine (hH _).mono ?_); rintro e w' ⟨rfl, rfl⟩))
            go_ret
            exact ⟨ret_bool (by simp [h1, h2, h3]), rfl⟩
        · go_enter Try.func20, Try.ntmps20
          go_wp2_with (first | (go_at_call 27; (with_reducible refine (hW _).mono ?_); rintro e w' ⟨rfl, rfl⟩) | (go_at_call 27; (with_reducible refine (hH _).mono ?_); rintro e w' ⟨rfl, rfl⟩))
          go_ret
          exact ⟨ret_bool (by simp [h1, h2]; try omega), rfl⟩
      · go_enter Try.func20, Try.ntmps20
        go_wp2_with (first | (go_at_call 27; (with_reducible refine (hW _).mono ?_); rintro e w' ⟨rfl, rfl⟩) | (go_at_call 27; (with_reducible refine (hH _).mono ?_); rintro e w' ⟨rfl, rfl⟩))
        go_ret
        exact ⟨ret_bool (by simp [h1]; try omega), rfl⟩
theorem tmod_mod (n m : Int) (hm : 0 < m) : (n.tmod m < 0 → n.tmod m + m = n % m) ∧ (¬ n.tmod m < 0 → n.tmod m = n % m) ∧ -m < n.tmod m ∧ n.tmod m < m := by
  rcases Int.le_total 0 n with h | h
  · rw [Int.tmod_eq_emod_of_nonneg h]
    have a := Int.emod_nonneg n (show m ≠ 0 by omega)
    have b := Int.emod_lt_of_pos n hm
    omega
  · obtain ⟨k, rfl⟩ : ∃ k, n = -k := ⟨-n, by omega⟩
    rw [Int.neg_tmod, Int.tmod_eq_emod_of_nonneg (by omega)]
    have a := Int.emod_nonneg k (show m ≠ 0 by omega)
    have b := Int.emod_lt_of_pos k hm
    have c : (-k) % m = if k % m = 0 then 0 else m - k % m := by
      split
      · next e => rw [Int.emod_eq_zero_of_dvd]; exact Int.dvd_neg.2 (Int.dvd_of_emod_eq_zero e)
      · next e =>
        have q : -k = (m - k % m) + m * (- (k / m) - 1) := by
          have := Int.mul_ediv_add_emod k m
          rw [Int.mul_sub, Int.mul_neg]; omega
        rw [q, Int.add_mul_emod_self_left]
        exact Int.emod_eq_of_lt (by omega) (by omega)
    rw [c]
    split <;> omega
set_option maxHeartbeats 1000000 in
theorem grem_any (n m : Int) (w : World) (hm : 1 ≤ m) (hm' : m ≤ 1000000) : Calls Try.prog 16 #[.int .i64 n, .int .i64 m] w fun e w' => e = .returned (.int .i64 (n % m)) ∧ w = w' := by
  obtain ⟨a, b, c, d⟩ := tmod_mod n m (by omega)
  have h0 : (m == 0) = false := by rw [beq_eq_false_iff_ne]; omega
  have h00 : ¬ m = 0 := by omega
  generalize hr : n.tmod m = r at *
  by_cases h : r < 0
  · rw [← a h]
    clear a b
    go_enter Try.func16, Try.ntmps16
    go_wp2
    go_ret
    exact ⟨rfl, rfl⟩
  · rw [← b h]
    clear a b
    go_enter Try.func16, Try.ntmps16
    go_wp2
    go_ret
    exact ⟨rfl, rfl⟩
end Go.Proofs.Ytbbehbgfdlamfaa
