/- The walk of the law: what the examples' walk says is handed in. -/
import Derived.Test.YtpcpelfjhpdndaaGrowNo
import Derived.Test.YtpcpelfjhpdndaaAround
namespace Go.Proofs.Ytpcpelfjhpdndaa
open Go.RowKit

def AwakeSays : Prop := ∀ w, Calls Try.prog 5 #[] w fun e w' => e = .returned (.bool true) ∧ Below w.heap.size w w'

theorem ptF_in (x y : Int) (n m N k : Nat) (hN : n * m = N) (hk : k < N) : x ≤ (ptF x y n k).1 ∧ (ptF x y n k).1 ≤ x + n - 1 ∧ y ≤ (ptF x y n k).2 ∧ (ptF x y n k).2 ≤ y + m - 1 := by
  have hn : 0 < n := by
    rcases Nat.eq_zero_or_pos n with h | h
    · subst h; simp at hN; omega
    · exact h
  have h1 := Nat.mod_lt k hn
  have h2 : k / n < m := (Nat.div_lt_iff_lt_mul hn).2 (by rw [Nat.mul_comm, hN]; exact hk)
  unfold ptF
  simp only
  generalize k % n = r at h1 ⊢
  generalize k / n = q at h2 ⊢
  omega
theorem ptF_last (x y : Int) (n m N : Nat) (hN : n * m = N) (hn : 1 ≤ n) (hm : 1 ≤ m) : ptF x y n (N - 1) = (x + n - 1, y + m - 1) := by
  have h1 : N - 1 = (m - 1) * n + (n - 1) := by
    obtain ⟨j, rfl⟩ : ∃ j, m = j + 1 := ⟨m - 1, by omega⟩
    rw [← hN, Nat.mul_add, Nat.mul_comm n j]
    simp
    omega
  rw [h1, ptF_at x y n (m - 1) (n - 1) (by omega)]
  simp only [Prod.mk.injEq]
  omega
theorem around_box (g : Nat) (x y : Int) (n m N : Nat) (w : World) (h : Ok x y n m) (hN : n * m = N) (h5 : N ≤ 5000) (hr : PReads w w.heap.size g N (ptF x y n)) :
    Calls Try.prog 7 #[.slice (some ⟨g, 0, none⟩) N N] w fun e w' => e = .returned (.tuple #[.agg #[.int .i64 x, .int .i64 y, .int .i64 n, .int .i64 m], .bool true]) ∧ Below w.heap.size w w' := by
  obtain ⟨⟨a1, a2, a3, a4⟩, b1, b2, b3, b4⟩ := h
  have hn1 : 1 ≤ n := by omega
  have hm1 : 1 ≤ m := by omega
  have hN1 : 1 ≤ N := by rw [← hN]; exact Nat.mul_le_mul hn1 hm1
  have h0 := around_any g N N (ptF x y n) x y (x + n - 1) (y + m - 1) w hr hN1 h5 (fun k hk => ptF_in x y n m N k hN hk) (by simp [ptF]) (ptF_last x y n m N hN hn1 hm1) a1 (by omega) b1 (by omega)
  rw [show x + (n : Int) - 1 - x + 1 = n by omega, show y + (m : Int) - 1 - y + 1 = m by omega] at h0
  exact h0
theorem grow_back (x y n m k : Int) (w : World) (h : Ok x y n m) (h1 : -1048576 ≤ k) (h2 : k ≤ 1048576) (hg : Ok (x - k) (y - k) (n + 2 * k) (m + 2 * k)) :
    Calls Try.prog 8 #[.agg #[.int .i64 (x - k), .int .i64 (y - k), .int .i64 (n + 2 * k), .int .i64 (m + 2 * k)], .int .i64 (-k)] w fun e w' => e = .returned (.tuple #[.agg #[.int .i64 x, .int .i64 y, .int .i64 n, .int .i64 m], .int .i64 0]) ∧ Below w.heap.size w w' := by
  have e1 : x - k - -k = x := by omega
  have e2 : y - k - -k = y := by omega
  have e3 : n + 2 * k + 2 * -k = n := by omega
  have e4 : m + 2 * k + 2 * -k = m := by omega
  have h0 := grow_yes (x - k) (y - k) (n + 2 * k) (m + 2 * k) (-k) w hg (by omega) (by omega) (by rw [e1, e2, e3, e4]; exact h)
  rw [e1, e2, e3, e4] at h0
  exact h0

theorem law_bad (HA : AwakeSays) (x y n m k : Int) (w : World) (h : ¬ Ok x y n m) :
    Calls Try.prog 3 #[.agg #[.int .i64 x, .int .i64 y, .int .i64 n, .int .i64 m], .int .i64 k] w fun e w' => e = .returned (.bool true) ∧ Below w.heap.size w w' := by
  have R1 := Lib.hid (fun w => rright_no x y n m w h)
  have HA := Lib.hid (show ∀ w, Calls Try.prog 5 #[] w (fun e w' => e = .returned (.bool true) ∧ Below w.heap.size w w') from HA)
  have B0 := Lib.hid ((Below.refl w.heap.size w).alloc (Nat.le_refl _) (.cells #[.int .i64 x, .int .i64 y, .int .i64 n, .int .i64 m] 23))
  clear h
  go_enter Try.func3, Try.ntmps3
  go_wp2_with (first
    | (go_at_call 4; (with_reducible refine (R1.out _).mono ?_); rintro e w1 ⟨rfl, hb⟩; have B1 := Lib.hid (B0.out.trans (hb.mono B0.out.size)); clear hb)
    | (go_at_call 5; (with_reducible refine (HA.out _).mono ?_); rintro e w2 ⟨rfl, hb⟩; have B2 := Lib.hid (B1.out.trans (hb.mono B1.out.size)); clear hb))
  go_ret
  exact ⟨rfl, B2.out⟩
end Go.Proofs.Ytpcpelfjhpdndaa
