/- The walks of operands and deepest. -/
import Derived.Test.YtfoheeijdaknnaaUl
namespace Go.Proofs.Ytfoheeijdaknnaa
open Go.RowKit

/-- the operands of a gate -/
def opn (g : C3) : List Int := if g.1 = 0 ∨ g.1 = 1 then [] else if g.1 = 2 then [g.2.1] else [g.2.1, g.2.2]
section
variable (a b : Int) (w : World)
theorem operands_01 (op : Int) (ho : op = 0 ∨ op = 1) : Calls Try.prog 22 #[.agg #[.int .i64 op, .int .i64 a, .int .i64 b]] w fun e w' => ∃ A c, e = .returned (.slice A (opn (op, a, b)).length c) ∧ Reads w' w'.heap.size A (opn (op, a, b)).length (il (opn (op, a, b))) ∧ Below w.heap.size w w' := by
  have B1 := Lib.hid ((Below.refl w.heap.size w).alloc (Nat.le_refl _) (.cells #[.int .i64 op, .int .i64 a, .int .i64 b] 43))
  have HR : opn (op, a, b) = [] := by simp [opn, ho]
  rw [HR]
  rcases ho with rfl | rfl
  all_goals
    go_enter Try.func22, Try.ntmps22
    go_wp2
    go_ret
    exact ⟨none, 0, rfl, Reads.none_, B1.out⟩
theorem operands_2 : Calls Try.prog 22 #[.agg #[.int .i64 2, .int .i64 a, .int .i64 b]] w fun e w' => ∃ A c, e = .returned (.slice A (opn (2, a, b)).length c) ∧ Reads w' w'.heap.size A (opn (2, a, b)).length (il (opn (2, a, b))) ∧ Below w.heap.size w w' := by
  have HR : opn (2, a, b) = [a] := by simp [opn]
  rw [HR]
  have B1 := Lib.hid (((Below.refl w.heap.size w).alloc (Nat.le_refl _) (.cells #[.int .i64 2, .int .i64 a, .int .i64 b] 43)).alloc (by simp) (.cells #[.int .i64 a] 3))
  have K := Blk.new (w.alloc (.cells #[.int .i64 2, .int .i64 a, .int .i64 b] 43)) 3 (il [a]).toArray
  rw [World.size_alloc] at K
  have R := Lib.hid (Reads.of_blk K)
  clear K
  go_enter Try.func22, Try.ntmps22
  go_wp2
  go_ret
  exact ⟨_, _, rfl, R.out, B1.out⟩
theorem operands_no (op : Int) (h0 : op ≠ 0) (h1 : op ≠ 1) (h2 : op ≠ 2) : Calls Try.prog 22 #[.agg #[.int .i64 op, .int .i64 a, .int .i64 b]] w fun e w' => ∃ A c, e = .returned (.slice A (opn (op, a, b)).length c) ∧ Reads w' w'.heap.size A (opn (op, a, b)).length (il (opn (op, a, b))) ∧ Below w.heap.size w w' := by
  have HR : opn (op, a, b) = [a, b] := by simp [opn, h0, h1, h2]
  rw [HR]
  have B1 := Lib.hid (((Below.refl w.heap.size w).alloc (Nat.le_refl _) (.cells #[.int .i64 op, .int .i64 a, .int .i64 b] 43)).alloc (by simp) (.cells #[.int .i64 a, .int .i64 b] 3))
  have K := Blk.new (w.alloc (.cells #[.int .i64 op, .int .i64 a, .int .i64 b] 43)) 3 (il [a, b]).toArray
  rw [World.size_alloc] at K
  have R := Lib.hid (Reads.of_blk K)
  clear K
  rw [← beq_eq_false_iff_ne] at h0 h1 h2
  go_enter Try.func22, Try.ntmps22
  go_wp2
  go_ret
  exact ⟨_, _, rfl, R.out, B1.out⟩
theorem operands_any (op : Int) : Calls Try.prog 22 #[.agg #[.int .i64 op, .int .i64 a, .int .i64 b]] w fun e w' => ∃ A c, e = .returned (.slice A (opn (op, a, b)).length c) ∧ Reads w' w'.heap.size A (opn (op, a, b)).length (il (opn (op, a, b))) ∧ Below w.heap.size w w' := by
  by_cases h0 : op = 0
  · exact operands_01 a b w op (.inl h0)
  by_cases h1 : op = 1
  · exact operands_01 a b w op (.inr h1)
  by_cases h2 : op = 2
  · subst h2; exact operands_2 a b w
  exact operands_no a b w op h0 h1 h2
end
/-- the greatest of the first j depths -/
def dm (l x : List Int) : Nat → Int
  | 0 => 0
  | j + 1 => max (dm l x j) (ig l (ig x j).toNat)
set_option maxRecDepth 100000 in
set_option maxHeartbeats 1000000 in
theorem deepest_any (A A' : Option Addr) (n c m c' : Nat) (l x : List Int) (w : World) (h : Reads w w.heap.size A n (il l)) (h' : Reads w w.heap.size A' m (il x)) (hn : n ≤ 1000000) (hm : m ≤ 1000000) (hx : ∀ j, j < m → 0 ≤ ig x j ∧ ig x j < (n : Int)) :
    Calls Try.prog 21 #[.slice A n c, .slice A' m c'] w fun e w' => e = .returned (.int .i64 (dm l x m)) ∧ w = w' := by
  have H := Lib.hid h
  have H' := Lib.hid h'
  have HX := Lib.hid hx
  clear h h' hx
  go_enter Try.func21, Try.ntmps21
  go_wp2
  go_loopw [5, 10] (fun rv iv wr => ∃ j : Nat, j ≤ m ∧ rv = .int .i64 (dm l x j) ∧ iv = .int .i64 (j : Int) ∧ wr = w) (fun _ iv _ => m - (intOf iv).toNat)
  case atStart => exact ⟨0, Nat.zero_le _, rfl, rfl, by trivial⟩
  case round =>
    obtain ⟨j, hj, rfl, rfl, rfl⟩ := hrel
    by_cases hk : j < m
    · obtain ⟨a2, rfl, hb2, hc2⟩ := il_at H'.out hk
      obtain ⟨k0, k1⟩ := HX.out j hk
      obtain ⟨k, hkk⟩ : ∃ k : Nat, ig x j = (k : Int) := ⟨(ig x j).toNat, by omega⟩
      have HD := Lib.hid (show dm l x (j + 1) = max (dm l x j) (ig l k) by rw [dm, hkk, Int.toNat_natCast])
      rw [hkk] at hc2 k0 k1
      have k1' : k < n := by omega
      clear hkk k0
      obtain ⟨a1, rfl, hb1, hc1⟩ := il_at H.out k1'
      generalize ig l k = y at hc1 HD
      obtain ⟨r, hr⟩ : ∃ r, r = dm l x j := ⟨_, rfl⟩
      rw [← hr] at HD ⊢
      clear hr
      have hmx : ∀ (w : World) (ts : Array TypeId) (t : TypeId), (Builtin.max_ ts t #[.int .i64 r, .int .i64 y]).run Try.prog w = .ok (.int .i64 (dm l x (j + 1))) w := fun w ts t => by rw [HD.out]; exact run_max2 w ts t .i64 r y
      obtain ⟨r', hr'⟩ : ∃ r', r' = dm l x (j + 1) := ⟨_, rfl⟩
      rw [← hr'] at hmx
      have HR' := Lib.hid hr'
      clear hr'
      go_wp2
      go_roundw
      case rel => exact ⟨j + 1, by omega, by rw [HR'.out], by go_num, by trivial⟩
      case measure => simp [intOf]; omega
    · obtain rfl : j = m := by omega
      go_wp2
      go_ret
      exact ⟨rfl, rfl⟩
end Go.Proofs.Ytfoheeijdaknnaa
