/- The walks of a reader: the zeros before the next one, Gamma, Bits, End. -/
import Derived.Test.YtekjhomjonfgfaaRead
namespace Go.Proofs.Ytekjhomjonfgfaa
open Go.RowKit

def ZEnd (xs : List Nat) (n p z : Nat) (e : Int) : Prop :=
  (e = 0 ∧ z < 64 ∧ p + z < 8 * n ∧ (∀ j, j < z → bitAt xs (p + j) = 0) ∧ bitAt xs (p + z) = 1) ∨
  (e = 3 ∧ z = 0 ∧ ∀ j, j < 64 → bitAt xs (p + j) = 0) ∨
  (e = 4 ∧ z = 0 ∧ ∀ j, p + j < 8 * n → bitAt xs (p + j) = 0)

set_option maxRecDepth 100000 in
theorem zeros_any (g n c p B : Nat) (A : Option Addr) (xs : List Nat) (w : World) (h0 : w.cell? ⟨g, 0, none⟩ = some (.slice A n c)) (h1 : w.cell? ⟨g, 1, none⟩ = some (.int .i64 (p : Nat))) (h : Reads w B A n (u8s xs)) (hn : n ≤ 65536) (hp : p ≤ 8 * n) (hx : ∀ d ∈ xs, d < 256) :
    Calls Try.prog 17 #[.pointer (some ⟨g, 0, none⟩)] w fun e w' => ∃ z er, e = .returned (.tuple #[.int .i64 (z : Nat), .int .i64 er]) ∧ ZEnd xs n p z er ∧ ∃ k, w' = w.drewN k := by
  go_enter Try.func17, Try.ntmps17
  go_wp2_with (go_at_call 7; refine (left_any g n c p A w h0 h1 hn hp).mono ?_; rintro e w' ⟨rfl, k0, rfl⟩)
  obtain ⟨l, hl⟩ : ∃ l, l = 8 * n - p := ⟨_, rfl⟩
  rw [← hl]
  go_loopw [8] (fun iv wr => ∃ i k : Nat, i ≤ 64 ∧ i ≤ l ∧ iv = .int .i64 i ∧ (∀ j, j < i → bitAt xs (p + j) = 0) ∧ wr = w.drewN k) (fun iv _ => 64 - (intOf iv).toNat)
  case atStart => exact ⟨0, _, by omega, by omega, rfl, fun j hj => by omega, rfl⟩
  case round =>
    obtain ⟨i, k, hi, hil, rfl, hz, rfl⟩ := hrel
    have HZ := Lib.hid hz
    have HL := Lib.hid hl
    clear hz hl
    by_cases h64 : i < 64
    · by_cases hlt : i < l
      · have hb := Lib.hid (fun (W : World) h0 h => bit_any g n c (p + i) B A xs W h0 h hn (by have := HL.out; omega) hx)
        have hbl := bitAt_lt xs (p + i)
        obtain ⟨b, hbe⟩ : ∃ b, b = bitAt xs (p + i) := ⟨_, rfl⟩
        rw [← hbe] at hb hbl
        have HB := Lib.hid hbe
        clear hbe
        have hc : ((p + i : Nat) : Int) = (p : Int) + (i : Int) := by simp
        rw [hc] at hb
        have hne : ((i : Int) == (l : Int)) = false := by rw [beq_eq_false_iff_ne]; omega
        have h1' : (w.drewN k).cell? ⟨g, 1, none⟩ = some (.int .i64 (p : Nat)) := h1
        by_cases hb1 : b = 1
        · subst hb1
          go_wp2_with (go_at_call 22; refine (hb.out (w.drewN k) h0 (h.drewN k)).mono ?_; rintro e w' ⟨rfl, k', rfl⟩)
          go_ret2
          exact ⟨i, 0, rfl, .inl ⟨rfl, h64, by have := HL.out; omega, HZ.out, HB.out.symm⟩, _, rfl⟩
        · obtain rfl : b = 0 := by omega
          go_wp2_with (go_at_call 22; refine (hb.out (w.drewN k) h0 (h.drewN k)).mono ?_; rintro e w' ⟨rfl, k', rfl⟩)
          go_roundw
          case rel =>
            refine ⟨i + 1, _, by omega, by omega, by go_num, ?_, rfl⟩
            intro j hj
            rcases Nat.lt_or_ge j i with h' | h'
            · exact HZ.out j h'
            · obtain rfl : j = i := by omega
              exact HB.out.symm
          case measure => simp [intOf]; omega
      · obtain rfl : i = l := by omega
        go_wp2
        go_ret2
        exact ⟨0, 4, rfl, .inr (.inr ⟨rfl, rfl, fun j hj => HZ.out j (by have := HL.out; omega)⟩), _, rfl⟩
    · obtain rfl : i = 64 := by omega
      go_wp2
      go_ret2
      exact ⟨0, 3, rfl, .inr (.inl ⟨rfl, rfl, HZ.out⟩), _, rfl⟩

def Good (xs : List Nat) (n p z : Nat) : Prop := z < 64 ∧ p + 2 * z + 1 ≤ 8 * n ∧ (∀ j, j < z → bitAt xs (p + j) = 0) ∧ bitAt xs (p + z) = 1 ∧ num xs (p + z) (z + 1) ≤ 9223372036854775808
theorem num_ge (xs : List Nat) (s k : Nat) (h : bitAt xs s = 1) : 2 ^ k ≤ num xs s (k + 1) := by
  induction k with
  | zero => simp [num, h]
  | succ k ih => rw [num, Nat.pow_succ]; omega
theorem first_one (xs : List Nat) (p z z' : Nat) (h1 : ∀ j, j < z → bitAt xs (p + j) = 0) (h2 : bitAt xs (p + z) = 1) (h1' : ∀ j, j < z' → bitAt xs (p + j) = 0) (h2' : bitAt xs (p + z') = 1) : z = z' := by
  rcases Nat.lt_trichotomy z z' with h | h | h
  · have := h1' z h; omega
  · exact h
  · have := h1 z' h; omega

theorem set_int {w : World} {p : Addr} {k : IntKind} {a b : Int} (h : a = b) : w.setCell p (.int k a) = w.setCell p (.int k b) := by rw [h]
/-- what a call of Gamma does to a reader at the position p -/
def Gammas (xs : List Nat) (n p g : Nat) (w : World) (e : Ending) (w' : World) : Prop :=
  (∃ z k, Good xs n p z ∧ e = .returned (.tuple #[.int .i64 (num xs (p + z) (z + 1) - 1 : Nat), .int .i64 0]) ∧ w' = (w.drewN k).setCell ⟨g, 1, none⟩ (.int .i64 (p + 2 * z + 1 : Nat))) ∨
  (∃ er k, er ≠ 0 ∧ (∀ z, ¬ Good xs n p z) ∧ e = .returned (.tuple #[.int .i64 0, .int .i64 er]) ∧ w' = w.drewN k)

set_option maxRecDepth 100000 in
set_option maxHeartbeats 1000000 in
theorem gamma_any (g n c p B : Nat) (A : Option Addr) (xs : List Nat) (w : World) (h0 : w.cell? ⟨g, 0, none⟩ = some (.slice A n c)) (h1 : w.cell? ⟨g, 1, none⟩ = some (.int .i64 (p : Nat))) (hf : w.frozen? ⟨g, 1, none⟩ = false) (h : Reads w B A n (u8s xs)) (hn : n ≤ 65536) (hp : p ≤ 8 * n) (hx : ∀ d ∈ xs, d < 256) :
    Calls Try.prog 6 #[.pointer (some ⟨g, 0, none⟩)] w (Gammas xs n p g w) := by
  go_enter Try.func6, Try.ntmps6
  go_wp2_with fail
  go_at_call 17
  refine (zeros_any g n c p B A xs w h0 h1 h hn hp hx).mono ?_
  rintro e w' ⟨z, er, rfl, hz, k0, rfl⟩
  rcases hz with ⟨rfl, hz1, hz2, hz3, hz4⟩ | ⟨rfl, rfl, hz1⟩ | ⟨rfl, rfl, hz1⟩
  · have HZ3 := Lib.hid hz3
    have HZ4 := Lib.hid hz4
    clear hz3 hz4
    have hl := Lib.hid (fun (W : World) h0 h1 => left_any g n c p A W h0 h1 hn hp)
    have h0' : (w.drewN k0).cell? ⟨g, 0, none⟩ = some (.slice A n c) := h0
    have h1' : (w.drewN k0).cell? ⟨g, 1, none⟩ = some (.int .i64 (p : Nat)) := h1
    obtain ⟨l, hle⟩ : ∃ l, l = 8 * n - p := ⟨_, rfl⟩
    rw [← hle] at hl
    have HL := Lib.hid hle
    clear hle
    by_cases hlt : 2 * z + 1 ≤ l
    · have hm := Lib.hid (fun (W : World) h0 h => number_any g n c (p + z) (z + 1) B A xs W h0 h hn (by omega) (by have := HL.out; omega) hx)
      have hge := num_ge xs (p + z) z HZ4.out
      have hlt2 := num_lt xs (p + z) (z + 1)
      have h264 : 2 ^ (z + 1) ≤ 2 ^ 64 := Nat.pow_le_pow_right (by decide) (by omega)
      have h1z : 1 ≤ 2 ^ z := Nat.two_pow_pos z
      obtain ⟨v, hv⟩ : ∃ v, v = num xs (p + z) (z + 1) := ⟨_, rfl⟩
      rw [← hv] at hm hge hlt2
      have hv1 : 1 ≤ v := by omega
      have hv2 : v < 18446744073709551616 := by omega
      have HV := Lib.hid hv
      clear hv hge hlt2 h264 h1z
      have e1 : ((p + z : Nat) : Int) = (p : Int) + (z : Int) := by simp
      have e2 : ((z + 1 : Nat) : Int) = (z : Int) + 1 := by simp
      rw [e1, e2] at hm
      by_cases hbig : v ≤ 9223372036854775808
      · go_wp2_with (first | (go_at_call 7; refine (hl.out (w.drewN k0) h0' h1').mono ?_; rintro e w' ⟨rfl, k1, rfl⟩) | (go_at_call 18; refine (hm.out (w.drewN (k0 + k1)) h0 (h.drewN _)).mono ?_; rintro e w' ⟨rfl, k2, rfl⟩))
        go_ret2
        refine .inl ⟨z, k0 + k1 + k2, ⟨hz1, by have := HL.out; omega, HZ3.out, HZ4.out, by rw [← HV.out]; exact hbig⟩, ?_, ?_⟩
        · exact ret2_int (by rw [← HV.out]; omega) rfl
        · exact set_int (by simp; omega)
      · go_wp2_with (first | (go_at_call 7; refine (hl.out (w.drewN k0) h0' h1').mono ?_; rintro e w' ⟨rfl, k1, rfl⟩) | (go_at_call 18; refine (hm.out (w.drewN (k0 + k1)) h0 (h.drewN _)).mono ?_; rintro e w' ⟨rfl, k2, rfl⟩))
        go_ret2
        exact .inr ⟨3, _, by decide, fun z' ⟨g1, g2, g3, g4, g5⟩ => by
          obtain rfl := first_one xs p z z' HZ3.out HZ4.out g3 g4
          rw [← HV.out] at g5
          omega, rfl, rfl⟩
    · go_wp2_with (first | (go_at_call 7; refine (hl.out (w.drewN k0) h0' h1').mono ?_; rintro e w' ⟨rfl, k1, rfl⟩))
      go_ret2
      exact .inr ⟨4, _, by decide, fun z' ⟨g1, g2, g3, g4, g5⟩ => by
        have := first_one xs p z z' HZ3.out HZ4.out g3 g4
        have := HL.out
        omega, rfl, rfl⟩
  · go_wp2
    go_ret2
    exact .inr ⟨3, _, by decide, fun z ⟨g1, g2, g3, g4, g5⟩ => by have := hz1 z g1; omega, rfl, rfl⟩
  · go_wp2
    go_ret2
    exact .inr ⟨4, _, by decide, fun z ⟨g1, g2, g3, g4, g5⟩ => by have := hz1 z (by omega); omega, rfl, rfl⟩
end Go.Proofs.Ytekjhomjonfgfaa
