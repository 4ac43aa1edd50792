/- The walks of a reader: one bit, a number, the zeros before the next one. -/
import Derived.Test.YtekjhomjonfgfaaLen
namespace Go.Proofs.Ytekjhomjonfgfaa
open Go.RowKit

def bitAt (xs : List Nat) (p : Nat) : Nat := xs.getD (p / 8) 0 / 2 ^ (7 - p % 8) % 2
theorem bitAt_lt (xs : List Nat) (p : Nat) : bitAt xs p < 2 := Nat.mod_lt _ (by decide)
def num (xs : List Nat) (s : Nat) : Nat → Nat
  | 0 => 0
  | k + 1 => 2 * num xs s k + bitAt xs (s + k)
theorem num_lt (xs : List Nat) (s k : Nat) : num xs s k < 2 ^ k := by
  induction k with
  | zero => simp [num]
  | succ k ih =>
    have := bitAt_lt xs (s + k)
    rw [num, Nat.pow_succ]
    omega
theorem getD_lt {b : Nat} (hb : 0 < b) {xs : List Nat} (hx : ∀ d ∈ xs, d < b) (i : Nat) : xs.getD i 0 < b := by
  by_cases hl : i < xs.length
  · simp only [List.getD, List.getElem?_eq_getElem hl, Option.getD_some]
    exact hx _ (List.getElem_mem hl)
  · rw [getD_out (by omega)]; exact hb

set_option maxRecDepth 100000 in
theorem bit_any (g n c p B : Nat) (A : Option Addr) (xs : List Nat) (w : World) (h0 : w.cell? ⟨g, 0, none⟩ = some (.slice A n c)) (h : Reads w B A n (u8s xs)) (hn : n ≤ 65536) (hp : p < 8 * n) (hx : ∀ d ∈ xs, d < 256) :
    Calls Try.prog 22 #[.pointer (some ⟨g, 0, none⟩), .int .i64 (p : Nat)] w fun e w' => e = .returned (.int .u64 (bitAt xs p : Nat)) ∧ ∃ k, w' = w.drewN k := by
  obtain ⟨ad, rfl, had, hc⟩ := u8s_at h (k := p / 8) (by omega)
  have hb := getD_lt (by decide) hx (p / 8)
  unfold bitAt
  obtain ⟨d, hd⟩ : ∃ d, d = xs.getD (p / 8) 0 := ⟨_, rfl⟩
  rw [← hd] at hc hb ⊢
  clear hd
  obtain ⟨q, hq⟩ : ∃ q, q = p / 8 := ⟨_, rfl⟩
  rw [← hq] at hc
  have hw : IntKind.i64.wrap ((p : Int) / 8) = (q : Int) := by rw [IntWalk.i64_in _ (by omega)]; omega
  have hq0 : (0 : Int) ≤ (q : Int) := Int.natCast_nonneg _
  have hq1 : (q : Int) < (n : Int) := by omega
  have HQ := Lib.hid hq
  clear hq
  go_enter Try.func22, Try.ntmps22
  go_wp2
  go_quiet ((go_at_call 23; exact Calls.quiet_of_same ((place_any p _ (by unfold maxLen; omega)).mono fun _ _ h => ⟨h.1, h.2.symm⟩)))
  go_wp2
  go_ret
  refine ⟨ret_int ?_, _, rfl⟩
  have e : (d : Int) / 2 ^ (7 - p % 8) = ((d / 2 ^ (7 - p % 8) : Nat) : Int) := by simp
  have hle := Nat.div_le_self d (2 ^ (7 - p % 8))
  rw [e]
  generalize d / 2 ^ (7 - p % 8) = z at hle ⊢
  rw [IntWalk.u64_in _ (by omega), u64_and _ _ (by omega) (by omega) (by omega) (by omega)]
  simp

theorem or_bit (v b : Nat) (hb : b < 2) (hv : v < 9223372036854775808) : bits .or .u64 ((v : Int) * 2) (b : Int) = ((2 * v + b : Nat) : Int) := by
  have h2 : ((v : Int) * 2) = ((2 * v : Nat) : Int) := by omega
  rw [h2, u64_or_nat _ _ (by omega) (by omega)]
  congr 1
  have := Nat.two_pow_add_eq_or_of_lt (i := 1) (b := b) (by simpa using hb) v
  simpa using this.symm

set_option maxRecDepth 100000 in
theorem number_any (g n c s m B : Nat) (A : Option Addr) (xs : List Nat) (w : World) (h0 : w.cell? ⟨g, 0, none⟩ = some (.slice A n c)) (h : Reads w B A n (u8s xs)) (hn : n ≤ 65536) (hm : m ≤ 64) (hs : s + m ≤ 8 * n) (hx : ∀ d ∈ xs, d < 256) :
    Calls Try.prog 18 #[.pointer (some ⟨g, 0, none⟩), .int .i64 (s : Nat), .int .i64 (m : Nat)] w fun e w' => e = .returned (.int .u64 (num xs s m : Nat)) ∧ ∃ k, w' = w.drewN k := by
  go_enter Try.func18, Try.ntmps18
  go_wp2
  go_loopw [7, 10] (fun v iv wr => ∃ i k : Nat, i ≤ m ∧ v = .int .u64 (num xs s i : Nat) ∧ iv = .int .i64 i ∧ wr = w.drewN k) (fun _ iv _ => m - (intOf iv).toNat)
  case atStart => exact ⟨0, 0, Nat.zero_le _, rfl, rfl, rfl⟩
  case round =>
    obtain ⟨i, k, hi, rfl, rfl, rfl⟩ := hrel
    by_cases hlt : i < m
    · have hb := Lib.hid (fun (W : World) h0 h => bit_any g n c (s + i) B A xs W h0 h hn (by omega) hx)
      have hv : num xs s i < 9223372036854775808 := Nat.lt_of_lt_of_le (num_lt xs s i) (Nat.pow_le_pow_right (by decide) (show i ≤ 63 by omega))
      have HS := Lib.hid (show num xs s (i + 1) = 2 * num xs s i + bitAt xs (s + i) from rfl)
      have hbl := bitAt_lt xs (s + i)
      obtain ⟨v, hve⟩ : ∃ v, v = num xs s i := ⟨_, rfl⟩
      obtain ⟨b, hbe⟩ : ∃ b, b = bitAt xs (s + i) := ⟨_, rfl⟩
      rw [← hve, ← hbe] at HS
      rw [← hve] at hv ⊢
      rw [← hbe] at hb hbl
      clear hve hbe
      have hor := or_bit v b hbl hv
      have hc : ((s + i : Nat) : Int) = (s : Int) + (i : Int) := by simp
      rw [hc] at hb
      go_wp2_with (go_at_call 22; refine (hb.out (w.drewN k) h0 (h.drewN k)).mono ?_; rintro e w' ⟨rfl, k', rfl⟩)
      go_roundw
      case rel => exact ⟨i + 1, _, by omega, by rw [HS.out]; exact congrArg (Value.int .u64) (by simp), by go_num, rfl⟩
      case measure => simp [intOf]; omega
    · obtain rfl : i = m := by omega
      go_wp2
      go_ret
      exact ⟨rfl, _, rfl⟩
end Go.Proofs.Ytekjhomjonfgfaa
