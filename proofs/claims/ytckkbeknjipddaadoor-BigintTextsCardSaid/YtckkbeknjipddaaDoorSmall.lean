/- The walks of the small functions without memory of their own. -/
import Derived.Test.YtckkbeknjipddaaDoorTrim
namespace Go.Proofs.YtckkbeknjipddaaDoor
open Go.RowKit

theorem ret_bool {a b : Bool} (h : a = b) : Ending.returned (.bool a) = .returned (.bool b) := by rw [h]
theorem ret_int {k : IntKind} {a b : Int} (h : a = b) : Ending.returned (.int k a) = .returned (.int k b) := by rw [h]

theorem ret2_int {k k' : IntKind} {a b a' b' : Int} (h : a = a') (h' : b = b') : Ending.returned (.tuple #[.int k a, .int k' b]) = .returned (.tuple #[.int k a', .int k' b']) := by rw [h, h']
theorem getD_out {xs : List Nat} {i : Nat} (h : xs.length ≤ i) : xs.getD i 0 = 0 := by
  simp [List.getD, List.getElem?_eq_none h]

theorem short_any (neg : Bool) (A : Option Addr) (n c : Nat) (w : World) (hn : n ≤ maxLen) :
    Calls Tryd.prog 4 #[.agg #[.bool neg, .slice A n c]] w fun e w' => e = .returned (.bool (decide (n ≤ 100))) ∧ Below w.heap.size w w' := by
  unfold maxLen at hn
  go_enter Tryd.func4, Tryd.ntmps4
  go_wp2
  go_ret
  exact ⟨ret_bool (by simp; omega), (Below.refl _ _).alloc (Nat.le_refl _) _⟩

theorem nat_bne (d : Nat) : ((d : Int) != 0) = (d != 0) := by
  rw [Bool.eq_iff_iff]; simp
theorem nat_beq (d : Nat) : ((d : Int) == 0) = (d == 0) := by
  rw [Bool.eq_iff_iff]; simp

def rightB (neg : Bool) (xs : List Nat) : Bool := if xs.length = 0 then !neg else decide (xs.length ≤ 64) && (xs.getD (xs.length - 1) 0 != 0)

theorem right_any (neg : Bool) (A : Option Addr) (n c B : Nat) (xs : List Nat) (w : World) (h : Reads w B A n (u32s xs)) (hB : B ≤ w.heap.size) (hn : n ≤ maxLen) :
    Calls Tryd.prog 20 #[.agg #[.bool neg, .slice A n c]] w fun e w' => e = .returned (.bool (rightB neg xs)) ∧ Below w.heap.size w w' := by
  unfold maxLen at hn
  have hl := u32s_len h
  cases n with
  | zero =>
    go_enter Tryd.func20, Tryd.ntmps20
    go_wp2
    go_ret
    exact ⟨ret_bool (by simp [rightB, hl]), (Below.refl _ _).alloc (Nat.le_refl _) _⟩
  | succ m =>
    obtain ⟨ad, rfl, hb, hcell⟩ := u32s_at (h.alloc hB (.cells #[.bool neg, .slice A (m + 1) c] 24)) (k := m) (by omega)
    have HL := Lib.hid hl; clear hl
    by_cases h64 : m + 1 ≤ 64
    all_goals
      go_enter Tryd.func20, Tryd.ntmps20
      go_wp2
      go_ret
      refine ⟨ret_bool ?_, (Below.refl _ _).alloc (Nat.le_refl _) _⟩
      unfold rightB
      rw [HL.out]
      have h64' : decide (m ≤ 63) = decide (m + 1 ≤ 64) := by simp
      simp [nat_bne, h64, h64']
theorem rright_any (neg : Bool) (A : Option Addr) (n c B : Nat) (xs : List Nat) (w : World) (h : Reads w B A n (u32s xs)) (hB : B ≤ w.heap.size) (hn : n ≤ maxLen) :
    Calls Tryd.prog 11 #[.agg #[.bool neg, .slice A n c]] w fun e w' => e = .returned (.bool (rightB neg xs)) ∧ Below w.heap.size w w' := by
  unfold maxLen at hn
  have hl := u32s_len h
  cases n with
  | zero =>
    go_enter Tryd.func11, Tryd.ntmps11
    go_wp2
    go_ret
    exact ⟨ret_bool (by simp [rightB, hl]), (Below.refl _ _).alloc (Nat.le_refl _) _⟩
  | succ m =>
    obtain ⟨ad, rfl, hb, hcell⟩ := u32s_at (h.alloc hB (.cells #[.bool neg, .slice A (m + 1) c] 24)) (k := m) (by omega)
    have HL := Lib.hid hl; clear hl
    by_cases h64 : m + 1 ≤ 64
    all_goals
      go_enter Tryd.func11, Tryd.ntmps11
      go_wp2
      go_ret
      refine ⟨ret_bool ?_, (Below.refl _ _).alloc (Nat.le_refl _) _⟩
      unfold rightB
      rw [HL.out]
      have h64' : decide (m ≤ 63) = decide (m + 1 ≤ 64) := by simp
      simp [nat_bne, h64, h64']

theorem digitAt_any (A : Option Addr) (n c B i : Nat) (xs : List Nat) (w : World) (h : Reads w B A n (u32s xs)) (hn : n ≤ maxLen) (hi : i ≤ maxLen) :
    Calls Tryd.prog 38 #[.slice A n c, .int .i64 (i : Nat)] w fun e w' => e = .returned (.int .u32 (xs.getD i 0 : Nat)) ∧ w = w' := by
  unfold maxLen at hn hi
  have hl := Lib.hid (u32s_len h)
  by_cases hlt : i < n
  · obtain ⟨ad, rfl, hb, hcell⟩ := u32s_at h hlt
    go_enter Tryd.func38, Tryd.ntmps38
    go_wp2
    go_ret
    exact ⟨ret_int (by simp), rfl⟩
  · go_enter Tryd.func38, Tryd.ntmps38
    go_wp2
    go_ret
    exact ⟨ret_int (by rw [getD_out (by have := hl.out; omega)]; rfl), rfl⟩
theorem digit_any (A : Option Addr) (n c B i : Nat) (xs : List Nat) (w : World) (h : Reads w B A n (ints xs)) (hn : n ≤ maxLen) (hi : i ≤ maxLen) :
    Calls Tryd.prog 26 #[.slice A n c, .int .i64 (i : Nat)] w fun e w' => e = .returned (.int .i64 (xs.getD i 0 : Nat)) ∧ w = w' := by
  unfold maxLen at hn hi
  have hl := Lib.hid (ints_len h)
  by_cases hlt : i < n
  · obtain ⟨ad, rfl, hb, hcell⟩ := ints_at h hlt
    go_enter Tryd.func26, Tryd.ntmps26
    go_wp2
    go_ret
    exact ⟨ret_int (by simp), rfl⟩
  · go_enter Tryd.func26, Tryd.ntmps26
    go_wp2
    go_ret
    exact ⟨ret_int (by rw [getD_out (by have := hl.out; omega)]; rfl), rfl⟩

theorem u64s_at {w : World} {B n : Nat} {A : Option Addr} {xs : List Nat} (h : Reads w B A n (u64s xs)) {k : Nat} (hk : k < n) :
    ∃ ad, A = some ad ∧ ad.block < B ∧ w.cell? (ad.add k) = some (.int .u64 (xs.getD k 0 : Nat)) := by
  obtain ⟨ad, u, e, hb, hx, hc⟩ := h.at_ hk
  refine ⟨ad, e, hb, ?_⟩
  rw [hc, ← hx]
  simp only [u64s, List.getElem?_map, List.getD] at hx ⊢
  cases h' : xs[k]? with
  | none => rw [h'] at hx; cases hx
  | some d => simp
theorem sum_take_le (xs : List Nat) (k : Nat) : (xs.take k).sum ≤ xs.sum := by
  induction xs generalizing k with
  | nil => simp
  | cons x xs ih =>
    cases k with
    | zero => simp
    | succ k => simp only [List.take_succ_cons, List.sum_cons]; have := ih k; omega
theorem sum_take_succ (xs : List Nat) (k : Nat) (hk : k < xs.length) : (xs.take (k + 1)).sum = (xs.take k).sum + xs.getD k 0 := by
  rw [List.take_succ_eq_append_getElem hk, List.sum_append]
  simp [List.getD, hk]

theorem column_any (A : Option Addr) (n c B : Nat) (xs : List Nat) (w : World) (h : Reads w B A n (u64s xs)) (hn : n ≤ maxLen) (hs : xs.sum < 18446744073709551616) :
    Calls Tryd.prog 41 #[.slice A n c] w fun e w' => e = .returned (.tuple #[.int .u32 (xs.sum % 4294967296 : Nat), .int .u64 (xs.sum / 4294967296 : Nat)]) ∧ w = w' := by
  unfold maxLen at hn
  have hl := Lib.hid (show xs.length = n by simpa [u64s] using h.1)
  go_enter Tryd.func41, Tryd.ntmps41
  go_wp2
  go_loop [4, 9] (fun s i => ∃ k : Nat, k ≤ n ∧ s = .int .u64 ((xs.take k).sum : Nat) ∧ i = .int .i64 k) (fun _ i => n - (intOf i).toNat)
  case atStart => exact ⟨0, Nat.zero_le _, by simp, rfl⟩
  case round =>
    obtain ⟨k, hk, rfl, rfl⟩ := hrel
    have h1 := sum_take_le xs k
    by_cases hlt : k < n
    · have h2 := sum_take_le xs (k + 1)
      have HS := Lib.hid (sum_take_succ xs k (by rw [hl.out]; exact hlt))
      obtain ⟨ad, rfl, hb, hcell⟩ := u64s_at h hlt
      have h3 : (xs.take k).sum + xs[k]?.getD 0 < 18446744073709551616 := by
        have e := HS.out
        simp only [List.getD] at e
        omega
      go_wp2
      go_round
      case rel => exact ⟨k + 1, by omega, by rw [HS.out]; simp, by go_num⟩
      case measure => simp [intOf]; omega
    · obtain rfl : n = k := by omega
      have HT := Lib.hid (show xs.take n = xs by rw [← hl.out]; exact List.take_length)
      go_wp2
      go_ret2
      exact ⟨ret2_int (by rw [HT.out]) (by rw [HT.out]), rfl⟩

end Go.Proofs.YtckkbeknjipddaaDoor
