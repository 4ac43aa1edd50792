/- The walks of the two trims. -/
import Derived.Test.YtckkbeknjipddaaDoorMem
namespace Go.Proofs.YtckkbeknjipddaaDoor
open Go.RowKit

/-- how many of the first k digits stay when the zeros at the end go -/
def trimN (xs : List Nat) : Nat → Nat
  | 0 => 0
  | k + 1 => if xs.getD k 0 = 0 then trimN xs k else k + 1
theorem trimN_le (xs : List Nat) (k : Nat) : trimN xs k ≤ k := by
  induction k with
  | zero => exact Nat.le_refl _
  | succ k ih => unfold trimN; split <;> omega
theorem trimN_hit {xs : List Nat} {k : Nat} (h : xs[k]?.getD 0 = 0) : trimN xs (k + 1) = trimN xs k := by
  simp [trimN, List.getD, h]
theorem trimN_miss {xs : List Nat} {k : Nat} (h : ¬ xs[k]?.getD 0 = 0) : trimN xs (k + 1) = k + 1 := by
  simp [trimN, List.getD, h]
def trimL (xs : List Nat) : List Nat := xs.take (trimN xs xs.length)

theorem trim_any (A : Option Addr) (n c B : Nat) (xs : List Nat) (w : World) (h : Reads w B A n (u32s xs)) (hn : n ≤ maxLen) (hc : n ≤ c) :
    Calls Tryd.prog 42 #[.slice A n c] w fun e w' => e = .returned (.slice A (trimN xs n) c) ∧ w = w' := by
  unfold maxLen at hn
  go_enter Tryd.func42, Tryd.ntmps42
  go_wp2
  go_loop [3] (fun i => ∃ k : Nat, k ≤ n ∧ i = .int .i64 k ∧ trimN xs k = trimN xs n) (fun i => (intOf i).toNat)
  case atStart => exact ⟨n, Nat.le_refl _, rfl, rfl⟩
  case round =>
    obtain ⟨k, hk, rfl, ht⟩ := hrel
    have HT := Lib.hid ht; clear ht
    cases k with
    | zero =>
      go_wp2
      go_ret
      exact ⟨by rw [← HT.out]; rfl, rfl⟩
    | succ k =>
      obtain ⟨ad, rfl, _, hcell⟩ := u32s_at h (k := k) (by omega)
      go_wp2
      · have hz : (((xs[k]?.getD 0 : Nat) : Int) == 0) = true := by assumption
        go_round
        case rel => exact ⟨k, by omega, rfl, by rw [← HT.out]; exact (trimN_hit (by simpa using hz)).symm⟩
        case measure => simp [intOf]
      · have hz : (((xs[k]?.getD 0 : Nat) : Int) == 0) = false := by assumption
        go_ret
        exact ⟨by rw [← HT.out, trimN_miss (by simpa using hz)]; rfl, rfl⟩

theorem rtrim_any (A : Option Addr) (n c B : Nat) (xs : List Nat) (w : World) (h : Reads w B A n (ints xs)) (hn : n ≤ maxLen) (hc : n ≤ c) :
    Calls Tryd.prog 43 #[.slice A n c] w fun e w' => e = .returned (.slice A (trimN xs n) (trimN xs n)) ∧ w = w' := by
  unfold maxLen at hn
  go_enter Tryd.func43, Tryd.ntmps43
  go_wp2
  go_loop [3] (fun i => ∃ k : Nat, k ≤ n ∧ i = .int .i64 k ∧ trimN xs k = trimN xs n) (fun i => (intOf i).toNat)
  case atStart => exact ⟨n, Nat.le_refl _, rfl, rfl⟩
  case round =>
    obtain ⟨k, hk, rfl, ht⟩ := hrel
    have HT := Lib.hid ht; clear ht
    cases k with
    | zero =>
      go_wp2
      go_ret
      exact ⟨by rw [← HT.out]; rfl, rfl⟩
    | succ k =>
      obtain ⟨ad, rfl, _, hcell⟩ := ints_at h (k := k) (by omega)
      go_wp2
      · have hz : (((xs[k]?.getD 0 : Nat) : Int) == 0) = true := by assumption
        go_round
        case rel => exact ⟨k, by omega, rfl, by rw [← HT.out]; exact (trimN_hit (by simpa using hz)).symm⟩
        case measure => simp [intOf]
      · have hz : (((xs[k]?.getD 0 : Nat) : Int) == 0) = false := by assumption
        go_ret
        exact ⟨by rw [← HT.out, trimN_miss (by simpa using hz)]; rfl, rfl⟩

end Go.Proofs.YtckkbeknjipddaaDoor
