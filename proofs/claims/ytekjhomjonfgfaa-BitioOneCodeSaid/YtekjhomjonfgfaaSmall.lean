/- The walks of the small functions of bitio that only read. -/
import Derived.Test.YtekjhomjonfgfaaMem
import Derived.Deep.QuietTactic
import Derived.BigQuiet
import Derived.Laws.MathBits
namespace Go.Proofs.Ytekjhomjonfgfaa
open Go.RowKit

theorem ret_bool {a b : Bool} (h : a = b) : Ending.returned (.bool a) = .returned (.bool b) := by rw [h]
theorem ret_int {k : IntKind} {a b : Int} (h : a = b) : Ending.returned (.int k a) = .returned (.int k b) := by rw [h]
theorem ret2_int {k k' : IntKind} {a b a' b' : Int} (h : a = a') (h' : b = b') : Ending.returned (.tuple #[.int k a, .int k' b]) = .returned (.tuple #[.int k a', .int k' b']) := by rw [h, h']
theorem getD_out {xs : List Nat} {i : Nat} (h : xs.length ≤ i) : xs.getD i 0 = 0 := by
  simp [List.getD, List.getElem?_eq_none h]
theorem u8s_len {w : World} {B n : Nat} {A : Option Addr} {xs : List Nat} (h : Reads w B A n (u8s xs)) : xs.length = n := by simpa [u8s] using h.1
theorem u8s_at {w : World} {B n : Nat} {A : Option Addr} {xs : List Nat} (h : Reads w B A n (u8s xs)) {k : Nat} (hk : k < n) :
    ∃ ad, A = some ad ∧ ad.block < B ∧ w.cell? (ad.add k) = some (.int .u8 (xs.getD k 0 : Nat)) := by
  obtain ⟨ad, u, e, hb, hx, hc⟩ := h.at_ hk
  refine ⟨ad, e, hb, ?_⟩
  rw [hc, ← hx]
  simp only [u8s, List.getElem?_map, List.getD] at hx ⊢
  cases h' : xs[k]? with
  | none => rw [h'] at hx; cases hx
  | some d => simp

theorem place_any (p : Nat) (w : World) (hp : p ≤ maxLen) :
    Calls Try.prog 23 #[.int .i64 (p : Nat)] w fun e w' => e = .returned (.int .i64 (7 - p % 8 : Nat)) ∧ w = w' := by
  unfold maxLen at hp
  go_enter Try.func23, Try.ntmps23
  go_wp2
  go_ret
  exact ⟨ret_int (by omega), rfl⟩

theorem left_any (g n c p : Nat) (A : Option Addr) (w : World) (h0 : w.cell? ⟨g, 0, none⟩ = some (.slice A n c)) (h1 : w.cell? ⟨g, 1, none⟩ = some (.int .i64 (p : Nat))) (hn : n ≤ 65536) (hp : p ≤ 8 * n) :
    Calls Try.prog 7 #[.pointer (some ⟨g, 0, none⟩)] w fun e w' => e = .returned (.int .i64 (8 * n - p : Nat)) ∧ ∃ k, w' = w.drewN k := by
  go_enter Try.func7, Try.ntmps7
  go_wp2
  go_quiet (fail)
  go_wp2
  go_ret
  exact ⟨ret_int (by omega), _, rfl⟩

theorem len_any (g p : Nat) (w : World) (h1 : w.cell? ⟨g, 1, none⟩ = some (.int .i64 (p : Nat))) :
    Calls Try.prog 9 #[.pointer (some ⟨g, 0, none⟩)] w fun e w' => e = .returned (.int .i64 (p : Nat)) ∧ w = w' := by
  go_enter Try.func9, Try.ntmps9
  go_wp2
  go_ret
  exact ⟨rfl, rfl⟩

theorem fold_m1 (w : World) :
    Calls Try.prog 21 #[.int .i64 (-1)] w fun e w' => e = .returned (.int .i64 1) ∧ w = w' := by
  go_enter Try.func21, Try.ntmps21
  go_wp2
  go_ret
  exact ⟨rfl, rfl⟩

theorem same_yes (A1 A2 : Option Addr) (n c1 c2 B : Nat) (xs : List Value) (zs : List Int) (hz : xs = zs.map (Value.int .u8)) (w : World) (h1 : Reads w B A1 n xs) (h2 : Reads w B A2 n xs) (hn : n ≤ maxLen) :
    Calls Try.prog 12 #[.slice A1 n c1, .slice A2 n c2] w fun e w' => e = .returned (.bool true) ∧ ∃ k, w' = w.drewN k := by
  unfold maxLen at hn
  have hl := h1.1
  go_enter Try.func12, Try.ntmps12
  go_wp2
  go_loopw [5] (fun iv wr => ∃ i k : Nat, i ≤ n ∧ iv = .int .i64 i ∧ wr = w.drewN k) (fun iv _ => n - (intOf iv).toNat)
  case atStart => exact ⟨0, 0, Nat.zero_le _, rfl, rfl⟩
  case round =>
    obtain ⟨i, k, hi, rfl, rfl⟩ := hrel
    by_cases hlt : i < n
    · obtain ⟨a1, u, rfl, _, hx1, e1⟩ := h1.at_ hlt
      obtain ⟨a2, u2, rfl, _, hx2, e2⟩ := h2.at_ hlt
      rw [hx1] at hx2
      obtain rfl : u = u2 := Option.some.inj hx2
      obtain ⟨z, rfl⟩ : ∃ z, u = .int .u8 z := by
        rw [hz, List.getElem?_map] at hx1
        cases h' : zs[i]? with
        | none => rw [h'] at hx1; cases hx1
        | some z => rw [h'] at hx1; exact ⟨z, (Option.some.inj hx1).symm⟩
      have hi0 : (0 : Int) ≤ (i : Int) := Int.natCast_nonneg _
      have hi1 : (i : Int) < (n : Int) := by omega
      clear hx1 hx2 hl hz
      go_wp2
      go_quiet (fail)
      go_wp2
      go_roundw
      case rel => exact ⟨i + 1, _, by omega, by go_num, rfl⟩
      case measure => simp [intOf]; omega
    · go_wp2
      go_ret
      exact ⟨rfl, _, rfl⟩

end Go.Proofs.Ytekjhomjonfgfaa
