/- The walks of a reader's Bits and End. -/
import Derived.Test.YtekjhomjonfgfaaGam
namespace Go.Proofs.Ytekjhomjonfgfaa
open Go.RowKit

set_option maxRecDepth 100000 in
set_option maxHeartbeats 1000000 in
theorem rbits_any (g n c p m B : Nat) (A : Option Addr) (xs : List Nat) (w : World) (h0 : w.cell? ⟨g, 0, none⟩ = some (.slice A n c)) (h1 : w.cell? ⟨g, 1, none⟩ = some (.int .i64 (p : Nat))) (hf : w.frozen? ⟨g, 1, none⟩ = false) (h : Reads w B A n (u8s xs)) (hn : n ≤ 65536) (hp : p + m ≤ 8 * n) (hm : m ≤ 64) (hx : ∀ d ∈ xs, d < 256) :
    Calls Try.prog 10 #[.pointer (some ⟨g, 0, none⟩), .int .i64 (m : Nat)] w fun e w' => e = .returned (.tuple #[.int .u64 (num xs p m : Nat), .int .i64 0]) ∧ ∃ k, w' = (w.drewN k).setCell ⟨g, 1, none⟩ (.int .i64 (p + m : Nat)) := by
  have hl := Lib.hid (fun (W : World) h0 h1 => left_any g n c p A W h0 h1 hn (by omega))
  have hq := Lib.hid (fun (W : World) h0 h => number_any g n c p m B A xs W h0 h hn hm hp hx)
  obtain ⟨l, hle⟩ : ∃ l, l = 8 * n - p := ⟨_, rfl⟩
  rw [← hle] at hl
  have hml : m ≤ l := by omega
  clear hle
  obtain ⟨v, hv⟩ : ∃ v, v = num xs p m := ⟨_, rfl⟩
  rw [← hv] at hq ⊢
  clear hv
  go_enter Try.func10, Try.ntmps10
  go_wp2_with (first | (go_at_call 7; refine (hl.out w h0 h1).mono ?_; rintro e w' ⟨rfl, k1, rfl⟩) | (go_at_call 18; refine (hq.out (w.drewN k1) h0 (h.drewN _)).mono ?_; rintro e w' ⟨rfl, k2, rfl⟩))
  go_ret2
  exact ⟨rfl, k1 + k2, set_int (by simp)⟩

set_option maxRecDepth 100000 in
theorem rbits_short (g n c p m : Nat) (A : Option Addr) (w : World) (h0 : w.cell? ⟨g, 0, none⟩ = some (.slice A n c)) (h1 : w.cell? ⟨g, 1, none⟩ = some (.int .i64 (p : Nat))) (hn : n ≤ 65536) (hp : p ≤ 8 * n) (hp2 : 8 * n < p + m) (hm : m ≤ 64) :
    Calls Try.prog 10 #[.pointer (some ⟨g, 0, none⟩), .int .i64 (m : Nat)] w fun e w' => e = .returned (.tuple #[.int .u64 0, .int .i64 4]) ∧ ∃ k, w' = w.drewN k := by
  have hl := Lib.hid (fun (W : World) h0 h1 => left_any g n c p A W h0 h1 hn (by omega))
  obtain ⟨l, hle⟩ : ∃ l, l = 8 * n - p := ⟨_, rfl⟩
  rw [← hle] at hl
  have hml : l < m := by omega
  clear hle
  go_enter Try.func10, Try.ntmps10
  go_wp2_with (first | (go_at_call 7; refine (hl.out w h0 h1).mono ?_; rintro e w' ⟨rfl, k1, rfl⟩))
  go_ret2
  exact ⟨rfl, k1, rfl⟩

set_option maxRecDepth 100000 in
theorem end_yes (g n c p B : Nat) (A : Option Addr) (xs : List Nat) (w : World) (h0 : w.cell? ⟨g, 0, none⟩ = some (.slice A n c)) (h1 : w.cell? ⟨g, 1, none⟩ = some (.int .i64 (p : Nat))) (h : Reads w B A n (u8s xs)) (hn : n ≤ 65536) (hp : p ≤ 8 * n) (hp8 : 8 * n < p + 8) (hx : ∀ d ∈ xs, d < 256) (hv : num xs p (8 * n - p) = 0) :
    Calls Try.prog 15 #[.pointer (some ⟨g, 0, none⟩)] w fun e w' => e = .returned (.bool true) ∧ ∃ k, w' = w.drewN k := by
  have hl := Lib.hid (fun (W : World) h0 h1 => left_any g n c p A W h0 h1 hn (by omega))
  have hq := Lib.hid (fun (W : World) h0 h => number_any g n c p (8 * n - p) B A xs W h0 h hn (by omega) (by omega) hx)
  rw [hv] at hq
  obtain ⟨l, hle⟩ : ∃ l, l = 8 * n - p := ⟨_, rfl⟩
  rw [← hle] at hl hq
  have hml : l < 8 := by omega
  clear hle hv
  go_enter Try.func15, Try.ntmps15
  go_wp2_with (first | (go_at_call 7; refine (hl.out w h0 h1).mono ?_; rintro e w' ⟨rfl, k1, rfl⟩) | (go_at_call 18; refine (hq.out (w.drewN k1) h0 (h.drewN _)).mono ?_; rintro e w' ⟨rfl, k2, rfl⟩))
  go_ret
  exact ⟨rfl, _, rfl⟩
end Go.Proofs.Ytekjhomjonfgfaa
