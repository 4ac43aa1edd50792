/- The walks of a writer's Gamma, Bits and Signed. -/
import Derived.Test.YtekjhomjonfgfaaPut
import Derived.Test.YtekjhomjonfgfaaLen
namespace Go.Proofs.Ytekjhomjonfgfaa
open Go.RowKit

theorem Wr.used {w : World} {base g : Nat} {l : List Nat} (h : Wr w base g l) : w.cell? ⟨g, 1, none⟩ = some (.int .i64 (l.length : Nat)) := by
  obtain ⟨A, c, hb, _⟩ := h
  exact hb.two.2.1

set_option maxRecDepth 100000 in
set_option maxHeartbeats 1000000 in
theorem wgamma_any (g base n z : Nat) (l : List Nat) (w : World) (h : Wr w base g l) (hg : base ≤ w.heap.size) (hgb : g < base) (hz : z ≤ 63) (h1 : 2 ^ z ≤ n + 1) (h2 : n + 1 < 2 ^ (z + 1)) (hn : n < 9223372036854775808) (hl : l.length + 2 * z + 1 ≤ 524288) :
    Calls Try.prog 8 #[.pointer (some ⟨g, 0, none⟩), .int .i64 (n : Nat)] w fun e w' => e = .returned (.int .i64 0) ∧ Wr w' base g (l ++ digs 0 z z ++ digs (n + 1) (z + 1) (z + 1)) ∧ Touch base g w w' := by
  have p1 := h.used
  have q1 := Lib.hid (put_any g base 0 z l w h hg hgb (by decide) (by omega) (by omega))
  have q2 := Lib.hid (fun (W : World) hW hS => put_any g base (n + 1) (z + 1) (l ++ digs 0 z z) W hW hS hgb (by omega) (by omega) (by rw [List.length_append, digs_len]; omega))
  have q3 := Lib.hid (fun (W : World) => len64_any (n + 1) W (by omega))
  rw [bitLen_eq (n + 1) z h1 h2 hz] at q3
  obtain ⟨u, hu⟩ : ∃ u, u = l.length := ⟨_, rfl⟩
  rw [← hu] at p1 hl
  have e1 : ((n + 1 : Nat) : Int) = (n : Int) + 1 := by simp
  have e2 : ((z + 1 : Nat) : Int) = (z : Int) + 1 := by simp
  rw [show ((0 : Nat) : Int) = 0 from rfl] at q1
  rw [e1, e2] at q2
  rw [e1, e2] at q3
  clear h h1 h2 hu
  go_enter Try.func8, Try.ntmps8
  go_wp2_with (first | (go_at_call 19; refine (q3.out w).mono ?_; rintro e w' ⟨rfl, rfl⟩) | (go_at_call 20; (with_reducible refine q1.out.mono ?_); rintro e w1 ⟨rfl, hw1, ht1⟩) | (go_at_call 20; (with_reducible refine (q2.out w1 hw1 (Nat.le_trans hg ht1.size)).mono ?_); rintro e w2 ⟨rfl, hw2, ht2⟩))
  go_ret
  exact ⟨rfl, hw2, ht1.trans ht2⟩

theorem wgamma_neg (g : Nat) (w : World) :
    Calls Try.prog 8 #[.pointer (some ⟨g, 0, none⟩), .int .i64 (-1)] w fun e w' => e = .returned (.int .i64 5) ∧ w = w' := by
  go_enter Try.func8, Try.ntmps8
  go_wp2
  go_ret
  exact ⟨rfl, rfl⟩

set_option maxRecDepth 100000 in
set_option maxHeartbeats 1000000 in
theorem wbits_any (g base v m : Nat) (l : List Nat) (w : World) (h : Wr w base g l) (hg : base ≤ w.heap.size) (hgb : g < base) (hm : m ≤ 64) (hv : v < 2 ^ m) (hl : l.length + m ≤ 524288) :
    Calls Try.prog 11 #[.pointer (some ⟨g, 0, none⟩), .int .u64 (v : Nat), .int .i64 (m : Nat)] w fun e w' => e = .returned (.int .i64 0) ∧ Wr w' base g (l ++ digs v m m) ∧ Touch base g w w' := by
  have p1 := h.used
  have hv64 : v < 18446744073709551616 := Nat.lt_of_lt_of_le hv (Nat.pow_le_pow_right (n := 2) (by decide) hm)
  have q1 := Lib.hid (put_any g base v m l w h hg hgb hv64 hm hl)
  have q3 := Lib.hid (fun (W : World) => len64_any v W hv64)
  have hbl := Lib.bitLen_le v m hm hv
  obtain ⟨bl, hbe⟩ : ∃ bl, bl = Lib.bitLen v := ⟨_, rfl⟩
  rw [← hbe] at q3 hbl
  obtain ⟨u, hu⟩ : ∃ u, u = l.length := ⟨_, rfl⟩
  rw [← hu] at p1 hl
  clear h hu hbe hv
  go_enter Try.func11, Try.ntmps11
  go_wp2_with (first | (go_at_call 19; refine (q3.out w).mono ?_; rintro e w' ⟨rfl, rfl⟩) | (go_at_call 20; (with_reducible refine q1.out.mono ?_); rintro e w1 ⟨rfl, hw1, ht1⟩))
  go_ret
  exact ⟨rfl, hw1, ht1⟩

set_option maxRecDepth 100000 in
theorem wbits_range (g : Nat) (w : World) :
    Calls Try.prog 11 #[.pointer (some ⟨g, 0, none⟩), .int .u64 4, .int .i64 2] w fun e w' => e = .returned (.int .i64 5) ∧ w = w' := by
  have q3 := Lib.hid (fun (W : World) => len64_any 4 W (by decide))
  have hb : Lib.bitLen 4 = 3 := by decide
  rw [hb] at q3
  go_enter Try.func11, Try.ntmps11
  go_wp2_with (first | (go_at_call 19; refine (q3.out w).mono ?_; rintro e w' ⟨rfl, rfl⟩))
  go_ret
  exact ⟨rfl, rfl⟩

set_option maxRecDepth 100000 in
theorem wsigned_m1 (g base : Nat) (l : List Nat) (w : World) (h : Wr w base g l) (hg : base ≤ w.heap.size) (hgb : g < base) (hl : l.length + 3 ≤ 524288) :
    Calls Try.prog 14 #[.pointer (some ⟨g, 0, none⟩), .int .i64 (-1)] w fun e w' => e = .returned (.int .i64 0) ∧ Wr w' base g (l ++ digs 0 1 1 ++ digs 2 2 2) ∧ Touch base g w w' := by
  have q1 := Lib.hid (wgamma_any g base 1 1 l w h hg hgb (by decide) (by decide) (by decide) (by decide) (by omega))
  go_enter Try.func14, Try.ntmps14
  go_wp2_with (first | (go_at_call 21; refine (fold_m1 w).mono ?_; rintro e w' ⟨rfl, rfl⟩) | (go_at_call 8; refine q1.out.mono ?_; rintro e w1 ⟨rfl, hw1, ht1⟩))
  go_ret
  exact ⟨rfl, hw1, ht1⟩
end Go.Proofs.Ytekjhomjonfgfaa
