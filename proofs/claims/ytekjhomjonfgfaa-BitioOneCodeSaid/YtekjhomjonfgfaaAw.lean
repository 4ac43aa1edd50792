/- The calls of the chapter's examples. -/
import Derived.Test.YtekjhomjonfgfaaRd
namespace Go.Proofs.Ytekjhomjonfgfaa
open Go.RowKit

section
variable (g base : Nat) (w : World)
theorem aw_bits (h : Wr w base g []) (hg : base ≤ w.heap.size) (hgb : g < base) :
    Calls Try.prog 11 #[.pointer (some ⟨g, 0, none⟩), .int .u64 5, .int .i64 4] w fun e w' => e = .returned (.int .i64 0) ∧ Wr w' base g [0, 1, 0, 1] ∧ Touch base g w w' :=
  wbits_any g base 5 4 [] w h hg hgb (by decide) (by decide) (by decide)
theorem aw_gamma (h : Wr w base g [0, 1, 0, 1]) (hg : base ≤ w.heap.size) (hgb : g < base) :
    Calls Try.prog 8 #[.pointer (some ⟨g, 0, none⟩), .int .i64 4] w fun e w' => e = .returned (.int .i64 0) ∧ Wr w' base g [0, 1, 0, 1, 0, 0, 1, 0, 1] ∧ Touch base g w w' :=
  wgamma_any g base 4 2 [0, 1, 0, 1] w h hg hgb (by decide) (by decide) (by decide) (by decide) (by decide)
theorem aw_signed (h : Wr w base g [0, 1, 0, 1, 0, 0, 1, 0, 1]) (hg : base ≤ w.heap.size) (hgb : g < base) :
    Calls Try.prog 14 #[.pointer (some ⟨g, 0, none⟩), .int .i64 (-1)] w fun e w' => e = .returned (.int .i64 0) ∧ Wr w' base g [0, 1, 0, 1, 0, 0, 1, 0, 1, 0, 1, 0] ∧ Touch base g w w' :=
  wsigned_m1 g base [0, 1, 0, 1, 0, 0, 1, 0, 1] w h hg hgb (by decide)
theorem aw_len (h : Wr w base g [0, 1, 0, 1, 0, 0, 1, 0, 1, 0, 1, 0]) :
    Calls Try.prog 9 #[.pointer (some ⟨g, 0, none⟩)] w fun e w' => e = .returned (.int .i64 12) ∧ w = w' := len_any g 12 w h.used
theorem aw_pack : pack [0, 1, 0, 1, 0, 0, 1, 0, 1, 0, 1, 0] = [82, 160] := by decide
theorem aw_bytes (h : Wr w base g [0, 1, 0, 1, 0, 0, 1, 0, 1, 0, 1, 0]) :
    Calls Try.prog 13 #[.pointer (some ⟨g, 0, none⟩)] w fun e w' => ∃ A c, e = .returned (.slice A 2 c) ∧ Reads w' w'.heap.size A 2 (i8s [82, 160]) ∧ Below w.heap.size w w' := by
  have h2 := bytes_wr base g _ w h (by decide)
  rw [aw_pack] at h2
  exact h2
end
theorem aw_read (lo g : Nat) (w : World) (h : Rd w lo g 1 0 [40]) :
    Calls Try.prog 6 #[.pointer (some ⟨g, 0, none⟩)] w fun e w' => e = .returned (.tuple #[.int .i64 4, .int .i64 0]) ∧ Rd w' lo g 1 5 [40] ∧ Fr (· ≠ g) w w' := by
  have hg : Good [40] 1 0 2 := by unfold Good; decide
  refine (gamma_rd lo g 1 0 [40] w h (by decide) (by decide) (by decide)).mono ?_
  rintro e w' ⟨⟨z, hz, rfl, hr⟩ | ⟨er, _, hz, _⟩, hf⟩
  · obtain rfl := first_one _ 0 z 2 hz.2.2.1 hz.2.2.2.1 hg.2.2.1 hg.2.2.2.1
    exact ⟨rfl, hr, hf⟩
  · exact absurd hg (hz 2)
theorem aw_short (lo g : Nat) (w : World) (h : Rd w lo g 1 0 [1]) :
    Calls Try.prog 10 #[.pointer (some ⟨g, 0, none⟩), .int .i64 9] w fun e w' => e = .returned (.tuple #[.int .u64 0, .int .i64 4]) ∧ ∃ k, w' = w.drewN k :=
  short_rd lo g 1 0 9 [1] w h (by decide) (by decide) (by decide) (by decide)
theorem aw_eight (lo g : Nat) (w : World) (h : Rd w lo g 1 0 [1]) :
    Calls Try.prog 10 #[.pointer (some ⟨g, 0, none⟩), .int .i64 8] w fun e w' => e = .returned (.tuple #[.int .u64 1, .int .i64 0]) ∧ Rd w' lo g 1 8 [1] ∧ Fr (· ≠ g) w w' :=
  bits_rd lo g 1 0 8 [1] w h (by decide) (by decide) (by decide) (by decide)
theorem aw_left (lo g : Nat) (w : World) (h : Rd w lo g 1 5 [40]) :
    Calls Try.prog 7 #[.pointer (some ⟨g, 0, none⟩)] w fun e w' => e = .returned (.int .i64 3) ∧ ∃ k, w' = w.drewN k :=
  left_rd lo g 1 5 [40] w h (by decide) (by decide)
theorem aw_end (lo g : Nat) (w : World) (h : Rd w lo g 1 5 [40]) :
    Calls Try.prog 15 #[.pointer (some ⟨g, 0, none⟩)] w fun e w' => e = .returned (.bool true) ∧ ∃ k, w' = w.drewN k :=
  end_rd lo g 1 5 [40] w h (by decide) (by decide) (by decide) (by decide) (by decide)
theorem aw_new (d : Nat) (w : World) :
    Calls Try.prog 5 #[.slice (some ⟨w.heap.size, 0, none⟩) 1 1] (w.alloc (.cells #[.int .u8 (d : Nat)] 5)) fun e w' => ∃ g, e = .returned (.tuple #[.pointer (some ⟨g, 0, none⟩), .int .i64 0]) ∧ Rd w' (w.heap.size + 1) g 1 0 [d] ∧ w.heap.size + 1 ≤ g ∧ Below w.heap.size w w' := by
  have hr : Reads (w.alloc (.cells #[.int .u8 (d : Nat)] 5)) (w.alloc (.cells #[.int .u8 (d : Nat)] 5)).heap.size (some ⟨w.heap.size, 0, none⟩) 1 (u8s [d]) :=
    Reads.of_own (World.ownsRow_lit (e := 5) (size := 1) (base := 0) w #[.int .u8 (d : Nat)] 1 (Nat.zero_le _) (by decide) rfl)
  have hs : (w.alloc (.cells #[.int .u8 (d : Nat)] 5)).heap.size = w.heap.size + 1 := by simp
  refine (new_rd _ 1 1 _ [d] _ (fun h => by cases h) hr (Nat.le_refl _) (by decide)).mono ?_
  rintro e w' ⟨g, rfl, h1, h2, h3⟩
  rw [hs] at h1 h2 h3
  exact ⟨g, rfl, h1, h2, ((Below.refl w.heap.size w).alloc (Nat.le_refl _) _).trans (h3.mono (by omega))⟩
theorem aw_new40 (w : World) :
    Calls Try.prog 5 #[.slice (some ⟨w.heap.size, 0, none⟩) 1 1] (w.alloc (.cells #[.int .u8 40] 5)) fun e w' => ∃ g, e = .returned (.tuple #[.pointer (some ⟨g, 0, none⟩), .int .i64 0]) ∧ Rd w' (w.heap.size + 1) g 1 0 [40] ∧ w.heap.size + 1 ≤ g ∧ Below w.heap.size w w' := aw_new 40 w
theorem aw_new1 (w : World) :
    Calls Try.prog 5 #[.slice (some ⟨w.heap.size, 0, none⟩) 1 1] (w.alloc (.cells #[.int .u8 1] 5)) fun e w' => ∃ g, e = .returned (.tuple #[.pointer (some ⟨g, 0, none⟩), .int .i64 0]) ∧ Rd w' (w.heap.size + 1) g 1 0 [1] ∧ w.heap.size + 1 ≤ g ∧ Below w.heap.size w w' := aw_new 1 w
theorem below_drewN {B : Nat} {a w : World} (h : Below B a w) (n : Nat) : Below B a (w.drewN n) := ⟨h.os, h.tape, h.output, h.size, h.block⟩
theorem aw_same (A : Option Addr) (c : Nat) (w : World) (h : Reads w w.heap.size A 2 (i8s [82, 160])) :
    Calls Try.prog 12 #[.slice A 2 c, .slice (some ⟨w.heap.size, 0, none⟩) 2 2] (w.alloc (.cells #[.int .u8 82, .int .u8 160] 5)) fun e w' => e = .returned (.bool true) ∧ Below w.heap.size w w' := by
  have hr := Reads.of_own (World.ownsRow_lit (e := 5) (size := 1) (base := 0) w #[.int .u8 82, .int .u8 160] 2 (Nat.zero_le _) (by decide) rfl)
  refine (same_yes A _ 2 c 2 _ (i8s [82, 160]) [82, 160] rfl _ ((h.alloc (Nat.le_refl _) _).more (by simp)) hr (by decide)).mono ?_
  rintro e w' ⟨rfl, k, rfl⟩
  exact ⟨rfl, below_drewN ((Below.refl _ _).alloc (Nat.le_refl _) _) k⟩
end Go.Proofs.Ytekjhomjonfgfaa
