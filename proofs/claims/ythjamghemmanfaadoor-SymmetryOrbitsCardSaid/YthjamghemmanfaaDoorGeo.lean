/- The walks of point's functions on positions, of the reference's Right and of the two tests of a position. -/
import Derived.Test.YthjamghemmanfaaDoorApp
namespace Go.Proofs.YthjamghemmanfaaDoor
open Go.RowKit

/-- the cells of a struct's block -/
theorem Blk.four {w : World} {g : Nat} {t : TypeId} {a b c d : Value} (h : Blk w g t #[a, b, c, d]) : w.cell? ⟨g, 0, none⟩ = some a ∧ w.cell? ⟨g, 1, none⟩ = some b ∧ w.cell? ⟨g, 2, none⟩ = some c ∧ w.cell? ⟨g, 3, none⟩ = some d ∧ g < w.heap.size :=
  ⟨by rw [h.cell]; rfl, by rw [h.cell]; rfl, by rw [h.cell]; rfl, by rw [h.cell]; rfl, h.lt⟩

section
variable (x y z u : Int) (w : World)
theorem least_any :
    Calls Tryd.prog 36 #[.agg #[.int .i64 x, .int .i64 y], .agg #[.int .i64 z, .int .i64 u]] w fun e w' => e = .returned (.agg #[.int .i64 (min x z), .int .i64 (min y u)]) ∧ Below w.heap.size w w' := by
  go_enter Tryd.func36, Tryd.ntmps36
  go_wp2
  all_goals (refine bodyPost_ret (v := .agg #[.int .i64 (min x z), .int .i64 (min y u)]) (by simp [results, Tryd.results36, go_sem] <;> omega) rfl ⟨rfl, (((Below.refl _ _).alloc (Nat.le_refl _) _).alloc (by simp) _).alloc (by simp; omega) _⟩)
theorem greatest_any :
    Calls Tryd.prog 37 #[.agg #[.int .i64 x, .int .i64 y], .agg #[.int .i64 z, .int .i64 u]] w fun e w' => e = .returned (.agg #[.int .i64 (max x z), .int .i64 (max y u)]) ∧ Below w.heap.size w w' := by
  go_enter Tryd.func37, Tryd.ntmps37
  go_wp2
  all_goals (refine bodyPost_ret (v := .agg #[.int .i64 (max x z), .int .i64 (max y u)]) (by simp [results, Tryd.results37, go_sem] <;> omega) rfl ⟨rfl, (((Below.refl _ _).alloc (Nat.le_refl _) _).alloc (by simp) _).alloc (by simp; omega) _⟩)
theorem between_any (h1 : x ≤ z) (h2 : z ≤ x + 2097152) (h3 : y ≤ u) (h4 : u ≤ y + 2097152) :
    Calls Tryd.prog 38 #[.agg #[.int .i64 x, .int .i64 y], .agg #[.int .i64 z, .int .i64 u]] w fun e w' => e = .returned (.agg #[.int .i64 x, .int .i64 y, .int .i64 (z - x + 1), .int .i64 (u - y + 1)]) ∧ Below w.heap.size w w' := by
  go_enter Tryd.func38, Tryd.ntmps38
  go_wp2
  refine bodyPost_ret (v := .agg #[.int .i64 x, .int .i64 y, .int .i64 (z - x + 1), .int .i64 (u - y + 1)]) (by simp [results, Tryd.results38, go_sem]) rfl ⟨rfl, (((Below.refl _ _).alloc (Nat.le_refl _) _).alloc (by simp) _).alloc (by simp; omega) _⟩
theorem valid_yes (h1 : -1048576 ≤ x) (h2 : x ≤ 1048576) (h3 : -1048576 ≤ y) (h4 : y ≤ 1048576) :
    Calls Tryd.prog 43 #[.agg #[.int .i64 x, .int .i64 y]] w fun e w' => e = .returned (.bool true) ∧ Below w.heap.size w w' := by
  go_enter Tryd.func43, Tryd.ntmps43
  go_wp2
  go_ret
  exact ⟨rfl, (Below.refl _ _).alloc (Nat.le_refl _) _⟩
end

section
variable (x y ww hh : Int) (w : World)
theorem rright_yes (h : Ok x y ww hh) :
    Calls Tryd.prog 30 #[.agg #[.int .i64 x, .int .i64 y, .int .i64 ww, .int .i64 hh]] w fun e w' => e = .returned (.bool true) ∧ Below w.heap.size w w' := by
  obtain ⟨⟨a1, a2, a3, a4⟩, b1, b2, b3, b4⟩ := h
  have c1 : ww ≤ 2097153 := by omega
  have c2 : hh ≤ 2097153 := by omega
  have v1 := Lib.hid (valid_yes x y (w.alloc (.cells #[.int .i64 x, .int .i64 y, .int .i64 ww, .int .i64 hh] 35)) a1 a2 b1 b2)
  have v2 := Lib.hid (fun w' => valid_yes (x + ww - 1) (y + hh - 1) w' (by omega) (by omega) (by omega) (by omega))
  have K := Lib.hid (Blk.new w 35 #[.int .i64 x, .int .i64 y, .int .i64 ww, .int .i64 hh])
  have B0 := Lib.hid ((Below.refl w.heap.size w).alloc (Nat.le_refl _) (.cells #[.int .i64 x, .int .i64 y, .int .i64 ww, .int .i64 hh] 35))
  go_enter Tryd.func30, Tryd.ntmps30
  go_wp2_with (first | (go_at_call 43; (with_reducible refine v1.out.mono ?_); rintro e w1 ⟨rfl, b1⟩; obtain ⟨k0, k1, k2, k3, k4⟩ := (K.out.below b1 (by simp)).four; have B1 := Lib.hid (B0.out.trans (b1.mono B0.out.size)); clear b1) | (go_at_call 43; (with_reducible refine (v2.out _).mono ?_); rintro e w2 ⟨rfl, b2⟩; have B2 := Lib.hid (B1.out.trans (b2.mono B1.out.size)); clear b2))
  go_ret
  exact ⟨rfl, B2.out⟩

theorem symvalid_yes (a1 : -1048576 ≤ x) (a2 : x ≤ 1048576) (b1 : -1048576 ≤ y) (b2 : y ≤ 1048576) :
    Calls Tryd.prog 25 #[.agg #[.int .i64 x, .int .i64 y]] w fun e w' => e = .returned (.bool true) ∧ Below w.heap.size w w' := by
  have R := Lib.hid (fun w => right_yes x y 1 1 w ⟨⟨a1, a2, by omega, by omega⟩, b1, b2, by omega, by omega⟩)
  have B0 := Lib.hid ((Below.refl w.heap.size w).alloc (Nat.le_refl _) (.cells #[.int .i64 x, .int .i64 y] 30))
  clear a1 a2 b1 b2
  go_enter Tryd.func25, Tryd.ntmps25
  go_wp2_with (go_at_call 21; (with_reducible refine (R.out _).mono ?_); rintro e w1 ⟨rfl, b1⟩; have B1 := Lib.hid (B0.out.trans (b1.mono B0.out.size)); clear b1)
  go_ret
  exact ⟨rfl, B1.out⟩
theorem place_yes (a1 : -1048576 ≤ x) (a2 : x ≤ 1048576) (b1 : -1048576 ≤ y) (b2 : y ≤ 1048576) :
    Calls Tryd.prog 31 #[.agg #[.int .i64 x, .int .i64 y]] w fun e w' => e = .returned (.bool true) ∧ Below w.heap.size w w' := by
  go_enter Tryd.func31, Tryd.ntmps31
  go_wp2
  go_ret
  exact ⟨rfl, (Below.refl _ _).alloc (Nat.le_refl _) _⟩
end
end Go.Proofs.YthjamghemmanfaaDoor
