/- The walks of point's small functions that hand back a position or a box. -/
import Derived.Test.YtobaabankhpfjaaDoorSmall
namespace Go.Proofs.YtobaabankhpfjaaDoor
open Go.RowKit

/-- the cells of a struct's block -/
theorem Blk.four {w : World} {g : Nat} {t : TypeId} {a b c d : Value} (h : Blk w g t #[a, b, c, d]) : w.cell? ⟨g, 0, none⟩ = some a ∧ w.cell? ⟨g, 1, none⟩ = some b ∧ w.cell? ⟨g, 2, none⟩ = some c ∧ w.cell? ⟨g, 3, none⟩ = some d ∧ g < w.heap.size :=
  ⟨by rw [h.cell]; rfl, by rw [h.cell]; rfl, by rw [h.cell]; rfl, by rw [h.cell]; rfl, h.lt⟩

section
variable (x y z u p q : Int) (w : World)
theorem least_any :
    Calls Tryd.prog 51 #[.agg #[.int .i64 x, .int .i64 y], .agg #[.int .i64 z, .int .i64 u]] w fun e w' => e = .returned (.agg #[.int .i64 (min x z), .int .i64 (min y u)]) ∧ Below w.heap.size w w' := by
  go_enter Tryd.func51, Tryd.ntmps51
  go_wp2
  all_goals (refine bodyPost_ret (v := .agg #[.int .i64 (min x z), .int .i64 (min y u)]) (by simp [results, Tryd.results51, go_sem] <;> omega) rfl ⟨rfl, (((Below.refl _ _).alloc (Nat.le_refl _) _).alloc (by simp) _).alloc (by simp; omega) _⟩)
theorem greatest_any :
    Calls Tryd.prog 52 #[.agg #[.int .i64 x, .int .i64 y], .agg #[.int .i64 z, .int .i64 u]] w fun e w' => e = .returned (.agg #[.int .i64 (max x z), .int .i64 (max y u)]) ∧ Below w.heap.size w w' := by
  go_enter Tryd.func52, Tryd.ntmps52
  go_wp2
  all_goals (refine bodyPost_ret (v := .agg #[.int .i64 (max x z), .int .i64 (max y u)]) (by simp [results, Tryd.results52, go_sem] <;> omega) rfl ⟨rfl, (((Below.refl _ _).alloc (Nat.le_refl _) _).alloc (by simp) _).alloc (by simp; omega) _⟩)
theorem between_any (h1 : x ≤ z) (h2 : z ≤ x + 2097152) (h3 : y ≤ u) (h4 : u ≤ y + 2097152) :
    Calls Tryd.prog 53 #[.agg #[.int .i64 x, .int .i64 y], .agg #[.int .i64 z, .int .i64 u]] w fun e w' => e = .returned (.agg #[.int .i64 x, .int .i64 y, .int .i64 (z - x + 1), .int .i64 (u - y + 1)]) ∧ Below w.heap.size w w' := by
  go_enter Tryd.func53, Tryd.ntmps53
  go_wp2
  refine bodyPost_ret (v := .agg #[.int .i64 x, .int .i64 y, .int .i64 (z - x + 1), .int .i64 (u - y + 1)]) (by simp [results, Tryd.results53, go_sem]) rfl ⟨rfl, (((Below.refl _ _).alloc (Nat.le_refl _) _).alloc (by simp) _).alloc (by simp; omega) _⟩
end
end Go.Proofs.YtobaabankhpfjaaDoor
