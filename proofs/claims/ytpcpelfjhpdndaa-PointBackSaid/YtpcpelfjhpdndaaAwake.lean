/- The walk of the chapter's examples. -/
import Derived.Test.YtpcpelfjhpdndaaSame
import Derived.Test.YtpcpelfjhpdndaaGrowNo
import Derived.Test.YtpcpelfjhpdndaaSort
namespace Go.Proofs.Ytpcpelfjhpdndaa
open Go.RowKit

theorem ok_l : Ok 1 2 (2 : Nat) (2 : Nat) := by unfold Ok OkS; omega
theorem ok_g : Ok 0 0 3 1 := by unfold Ok OkS; omega
theorem ok_h : Ok (0 - 1) (0 - 1) (3 + 2 * 1) (1 + 2 * 1) := by unfold Ok OkS; omega

/-- a list of positions, as a function of the place -/
def fn4 (l : List (Int × Int)) (k : Nat) : Int × Int := l.getD k (0, 0)

section
variable (w : World)
theorem aw_points : Calls Try.prog 6 #[.agg #[.int .i64 1, .int .i64 2, .int .i64 2, .int .i64 2]] w fun e w' => ∃ g, e = .returned (.slice (some ⟨g, 0, none⟩) 4 4) ∧ PReads w' w'.heap.size g 4 (ptF 1 2 2) ∧ Below w.heap.size w w' :=
  points_any 1 2 2 2 4 w ok_l rfl (by decide)
theorem aw_around (g c : Nat) (h : PReads w w.heap.size g 4 (ptF 1 2 2)) : Calls Try.prog 7 #[.slice (some ⟨g, 0, none⟩) 4 c] w fun e w' => e = .returned (.tuple #[.agg #[.int .i64 1, .int .i64 2, .int .i64 2, .int .i64 2], .bool true]) ∧ Below w.heap.size w w' := by
  refine around_any g 4 c (ptF 1 2 2) 1 2 2 3 w h (by decide) (by decide) ?_ (by decide) (by decide) (by decide) (by decide) (by decide) (by decide)
  intro k hk
  match k, hk with
  | 0, _ => decide
  | 1, _ => decide
  | 2, _ => decide
  | 3, _ => decide
theorem aw_grow : Calls Try.prog 8 #[.agg #[.int .i64 0, .int .i64 0, .int .i64 3, .int .i64 1], .int .i64 1] w fun e w' => e = .returned (.tuple #[.agg #[.int .i64 (-1), .int .i64 (-1), .int .i64 5, .int .i64 3], .int .i64 0]) ∧ Below w.heap.size w w' :=
  grow_yes 0 0 3 1 1 w ok_g (by decide) (by decide) ok_h
theorem aw_small : Calls Try.prog 8 #[.agg #[.int .i64 0, .int .i64 0, .int .i64 3, .int .i64 1], .int .i64 (-1)] w fun e w' => e = .returned (.tuple #[.agg #[.int .i64 0, .int .i64 0, .int .i64 0, .int .i64 0], .int .i64 6]) ∧ Below w.heap.size w w' :=
  grow_h 0 0 3 1 (-1) w ok_g (by decide) (by decide) (by decide) (by decide)
theorem aw_right : Calls Try.prog 15 #[.agg #[.int .i64 0, .int .i64 0, .int .i64 4, .int .i64 4]] w fun e w' => e = .returned (.bool true) ∧ Below w.heap.size w w' := right_yes 0 0 4 4 w ok_a

theorem row_reads (g : Nat) (a b c d e f : Int) (h : Row6 w g a b c d e f) : PReads w w.heap.size g 2 (fn4 [(a, b), (c, d)]) :=
  ⟨h.1, fun k hk => match k, hk with
    | 0, _ => ⟨h.2.2.1, h.2.2.2.1⟩
    | 1, _ => ⟨h.2.2.2.2.1, h.2.2.2.2.2.1⟩⟩
/-- a list of four positions, written out -/
theorem lit4_reads (t : TypeId) (a0 b0 a1 b1 a2 b2 a3 b3 : Int) : PReads (w.alloc (.cells #[.int .i64 a0, .int .i64 b0, .int .i64 a1, .int .i64 b1, .int .i64 a2, .int .i64 b2, .int .i64 a3, .int .i64 b3] t)) (w.alloc (.cells #[.int .i64 a0, .int .i64 b0, .int .i64 a1, .int .i64 b1, .int .i64 a2, .int .i64 b2, .int .i64 a3, .int .i64 b3] t)).heap.size w.heap.size 4 (fn4 [(a0, b0), (a1, b1), (a2, b2), (a3, b3)]) := by
  have h := Blk.new w t #[.int .i64 a0, .int .i64 b0, .int .i64 a1, .int .i64 b1, .int .i64 a2, .int .i64 b2, .int .i64 a3, .int .i64 b3]
  exact ⟨h.lt, fun k hk => match k, hk with
    | 0, _ => ⟨(h.cell 0).trans rfl, (h.cell 1).trans rfl⟩
    | 1, _ => ⟨(h.cell 2).trans rfl, (h.cell 3).trans rfl⟩
    | 2, _ => ⟨(h.cell 4).trans rfl, (h.cell 5).trans rfl⟩
    | 3, _ => ⟨(h.cell 6).trans rfl, (h.cell 7).trans rfl⟩⟩
theorem lit2_reads (t : TypeId) (a0 b0 a1 b1 : Int) : PReads (w.alloc (.cells #[.int .i64 a0, .int .i64 b0, .int .i64 a1, .int .i64 b1] t)) (w.alloc (.cells #[.int .i64 a0, .int .i64 b0, .int .i64 a1, .int .i64 b1] t)).heap.size w.heap.size 2 (fn4 [(a0, b0), (a1, b1)]) := by
  have h := Blk.new w t #[.int .i64 a0, .int .i64 b0, .int .i64 a1, .int .i64 b1]
  exact ⟨h.lt, fun k hk => match k, hk with
    | 0, _ => ⟨(h.cell 0).trans rfl, (h.cell 1).trans rfl⟩
    | 1, _ => ⟨(h.cell 2).trans rfl, (h.cell 3).trans rfl⟩⟩
theorem lit3_row (t : TypeId) (a b c d e f : Int) : Row6 (w.alloc (.cells #[.int .i64 a, .int .i64 b, .int .i64 c, .int .i64 d, .int .i64 e, .int .i64 f] t)) w.heap.size a b c d e f := by
  have h := Blk.new w t #[.int .i64 a, .int .i64 b, .int .i64 c, .int .i64 d, .int .i64 e, .int .i64 f]
  exact ⟨h.lt, h.frozen, (h.cell 0).trans rfl, (h.cell 1).trans rfl, (h.cell 2).trans rfl, (h.cell 3).trans rfl, (h.cell 4).trans rfl, (h.cell 5).trans rfl⟩
theorem pts_fn4 {B g : Nat} (h : PReads w B g 4 (ptF 1 2 2)) : PReads w B g 4 (fn4 [(1, 2), (2, 2), (1, 3), (2, 3)]) :=
  ⟨h.1, fun k hk => match k, hk with
    | 0, _ => h.2 0 (by decide)
    | 1, _ => h.2 1 (by decide)
    | 2, _ => h.2 2 (by decide)
    | 3, _ => h.2 3 (by decide)⟩
end
end Go.Proofs.Ytpcpelfjhpdndaa
