/- The walks of Elementary. -/
import Derived.Test.YtdbeomibajcecaaDoorSmall
namespace Go.Proofs.YtdbeomibajcecaaDoor
open Go.RowKit

/-- eight numbers as cells -/
def oct (a0 a1 a2 a3 a4 a5 a6 a7 : Int) : Array Value := #[.int .i64 a0, .int .i64 a1, .int .i64 a2, .int .i64 a3, .int .i64 a4, .int .i64 a5, .int .i64 a6, .int .i64 a7]
/-- the new states of the rule n -/
def eb (n : Int) : Array Value := oct (bits .and .i64 n 1) (bits .and .i64 (n / 2) 1) (bits .and .i64 (n / 4) 1) (bits .and .i64 (n / 8) 1) (bits .and .i64 (n / 16) 1) (bits .and .i64 (n / 32) 1) (bits .and .i64 (n / 64) 1) (bits .and .i64 (n / 128) 1)
theorem Blk.oct {w : World} {g : Nat} {t : TypeId} {c0 c1 c2 c3 c4 c5 c6 c7 : Value} (h : Blk w g t #[c0, c1, c2, c3, c4, c5, c6, c7]) :
    w.cell? ⟨g, 0, none⟩ = some c0 ∧ w.cell? ⟨g, 1, none⟩ = some c1 ∧ w.cell? ⟨g, 2, none⟩ = some c2 ∧ w.cell? ⟨g, 3, none⟩ = some c3 ∧ w.cell? ⟨g, 4, none⟩ = some c4 ∧ w.cell? ⟨g, 5, none⟩ = some c5 ∧ w.cell? ⟨g, 6, none⟩ = some c6 ∧ w.cell? ⟨g, 7, none⟩ = some c7 :=
  ⟨by rw [h.cell]; rfl, by rw [h.cell]; rfl, by rw [h.cell]; rfl, by rw [h.cell]; rfl, by rw [h.cell]; rfl, by rw [h.cell]; rfl, by rw [h.cell]; rfl, by rw [h.cell]; rfl⟩
set_option maxRecDepth 100000 in
theorem elem_out (n : Int) (w : World) (h : ¬ (0 ≤ n ∧ n ≤ 255)) :
    Calls Tryd.prog 7 #[.int .i64 n] w fun e w' => e = .returned (.tuple #[.agg (oct 0 0 0 0 0 0 0 0), .int .i64 5]) ∧ Below w.heap.size w w' := by
  unfold oct
  by_cases h1 : 0 ≤ n
  · have h2 : ¬ n ≤ 255 := fun h2 => h ⟨h1, h2⟩
    clear h
    go_enter Tryd.func7, Tryd.ntmps7
    go_wp2
    obtain ⟨j0, j1, j2, j3, j4, j5, j6, j7⟩ := ((Blk.new w 27 #[.int .i64 0, .int .i64 0, .int .i64 0, .int .i64 0, .int .i64 0, .int .i64 0, .int .i64 0, .int .i64 0]).alloc (.cells #[.int .i64 0, .int .i64 0, .int .i64 0, .int .i64 0, .int .i64 0, .int .i64 0, .int .i64 0, .int .i64 0] 27)).oct
    exact bodyPost_ret (v := .tuple #[.agg #[.int .i64 0, .int .i64 0, .int .i64 0, .int .i64 0, .int .i64 0, .int .i64 0, .int .i64 0, .int .i64 0], .int .i64 5]) (by simp [results, Tryd.results7, go_sem, j0, j1, j2, j3, j4, j5, j6, j7]) rfl ⟨rfl, ((Below.refl _ _).alloc (Nat.le_refl _) _).alloc (by simp) _⟩
  · clear h
    go_enter Tryd.func7, Tryd.ntmps7
    go_wp2
    obtain ⟨j0, j1, j2, j3, j4, j5, j6, j7⟩ := ((Blk.new w 27 #[.int .i64 0, .int .i64 0, .int .i64 0, .int .i64 0, .int .i64 0, .int .i64 0, .int .i64 0, .int .i64 0]).alloc (.cells #[.int .i64 0, .int .i64 0, .int .i64 0, .int .i64 0, .int .i64 0, .int .i64 0, .int .i64 0, .int .i64 0] 27)).oct
    exact bodyPost_ret (v := .tuple #[.agg #[.int .i64 0, .int .i64 0, .int .i64 0, .int .i64 0, .int .i64 0, .int .i64 0, .int .i64 0, .int .i64 0], .int .i64 5]) (by simp [results, Tryd.results7, go_sem, j0, j1, j2, j3, j4, j5, j6, j7]) rfl ⟨rfl, ((Below.refl _ _).alloc (Nat.le_refl _) _).alloc (by simp) _⟩
set_option maxRecDepth 100000 in
set_option maxHeartbeats 2000000 in
theorem elem_in (n : Nat) (w : World) (h : n ≤ 255) :
    Calls Tryd.prog 7 #[.int .i64 (n : Int)] w fun e w' => e = .returned (.tuple #[.agg (eb n), .int .i64 0]) ∧ Below w.heap.size w w' := by
  unfold eb oct
  go_enter Tryd.func7, Tryd.ntmps7
  go_wp2
  refine wp_loop_rounds 9 ?_
  rw [rounds_succ]
  go_wp2
  rw [rounds_succ]
  go_wp2
  rw [rounds_succ]
  go_wp2
  rw [rounds_succ]
  go_wp2
  rw [rounds_succ]
  go_wp2
  rw [rounds_succ]
  go_wp2
  rw [rounds_succ]
  go_wp2
  rw [rounds_succ]
  go_wp2
  rw [rounds_succ]
  go_wp2
  generalize bits .and .i64 (n : Int) 1 = b0
  generalize bits .and .i64 ((n : Int) / 2) 1 = b1
  generalize bits .and .i64 ((n : Int) / 4) 1 = b2
  generalize bits .and .i64 ((n : Int) / 8) 1 = b3
  generalize bits .and .i64 ((n : Int) / 16) 1 = b4
  generalize bits .and .i64 ((n : Int) / 32) 1 = b5
  generalize bits .and .i64 ((n : Int) / 64) 1 = b6
  generalize bits .and .i64 ((n : Int) / 128) 1 = b7
  obtain ⟨j0, j1, j2, j3, j4, j5, j6, j7⟩ := ((Blk.new w 27 #[.int .i64 b0, .int .i64 b1, .int .i64 b2, .int .i64 b3, .int .i64 b4, .int .i64 b5, .int .i64 b6, .int .i64 b7]).alloc (.cells #[.int .i64 b0, .int .i64 b1, .int .i64 b2, .int .i64 b3, .int .i64 b4, .int .i64 b5, .int .i64 b6, .int .i64 b7] 27)).oct
  exact bodyPost_ret (v := .tuple #[.agg #[.int .i64 b0, .int .i64 b1, .int .i64 b2, .int .i64 b3, .int .i64 b4, .int .i64 b5, .int .i64 b6, .int .i64 b7], .int .i64 0]) (by simp [results, Tryd.results7, go_sem, j0, j1, j2, j3, j4, j5, j6, j7]) rfl ⟨rfl, ((Below.refl _ _).alloc (Nat.le_refl _) _).alloc (by simp) _⟩
end Go.Proofs.YtdbeomibajcecaaDoor
