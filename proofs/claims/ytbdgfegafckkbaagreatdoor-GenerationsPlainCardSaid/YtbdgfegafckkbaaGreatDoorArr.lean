/- Arrays by value: the law of an index; tables of ten answers. -/
import Derived.Test.YtbdgfegafckkbaaGreatDoorInts
import Derived.Shelf.Abstract
namespace Go.Proofs.YtbdgfegafckkbaaGreatDoor
open Go.RowKit

theorem Tryz.info_bool : (Tryz.prog.info? 4).map (fun i => (i.zero, i.size, i.bytes)) = some (some (.bool false), 1, 1) := by kernel_rfl
theorem Tryz.info_string : (Tryz.prog.info? 9).map (fun i => (i.zero, i.size, i.bytes)) = some (some (.string ⟨#[]⟩), 1, 16) := by kernel_rfl
theorem Tryz.info_int : (Tryz.prog.info? 3).map (fun i => (i.zero, i.size, i.bytes)) = some (some (.int .i64 0), 1, 8) := by kernel_rfl

/-- an element of one cell of an array by value -/
theorem run_index_one {P : Program} {t e : TypeId} {n : Nat} {i0 : TypeInfo} (ht : P.underlying t = some (.array n e)) (ha : ∀ w, (isAgg e).run P w = .ok false w)
    (hi : P.info? e = some i0) (hz : i0.size = 1) (w : World) (cs : Array Value) (k : IntKind) (i : Nat) (h1 : i < n) (v : Value) (hv : cs[i]? = some v) :
    (Instr.index t (.agg cs) (.int k (i : Int))).run P w = .ok v w := by
  have h2 : (i : Int) < (n : Int) := by omega
  have hc : P.cellsOf e = 1 := by simp [Program.cellsOf, hi, hz]
  simp [Instr.index, run_underlying ht, asIntOf, go_sem, run_sizeOf w hi, hz, part, ha, hc, hv, h1]
/-- ten answers as cells -/
def bls (p : Nat → Bool) : Array Value := #[.bool (p 0), .bool (p 1), .bool (p 2), .bool (p 3), .bool (p 4), .bool (p 5), .bool (p 6), .bool (p 7), .bool (p 8), .bool (p 9)]
theorem bls_at (p : Nat → Bool) (i : Nat) (h : i < 10) : (bls p)[i]? = some (.bool (p i)) := by
  match i, h with
  | 0, _ | 1, _ | 2, _ | 3, _ | 4, _ | 5, _ | 6, _ | 7, _ | 8, _ | 9, _ => rfl
/-- one answer exchanged -/
def upd (p : Nat → Bool) (i : Nat) (b : Bool) (k : Nat) : Bool := if k = i then b else p k
theorem bls_set (p : Nat → Bool) (i : Nat) (b : Bool) (h : i < 10) : (bls p).setIfInBounds i (.bool b) = bls (upd p i b) := by
  match i, h with
  | 0, _ | 1, _ | 2, _ | 3, _ | 4, _ | 5, _ | 6, _ | 7, _ | 8, _ | 9, _ => rfl
theorem run_bls (p : Nat → Bool) (i : Nat) (h : i < 10) (w : World) : (Instr.index 68 (.agg (bls p)) (.int .i64 (i : Int))).run Tryz.prog w = .ok (.bool (p i)) w := by
  obtain ⟨i0, hi, hz0, hz1, hz2⟩ := info_parts Tryz.info_bool
  exact run_index_one Tryz.underlying68 (run_isAgg_plain Tryz.underlying4 rfl) hi hz1 w _ .i64 i h _ (bls_at p i h)
theorem run_letters (w : World) : (Instr.index 56 (.agg #[.string ⟨#[]⟩, .string ⟨#[86]⟩, .string ⟨#[72]⟩]) (.int .i64 0)).run Tryz.prog w = .ok (.string ⟨#[]⟩) w ∧ (Instr.index 56 (.agg #[.string ⟨#[]⟩, .string ⟨#[86]⟩, .string ⟨#[72]⟩]) (.int .i64 1)).run Tryz.prog w = .ok (.string ⟨#[86]⟩) w ∧ (Instr.index 56 (.agg #[.string ⟨#[]⟩, .string ⟨#[86]⟩, .string ⟨#[72]⟩]) (.int .i64 2)).run Tryz.prog w = .ok (.string ⟨#[72]⟩) w := by
  obtain ⟨i0, hi, hz0, hz1, hz2⟩ := info_parts Tryz.info_string
  exact ⟨run_index_one Tryz.underlying56 (run_isAgg_plain Tryz.underlying9 rfl) hi hz1 w _ .i64 0 (by decide) _ rfl, run_index_one Tryz.underlying56 (run_isAgg_plain Tryz.underlying9 rfl) hi hz1 w _ .i64 1 (by decide) _ rfl, run_index_one Tryz.underlying56 (run_isAgg_plain Tryz.underlying9 rfl) hi hz1 w _ .i64 2 (by decide) _ rfl⟩
end Go.Proofs.YtbdgfegafckkbaaGreatDoor
