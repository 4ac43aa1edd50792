/- Lists of words and of truth values: what they read as; rows that a call makes. -/
import Derived.Test.YtpkhioiabahhaaaTInts
import Derived.Test.YtpkhioiabahhaaaTMem
import Derived.Test.YtpkhioiabahhaaaTSmall
import Derived.Below
import Derived.BigQuiet
import Derived.Deep.AppendLies
import Derived.Deep.CutRange
import Derived.Deep.Draws
import Derived.Deep.OwnRows
import Derived.Deep.QuietTactic
import Derived.IntWalk
import Derived.Laws.CopyOwn
import Derived.Laws.OwnMore
import Derived.Laws.Rows
import Derived.Lib.Hide
import Derived.Lib.SliceRun
import Derived.LoopN
import Derived.OwnWalk
import Derived.StillTail
import Derived.StillTailTactics
import Derived.Test.YtpkhioiabahhaaaRows
import Derived.WalkKit
namespace Go.Proofs.Ytpkhioiabahhaaa
open Go.RowKit
theorem Try.info_u64 : (Try.prog.info? 64).map (fun i => (i.zero, i.size, i.bytes)) = some (some (.int .u64 0), 1, 8) := by kernel_rfl
theorem Try.info_bool : (Try.prog.info? 4).map (fun i => (i.zero, i.size, i.bytes)) = some (some (.bool false), 1, 1) := by kernel_rfl
/-- a list of words as cells -/
def ul (l : List Int) : List Value := l.map fun x => .int .u64 x
/-- a list of truth values as cells -/
def bl (l : List Bool) : List Value := l.map fun x => .bool x
/-- truth value k of a list -/
def bg (l : List Bool) (k : Nat) : Bool := l.getD k false
theorem ul_len (l : List Int) : (ul l).length = l.length := by simp [ul]
theorem bl_len (l : List Bool) : (bl l).length = l.length := by simp [bl]
theorem ul_get {l : List Int} {k : Nat} (h : k < l.length) : (ul l).toArray[k]? = some (.int .u64 (ig l k)) := by
  simp [ul, ig, List.getElem?_eq_getElem h]
theorem bl_get {l : List Bool} {k : Nat} (h : k < l.length) : (bl l).toArray[k]? = some (.bool (bg l k)) := by
  simp [bl, bg, List.getElem?_eq_getElem h]
theorem ul_set (l : List Int) (k : Nat) (v : Int) : (ul l).toArray.setIfInBounds k (.int .u64 v) = (ul (l.set k v)).toArray := by
  simp [ul, List.map_set]
theorem bl_set (l : List Bool) (k : Nat) (v : Bool) : (bl l).toArray.setIfInBounds k (.bool v) = (bl (l.set k v)).toArray := by
  simp [bl, List.map_set]
theorem ul_at {w : World} {B n : Nat} {A : Option Addr} {l : List Int} (h : Reads w B A n (ul l)) {k : Nat} (hk : k < n) :
    ∃ ad, A = some ad ∧ ad.block < B ∧ w.cell? (ad.add k) = some (.int .u64 (ig l k)) := by
  obtain ⟨ad, u, e, hb, hx, hc⟩ := h.at_ hk
  refine ⟨ad, e, hb, ?_⟩
  rw [hc, ← hx]
  simp only [ul, List.getElem?_map, ig, List.getD] at hx ⊢
  cases h' : l[k]? with
  | none => rw [h'] at hx; cases hx
  | some d => simp
theorem bl_at {w : World} {B n : Nat} {A : Option Addr} {l : List Bool} (h : Reads w B A n (bl l)) {k : Nat} (hk : k < n) :
    ∃ ad, A = some ad ∧ ad.block < B ∧ w.cell? (ad.add k) = some (.bool (bg l k)) := by
  obtain ⟨ad, u, e, hb, hx, hc⟩ := h.at_ hk
  refine ⟨ad, e, hb, ?_⟩
  rw [hc, ← hx]
  simp only [bl, List.getElem?_map, bg, List.getD] at hx ⊢
  cases h' : l[k]? with
  | none => rw [h'] at hx; cases hx
  | some d => simp
/-- a whole block reads as its list -/
theorem Reads.of_blk {w : World} {g : Nat} {t : TypeId} {xs : List Value} (h : Blk w g t xs.toArray) : Reads w w.heap.size (some ⟨g, 0, none⟩) xs.length xs :=
  ⟨rfl, fun _ => ⟨_, rfl, h.lt, fun j u hu => by
    have e : (⟨g, 0, none⟩ : Addr).add j = ⟨g, j, none⟩ := by
      unfold Addr.add
      split
      · next e => subst e; rfl
      · simp
    rw [e, h.cell]
    simpa using hu⟩⟩
theorem made_ul (n : Nat) : madeCells #[Value.int .u64 0] n = (ul (List.replicate n 0)).toArray := by
  apply Array.ext
  · simp [madeCells, ul]
  · intro i h1 h2
    simp [madeCells, ul, Nat.mod_one]
theorem made_bl (n : Nat) : madeCells #[Value.bool false] n = (bl (List.replicate n false)).toArray := by
  apply Array.ext
  · simp [madeCells, bl]
  · intro i h1 h2
    simp [madeCells, bl, Nat.mod_one]
theorem mk_u64 (n : Nat) (hn : n ≤ 1000000) (w : World) : (Instr.makeSlice 63 (.int .i64 (n : Int)) (.int .i64 (n : Int))).run Try.prog w = .ok (.slice (some ⟨w.heap.size, 0, none⟩) n n) (w.alloc (.cells (ul (List.replicate n 0)).toArray 64)) := by
  rw [run_make_row' 63 64 (.int .u64 0) 8 Try.underlying63 Try.info_u64 rfl .i64 .i64 n (by omega) (by omega) w, made_ul]
theorem mk_u64s (a b : Nat) (hn : a + b ≤ 1000000) (w : World) : (Instr.makeSlice 63 (.int .i64 ((a : Int) + (b : Int))) (.int .i64 ((a : Int) + (b : Int)))).run Try.prog w = .ok (.slice (some ⟨w.heap.size, 0, none⟩) (a + b) (a + b)) (w.alloc (.cells (ul (List.replicate (a + b) 0)).toArray 64)) := by
  rw [← Int.natCast_add]
  exact mk_u64 (a + b) hn w
theorem mk_bools (n : Nat) (hn : n ≤ 1000000) (w : World) : (Instr.makeSlice 26 (.int .i64 (n : Int)) (.int .i64 (n : Int))).run Try.prog w = .ok (.slice (some ⟨w.heap.size, 0, none⟩) n n) (w.alloc (.cells (bl (List.replicate n false)).toArray 4)) := by
  rw [run_make_row' 26 4 (.bool false) 1 Try.underlying26 Try.info_bool rfl .i64 .i64 n (by omega) (by omega) w, made_bl]
end Go.Proofs.Ytpkhioiabahhaaa
