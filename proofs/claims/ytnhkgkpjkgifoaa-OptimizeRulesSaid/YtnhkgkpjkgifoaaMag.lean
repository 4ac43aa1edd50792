/- Gates as values; the walks of isWire, rightGate, result, operands and moved. -/
/- The walk of result: the 64 values of an operation. -/
/- Lists of words and of truth values: what they read as; rows that a call makes. -/
import Derived.Test.YtnhkgkpjkgifoaaMaa
import Derived.Below
import Derived.BigQuiet
import Derived.Deep.AppendLies
import Derived.Deep.CutRange
import Derived.Deep.Draws
import Derived.Deep.QuietTactic
import Derived.IntWalk
import Derived.Laws.CopyOwn
import Derived.Laws.OwnMore
import Derived.Laws.Rows
import Derived.Lib.Hide
import Derived.Lib.SliceRun
import Derived.LoopN
import Derived.OwnWalk
import Derived.StillTail
import Derived.StillTailTactics
import Derived.Test.YtnhkgkpjkgifoaaRows
import Derived.WalkKit
import Derived.Test.YtnhkgkpjkgifoaaMab
import Derived.Deep.OwnRows
namespace Go.Proofs.Ytnhkgkpjkgifoaa
open Go.RowKit
/-- whether a number is one of n wires -/
def isw (k n : Int) : Bool := decide (0 ≤ k) && decide (k < n)
theorem isw_iff (k n : Int) : isw k n = true ↔ 0 ≤ k ∧ k < n := by simp [isw]
/-- whether a gate is valid behind n wires -/
def rg (g : C3) (n : Int) : Bool :=
  if g.1 = 0 ∨ g.1 = 1 then decide (g.2.1 = 0) && decide (g.2.2 = 0)
  else if g.1 = 2 then isw g.2.1 n && decide (g.2.2 = 0)
  else if g.1 = 3 ∨ g.1 = 4 ∨ g.1 = 5 then isw g.2.1 n && isw g.2.2 n
  else false

theorem isWire_any (s n : Int) (w : World) : Calls Try.prog 103 #[.int .i64 s, .int .i64 n] w fun e w' => e = .returned (.bool (isw s n)) ∧ w = w' := by
  by_cases h : 0 ≤ s
  · rw [isw, decide_eq_true h]
    go_enter Try.func103, Try.ntmps103
    go_wp2
    go_ret
    exact ⟨ret_bool (by simp), rfl⟩
  · rw [isw, decide_eq_false h]
    go_enter Try.func103, Try.ntmps103
    go_wp2
    go_ret
    exact ⟨rfl, rfl⟩

section
variable (a b n : Int) (w : World)
theorem rgate_01 (op : Int) (ho : op = 0 ∨ op = 1) : Calls Try.prog 102 #[.agg #[.int .i64 op, .int .i64 a, .int .i64 b], .int .i64 n] w fun e w' => e = .returned (.bool (rg (op, a, b) n)) ∧ Below w.heap.size w w' := by
  have B1 := Lib.hid ((Below.refl w.heap.size w).alloc (Nat.le_refl _) (.cells #[.int .i64 op, .int .i64 a, .int .i64 b] 57))
  have HR : rg (op, a, b) n = (decide (a = 0) && decide (b = 0)) := by simp [rg, ho]
  rw [HR]
  by_cases ha : a = 0
  · subst ha
    by_cases hb : b = 0
    · subst hb
      rcases ho with rfl | rfl
      · go_enter Try.func102, Try.ntmps102
        go_wp2
        go_ret
        exact ⟨rfl, B1.out⟩
      · go_enter Try.func102, Try.ntmps102
        go_wp2
        go_ret
        exact ⟨rfl, B1.out⟩
    · have hb' : (b == 0) = false := by rw [beq_eq_false_iff_ne]; exact hb
      rw [decide_eq_false hb]
      clear hb
      rcases ho with rfl | rfl
      · go_enter Try.func102, Try.ntmps102
        go_wp2
        go_ret
        exact ⟨rfl, B1.out⟩
      · go_enter Try.func102, Try.ntmps102
        go_wp2
        go_ret
        exact ⟨rfl, B1.out⟩
  · have ha' : (a == 0) = false := by rw [beq_eq_false_iff_ne]; exact ha
    rw [decide_eq_false ha]
    clear ha
    rcases ho with rfl | rfl
    · go_enter Try.func102, Try.ntmps102
      go_wp2
      go_ret
      exact ⟨rfl, B1.out⟩
    · go_enter Try.func102, Try.ntmps102
      go_wp2
      go_ret
      exact ⟨rfl, B1.out⟩
theorem rgate_2 : Calls Try.prog 102 #[.agg #[.int .i64 2, .int .i64 a, .int .i64 b], .int .i64 n] w fun e w' => e = .returned (.bool (rg (2, a, b) n)) ∧ Below w.heap.size w w' := by
  have B1 := Lib.hid ((Below.refl w.heap.size w).alloc (Nat.le_refl _) (.cells #[.int .i64 2, .int .i64 a, .int .i64 b] 57))
  have HR : rg (2, a, b) n = (isw a n && decide (b = 0)) := by simp [rg]
  rw [HR]
  have I := Lib.hid (fun w => isWire_any a n w)
  generalize isw a n = x at I
  cases x with
  | false =>
    go_enter Try.func102, Try.ntmps102
    go_wp2_with (go_at_call 103; (with_reducible refine (I.out _).mono ?_); rintro e w1 ⟨rfl, rfl⟩)
    go_ret
    exact ⟨rfl, B1.out⟩
  | true =>
    by_cases hb : b = 0
    · subst hb
      go_enter Try.func102, Try.ntmps102
      go_wp2_with (go_at_call 103; (with_reducible refine (I.out _).mono ?_); rintro e w1 ⟨rfl, rfl⟩)
      go_ret
      exact ⟨rfl, B1.out⟩
    · have hb' : (b == 0) = false := by rw [beq_eq_false_iff_ne]; exact hb
      rw [decide_eq_false hb]
      clear hb
      go_enter Try.func102, Try.ntmps102
      go_wp2_with (go_at_call 103; (with_reducible refine (I.out _).mono ?_); rintro e w1 ⟨rfl, rfl⟩)
      go_ret
      exact ⟨rfl, B1.out⟩
theorem rgate_345 (op : Int) (ho : op = 3 ∨ op = 4 ∨ op = 5) : Calls Try.prog 102 #[.agg #[.int .i64 op, .int .i64 a, .int .i64 b], .int .i64 n] w fun e w' => e = .returned (.bool (rg (op, a, b) n)) ∧ Below w.heap.size w w' := by
  have B1 := Lib.hid ((Below.refl w.heap.size w).alloc (Nat.le_refl _) (.cells #[.int .i64 op, .int .i64 a, .int .i64 b] 57))
  have HR : rg (op, a, b) n = (isw a n && isw b n) := by
    rcases ho with rfl | rfl | rfl <;> simp [rg]
  rw [HR]
  have I := Lib.hid (fun w => isWire_any a n w)
  have J := Lib.hid (fun w => isWire_any b n w)
  generalize isw a n = x at I
  generalize isw b n = y at J
  cases x with
  | false =>
    rcases ho with rfl | rfl | rfl
    all_goals
      go_enter Try.func102, Try.ntmps102
      go_wp2_with (go_at_call 103; (with_reducible refine (I.out _).mono ?_); rintro e w1 ⟨rfl, rfl⟩)
      go_ret
      exact ⟨rfl, B1.out⟩
  | true =>
    rcases ho with rfl | rfl | rfl
    all_goals
      go_enter Try.func102, Try.ntmps102
      go_wp2_with (first | (go_at_call 103; (with_reducible refine (I.out _).mono ?_); rintro e w1 ⟨rfl, rfl⟩) | (go_at_call 103; (with_reducible refine (J.out _).mono ?_); rintro e w1 ⟨rfl, rfl⟩))
      go_ret
      exact ⟨ret_bool (by simp), B1.out⟩
theorem rgate_no (op : Int) (h0 : op ≠ 0) (h1 : op ≠ 1) (h2 : op ≠ 2) (h3 : op ≠ 3) (h4 : op ≠ 4) (h5 : op ≠ 5) : Calls Try.prog 102 #[.agg #[.int .i64 op, .int .i64 a, .int .i64 b], .int .i64 n] w fun e w' => e = .returned (.bool (rg (op, a, b) n)) ∧ Below w.heap.size w w' := by
  have B1 := Lib.hid ((Below.refl w.heap.size w).alloc (Nat.le_refl _) (.cells #[.int .i64 op, .int .i64 a, .int .i64 b] 57))
  have HR : rg (op, a, b) n = false := by simp [rg, h0, h1, h2, h3, h4, h5]
  rw [HR]
  rw [← beq_eq_false_iff_ne] at h0 h1 h2 h3 h4 h5
  go_enter Try.func102, Try.ntmps102
  go_wp2
  go_ret
  exact ⟨rfl, B1.out⟩
theorem rgate_any (op : Int) : Calls Try.prog 102 #[.agg #[.int .i64 op, .int .i64 a, .int .i64 b], .int .i64 n] w fun e w' => e = .returned (.bool (rg (op, a, b) n)) ∧ Below w.heap.size w w' := by
  by_cases h0 : op = 0
  · exact rgate_01 a b n w op (.inl h0)
  by_cases h1 : op = 1
  · exact rgate_01 a b n w op (.inr h1)
  by_cases h2 : op = 2
  · subst h2; exact rgate_2 a b n w
  by_cases h3 : op = 3
  · exact rgate_345 a b n w op (.inl h3)
  by_cases h4 : op = 4
  · exact rgate_345 a b n w op (.inr (.inl h4))
  by_cases h5 : op = 5
  · exact rgate_345 a b n w op (.inr (.inr h5))
  exact rgate_no a b n w op h0 h1 h2 h3 h4 h5
end
/-- the 64 values of an operation -/
def rs (op a b : Int) : Int := if op = 1 then 18446744073709551615 else if op = 2 then bits .xor .u64 IntKind.u64.max a else if op = 3 then bits .and .u64 a b else if op = 4 then bits .or .u64 a b else if op = 5 then bits .xor .u64 a b else 0
end Go.Proofs.Ytnhkgkpjkgifoaa
namespace Go.Proofs.Ytnhkgkpjkgifoaa
open Go.RowKit
section
variable (a b : Int) (w : World)
theorem result_1 : Calls Try.prog 66 #[.int .i64 1, .int .u64 a, .int .u64 b] w fun e w' => e = .returned (.int .u64 (rs 1 a b)) ∧ w = w' := by
  go_enter Try.func66, Try.ntmps66
  go_wp2
  go_ret
  exact ⟨rfl, rfl⟩
theorem result_2 : Calls Try.prog 66 #[.int .i64 2, .int .u64 a, .int .u64 b] w fun e w' => e = .returned (.int .u64 (rs 2 a b)) ∧ w = w' := by
  go_enter Try.func66, Try.ntmps66
  go_wp2
  go_ret
  exact ⟨rfl, rfl⟩
theorem result_3 : Calls Try.prog 66 #[.int .i64 3, .int .u64 a, .int .u64 b] w fun e w' => e = .returned (.int .u64 (rs 3 a b)) ∧ w = w' := by
  go_enter Try.func66, Try.ntmps66
  go_wp2
  go_ret
  exact ⟨rfl, rfl⟩
theorem result_4 : Calls Try.prog 66 #[.int .i64 4, .int .u64 a, .int .u64 b] w fun e w' => e = .returned (.int .u64 (rs 4 a b)) ∧ w = w' := by
  go_enter Try.func66, Try.ntmps66
  go_wp2
  go_ret
  exact ⟨rfl, rfl⟩
theorem result_5 : Calls Try.prog 66 #[.int .i64 5, .int .u64 a, .int .u64 b] w fun e w' => e = .returned (.int .u64 (rs 5 a b)) ∧ w = w' := by
  go_enter Try.func66, Try.ntmps66
  go_wp2
  go_ret
  exact ⟨rfl, rfl⟩
theorem result_no (op : Int) (h1 : op ≠ 1) (h2 : op ≠ 2) (h3 : op ≠ 3) (h4 : op ≠ 4) (h5 : op ≠ 5) : Calls Try.prog 66 #[.int .i64 op, .int .u64 a, .int .u64 b] w fun e w' => e = .returned (.int .u64 (rs op a b)) ∧ w = w' := by
  have HR : rs op a b = 0 := by simp [rs, h1, h2, h3, h4, h5]
  rw [HR]
  rw [← beq_eq_false_iff_ne] at h1 h2 h3 h4 h5
  go_enter Try.func66, Try.ntmps66
  go_wp2
  go_ret
  exact ⟨rfl, rfl⟩
theorem result_any (op : Int) : Calls Try.prog 66 #[.int .i64 op, .int .u64 a, .int .u64 b] w fun e w' => e = .returned (.int .u64 (rs op a b)) ∧ w = w' := by
  by_cases h1 : op = 1
  · subst h1; exact result_1 a b w
  by_cases h2 : op = 2
  · subst h2; exact result_2 a b w
  by_cases h3 : op = 3
  · subst h3; exact result_3 a b w
  by_cases h4 : op = 4
  · subst h4; exact result_4 a b w
  by_cases h5 : op = 5
  · subst h5; exact result_5 a b w
  exact result_no a b w op h1 h2 h3 h4 h5
end
end Go.Proofs.Ytnhkgkpjkgifoaa
namespace Go.Proofs.Ytnhkgkpjkgifoaa
open Go.RowKit
theorem Try.info_u64 : (Try.prog.info? 67).map (fun i => (i.zero, i.size, i.bytes)) = some (some (.int .u64 0), 1, 8) := by kernel_rfl
theorem Try.info_bool : (Try.prog.info? 4).map (fun i => (i.zero, i.size, i.bytes)) = some (some (.bool false), 1, 1) := by kernel_rfl
/-- a list of words as cells -/
def ul (l : List Int) : List Value := l.map fun x => .int .u64 x
/-- a list of truth values as cells -/
def bl (l : List Bool) : List Value := l.map fun x => .bool x
/-- truth value k of a list -/
def bg (l : List Bool) (k : Nat) : Bool := l.getD k false
theorem ul_len (l : List Int) : (ul l).length = l.length := by simp [ul]
theorem bl_len (l : List Bool) : (bl l).length = l.length := by simp [bl]
theorem ul_get {l : List Int} {k : Nat} (h : k < l.length) : (ul l).toArray[k]? = some (.int .u64 (ig l k)) := by
  simp [ul, ig, List.getElem?_eq_getElem h]
theorem bl_get {l : List Bool} {k : Nat} (h : k < l.length) : (bl l).toArray[k]? = some (.bool (bg l k)) := by
  simp [bl, bg, List.getElem?_eq_getElem h]
theorem ul_set (l : List Int) (k : Nat) (v : Int) : (ul l).toArray.setIfInBounds k (.int .u64 v) = (ul (l.set k v)).toArray := by
  simp [ul, List.map_set]
theorem bl_set (l : List Bool) (k : Nat) (v : Bool) : (bl l).toArray.setIfInBounds k (.bool v) = (bl (l.set k v)).toArray := by
  simp [bl, List.map_set]
theorem ul_at {w : World} {B n : Nat} {A : Option Addr} {l : List Int} (h : Reads w B A n (ul l)) {k : Nat} (hk : k < n) :
    ∃ ad, A = some ad ∧ ad.block < B ∧ w.cell? (ad.add k) = some (.int .u64 (ig l k)) := by
  obtain ⟨ad, u, e, hb, hx, hc⟩ := h.at_ hk
  refine ⟨ad, e, hb, ?_⟩
  rw [hc, ← hx]
  simp only [ul, List.getElem?_map, ig, List.getD] at hx ⊢
  cases h' : l[k]? with
  | none => rw [h'] at hx; cases hx
  | some d => simp
theorem bl_at {w : World} {B n : Nat} {A : Option Addr} {l : List Bool} (h : Reads w B A n (bl l)) {k : Nat} (hk : k < n) :
    ∃ ad, A = some ad ∧ ad.block < B ∧ w.cell? (ad.add k) = some (.bool (bg l k)) := by
  obtain ⟨ad, u, e, hb, hx, hc⟩ := h.at_ hk
  refine ⟨ad, e, hb, ?_⟩
  rw [hc, ← hx]
  simp only [bl, List.getElem?_map, bg, List.getD] at hx ⊢
  cases h' : l[k]? with
  | none => rw [h'] at hx; cases hx
  | some d => simp
/-- a whole block reads as its list -/
theorem Reads.of_blk {w : World} {g : Nat} {t : TypeId} {xs : List Value} (h : Blk w g t xs.toArray) : Reads w w.heap.size (some ⟨g, 0, none⟩) xs.length xs :=
  ⟨rfl, fun _ => ⟨_, rfl, h.lt, fun j u hu => by
    have e : (⟨g, 0, none⟩ : Addr).add j = ⟨g, j, none⟩ := by
      unfold Addr.add
      split
      · next e => subst e; rfl
      · simp
    rw [e, h.cell]
    simpa using hu⟩⟩
theorem made_ul (n : Nat) : madeCells #[Value.int .u64 0] n = (ul (List.replicate n 0)).toArray := by
  apply Array.ext
  · simp [madeCells, ul]
  · intro i h1 h2
    simp [madeCells, ul, Nat.mod_one]
theorem made_bl (n : Nat) : madeCells #[Value.bool false] n = (bl (List.replicate n false)).toArray := by
  apply Array.ext
  · simp [madeCells, bl]
  · intro i h1 h2
    simp [madeCells, bl, Nat.mod_one]
theorem mk_u64 (n : Nat) (hn : n ≤ 1000000) (w : World) : (Instr.makeSlice 66 (.int .i64 (n : Int)) (.int .i64 (n : Int))).run Try.prog w = .ok (.slice (some ⟨w.heap.size, 0, none⟩) n n) (w.alloc (.cells (ul (List.replicate n 0)).toArray 67)) := by
  rw [run_make_row' 66 67 (.int .u64 0) 8 Try.underlying66 Try.info_u64 rfl .i64 .i64 n (by omega) (by omega) w, made_ul]
theorem mk_u64s (a b : Nat) (hn : a + b ≤ 1000000) (w : World) : (Instr.makeSlice 66 (.int .i64 ((a : Int) + (b : Int))) (.int .i64 ((a : Int) + (b : Int)))).run Try.prog w = .ok (.slice (some ⟨w.heap.size, 0, none⟩) (a + b) (a + b)) (w.alloc (.cells (ul (List.replicate (a + b) 0)).toArray 67)) := by
  rw [← Int.natCast_add]
  exact mk_u64 (a + b) hn w
theorem mk_bools (n : Nat) (hn : n ≤ 1000000) (w : World) : (Instr.makeSlice 37 (.int .i64 (n : Int)) (.int .i64 (n : Int))).run Try.prog w = .ok (.slice (some ⟨w.heap.size, 0, none⟩) n n) (w.alloc (.cells (bl (List.replicate n false)).toArray 4)) := by
  rw [run_make_row' 37 4 (.bool false) 1 Try.underlying37 Try.info_bool rfl .i64 .i64 n (by omega) (by omega) w, made_bl]
end Go.Proofs.Ytnhkgkpjkgifoaa
