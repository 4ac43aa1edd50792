/- The walk of the chapter's examples. -/
import Derived.Test.YtegednbebmkmhaaSet
import Derived.Test.YtegednbebmkmhaaPCmp
namespace Go.Proofs.Ytegednbebmkmhaa
open Go.RowKit

abbrev lit1 : Array Value := #[.int .i64 1, .int .i64 1, .int .i64 1, .int .i64 0, .int .i64 0, .int .i64 2]
abbrev lit2 : Array Value := #[.int .i64 0, .int .i64 0, .int .i64 1, .int .i64 0, .int .i64 0, .int .i64 2]
abbrev lit3 : Array Value := #[.int .i64 0, .int .i64 0, .int .i64 8]
abbrev lit4 : Array Value := #[.int .i64 1048576, .int .i64 0, .int .i64 1]
abbrev litW : Array Value := #[.int .i64 0, .int .i64 0, .int .i64 2, .int .i64 1, .int .i64 1, .int .i64 1]
abbrev lit0 : Array Value := #[.int .i64 0, .int .i64 0, .int .i64 0]

section
variable (w : World)
theorem aw_from1 : Calls Try.prog 9 #[.slice (some ⟨w.heap.size, 0, none⟩) 2 2] (w.alloc (.cells lit1 34)) fun e w' => ∃ g' c', e = .returned (.tuple #[.slice (some ⟨g', 0, none⟩) 2 c', .int .i64 0]) ∧ 2 ≤ c' ∧ Row2 w' g' (0, 0, 2) (1, 1, 1) ∧ Below w.heap.size w w' :=
  (from_ex _ _ (Blk.new w _ _)).mono fun _ _ ⟨g, c, h1, h2, h3, h4⟩ => ⟨g, c, h1, h2, h3, ((Below.refl _ _).alloc (Nat.le_refl _) _).trans (h4.mono (by simp))⟩
theorem aw_from2 : Calls Try.prog 9 #[.slice (some ⟨w.heap.size, 0, none⟩) 2 2] (w.alloc (.cells lit2 34)) fun e w' => e = .returned (.tuple #[.slice none 0 0, .int .i64 8]) ∧ Below w.heap.size w w' :=
  (from_tw _ _ (Blk.new w _ _)).mono fun _ _ ⟨h1, h4⟩ => ⟨h1, ((Below.refl _ _).alloc (Nat.le_refl _) _).trans (h4.mono (by simp))⟩
theorem aw_from3 : Calls Try.prog 9 #[.slice (some ⟨w.heap.size, 0, none⟩) 1 1] (w.alloc (.cells lit3 34)) fun e w' => e = .returned (.tuple #[.slice none 0 0, .int .i64 10]) ∧ Below w.heap.size w w' :=
  (from_state _ _ (Blk.new w _ _)).mono fun _ _ ⟨h1, h4⟩ => ⟨h1, ((Below.refl _ _).alloc (Nat.le_refl _) _).trans (h4.mono (by simp))⟩
theorem one_reads (t : TypeId) (a : C3) : CReads (w.alloc (.cells #[.int .i64 a.1, .int .i64 a.2.1, .int .i64 a.2.2] t)) (w.alloc (.cells #[.int .i64 a.1, .int .i64 a.2.1, .int .i64 a.2.2] t)).heap.size (some ⟨w.heap.size, 0, none⟩) 1 (fun _ => a) := fun _ => by
  have h := Blk.new w t #[.int .i64 a.1, .int .i64 a.2.1, .int .i64 a.2.2]
  exact ⟨w.heap.size, 0, rfl, h.lt, fun k hk => match k, hk with | 0, _ => ⟨(h.cell 0).trans rfl, (h.cell 1).trans rfl, (h.cell 2).trans rfl⟩⟩
theorem aw_shift : Calls Try.prog 8 #[.slice (some ⟨w.heap.size, 0, none⟩) 1 1, .int .i64 1, .int .i64 0] (w.alloc (.cells lit4 34)) fun e w' => e = .returned (.tuple #[.slice none 0 0, .int .i64 5]) ∧ Below w.heap.size w w' := by
  refine (shift_by (some ⟨w.heap.size, 0, none⟩) 1 1 (fun _ => (1048576, 0, 1)) 1 0 _ (one_reads w 34 (1048576, 0, 1)) (by decide) (by decide) (by decide) (by decide) (by decide) 0 (by decide) (fun i hi => absurd hi (by omega)) (fun _ => by decide)).mono fun e w' ⟨h1, h4⟩ => ⟨?_, ((Below.refl _ _).alloc (Nat.le_refl _) _).trans (h4.mono (by simp))⟩
  rcases h1 with ⟨_, h1⟩ | ⟨h1, _⟩
  · exact h1
  · cases h1
theorem aw_zero : Calls Try.prog 15 #[.slice (some ⟨w.heap.size, 0, none⟩) 1 1] (w.alloc (.cells lit0 34)) fun e w' => e = .returned (.bool false) ∧ Below w.heap.size w w' := by
  have h := pright_any (some ⟨w.heap.size, 0, none⟩) 1 1 (fun _ => (0, 0, 0)) _ (one_reads w 34 (0, 0, 0)) (by decide)
  rw [show decide (OkL (fun _ => (0, 0, 0)) 1) = false by decide] at h
  exact h.mono fun e w' ⟨h1, h4⟩ => ⟨h1, ((Below.refl _ _).alloc (Nat.le_refl _) _).trans (h4.mono (by simp))⟩
theorem want_row : Row2 (w.alloc (.cells litW 34)) w.heap.size (0, 0, 2) (1, 1, 1) := by
  have h := Blk.new w 34 litW
  exact ⟨h.lt, h.frozen, (h.cell 0).trans rfl, (h.cell 1).trans rfl, (h.cell 2).trans rfl, (h.cell 3).trans rfl, (h.cell 4).trans rfl, (h.cell 5).trans rfl⟩
end
section
variable {w : World} {g : Nat} (c : Nat)
/-- the first of two cells -/
theorem Row2.first (h : Row2 w g (0, 0, 2) (1, 1, 1)) : CReads w w.heap.size (some ⟨g, 0, none⟩) 1 (two (0, 0, 2) (1, 1, 1)) := fun _ => by
  obtain ⟨g', o, e, hg, hc⟩ := h.reads (by decide)
  exact ⟨g', o, e, hg, fun k hk => hc k (by omega)⟩
/-- the second of two cells -/
theorem Row2.second (h : Row2 w g (0, 0, 2) (1, 1, 1)) : CReads w w.heap.size (some ⟨g, 3, none⟩) 1 (fun _ => (1, 1, 1)) := fun _ =>
  ⟨g, 3, rfl, h.1, fun k hk => match k, hk with | 0, _ => ⟨h.2.2.2.2.2.1, h.2.2.2.2.2.2.1, h.2.2.2.2.2.2.2⟩⟩
theorem aw_compare (h : Row2 w g (0, 0, 2) (1, 1, 1)) (c c' : Nat) : Calls Try.prog 6 #[.slice (some ⟨g, 0, none⟩) 1 c, .slice (some ⟨g, 0, none⟩) 2 c'] w fun e w' => e = .returned (.int .i64 (-1)) ∧ Below w.heap.size w w' := by
  have h := compare_any (some ⟨g, 0, none⟩) (some ⟨g, 0, none⟩) 1 2 c c' _ _ w h.first h.reads (by decide) (by decide)
  rwa [show cl (two (0, 0, 2) (1, 1, 1)) 1 (two (0, 0, 2) (1, 1, 1)) 2 = -1 by decide] at h
theorem aw_same (h : Row2 w g (0, 0, 2) (1, 1, 1)) (c c' : Nat) : Calls Try.prog 7 #[.slice (some ⟨g, 0, none⟩) 2 c, .slice (some ⟨g, 0, none⟩) 2 c'] w fun e w' => e = .returned (.bool true) ∧ Below w.heap.size w w' := by
  have h := same_any (some ⟨g, 0, none⟩) (some ⟨g, 0, none⟩) 2 2 c c' _ _ w h.reads h.reads (by decide) (by decide)
  rwa [show decide (2 = 2 ∧ com (two (0, 0, 2) (1, 1, 1)) 2 (two (0, 0, 2) (1, 1, 1)) 2 = 2) = true by decide] at h
theorem aw_right (h : Row2 w g (0, 0, 2) (1, 1, 1)) (c : Nat) : Calls Try.prog 15 #[.slice (some ⟨g, 0, none⟩) 2 c] w fun e w' => e = .returned (.bool true) ∧ Below w.heap.size w w' := by
  have := pright_any (some ⟨g, 0, none⟩) 2 c _ w h.reads (by decide)
  rwa [decide_eq_true ok_want] at this
end
end Go.Proofs.Ytegednbebmkmhaa
