/- The walk of slices.Clone on numbers. -/
/- The walks of slices.Equal at any two lists of gates and of numbers. -/
import Derived.Test.YtnhkgkpjkgifoaaMac
import Derived.Test.YtnhkgkpjkgifoaaMaa
import Derived.Test.YtnhkgkpjkgifoaaMab
import Derived.Below
import Derived.BigQuiet
import Derived.Deep.AppendLies
import Derived.Deep.CutRange
import Derived.Deep.Draws
import Derived.Deep.QuietTactic
import Derived.IntWalk
import Derived.Laws.OwnMore
import Derived.Laws.Rows
import Derived.Lib.Hide
import Derived.Lib.SliceRun
import Derived.LoopN
import Derived.OwnWalk
import Derived.Shelf.Abstract
import Derived.Sort.Statements
import Derived.StillTail
import Derived.StillTailTactics
import Derived.Test.YtnhkgkpjkgifoaaRows
import Derived.WalkKit
import Derived.Deep.OwnRows
import Derived.Laws.CopyOwn
namespace Go.Proofs.Ytnhkgkpjkgifoaa
open Go.RowKit
set_option maxRecDepth 100000 in
set_option maxHeartbeats 1000000 in
theorem iclone_some (ad : Addr) (n c : Nat) (l : List Int) (w : World) (h : Reads w w.heap.size (some ad) n (il l)) (hn : n ≤ 5000) :
    Calls Try.prog 105 #[.slice (some ad) n c] w fun e w' => ∃ A' c', e = .returned (.slice A' n c') ∧ w'.ownsRow w.heap.size 3 1 (.slice A' n c') n (il l) ∧ Below w.heap.size w w' := by
  obtain ⟨i0, hi, hz0, hz1, hz2⟩ := info_parts Try.info_int
  have hnews : ∀ (j : Nat) (u : Value), (il l)[j]? = some u → (w.alloc (.cells #[] 3)).cell? (ad.add j) = some u := by
    intro j u hj
    have hlt : j < n := by
      rcases Nat.lt_or_ge j n with h' | h'
      · exact h'
      · rw [List.getElem?_eq_none (by rw [h.1]; exact h')] at hj; cases hj
    obtain ⟨ad', ha, hg, hc⟩ := h.2 (by omega)
    injection ha with ha
    subst ha
    exact (World.cell?_alloc_lt w _ _ (by rw [block_of_add]; exact hg)).trans (hc j u hj)
  have HN := Lib.hid hnews
  have B1 := Lib.hid ((Below.refl w.heap.size w).alloc (Nat.le_refl _) (.cells #[] 3))
  have HO := Lib.hid (World.ownsRow_made (base := w.heap.size) (e := 3) (size := 1) w #[] 0 (Nat.le_refl _) (by unfold maxLen; omega) (by rfl))
  have s1 := B1.out.size
  have L : (il l).length = n * 1 := by rw [h.1, Nat.mul_one]
  have O : ∀ u ∈ il l, u.oneCell' = true := fun u hu => by
    simp only [il, List.mem_map] at hu
    obtain ⟨x, _, rfl⟩ := hu
    rfl
  generalize il l = xs at HN L O ⊢
  clear h hnews
  have q22 : ∀ (w : World) (a : Option Addr) (n c n' c' : Nat), (binOp .eql 26 (.slice a n c) (.slice none n' c')).run Try.prog w = .ok (.bool a.isNone) w := fun w a n c n' c' => Lib.run_eql_slice_nil w _ _ a n c n' c' Try.underlying26
  go_enter Try.func105, Try.ntmps105
  go_wp2_with (at_builtin; refine wpList_append_own _ rfl _ _ 26 rfl w.heap.size 3 i0 (.int .i64 0) 1 8 Try.underlying26 hi hz0 hz1 hz2 rfl (by decide) _ 0 [] rfl HO.out ad n c xs rfl L HN.out O (by unfold maxLen; omega) (by omega) s1 ?_; intro v' w2 hown2 hg2 hiff; have B2 := Lib.hid (B1.out.grown hg2 s1 (fun k hk => (HO.out.lt k hk).1)); have HO2 := Lib.hid hown2; clear hown2 hg2 hiff)
  have e : ∃ A' c', v' = .slice A' n c' := by
    have h := HO2.out
    rw [Nat.zero_add] at h
    rcases h.2 with ⟨h1, h2⟩ | ⟨g, cap, cur, h1, _⟩
    · subst h2; exact ⟨_, _, h1⟩
    · exact ⟨_, _, h1⟩
  obtain ⟨A', c', rfl⟩ := e
  go_ret
  have h := HO2.out
  rw [Nat.zero_add, List.nil_append] at h
  exact ⟨A', c', rfl, h, B2.out⟩
set_option maxRecDepth 100000 in
theorem iclone_none (c : Nat) (w : World) :
    Calls Try.prog 105 #[.slice none 0 c] w fun e w' => e = .returned (.slice none 0 0) ∧ w = w' := by
  have q22 : ∀ (w : World) (a : Option Addr) (n c n' c' : Nat), (binOp .eql 26 (.slice a n c) (.slice none n' c')).run Try.prog w = .ok (.bool a.isNone) w := fun w a n c n' c' => Lib.run_eql_slice_nil w _ _ a n c n' c' Try.underlying26
  go_enter Try.func105, Try.ntmps105
  go_wp2
  go_ret
  exact ⟨rfl, rfl⟩
theorem iclone_any (A : Option Addr) (n c : Nat) (l : List Int) (w : World) (h : Reads w w.heap.size A n (il l)) (hn : n ≤ 5000) :
    Calls Try.prog 105 #[.slice A n c] w fun e w' => ∃ A' c', e = .returned (.slice A' n c') ∧ w'.ownsRow w.heap.size 3 1 (.slice A' n c') n (il l) ∧ Below w.heap.size w w' := by
  cases A with
  | some ad => exact iclone_some ad n c l w h hn
  | none =>
    have hn0 : n = 0 := by
      rcases Nat.eq_zero_or_pos n with e | e
      · exact e
      · obtain ⟨ad, ha, _⟩ := h.2 e; cases ha
    subst hn0
    have hl0 : il l = [] := List.eq_nil_of_length_eq_zero h.1
    rw [hl0]
    exact (iclone_none c w).mono fun e w' ⟨he, hw⟩ => ⟨none, 0, he, hw ▸ World.ownsRow_nil _ _ _ _, hw ▸ Below.refl _ _⟩
end Go.Proofs.Ytnhkgkpjkgifoaa
namespace Go.Proofs.Ytnhkgkpjkgifoaa
open Go.RowKit
/-- whether two lists have the same gates in the same order -/
def sm (f : Nat → C3) (n : Nat) (g : Nat → C3) (m : Nat) : Bool := decide (n = m) && (List.range n).all fun i => decide (f i = g i)
theorem sm_iff (f : Nat → C3) (n : Nat) (g : Nat → C3) (m : Nat) : sm f n g m = true ↔ (n = m ∧ ∀ i, i < n → f i = g i) := by
  simp [sm, Bool.and_eq_true, List.all_eq_true]
theorem same_ig {l x : List Int} (h : l.length = x.length) (hi : ∀ i, i < l.length → ig l i = ig x i) : l = x := by
  apply List.ext_getElem h
  intro i h1 h2
  have := hi i h1
  simpa [ig, List.getD, List.getElem?_eq_getElem h1, List.getElem?_eq_getElem h2] using this
set_option maxRecDepth 100000 in
set_option maxHeartbeats 1000000 in
theorem gequal_any (A A' : Option Addr) (n m c c' : Nat) (f g : Nat → C3) (w : World) (h : CReads w w.heap.size A n f) (h' : CReads w w.heap.size A' m g) (hn : n ≤ 1000000) (hm : m ≤ 1000000) :
    Calls Try.prog 106 #[.slice A n c, .slice A' m c'] w fun e w' => e = .returned (.bool (sm f n g m)) ∧ Below w.heap.size w w' := by
  by_cases hnm : n = m
  · subst hnm
    have H := Lib.hid h
    have H' := Lib.hid h'
    clear h h'
    go_enter Try.func106, Try.ntmps106
    go_wp2
    go_loopw [13] (fun iv wr => ∃ j : Nat, j ≤ n ∧ iv = .int .i64 (j : Int) ∧ (∀ i, i < j → f i = g i) ∧ Below w.heap.size w wr) (fun iv _ => n - (intOf iv).toNat)
    case atStart => exact ⟨0, Nat.zero_le _, rfl, fun i hi => absurd hi (by omega), Below.refl _ _⟩
    case round =>
      obtain ⟨j, hj, rfl, hE, hbel⟩ := hrel
      have R := H.out.below hbel
      have R' := H'.out.below hbel
      have HB := Lib.hid hbel
      have HE := Lib.hid hE
      clear hbel hE
      by_cases hk : j < n
      · obtain ⟨g1, o1, rfl, hb1, hc1⟩ := R (by omega)
        obtain ⟨g2, o2, rfl, hb2, hc2⟩ := R' (by omega)
        obtain ⟨c10, c11, c12⟩ := hc1 j (by omega)
        obtain ⟨c20, c21, c22⟩ := hc2 j (by omega)
        clear hc1 hc2 R R'
        by_cases heq : f j = g j
        · have HQ := Lib.hid heq
          rw [← heq] at c20 c21 c22
          clear heq
          generalize f j = x at c10 c11 c12 c20 c21 c22
          obtain ⟨x1, x2, x3⟩ := x
          simp only at c10 c11 c12 c20 c21 c22
          go_wp2_with fail
          go_quiet (fail)
          go_wp2
          go_roundw
          case rel => exact ⟨j + 1, by omega, by go_num, fun i hi => by
            by_cases e : i < j
            · exact HE.out i e
            · obtain rfl : i = j := by omega
              exact HQ.out, below_drewN HB.out _⟩
          case measure => simp [intOf]; omega
        · have HF := Lib.hid (show sm f n g n = false by rw [← Bool.not_eq_true, sm_iff]; exact fun h => heq (h.2 j hk))
          obtain ⟨⟨x1, x2, x3⟩, hx⟩ : ∃ x, x = f j := ⟨_, rfl⟩
          obtain ⟨⟨y1, y2, y3⟩, hy⟩ : ∃ y, y = g j := ⟨_, rfl⟩
          rw [← hx] at c10 c11 c12 heq
          rw [← hy] at c20 c21 c22 heq
          clear hx hy
          simp only at c10 c11 c12 c20 c21 c22
          by_cases e1 : x1 = y1
          · subst e1
            by_cases e2 : x2 = y2
            · subst e2
              have e3 : (x3 == y3) = false := by rw [beq_eq_false_iff_ne]; intro e; exact heq (by rw [e])
              clear heq
              go_wp2_with fail
              go_quiet (fail)
              go_wp2
              go_ret
              exact ⟨ret_bool HF.out.symm, below_drewN HB.out _⟩
            · have e2 : (x2 == y2) = false := by rw [beq_eq_false_iff_ne]; exact e2
              clear heq
              go_wp2_with fail
              go_quiet (fail)
              go_wp2
              go_ret
              exact ⟨ret_bool HF.out.symm, below_drewN HB.out _⟩
          · have e1 : (x1 == y1) = false := by rw [beq_eq_false_iff_ne]; exact e1
            clear heq
            go_wp2_with fail
            go_quiet (fail)
            go_wp2
            go_ret
            exact ⟨ret_bool HF.out.symm, below_drewN HB.out _⟩
      · obtain rfl : j = n := by omega
        have HF := Lib.hid (show sm f j g j = true by rw [sm_iff]; exact ⟨rfl, HE.out⟩)
        clear hk R R'
        go_wp2
        go_ret
        exact ⟨ret_bool HF.out.symm, HB.out⟩
  · have HF := Lib.hid (show sm f n g m = false by rw [← Bool.not_eq_true, sm_iff]; exact fun h => hnm h.1)
    have e1 : ((n : Int) != (m : Int)) = true := by rw [bne_iff_ne]; omega
    clear h h'
    go_enter Try.func106, Try.ntmps106
    go_wp2
    go_ret
    exact ⟨ret_bool HF.out.symm, Below.refl _ _⟩
set_option maxRecDepth 100000 in
set_option maxHeartbeats 1000000 in
theorem iequal_any (A A' : Option Addr) (n m c c' : Nat) (l x : List Int) (w : World) (h : Reads w w.heap.size A n (il l)) (h' : Reads w w.heap.size A' m (il x)) (hn : n ≤ 1000000) (hm : m ≤ 1000000) :
    Calls Try.prog 107 #[.slice A n c, .slice A' m c'] w fun e w' => e = .returned (.bool (decide (l = x))) ∧ Below w.heap.size w w' := by
  have L1 := reads_len h
  have L2 := reads_len h'
  by_cases hnm : n = m
  · subst hnm
    have SI := Lib.hid (same_ig (l := l) (x := x) (L1.trans L2.symm))
    have H := Lib.hid h
    have H' := Lib.hid h'
    have L1 := Lib.hid L1
    clear h h' L2
    go_enter Try.func107, Try.ntmps107
    go_wp2
    go_loopw [13] (fun iv wr => ∃ j : Nat, j ≤ n ∧ iv = .int .i64 (j : Int) ∧ (∀ i, i < j → ig l i = ig x i) ∧ Below w.heap.size w wr) (fun iv _ => n - (intOf iv).toNat)
    case atStart => exact ⟨0, Nat.zero_le _, rfl, fun i hi => absurd hi (by omega), Below.refl _ _⟩
    case round =>
      obtain ⟨j, hj, rfl, hE, hbel⟩ := hrel
      have R := H.out.below hbel
      have R' := H'.out.below hbel
      have HB := Lib.hid hbel
      have HE := Lib.hid hE
      clear hbel hE
      by_cases hk : j < n
      · obtain ⟨a1, rfl, hb1, hc1⟩ := il_at R hk
        obtain ⟨a2, rfl, hb2, hc2⟩ := il_at R' hk
        clear R R'
        by_cases heq : ig l j = ig x j
        · have HQ := Lib.hid heq
          rw [← heq] at hc2
          clear heq
          generalize ig l j = y at hc1 hc2
          go_wp2_with fail
          go_quiet (fail)
          go_wp2
          go_roundw
          case rel => exact ⟨j + 1, by omega, by go_num, fun i hi => by
            by_cases e : i < j
            · exact HE.out i e
            · obtain rfl : i = j := by omega
              exact HQ.out, below_drewN HB.out _⟩
          case measure => simp [intOf]; omega
        · have HF := Lib.hid (show decide (l = x) = false from decide_eq_false (fun e => heq (by rw [e])))
          generalize ig l j = y at hc1 heq
          generalize ig x j = z at hc2 heq
          have e1 : (y == z) = false := by rw [beq_eq_false_iff_ne]; exact heq
          clear heq
          go_wp2_with fail
          go_quiet (fail)
          go_wp2
          go_ret
          exact ⟨ret_bool HF.out.symm, below_drewN HB.out _⟩
      · obtain rfl : j = n := by omega
        have HF := Lib.hid (show decide (l = x) = true from decide_eq_true (SI.out (fun i hi => HE.out i (by rw [← L1.out]; exact hi))))
        clear hk R R'
        go_wp2
        go_ret
        exact ⟨ret_bool HF.out.symm, HB.out⟩
  · have HF := Lib.hid (show decide (l = x) = false from decide_eq_false (fun e => hnm (by rw [← L1, ← L2, e])))
    have e1 : ((n : Int) != (m : Int)) = true := by rw [bne_iff_ne]; omega
    clear h h' L1 L2
    go_enter Try.func107, Try.ntmps107
    go_wp2
    go_ret
    exact ⟨ret_bool HF.out.symm, Below.refl _ _⟩
end Go.Proofs.Ytnhkgkpjkgifoaa
