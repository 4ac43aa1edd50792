/- The walk of slices.Clone, slices.Compact, point.Sort and image. -/
/- The walks of slices.Equal and hood.Same on any two lists. -/
/- Plain mathematics: lists of positions as multisets; strictly ascending ones are determined by their positions. -/
/- The walk of slices.SortFunc on positions by point.Compare, at every length: by the library's own contract of the sort. -/
import Derived.Test.YtcgkkppidkkjiaaGreatDoorMaa
import Derived.Test.YtcgkkppidkkjiaaGreatDoorMae
import Derived.Below
import Derived.BigQuiet
import Derived.Deep.AppendLies
import Derived.Deep.CutRange
import Derived.Deep.Draws
import Derived.Deep.QuietTactic
import Derived.IntWalk
import Derived.Laws.OwnMore
import Derived.Laws.Rows
import Derived.Lib.Hide
import Derived.Lib.SliceRun
import Derived.LoopN
import Derived.OwnWalk
import Derived.Sort.Statements
import Derived.StillTail
import Derived.StillTailTactics
import Derived.Test.YtcgkkppidkkjiaaGreatDoorRows
import Derived.WalkKit
import Derived.Test.YtcgkkppidkkjiaaGreatDoorMac
import Derived.Shelf.SlLaysF0
import Derived.Shelf.SlSortCmp.WholeK
import Derived.Sort.Grow
namespace Go.Proofs.YtcgkkppidkkjiaaGreatDoor
open Go.RowKit
theorem cells2_one (f : Nat → P2) (n : Nat) : ∀ u ∈ cells2 f n, u.oneCell' = true := by
  induction n with
  | zero => intro u hu; cases hu
  | succ n ih =>
    intro u hu
    rw [cells2, List.mem_append] at hu
    rcases hu with hu | hu
    · exact ih u hu
    · simp at hu
      rcases hu with rfl | rfl <;> rfl
theorem cells2_cell {w : World} {g o n : Nat} {f : Nat → P2} (h : ∀ k, k < n → w.cell? ⟨g, o + k * 2, none⟩ = some (.int .i64 (f k).1) ∧ w.cell? ⟨g, o + k * 2 + 1, none⟩ = some (.int .i64 (f k).2))
    (j : Nat) (u : Value) (hj : (cells2 f n)[j]? = some u) : w.cell? ((⟨g, o, none⟩ : Addr).add j) = some u := by
  have hl := cells2_len f n
  have hlt : j < n * 2 := by
    rcases Nat.lt_or_ge j (n * 2) with h | h
    · exact h
    · rw [List.getElem?_eq_none (by omega)] at hj; cases hj
  have hq : j / 2 < n := by omega
  obtain ⟨c1, c2⟩ := cells2_at f n (j / 2) hq
  obtain ⟨d1, d2⟩ := h (j / 2) hq
  have hadd : ((⟨g, o, none⟩ : Addr).add j) = ⟨g, o + j, none⟩ := by
    unfold Addr.add
    split
    · next e => subst e; rfl
    · rfl
  rw [hadd]
  have hm : j % 2 = 0 ∨ j % 2 = 1 := by omega
  rcases hm with hm | hm
  · have e : j / 2 * 2 = j := by omega
    rw [e] at c1 d1
    rw [c1] at hj
    rw [← hj]; exact d1
  · have e : j / 2 * 2 + 1 = j := by omega
    rw [Nat.add_assoc, e] at d2
    rw [e] at c2
    rw [c2] at hj
    rw [← hj]; exact d2

set_option maxRecDepth 100000 in
set_option maxHeartbeats 1000000 in
theorem clone_some (ad : Addr) (n c : Nat) (f : Nat → P2) (w : World) (h : QReads w w.heap.size (some ad) n f) (hn : n ≤ 5000) :
    Calls Tryz.prog 35 #[.slice (some ad) n c] w fun e w' => ∃ A' c', e = .returned (.slice A' n c') ∧ w'.ownsRow w.heap.size 58 2 (.slice A' n c') n (cells2 f n) ∧ Below w.heap.size w w' := by
  obtain ⟨i0, hi, hz0, hz1, hz2⟩ := info_parts Tryz.info_point
  have hnews : ∀ (j : Nat) (u : Value), (cells2 f n)[j]? = some u → (w.alloc (.cells #[] 58)).cell? (ad.add j) = some u := by
    intro j u hj
    have hlt : j < n * 2 := by
      rcases Nat.lt_or_ge j (n * 2) with h | h
      · exact h
      · rw [List.getElem?_eq_none (by rw [cells2_len]; omega)] at hj; cases hj
    obtain ⟨g, o, ha, hg, hc⟩ := h (by omega)
    injection ha with ha
    subst ha
    exact (World.cell?_alloc_lt w _ _ (by rw [block_of_add]; exact hg)).trans (cells2_cell hc j u hj)
  have HN := Lib.hid hnews
  have B1 := Lib.hid ((Below.refl w.heap.size w).alloc (Nat.le_refl _) (.cells #[] 58))
  have HO := Lib.hid (World.ownsRow_made (base := w.heap.size) (e := 58) (size := 2) w #[] 0 (Nat.le_refl _) (by unfold maxLen; omega) (by rfl))
  have s1 := B1.out.size
  have L := cells2_len f n
  have O := cells2_one f n
  generalize cells2 f n = xs at HN L O ⊢
  clear h hnews
  have q22 : ∀ (w : World) (a : Option Addr) (n c n' c' : Nat), (binOp .eql 22 (.slice a n c) (.slice none n' c')).run Tryz.prog w = .ok (.bool a.isNone) w := fun w a n c n' c' => Lib.run_eql_slice_nil w _ _ a n c n' c' Tryz.underlying22
  go_enter Tryz.func35, Tryz.ntmps35
  go_wp2_with (at_builtin; refine wpList_append_own _ rfl _ _ 22 rfl w.heap.size 58 i0 (.agg #[.int .i64 0, .int .i64 0]) 2 16 Tryz.underlying22 hi hz0 hz1 hz2 rfl (by decide) _ 0 [] rfl HO.out ad n c xs rfl L HN.out O (by unfold maxLen; omega) (by omega) s1 ?_; intro v' w2 hown2 hg2 hiff; have B2 := Lib.hid (B1.out.grown hg2 s1 (fun k hk => (HO.out.lt k hk).1)); have HO2 := Lib.hid hown2; clear hown2 hg2 hiff)
  have e : ∃ A' c', v' = .slice A' n c' := by
    have h := HO2.out
    rw [Nat.zero_add] at h
    rcases h.2 with ⟨h1, h2⟩ | ⟨g, cap, cur, h1, _⟩
    · subst h2; exact ⟨_, _, h1⟩
    · exact ⟨_, _, h1⟩
  obtain ⟨A', c', rfl⟩ := e
  go_ret
  have h := HO2.out
  rw [Nat.zero_add, List.nil_append] at h
  exact ⟨A', c', rfl, h, B2.out⟩
set_option maxRecDepth 100000 in
theorem clone_none (c : Nat) (w : World) :
    Calls Tryz.prog 35 #[.slice none 0 c] w fun e w' => e = .returned (.slice none 0 0) ∧ w = w' := by
  have q22 : ∀ (w : World) (a : Option Addr) (n c n' c' : Nat), (binOp .eql 22 (.slice a n c) (.slice none n' c')).run Tryz.prog w = .ok (.bool a.isNone) w := fun w a n c n' c' => Lib.run_eql_slice_nil w _ _ a n c n' c' Tryz.underlying22
  go_enter Tryz.func35, Tryz.ntmps35
  go_wp2
  go_ret
  exact ⟨rfl, rfl⟩
theorem clone_any (A : Option Addr) (n c : Nat) (f : Nat → P2) (w : World) (h : QReads w w.heap.size A n f) (hn : n ≤ 5000) :
    Calls Tryz.prog 35 #[.slice A n c] w fun e w' => ∃ A' c', e = .returned (.slice A' n c') ∧ w'.ownsRow w.heap.size 58 2 (.slice A' n c') n (cells2 f n) ∧ Below w.heap.size w w' := by
  cases A with
  | some ad => exact clone_some ad n c f w h hn
  | none =>
    have hn0 : n = 0 := by
      rcases Nat.eq_zero_or_pos n with e | e
      · exact e
      · obtain ⟨g, o, ha, _⟩ := h e; cases ha
    subst hn0
    exact (clone_none c w).mono fun e w' ⟨he, hw⟩ => ⟨none, 0, he, hw ▸ World.ownsRow_nil _ _ _ _, hw ▸ Below.refl _ _⟩
end Go.Proofs.YtcgkkppidkkjiaaGreatDoor
namespace Go.Proofs.YtcgkkppidkkjiaaGreatDoor
open Go.RowKit
/-- whether two lists have the same positions in the same order -/
def sm (f : Nat → P2) (n : Nat) (g : Nat → P2) (m : Nat) : Bool := decide (n = m) && (List.range n).all fun i => decide (f i = g i)
theorem sm_iff (f : Nat → P2) (n : Nat) (g : Nat → P2) (m : Nat) : sm f n g m = true ↔ (n = m ∧ ∀ i, i < n → f i = g i) := by
  simp [sm, Bool.and_eq_true, List.all_eq_true]
set_option maxRecDepth 100000 in
set_option maxHeartbeats 1000000 in
theorem equal_any (A A' : Option Addr) (n m c c' : Nat) (f g : Nat → P2) (w : World) (h : QReads w w.heap.size A n f) (h' : QReads w w.heap.size A' m g) (hn : n ≤ 1000000) (hm : m ≤ 1000000) :
    Calls Tryz.prog 110 #[.slice A n c, .slice A' m c'] w fun e w' => e = .returned (.bool (sm f n g m)) ∧ Below w.heap.size w w' := by
  by_cases hnm : n = m
  · subst hnm
    have H := Lib.hid h
    have H' := Lib.hid h'
    clear h h'
    go_enter Tryz.func110, Tryz.ntmps110
    go_wp2
    go_loopw [13] (fun iv wr => ∃ j : Nat, j ≤ n ∧ iv = .int .i64 (j : Int) ∧ (∀ i, i < j → f i = g i) ∧ Below w.heap.size w wr) (fun iv _ => n - (intOf iv).toNat)
    case atStart => exact ⟨0, Nat.zero_le _, rfl, fun i hi => absurd hi (by omega), Below.refl _ _⟩
    case round =>
      obtain ⟨j, hj, rfl, hE, hbel⟩ := hrel
      have R := H.out.below hbel
      have R' := H'.out.below hbel
      have HB := Lib.hid hbel
      have HE := Lib.hid hE
      clear hbel hE
      by_cases hk : j < n
      · obtain ⟨g1, o1, rfl, hb1, hc1⟩ := R (by omega)
        obtain ⟨g2, o2, rfl, hb2, hc2⟩ := R' (by omega)
        obtain ⟨c10, c11⟩ := hc1 j (by omega)
        obtain ⟨c20, c21⟩ := hc2 j (by omega)
        clear hc1 hc2 R R'
        by_cases heq : f j = g j
        · have HQ := Lib.hid heq
          rw [← heq] at c20 c21
          clear heq
          generalize f j = x at c10 c11 c20 c21
          obtain ⟨x1, x2⟩ := x
          simp only at c10 c11 c20 c21
          go_wp2_with fail
          go_quiet (fail)
          go_wp2
          go_roundw
          case rel => exact ⟨j + 1, by omega, by go_num, fun i hi => by
            by_cases e : i < j
            · exact HE.out i e
            · obtain rfl : i = j := by omega
              exact HQ.out, below_drewN HB.out _⟩
          case measure => simp [intOf]; omega
        · have HF := Lib.hid (show sm f n g n = false by rw [← Bool.not_eq_true, sm_iff]; exact fun h => heq (h.2 j hk))
          obtain ⟨⟨x1, x2⟩, hx⟩ : ∃ x, x = f j := ⟨_, rfl⟩
          obtain ⟨⟨y1, y2⟩, hy⟩ : ∃ y, y = g j := ⟨_, rfl⟩
          rw [← hx] at c10 c11 heq
          rw [← hy] at c20 c21 heq
          clear hx hy
          simp only at c10 c11 c20 c21
          by_cases e1 : x1 = y1
          · subst e1
            have e2 : (x2 == y2) = false := by rw [beq_eq_false_iff_ne]; intro e; exact heq (by rw [e])
            clear heq
            go_wp2_with fail
            go_quiet (fail)
            go_wp2
            go_ret
            exact ⟨ret_bool HF.out.symm, below_drewN HB.out _⟩
          · have e1 : (x1 == y1) = false := by rw [beq_eq_false_iff_ne]; exact e1
            clear heq
            go_wp2_with fail
            go_quiet (fail)
            go_wp2
            go_ret
            exact ⟨ret_bool HF.out.symm, below_drewN HB.out _⟩
      · obtain rfl : j = n := by omega
        have HF := Lib.hid (show sm f j g j = true by rw [sm_iff]; exact ⟨rfl, HE.out⟩)
        clear hk R R'
        go_wp2
        go_ret
        exact ⟨ret_bool HF.out.symm, HB.out⟩
  · have HF := Lib.hid (show sm f n g m = false by rw [← Bool.not_eq_true, sm_iff]; exact fun h => hnm h.1)
    have e1 : ((n : Int) != (m : Int)) = true := by rw [bne_iff_ne]; omega
    clear h h'
    go_enter Tryz.func110, Tryz.ntmps110
    go_wp2
    go_ret
    exact ⟨ret_bool HF.out.symm, Below.refl _ _⟩
theorem hsame_any (A A' : Option Addr) (n m c c' : Nat) (f g : Nat → P2) (w : World) (h : QReads w w.heap.size A n f) (h' : QReads w w.heap.size A' m g) (hn : n ≤ 1000000) (hm : m ≤ 1000000) :
    Calls Tryz.prog 92 #[.slice A n c, .slice A' m c'] w fun e w' => e = .returned (.bool (sm f n g m)) ∧ Below w.heap.size w w' := by
  have C := Lib.hid (equal_any A A' n m c c' f g w h h' hn hm)
  clear h h'
  go_enter Tryz.func92, Tryz.ntmps92
  go_wp2_with (go_at_call 110; (with_reducible refine C.out.mono ?_); rintro e w' ⟨rfl, hb⟩; have HB := Lib.hid hb; clear hb)
  go_ret
  exact ⟨rfl, HB.out⟩
end Go.Proofs.YtcgkkppidkkjiaaGreatDoor
namespace Go.Proofs.YtcgkkppidkkjiaaGreatDoor
/-- the first n positions of a list -/
def lst (f : Nat → P2) (n : Nat) : List P2 := (List.range n).map f
theorem lst_len (f : Nat → P2) (n : Nat) : (lst f n).length = n := by simp [lst]
theorem lst_get (f : Nat → P2) (n i : Nat) (h : i < (lst f n).length) : (lst f n)[i] = f i := by simp [lst]
theorem lst_mem {f : Nat → P2} {n : Nat} {a : P2} : a ∈ lst f n ↔ ∃ i, i < n ∧ f i = a := by simp [lst]
theorem lst_pair {f : Nat → P2} {n : Nat} {R : P2 → P2 → Prop} : (lst f n).Pairwise R ↔ ∀ i j, i < j → j < n → R (f i) (f j) := by
  rw [List.pairwise_iff_getElem]
  constructor
  · intro h i j hij hj
    have := h i j (by rw [lst_len]; omega) (by rw [lst_len]; omega) hij
    rwa [lst_get, lst_get] at this
  · intro h i j hi hj hij
    rw [lst_get, lst_get]
    exact h i j hij (by rw [lst_len] at hj; exact hj)
theorem lst_same {f g : Nat → P2} {n : Nat} (h : lst f n = lst g n) (i : Nat) (hi : i < n) : f i = g i := by
  have h1 : (lst f n)[i]? = (lst g n)[i]? := by rw [h]
  rwa [List.getElem?_eq_getElem (by rw [lst_len]; exact hi), List.getElem?_eq_getElem (by rw [lst_len]; exact hi), lst_get, lst_get, Option.some.injEq] at h1
theorem lst_congr {f g : Nat → P2} {n : Nat} (h : ∀ i, i < n → f i = g i) : lst f n = lst g n := by
  apply List.ext_getElem
  · simp [lst_len]
  · intro i h1 h2
    rw [lst_get, lst_get]
    exact h i (by rw [lst_len] at h1; exact h1)

/-- strictly ascending -/
def Up (f : Nat → P2) (n : Nat) : Prop := ∀ i j, i < j → j < n → pc (f i) (f j) < 0
/-- two strictly ascending lists of the same positions are equal -/
theorem up_same {f g : Nat → P2} {n : Nat} (hf : Up f n) (hg : Up g n) (hp : (lst f n).Perm (lst g n)) : ∀ i, i < n → f i = g i :=
  lst_same (hp.eq_of_pairwise (le := fun a b => pc a b < 0) (fun a b _ _ h1 h2 => by rw [pc_lt] at h1 h2; omega) (lst_pair.2 hf) (lst_pair.2 hg))
/-- different positions are kept by any order -/
theorem apart_perm {f g : Nat → P2} {n : Nat} (hp : (lst f n).Perm (lst g n)) (h : ∀ i j, i < j → j < n → g i ≠ g j) : ∀ i j, i < j → j < n → f i ≠ f j :=
  (lst_pair (R := fun a b => a ≠ b)).1 (hp.symm.pairwise ((lst_pair (R := fun a b => a ≠ b)).2 h) (fun {_ _} h => Ne.symm h))

/-- the order of positions is a strict weak order -/
theorem pc_swo : Go.Sort.SWO (fun a b : P2 => decide (pc a b < 0)) where
  irrefl x := by rw [decide_eq_false_iff_not, pc_lt]; omega
  trans x y z h1 h2 := by rw [decide_eq_true_iff, pc_lt] at *; omega
  ntrans x y z h1 h2 := by rw [decide_eq_false_iff_not, pc_lt] at *; omega
end Go.Proofs.YtcgkkppidkkjiaaGreatDoor
namespace Go.Proofs.YtcgkkppidkkjiaaGreatDoor
open Go.RowKit
/-- a position's values -/
abbrev en (x : P2) : List Value := [.int .i64 x.1, .int .i64 x.2]
theorem en_one (x : P2) : ∀ v ∈ en x, v.oneCell' = true := fun v hv => by
  simp at hv
  rcases hv with rfl | rfl <;> rfl
theorem cmp_lays (g size : Nat) (w : World) : CmpLays Tryz.prog 65 #[] en 2 pc g 0 size w :=
  fun _ _ _ _ x y => pcompare_grow x.1 x.2 y.1 y.2 _
theorem cmp_enters : ∀ args w, (callFunc 65 args).run Tryz.prog w = .ok (.enter 65 args) w := enters_of Tryz.func65 (by kernel_rfl) rfl
theorem lt_swo : Go.Sort.SWO (ltOf pc) := pc_swo

/-- what the sort leaves turns nothing below the row -/
theorem sorted_below {g : Nat} {w w' : World} {d : Array P2} (hg : g < w.heap.size) (h : SWK en 2 w g 0 d w') : Below g w w' := by
  obtain ⟨n, os, rfl⟩ := h
  refine ⟨rfl, rfl, rfl, ?_, fun b hb => ?_⟩
  · show w.heap.size ≤ (Go.Sort.grow (Go.Sort.putRowK en 2 (Go.Sort.ahead w n) g 0 d) os).heap.size
    rw [Go.Sort.size_grow, Go.Sort.size_putRowK]
    exact Nat.le_add_right _ _
  · show (((w.heap.modify g _) ++ os)[b]?) = _
    rw [Array.getElem?_append_left (by simp; omega), Array.getElem?_modify, if_neg (by omega)]
theorem bits_len (n : Nat) (w : World) (hn : n ≤ 1000000) : Calls Tryz.prog 104 #[.int .u64 (n : Int)] w fun e w' => e = .returned (.int .i64 (Lib.bitLen n : Nat)) ∧ w' = w := by
  have h := Any.bits_Len (SlLaysF0.n15.bits (P := Tryz.prog) (ρ := sortRen) { sortLays with }) (n : Int) w (by omega) (by omega)
  rwa [Int.toNat_natCast] at h

theorem pdq_any (g c l : Nat) (d : Array P2) (w : World) (hH : Go.Sort.HoldsK en 2 w g 0 d) (hg : g < w.heap.size) (hn : d.size ≤ 1000000) (hl : l < 4611686018427387904) :
    Calls Tryz.prog 138 #[.slice (some ⟨g, 0, none⟩) d.size c, .int .i64 0, .int .i64 (d.size : Nat), .int .i64 (l : Nat), .func (.func 65) #[] #[]] w
      fun e w' => e = .returned (.tuple #[]) ∧ ∃ d', Go.Sort.PermIn 0 d.size d d' ∧ Go.Sort.SortedIn (ltOf pc) 0 d.size d' ∧ SWK en 2 w g 0 d' w' := by
  have h := AnyQ.pdqsortCmpFunc_all sortLays 2 Tryz.isAgg58 Tryz.sizeOf58 en pc 65 #[] lt_swo g 0 c d w cmp_enters (cmp_lays g d.size w)
    ⟨fun _ => rfl, en_one, hH, hg⟩ (d.size + 1) 0 d.size l d w (by omega) rfl (SWK.start hH) (Nat.zero_le _) (Nat.le_refl _) (by omega) hl (Or.inl rfl)
  have hs := Go.Sort.pdq_sorts (ltOf pc) lt_swo d 0 d.size l true true (Nat.zero_le _) (Nat.le_refl _) (Or.inl rfl)
  exact h.mono fun e w' ⟨he, hw⟩ => ⟨he, _, hs.1, hs.2, hw⟩

/-- a row of the call's own holds its positions -/
theorem holds_of_own {w : World} {base g n c : Nat} {e : TypeId} {f : Nat → P2} (h : w.ownsRow base e 2 (.slice (some ⟨g, 0, none⟩) n c) n (cells2 f n)) : Go.Sort.HoldsK en 2 w g 0 (lst f n).toArray := by
  intro j hj
  have hs : (lst f n).toArray.size = n := by simp [lst_len]
  rw [Go.Sort.size_flatK, hs] at hj
  rw [Go.Sort.get_flatK _ _ _ _ (by rw [hs]; exact hj)]
  have hq : j / 2 < n := by omega
  have hl := cells2_len f n
  obtain ⟨c1, c2⟩ := cells2_at f n (j / 2) hq
  have hd : (lst f n).toArray[j / 2]! = f (j / 2) := by
    rw [getElem!_pos _ _ (by rw [hs]; exact hq)]
    simp [lst_get]
  rw [hd, Nat.zero_add]
  refine ⟨?_, h.frozenAt j⟩
  rw [h.cellAt j (by omega)]
  have hm : j % 2 = 0 ∨ j % 2 = 1 := by omega
  rcases hm with hm | hm
  · rw [show j = j / 2 * 2 by omega, c1]
    rw [show (j / 2 * 2) / 2 = j / 2 by omega, show (j / 2 * 2) % 2 = 0 by omega]; rfl
  · rw [show j = j / 2 * 2 + 1 by omega, c2]
    rw [show (j / 2 * 2 + 1) / 2 = j / 2 by omega, show (j / 2 * 2 + 1) % 2 = 1 by omega]; rfl
/-- .. and a row that holds positions reads as them -/
theorem reads_of_holds {w : World} {g : Nat} {d : Array P2} (hg : g < w.heap.size) (h : Go.Sort.HoldsK en 2 w g 0 d) : QReads w w.heap.size (some ⟨g, 0, none⟩) d.size (fun k => d[k]!) := fun _ => by
  refine ⟨g, 0, rfl, hg, fun k hk => ?_⟩
  have h0 := (h.cell (i := k) (c := 0) hk (by omega)).1
  have h1 := (h.cell (i := k) (c := 1) hk (by omega)).1
  exact ⟨h0, h1⟩

set_option maxHeartbeats 1000000 in
/-- a row of the call's own, sorted -/
theorem sortf_any (g c n base : Nat) (e : TypeId) (f : Nat → P2) (w : World) (h : w.ownsRow base e 2 (.slice (some ⟨g, 0, none⟩) n c) n (cells2 f n)) (hn : n ≤ 1000000) (hap : ∀ i j, i < j → j < n → f i ≠ f j) :
    Calls Tryz.prog 129 #[.slice (some ⟨g, 0, none⟩) n c, .func (.func 65) #[] #[]] w fun e w' =>
      e = .returned (.tuple #[]) ∧ ∃ f', QReads w' w'.heap.size (some ⟨g, 0, none⟩) n f' ∧ (lst f' n).Perm (lst f n) ∧ Up f' n ∧ Below g w w' := by
  have hs : (lst f n).toArray.size = n := by simp [lst_len]
  have hg := (h.lt g rfl).2
  have hH := holds_of_own h
  have hp := fun l hl => pdq_any g c l (lst f n).toArray w hH hg (by omega) hl
  rw [hs] at hp
  have key : ∀ (d' : Array P2) (w' : World), Go.Sort.PermIn 0 n (lst f n).toArray d' → Go.Sort.SortedIn (ltOf pc) 0 n d' → SWK en 2 w g 0 d' w' →
      ∃ f', QReads w' w'.heap.size (some ⟨g, 0, none⟩) n f' ∧ (lst f' n).Perm (lst f n) ∧ Up f' n ∧ Below g w w' := by
    intro d' w' h1 h2 h3
    obtain ⟨p1, _, p3⟩ := h1
    have hs' : d'.size = n := by rw [p1, hs]
    have hR := reads_of_holds (h3.lt hg) (h3.holds hg hH p1)
    rw [hs'] at hR
    have hL : lst (fun k => d'[k]!) n = d'.toList := by
      apply List.ext_getElem
      · simp [lst_len, hs']
      · intro i h1 h2
        rw [lst_get]
        rw [getElem!_pos _ _ (by rw [lst_len] at h1; omega)]
        simp
    have hP : (lst (fun k => d'[k]!) n).Perm (lst f n) := by
      rw [hL]
      have e1 : d'.extract 0 n = d' := by rw [← hs']; simp
      have e2 : (lst f n).toArray.extract 0 n = (lst f n).toArray := by
        have := Array.extract_size (xs := (lst f n).toArray)
        rwa [hs] at this
      rw [e1, e2] at p3
      simpa using p3
    refine ⟨_, hR, hP, fun i j hij hj => ?_, sorted_below hg h3⟩
    have h4 := h2 i j (Nat.zero_le _) hij hj
    have h5 := apart_perm hP hap i j hij hj
    have h6 : ¬ pc d'[j]! d'[i]! < 0 := by simpa [ltOf] using h4
    show pc d'[i]! d'[j]! < 0
    have h7 := pc_gt d'[i]! d'[j]!
    have h8 := pc_zero d'[i]! d'[j]!
    have h5' : d'[i]! ≠ d'[j]! := h5
    have h9 : pc d'[i]! d'[j]! ≠ 0 := fun e => h5' (h8.1 e)
    clear h8 h5
    omega
  have B := bits_len n
  have hl : Lib.bitLen n < 4611686018427387904 := Nat.lt_of_le_of_lt (Lib.bitLen_le n 62 (by omega) (by omega)) (by omega)
  have hp := Lib.hid (hp _ hl)
  generalize Lib.bitLen n = l at B hp hl
  have B := Lib.hid (fun w => B w hn)
  have wr : IntKind.u64.wrap (n : Int) = n := by simp [IntKind.wrap, IntKind.bits, IntKind.signed]; omega
  have key := Lib.hid key
  clear hH hap h
  go_enter Tryz.func129, Tryz.ntmps129
  go_wp2_with (first | (go_at_call 104; (with_reducible refine (B.out _).mono ?_); rintro e w' ⟨rfl, rfl⟩) | (go_at_call 138; (with_reducible refine hp.out.mono ?_); rintro e w' ⟨rfl, d', h1, h2, h3⟩; have K := Lib.hid (key.out d' w' h1 h2 h3); clear h1 h2 h3))
  go_end0
  exact ⟨rfl, K.out⟩
end Go.Proofs.YtcgkkppidkkjiaaGreatDoor
