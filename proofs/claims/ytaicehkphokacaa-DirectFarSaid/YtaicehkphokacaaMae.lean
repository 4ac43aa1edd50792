/- The walks of few, common and Same. -/
/- The walks of the reference's Compare and Same at equal lists. -/
/- Lists of numbers: what they read as; their comparison. -/
import Derived.Test.YtaicehkphokacaaMab
import Derived.Test.YtaicehkphokacaaMad
import Derived.Test.YtaicehkphokacaaMaa
import Derived.Below
import Derived.BigQuiet
import Derived.Deep.AppendLies
import Derived.Deep.Draws
import Derived.Deep.QuietTactic
import Derived.Laws.OwnMore
import Derived.Laws.Rows
import Derived.Lib.Hide
import Derived.StillTail
import Derived.Test.YtaicehkphokacaaRows
import Derived.WalkKit
import Derived.LoopN
import Derived.IntWalk
import Derived.OwnWalk
import Derived.StillTailTactics
namespace Go.Proofs.Ytaicehkphokacaa
open Go.RowKit
section
variable (A A' : Option Addr) (n m c c' B : Nat) (f g : Nat → C3) (w : World)
set_option maxHeartbeats 1000000 in
theorem common_any (h : CReads w B A n f) (h' : CReads w B A' m g) (hn : n ≤ 1000000) (hm : m ≤ 1000000) (hB : B ≤ w.heap.size) :
    Calls Try.prog 76 #[.slice A n c, .slice A' m c'] w fun e w' => e = .returned (.int .i64 (com f n g m : Nat)) ∧ Below w.heap.size w w' := by
  have H := Lib.hid h
  have H' := Lib.hid h'
  have L := com_le f n g m
  have E := Lib.hid (com_eq f n g m)
  have N := Lib.hid (com_ne f n g m)
  generalize com f n g m = k at L E N ⊢
  obtain ⟨L1, L2⟩ := L
  clear h h'
  go_enter Try.func76, Try.ntmps76
  go_wp2
  go_loopw [5] (fun iv wr => ∃ j : Nat, j ≤ k ∧ iv = .int .i64 (j : Int) ∧ Below w.heap.size w wr) (fun iv _ => k - (intOf iv).toNat)
  case atStart => exact ⟨0, Nat.zero_le _, rfl, Below.refl _ _⟩
  case round =>
    obtain ⟨j, hj, rfl, hbel⟩ := hrel
    have R := H.out.below (hbel.mono hB)
    have R' := H'.out.below (hbel.mono hB)
    have HB := Lib.hid hbel
    clear hbel
    by_cases hk : j < k
    · obtain ⟨g1, o1, rfl, hb1, hc1⟩ := R (by omega)
      obtain ⟨g2, o2, rfl, hb2, hc2⟩ := R' (by omega)
      obtain ⟨c10, c11, c12⟩ := hc1 j (by omega)
      obtain ⟨c20, c21, c22⟩ := hc2 j (by omega)
      have d1 : decide (j < n) = true := by rw [decide_eq_true_iff]; omega
      have d2 : decide (j < m) = true := by rw [decide_eq_true_iff]; omega
      rw [← E.out j hk] at c20 c21 c22
      clear hc1 hc2 R R'
      generalize f j = x at c10 c11 c12 c20 c21 c22
      go_wp2_with fail
      go_quiet (fail)
      go_wp2
      go_roundw
      case rel => exact ⟨j + 1, by omega, by go_num, below_drewN HB.out _⟩
      case measure => simp [intOf]; omega
    · obtain rfl : j = k := by omega
      clear hk
      by_cases h1 : j < n
      · have d1 : decide (j < n) = true := by rw [decide_eq_true_iff]; omega
        by_cases h2 : j < m
        · have d2 : decide (j < m) = true := by rw [decide_eq_true_iff]; omega
          obtain ⟨g1, o1, rfl, hb1, hc1⟩ := R (by omega)
          obtain ⟨g2, o2, rfl, hb2, hc2⟩ := R' (by omega)
          obtain ⟨c10, c11, c12⟩ := hc1 j (by omega)
          obtain ⟨c20, c21, c22⟩ := hc2 j (by omega)
          have hne := N.out h1 h2
          clear hc1 hc2 R R'
          obtain ⟨⟨x1, x2, x3⟩, hx⟩ : ∃ x, x = f j := ⟨_, rfl⟩
          obtain ⟨⟨y1, y2, y3⟩, hy⟩ : ∃ y, y = g j := ⟨_, rfl⟩
          rw [← hx] at c10 c11 c12 hne
          rw [← hy] at c20 c21 c22 hne
          clear hx hy
          by_cases e1 : x1 = y1
          · subst e1
            by_cases e2 : x2 = y2
            · subst e2
              have e3 : (x3 == y3) = false := by rw [beq_eq_false_iff_ne]; intro e; exact hne (by rw [e])
              clear hne
              go_wp2_with fail
              go_quiet (fail)
              go_wp2
              go_ret
              exact ⟨rfl, below_drewN HB.out _⟩
            · have e2 : (x2 == y2) = false := by rw [beq_eq_false_iff_ne]; exact e2
              clear hne
              go_wp2_with fail
              go_quiet (fail)
              go_wp2
              go_ret
              exact ⟨rfl, below_drewN HB.out _⟩
          · have e1 : (x1 == y1) = false := by rw [beq_eq_false_iff_ne]; exact e1
            clear hne
            go_wp2_with fail
            go_quiet (fail)
            go_wp2
            go_ret
            exact ⟨rfl, below_drewN HB.out _⟩
        · have d2 : decide (j < m) = false := by rw [decide_eq_false_iff_not]; omega
          clear R R'
          go_wp2_with fail
          go_quiet (fail)
          go_wp2
          go_ret
          exact ⟨rfl, below_drewN HB.out _⟩
      · have d1 : decide (j < n) = false := by rw [decide_eq_false_iff_not]; omega
        clear R R'
        go_wp2_with fail
        go_quiet (fail)
        go_wp2
        go_ret
        exact ⟨rfl, below_drewN HB.out _⟩

theorem same_any (h : CReads w w.heap.size A n f) (h' : CReads w w.heap.size A' m g) (hn : n ≤ 1000000) (hm : m ≤ 1000000) :
    Calls Try.prog 64 #[.slice A n c, .slice A' m c'] w fun e w' => e = .returned (.bool (decide (n = m ∧ com f n g m = n))) ∧ Below w.heap.size w w' := by
  have C := Lib.hid (common_any A A' n m c c' w.heap.size f g w h h' hn hm (Nat.le_refl _))
  clear h h'
  generalize com f n g m = k at C ⊢
  by_cases e : n = m
  · subst e
    by_cases e2 : k = n
    · subst e2
      go_enter Try.func64, Try.ntmps64
      go_wp2_with (go_at_call 76; (with_reducible refine C.out.mono ?_); rintro e w' ⟨rfl, hb⟩; have HB := Lib.hid hb; clear hb)
      go_ret
      exact ⟨by first | rfl | exact ret_bool (by simp), HB.out⟩
    · have hz : ((k : Int) == (n : Int)) = false := by rw [beq_eq_false_iff_ne]; omega
      go_enter Try.func64, Try.ntmps64
      go_wp2_with (go_at_call 76; (with_reducible refine C.out.mono ?_); rintro e w' ⟨rfl, hb⟩; have HB := Lib.hid hb; clear hb)
      go_ret
      exact ⟨by first | rfl | exact ret_bool (by simp [e2]), HB.out⟩
  · have hz : ((n : Int) == (m : Int)) = false := by rw [beq_eq_false_iff_ne]; omega
    go_enter Try.func64, Try.ntmps64
    go_wp2_with (go_at_call 76; (with_reducible refine C.out.mono ?_); rintro e w' ⟨rfl, hb⟩; have HB := Lib.hid hb; clear hb)
    go_ret
    exact ⟨by first | rfl | exact ret_bool (by simp [e]), Below.refl _ _⟩
end
end Go.Proofs.Ytaicehkphokacaa
namespace Go.Proofs.Ytaicehkphokacaa
open Go.RowKit
theorem order_same (a : Int) (w : World) : Calls Try.prog 54 #[.int .i64 a, .int .i64 a] w fun e w' => e = .returned (.int .i64 0) ∧ w = w' := by
  go_enter Try.func54, Try.ntmps54
  go_wp2
  go_ret
  exact ⟨rfl, rfl⟩
section
variable (A A' : Option Addr) (n c c' : Nat) (f g : Nat → C3) (w : World)
set_option maxRecDepth 100000 in
set_option maxHeartbeats 1000000 in
theorem rcompare_same (h : CReads w w.heap.size A n f) (h' : CReads w w.heap.size A' n g) (hn : n ≤ 1000000) (hfg : ∀ i, i < n → f i = g i) :
    Calls Try.prog 30 #[.slice A n c, .slice A' n c'] w fun e w' => e = .returned (.int .i64 0) ∧ Below w.heap.size w w' := by
  have H := Lib.hid h
  have H' := Lib.hid h'
  have E := Lib.hid hfg
  have O := Lib.hid (fun w => order_same n w)
  clear h h' hfg
  go_enter Try.func30, Try.ntmps30
  go_wp2
  go_loopw [5] (fun iv wr => ∃ j : Nat, j ≤ n ∧ iv = .int .i64 (j : Int) ∧ Below w.heap.size w wr) (fun iv _ => n - (intOf iv).toNat)
  case atStart => exact ⟨0, Nat.zero_le _, rfl, Below.refl _ _⟩
  case round =>
    obtain ⟨j, hj, rfl, hbel⟩ := hrel
    have R := H.out.below hbel
    have R' := H'.out.below hbel
    have HB := Lib.hid hbel
    clear hbel
    by_cases hk : j < n
    · obtain ⟨g1, o1, rfl, hb1, hc1⟩ := R (by omega)
      obtain ⟨g2, o2, rfl, hb2, hc2⟩ := R' (by omega)
      obtain ⟨c10, c11, c12⟩ := hc1 j (by omega)
      obtain ⟨c20, c21, c22⟩ := hc2 j (by omega)
      rw [← E.out j hk] at c20 c21 c22
      clear hc1 hc2 R R'
      generalize f j = x at c10 c11 c12 c20 c21 c22
      go_wp2_with fail
      go_quiet (fail)
      go_wp2_with fail
      go_quiet (fail)
      go_wp2_with fail
      go_quiet (fail)
      go_wp2
      go_roundw
      case rel => exact ⟨j + 1, by omega, by go_num, below_drewN HB.out _⟩
      case measure => simp [intOf]; omega
    · obtain rfl : j = n := by omega
      clear hk R R'
      go_wp2_with (go_at_call 54; (with_reducible refine (O.out _).mono ?_); rintro e w' ⟨rfl, rfl⟩)
      go_ret
      exact ⟨rfl, HB.out⟩
theorem rsame_yes (h : CReads w w.heap.size A n f) (h' : CReads w w.heap.size A' n g) (hn : n ≤ 1000000) (hfg : ∀ i, i < n → f i = g i) :
    Calls Try.prog 12 #[.slice A n c, .slice A' n c'] w fun e w' => e = .returned (.bool true) ∧ Below w.heap.size w w' := by
  have C := Lib.hid (rcompare_same A A' n c c' f g w h h' hn hfg)
  clear h h' hfg
  go_enter Try.func12, Try.ntmps12
  go_wp2_with (go_at_call 30; (with_reducible refine C.out.mono ?_); rintro e w' ⟨rfl, hb⟩; have HB := Lib.hid hb; clear hb)
  go_ret
  exact ⟨rfl, HB.out⟩
end
end Go.Proofs.Ytaicehkphokacaa
namespace Go.Proofs.Ytaicehkphokacaa
open Go.RowKit
/-- a list of numbers as cells -/
def il (l : List Int) : List Value := l.map fun x => .int .i64 x
/-- number k of a list -/
def ig (l : List Int) (k : Nat) : Int := l.getD k 0
theorem Reads.later {w w' : World} {A : Option Addr} {n : Nat} {xs : List Value} (h : Reads w w.heap.size A n xs) (hb : Below w.heap.size w w') : Reads w' w'.heap.size A n xs := (h.below hb).more hb.size
theorem il_at {w : World} {B n : Nat} {A : Option Addr} {l : List Int} (h : Reads w B A n (il l)) {k : Nat} (hk : k < n) :
    ∃ ad, A = some ad ∧ ad.block < B ∧ w.cell? (ad.add k) = some (.int .i64 (ig l k)) := by
  obtain ⟨ad, u, e, hb, hx, hc⟩ := h.at_ hk
  refine ⟨ad, e, hb, ?_⟩
  rw [hc, ← hx]
  simp only [il, List.getElem?_map, ig, List.getD] at hx ⊢
  cases h' : l[k]? with
  | none => rw [h'] at hx; cases hx
  | some d => simp
theorem reads_len {w : World} {B n : Nat} {A : Option Addr} {l : List Int} (h : Reads w B A n (il l)) : l.length = n := by simpa [il] using h.1
end Go.Proofs.Ytaicehkphokacaa
