/- The walk of the insertion sort on a row of numbers without repetition. -/
import Derived.Test.YthjamghemmanfaaDoorHas
import Derived.Test.YthjamghemmanfaaDoorTail
import Derived.BigQuiet
import Derived.IntWalk
namespace Go.Proofs.YthjamghemmanfaaDoor
open Go.RowKit

/-- block g begins with the n numbers f 0, f 1, .., none frozen -/
def Row (w : World) (g n : Nat) (f : Nat → Nat) : Prop := g < w.heap.size ∧ ∀ j, j < n → w.cell? ⟨g, j, none⟩ = some (.int .i64 (f j : Nat)) ∧ w.frozen? ⟨g, j, none⟩ = false
/-- two places exchanged -/
def sw (f : Nat → Nat) (a b : Nat) : Nat → Nat := fun k => if k = a then f b else if k = b then f a else f k
section
variable {w w' : World} {B g n : Nat} {f : Nat → Nat}
theorem Row.below (h : Row w g n f) (hb : Below B w w') (hg : g < B) : Row w' g n f :=
  ⟨Nat.lt_of_lt_of_le h.1 hb.size, fun j hj => ⟨(hb.cell (p := ⟨g, j, none⟩) hg).trans (h.2 j hj).1, (hb.frozen (p := ⟨g, j, none⟩) hg).trans (h.2 j hj).2⟩⟩
theorem Row.drew (h : Row w g n f) : Row w.drew g n f := h
theorem Row.drewN (h : Row w g n f) (k : Nat) : Row (w.drewN k) g n f := h
theorem Row.swap (h : Row w g n f) {a b : Nat} (ha : a < n) (hb : b < n) (hab : a ≠ b) : Row ((w.setCell ⟨g, a, none⟩ (.int .i64 (f b : Nat))).setCell ⟨g, b, none⟩ (.int .i64 (f a : Nat))) g n (sw f a b) := by
  refine ⟨by simpa using h.1, fun j hj => ⟨?_, by simpa using (h.2 j hj).2⟩⟩
  unfold sw
  by_cases e2 : j = b
  · subst e2
    rw [if_neg (Ne.symm hab), if_pos rfl]
    have : (w.setCell ⟨g, a, none⟩ (.int .i64 (f j : Nat))).cell? ⟨g, j, none⟩ = some (.int .i64 (f j : Nat)) := by
      rw [World.cell?_setCell_other _ _ _ _ (by intro e; injection e with _ e; exact hab e)]; exact (h.2 j hj).1
    simp [go_sem, this]
  · rw [World.cell?_setCell_other _ _ _ _ (by intro e; injection e with _ e; exact e2 e.symm)]
    by_cases e1 : j = a
    · subst e1
      rw [if_pos rfl]
      simp [go_sem, (h.2 j hj).1]
    · rw [if_neg e1, if_neg e2, World.cell?_setCell_other _ _ _ _ (by intro e; injection e with _ e; exact e1 e.symm)]
      exact (h.2 j hj).1
end
/-- the same numbers as f0's, each once -/
def Mix (n : Nat) (f0 f : Nat → Nat) : Prop := (∀ k, (∃ p, p < n ∧ f p = k) ↔ ∃ p, p < n ∧ f0 p = k) ∧ ∀ p q, p < n → q < n → f p = f q → p = q
theorem Mix.swap {n a b : Nat} {f0 f : Nat → Nat} (h : Mix n f0 f) (ha : a < n) (hb : b < n) : Mix n f0 (sw f a b) := by
  have e : ∀ p, sw f a b p = f (if p = a then b else if p = b then a else p) := fun p => by
    unfold sw; split
    · rfl
    · split <;> rfl
  have hi : ∀ p, p < n → (if p = a then b else if p = b then a else p) < n := fun p hp => by
    split
    · exact hb
    · split
      · exact ha
      · exact hp
  refine ⟨fun k => ⟨fun ⟨p, hp, hk⟩ => (h.1 k).1 ⟨_, hi p hp, by rw [← e]; exact hk⟩, fun hk => ?_⟩, fun p q hp hq hpq => ?_⟩
  · obtain ⟨p, hp, hk⟩ := (h.1 k).2 hk
    refine ⟨if p = a then b else if p = b then a else p, hi p hp, ?_⟩
    rw [e, ← hk]
    congr 1
    by_cases e1 : p = a
    · by_cases e2 : b = a <;> simp [e1, e2]
    · by_cases e2 : p = b <;> simp [e1, e2]
  · rw [e, e] at hpq
    have := h.2 _ _ (hi p hp) (hi q hq) hpq
    split at this <;> split at this <;> (try split at this) <;> (try split at this) <;> omega
/-- the first i ascend -/
def Asc (i : Nat) (f : Nat → Nat) : Prop := ∀ p q, p < q → q < i → f p < f q
/-- the first i but the one at j ascend, and the one at j is less than those behind it -/
def Mid (i j : Nat) (f : Nat → Nat) : Prop := (∀ p q, p < q → q ≤ i → p ≠ j → q ≠ j → f p < f q) ∧ ∀ q, j < q → q ≤ i → f j < f q
theorem Mid.start {i : Nat} {f : Nat → Nat} (h : Asc i f) : Mid i i f := ⟨fun p q h1 h2 h3 h4 => h p q h1 (by omega), fun q h1 h2 => by omega⟩
theorem Mid.step {i m : Nat} {f : Nat → Nat} (h : Mid i (m + 1) f) (hm : m + 1 ≤ i) (hl : f (m + 1) < f m) : Mid i m (sw f (m + 1) m) := by
  have s1 : sw f (m + 1) m (m + 1) = f m := by simp [sw]
  have s2 : sw f (m + 1) m m = f (m + 1) := by simp [sw]
  have s3 : ∀ p, p ≠ m → p ≠ m + 1 → sw f (m + 1) m p = f p := fun p h1 h2 => by simp [sw, h1, h2]
  refine ⟨fun p q h1 h2 h3 h4 => ?_, fun q h1 h2 => ?_⟩
  · by_cases e1 : p = m + 1
    · subst e1
      rw [s1, s3 q (by omega) (by omega)]
      exact h.1 m q (by omega) h2 (by omega) (by omega)
    · rw [s3 p h3 e1]
      by_cases e2 : q = m + 1
      · subst e2; rw [s1]; exact h.1 p m (by omega) (by omega) e1 (by omega)
      · rw [s3 q h4 e2]; exact h.1 p q h1 h2 e1 e2
  · rw [s2]
    by_cases e : q = m + 1
    · subst e; rw [s1]; exact hl
    · rw [s3 q (by omega) e]; exact h.2 q (by omega) h2
theorem Mid.stop0 {i : Nat} {f : Nat → Nat} (h : Mid i 0 f) : Asc (i + 1) f := fun p q h1 h2 => by
  by_cases e : p = 0
  · subst e; exact h.2 q h1 (by omega)
  · exact h.1 p q h1 (by omega) e (by omega)
theorem Mid.stop {i m : Nat} {f : Nat → Nat} (h : Mid i (m + 1) f) (hl : f m < f (m + 1)) : Asc (i + 1) f := fun p q h1 h2 => by
  by_cases e : p = m + 1
  · subst e; exact h.2 q h1 (by omega)
  · by_cases e2 : q = m + 1
    · subst e2
      by_cases e3 : p = m
      · subst e3; exact hl
      · have := h.1 p m (by omega) (by omega) e (by omega); omega
    · exact h.1 p q h1 (by omega) e e2

theorem nan_any (a : Nat) (w : World) : Calls Tryd.prog 60 #[.int .i64 (a : Nat)] w fun e w' => e = .returned (.bool false) ∧ w = w' := by
  go_enter Tryd.func60, Tryd.ntmps60
  go_wp2
  go_ret
  exact ⟨by first | rfl | exact ret_bool (by simp), rfl⟩
theorem less_any (a b : Nat) (w : World) : Calls Tryd.prog 50 #[.int .i64 (a : Nat), .int .i64 (b : Nat)] w fun e w' => e = .returned (.bool (decide (a < b))) ∧ w = w' := by
  have N := Lib.hid nan_any
  by_cases h : a < b
  · go_enter Tryd.func50, Tryd.ntmps50
    go_wp2_with (go_at_call 60; (with_reducible refine (N.out _ _).mono ?_); rintro e w' ⟨rfl, rfl⟩)
    go_ret
    exact ⟨ret_bool (by simp [h]), rfl⟩
  · go_enter Tryd.func50, Tryd.ntmps50
    go_wp2_with (go_at_call 60; (with_reducible refine (N.out _ _).mono ?_); rintro e w' ⟨rfl, rfl⟩)
    go_ret
    exact ⟨ret_bool (by simp [h]), rfl⟩

set_option maxRecDepth 100000 in
set_option maxHeartbeats 1000000 in
theorem ins_any (g c n : Nat) (f0 : Nat → Nat) (w : World) (h : Row w g n f0) (hn : n ≤ 8) (hinj : ∀ p q, p < n → q < n → f0 p = f0 q → p = q) :
    Calls Tryd.prog 44 #[.slice (some ⟨g, 0, none⟩) n c, .int .i64 0, .int .i64 (n : Nat)] w fun e w' => e = .returned (.tuple #[]) ∧ (∃ f, Row w' g n f ∧ Mix n f0 f ∧ Asc n f) ∧ Below g w w' := by
  have HR := Lib.hid h
  have HI := Lib.hid hinj
  clear h hinj
  go_enter Tryd.func44, Tryd.ntmps44
  go_wp2
  go_loopw [6] (fun iv wr => ∃ (i : Nat) (f : Nat → Nat), 1 ≤ i ∧ (i ≤ n ∨ i = 1) ∧ iv = .int .i64 (i : Int) ∧ Row wr g n f ∧ Mix n f0 f ∧ Asc i f ∧ Below g w wr) (fun iv _ => n - (intOf iv).toNat)
  case atStart => exact ⟨1, f0, by omega, by omega, rfl, HR.out, ⟨fun k => Iff.rfl, HI.out⟩, fun p q h1 h2 => by omega, Below.refl _ _⟩
  case round =>
    obtain ⟨i, f, hi1, hi2, rfl, hrow, hmix, hasc, hbel⟩ := hrel
    by_cases hlt : i < n
    · have R1 := Lib.hid hrow
      have M1 := Lib.hid hmix
      have A1 := Lib.hid hasc
      have B1 := Lib.hid hbel
      clear hrow hmix hasc hbel
      obtain ⟨wo, hwo⟩ : ∃ wo, wo = wr := ⟨_, rfl⟩
      subst hwo
      go_wp2
      go_loopw [7] (fun jv wr => ∃ (j : Nat) (f : Nat → Nat), j ≤ i ∧ jv = .int .i64 (j : Int) ∧ Row wr g n f ∧ Mix n f0 f ∧ Mid i j f ∧ Below g w wr) (fun jv _ => (intOf jv).toNat)
      case atStart => exact ⟨i, f, by omega, rfl, R1.out, M1.out, Mid.start A1.out, B1.out⟩
      case round =>
        obtain ⟨j, f2, hj, rfl, hrow, hmix, hmid, hbel⟩ := hrel
        have R2 := Lib.hid hrow
        have M2 := Lib.hid hmix
        have D2 := Lib.hid hmid
        have B2 := Lib.hid hbel
        clear hrow hmix hmid hbel
        by_cases hj0 : j = 0
        · subst hj0
          go_wp2_with fail
          go_region
          go_wp2
          go_roundw
          case rel => exact ⟨i + 1, f2, by omega, by omega, by go_num, R2.out.drew, M2.out, Mid.stop0 D2.out, B2.out.drew⟩
          case measure => simp [intOf]; omega
        · obtain ⟨m, hm⟩ : ∃ m, j = m + 1 := ⟨j - 1, by omega⟩
          have hmn : m < n := by omega
          have hjn : j < n := by omega
          have hj1 : 1 ≤ j := by omega
          have e1 : (j : Int) - 1 = (m : Int) := by omega
          have L := Lib.hid (fun w => less_any (f2 j) (f2 m) w)
          have hg := R2.out.1
          obtain ⟨c1, z1⟩ := R2.out.2 j hjn
          obtain ⟨c2, z2⟩ := R2.out.2 m hmn
          have hd1 : decide (0 < (j : Int)) = true := by rw [decide_eq_true_iff]; omega
          have hd2 : decide (0 < j) = true := by rw [decide_eq_true_iff]; omega
          have E1 := Lib.hid e1
          have HM := Lib.hid hm
          by_cases hl : f2 j < f2 m
          · have hw1 : IntKind.i64.wrap ((j : Int) - 1) = (m : Int) := by rw [e1]; exact IntWalk.i64_in _ (by omega)
            clear hm hj0
            rw [show decide (f2 j < f2 m) = true by simpa using hl] at L
            obtain ⟨x, hx⟩ : ∃ x, x = f2 j := ⟨_, rfl⟩
            obtain ⟨y, hy⟩ : ∃ y, y = f2 m := ⟨_, rfl⟩
            rw [← hx, ← hy] at L
            rw [← hx] at c1
            rw [← hy] at c2
            have HXX := Lib.hid hx
            have HYY := Lib.hid hy
            have HLL := Lib.hid hl
            clear hx hy hl
            go_wp2_with fail
            go_quiet ((go_at_call 50; exact Calls.quiet_of_same ((L.out _).mono fun _ _ h => ⟨h.1, h.2.symm⟩)))
            go_wp2_with fail
            go_region
            all_goals clear hw1
            go_wp2
            go_roundw
            case rel =>
              have hm := HM.out
              have hd := D2.out
              have hll := HLL.out
              have hS := (R2.out.drewN (nq + 1)).swap hjn hmn (by omega)
              rw [← HXX.out, ← HYY.out] at hS
              have hMM := M2.out.swap hjn hmn
              have hB : Below g w (wr.drewN (nq + 1)) := ⟨B2.out.os, B2.out.tape, B2.out.output, B2.out.size, B2.out.block⟩
              subst hm
              exact ⟨m, _, by omega, rfl, hS, hMM, hd.step hj hll, (hB.setCell (p := ⟨g, _, none⟩) (Nat.le_refl _) _).setCell (p := ⟨g, _, none⟩) (Nat.le_refl _) _⟩
            case measure => simp [intOf]; omega
          · rw [show decide (f2 j < f2 m) = false by simpa using hl] at L
            have hne : f2 j ≠ f2 m := fun e => by have := M2.out.2 j m hjn hmn e; omega
            have HLL := Lib.hid (show f2 m < f2 j by omega)
            have hw1 : IntKind.i64.wrap ((j : Int) - 1) = (m : Int) := by rw [e1]; exact IntWalk.i64_in _ (by omega)
            clear hm hj0 hl hne
            obtain ⟨x, hx⟩ : ∃ x, x = f2 j := ⟨_, rfl⟩
            obtain ⟨y, hy⟩ : ∃ y, y = f2 m := ⟨_, rfl⟩
            rw [← hx, ← hy] at L
            rw [← hx] at c1
            rw [← hy] at c2
            clear hx hy
            go_wp2_with fail
            go_quiet ((go_at_call 50; exact Calls.quiet_of_same ((L.out _).mono fun _ _ h => ⟨h.1, h.2.symm⟩)))
            clear hw1
            go_wp2
            go_roundw
            case rel =>
              have hm := HM.out
              have hd := D2.out
              have hll := HLL.out
              rw [hm] at hd hll
              exact ⟨i + 1, f2, by omega, by omega, by go_num, R2.out.drewN _, M2.out, Mid.stop hd hll, ⟨B2.out.os, B2.out.tape, B2.out.output, B2.out.size, B2.out.block⟩⟩
            case measure => simp [intOf]; omega
    · have hin : i = n ∨ n = 0 := by omega
      go_wp2
      go_end0
      refine ⟨rfl, ⟨f, hrow, hmix, fun p q h1 h2 => hasc p q h1 (by omega)⟩, hbel⟩
end Go.Proofs.YthjamghemmanfaaDoor
