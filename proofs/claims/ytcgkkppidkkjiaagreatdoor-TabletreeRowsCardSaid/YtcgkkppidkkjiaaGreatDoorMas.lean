/- What permuted computes, and its bounds. -/
import Derived.Test.YtcgkkppidkkjiaaGreatDoorMad
import Derived.Test.YtcgkkppidkkjiaaGreatDoorMaa
import Derived.Test.YtcgkkppidkkjiaaGreatDoorMak
import Derived.Test.YtcgkkppidkkjiaaGreatDoorMab
import Derived.Test.YtcgkkppidkkjiaaGreatDoorMac
import Derived.Test.YtcgkkppidkkjiaaGreatDoorMaq
import Derived.Test.YtcgkkppidkkjiaaGreatDoorMar
import Derived.Below
import Derived.BigQuiet
import Derived.Deep.AppendLies
import Derived.Deep.CutRange
import Derived.Deep.Draws
import Derived.Deep.QuietTactic
import Derived.DeepKeys
import Derived.IntWalk
import Derived.Laws.BitsLemmas
import Derived.Laws.OwnMore
import Derived.Laws.Rows
import Derived.Lib.Hide
import Derived.Lib.SliceRun
import Derived.LoopN
import Derived.OwnWalk
import Derived.Shelf.SlLaysF0
import Derived.Sort.Grow
import Derived.Sort.Statements
import Derived.StillTail
import Derived.StillTailTactics
import Derived.Test.YtcgkkppidkkjiaaGreatDoorRows
import Derived.WalkKit
namespace Go.Proofs.YtcgkkppidkkjiaaGreatDoor
open Go.RowKit
theorem Below.alloc' {w0 w : World} (h : Below w0.heap.size w0 w) (o : Obj) : Below w0.heap.size w0 (w.alloc o) := h.alloc h.size o
theorem Below.drew' {B : Nat} {w0 w : World} (h : Below B w0 w) : Below B w0 w.drew := h.drew
/-- the tally of the first j states -/
def cl8 (li : List Int) (j : Nat) : List Int := [cnt li 0 j, cnt li 1 j, cnt li 2 j, cnt li 3 j, cnt li 4 j, cnt li 5 j, cnt li 6 j, cnt li 7 j]
theorem cl8_at (li : List Int) (j s : Nat) (hs : s < 8) : ig (cl8 li j) s = cnt li (s : Int) j := by
  match s, hs with
  | 0, _ | 1, _ | 2, _ | 3, _ | 4, _ | 5, _ | 6, _ | 7, _ => rfl
theorem cl8_set (li : List Int) (j s : Nat) (hs : s < 8) (h : ig li j = (s : Int)) : (cl8 li j).set s (cnt li (s : Int) j + 1) = cl8 li (j + 1) := by
  match s, hs with
  | 0, _ | 1, _ | 2, _ | 3, _ | 4, _ | 5, _ | 6, _ | 7, _ => simp [cl8, cnt, h]
theorem cl8_tk (li : List Int) (j : Nat) (hj : j ≤ 200) : Tk (cl8 li j) := ⟨rfl, fun i hi => by
  rw [cl8_at li j i hi]
  have := cnt_bd li (i : Int) j
  omega⟩
/-- what is left behind element j -/
def ps (v : Nat → List Int) (l : List Int) (o ce sc : Int) (r : List (List Int)) (j : Nat) : List (List Int) :=
  if ig l j = o ∨ ix l (ig l j) < (j : Int) then r else wo (cnt l (ig l j) l.length) r (ch v l (ig l j) ce sc) r.length
def pf (v : Nat → List Int) (l : List Int) (o ce sc : Int) (a : List Int) : Nat → List (List Int)
  | 0 => [a]
  | j + 1 => ps v l o ce sc (pf v l o ce sc a j) j
/-- a state of the new state's choices serves -/
def pg (v : Nat → List Int) (l : List Int) (o ce sc : Int) (r : List (List Int)) (k : Nat) : Bool := decide (wo (cnt l o l.length) r [ig (ch v l o ce sc) k] r.length ≠ [])
def pm (v : Nat → List Int) (l : List Int) (o ce sc : Int) (a : List Int) : Int × Bool :=
  if pf v l o ce sc a l.length = [] then (0, false)
  else if 0 ≤ fx (pg v l o ce sc (pf v l o ce sc a l.length)) (ch v l o ce sc).length then (ig (ch v l o ce sc) (fx (pg v l o ce sc (pf v l o ce sc a l.length)) (ch v l o ce sc).length).toNat, true)
  else (0, false)
theorem ps_nil (v : Nat → List Int) (l : List Int) (o ce sc : Int) (j : Nat) : ps v l o ce sc [] j = [] := by
  unfold ps
  split <;> rfl
theorem pf_nil {v : Nat → List Int} {l : List Int} {o ce sc : Int} {a : List Int} {j k : Nat} (hjk : j ≤ k) (h : pf v l o ce sc a j = []) : pf v l o ce sc a k = [] := by
  induction k with
  | zero => rw [show j = 0 by omega] at h; exact h
  | succ k ih =>
    by_cases e : j = k + 1
    · rw [← e]; exact h
    · rw [pf, ih (by omega)]; exact ps_nil ..
/-- the variables' states -/
def Vd (v : Nat → List Int) (nv : Nat) (st : Int) : Prop := ∀ k, k < nv → (v k).length ≤ 8 ∧ ∀ x, x ∈ v k → 0 ≤ x ∧ x < st
theorem ups_ge {l : List Int} (h : ups l = true) (h0 : ∀ i, i < l.length → 0 ≤ ig l i) (i : Nat) (hi : i < l.length) : (i : Int) ≤ ig l i := by
  induction i with
  | zero => exact h0 0 hi
  | succ i ih =>
    have h1 := ih (by omega)
    have h2 := (ups_iff l).1 h (i + 1) hi (by omega)
    rw [show i + 1 - 1 = i by omega] at h2
    omega
theorem vd_of {v : Nat → List Int} {nv : Nat} {st : Int} (hs : st ≤ 8) (h : ∀ k, k < nv → vv st (v k) = true) : Vd v nv st := by
  intro k hk
  have := h k hk
  simp only [vv, Bool.and_eq_true, als_iff] at this
  obtain ⟨⟨_, h1⟩, h2⟩ := this
  refine ⟨?_, fun x hx => ?_⟩
  · rcases Nat.lt_or_ge 8 (v k).length with h3 | h3
    · have := ups_ge h2 (fun i hi => (h1 i hi).1) 8 h3
      have := h1 8 h3
      omega
    · exact h3
  · obtain ⟨j, hj, rfl⟩ := mem_ig hx
    exact h1 j hj
section
variable {v : Nat → List Int} {nv : Nat} {st : Int}
theorem ch0_bd (hv : Vd v nv st) (hs : st ≤ 8) {e : Int} (h1 : -(nv : Int) ≤ e) (h2 : e < st) : (ch0 v e).length ≤ 8 ∧ ∀ x, x ∈ ch0 v e → 0 ≤ x ∧ x < st := by
  unfold ch0
  split
  · exact hv _ (by omega)
  · exact ⟨by simp, fun x hx => by rw [List.mem_singleton] at hx; omega⟩
theorem ch_bd (hv : Vd v nv st) (hs : st ≤ 8) (l : List Int) (ce sc : Int) {e : Int} (h1 : -(nv : Int) ≤ e) (h2 : e < st) : (ch v l e ce sc).length ≤ 8 ∧ ∀ x, x ∈ ch v l e ce sc → 0 ≤ x ∧ x < st := by
  have hb := ch0_bd hv hs h1 h2
  unfold ch
  split
  · exact hb
  · split
    · split
      · rename_i hm
        exact ⟨by simp, fun x hx => by rw [List.mem_singleton] at hx; rw [hx]; exact hb.2 _ hm⟩
      · exact ⟨by simp, fun x hx => by cases hx⟩
    · exact hb
theorem ch_ig (hv : Vd v nv st) (hs : st ≤ 8) (l : List Int) (ce sc : Int) {e : Int} (h1 : -(nv : Int) ≤ e) (h2 : e < st) (k : Nat) (hk : k < (ch v l e ce sc).length) : 0 ≤ ig (ch v l e ce sc) k ∧ ig (ch v l e ce sc) k < 8 := by
  have := (ch_bd hv hs l ce sc h1 h2).2 _ (ig_mem hk)
  omega
theorem pf_len (hv : Vd v nv st) (hs : st ≤ 8) (l : List Int) (o ce sc : Int) (a : List Int) (he : ∀ i, i < l.length → -(nv : Int) ≤ ig l i ∧ ig l i < st) (j : Nat) (hj : j ≤ l.length) : (pf v l o ce sc a j).length ≤ 8 ^ j := by
  induction j with
  | zero => simp [pf]
  | succ j ih =>
    have h1 := ih (by omega)
    have h2 := he j (by omega)
    have h3 := (ch_bd hv hs l ce sc h2.1 h2.2).1
    rw [pf, ps]
    split
    · rw [Nat.pow_succ]; omega
    · have h4 := wo_len (cnt l (ig l j) l.length) (pf v l o ce sc a j) (ch v l (ig l j) ce sc) (pf v l o ce sc a j).length
      have h5 : (pf v l o ce sc a j).length * (ch v l (ig l j) ce sc).length ≤ 8 ^ j * 8 := Nat.mul_le_mul h1 h3
      rw [Nat.pow_succ]
      omega
theorem pf_tk (hv : Vd v nv st) (hs : st ≤ 8) (l : List Int) (o ce sc : Int) {a : List Int} (ha : Tk a) (he : ∀ i, i < l.length → -(nv : Int) ≤ ig l i ∧ ig l i < st) (j : Nat) (hj : j ≤ l.length) : ∀ y, y ∈ pf v l o ce sc a j → Tk y := by
  induction j with
  | zero => intro y hy; rw [pf, List.mem_singleton] at hy; rw [hy]; exact ha
  | succ j ih =>
    have h1 := ih (by omega)
    have h2 := he j (by omega)
    rw [pf, ps]
    split
    · exact h1
    · refine wo_tk h1 (cnt_bd ..).1 (fun k hk => ?_) _ (Nat.le_refl _)
      have := ch_ig hv hs l ce sc h2.1 h2.2 k hk
      omega
end
theorem pm_nil {v : Nat → List Int} {l : List Int} {o ce sc : Int} {a : List Int} {j : Nat} (hj : j ≤ l.length) (h : pf v l o ce sc a j = []) : pm v l o ce sc a = (0, false) := by
  rw [pm, if_pos (pf_nil hj h)]
theorem pm_some {v : Nat → List Int} {l : List Int} {o ce sc : Int} {a : List Int} {r : List (List Int)} {k : Nat} (hr : r = pf v l o ce sc a l.length) (h0 : r ≠ []) (hk : k < (ch v l o ce sc).length) (hb : ∀ i, i < k → pg v l o ce sc r i = false) (h : pg v l o ce sc r k = true) : pm v l o ce sc a = (ig (ch v l o ce sc) k, true) := by
  rw [pm, ← hr, if_neg h0, fx_some hk hb h, if_pos (by omega)]
  rfl
theorem pm_none {v : Nat → List Int} {l : List Int} {o ce sc : Int} {a : List Int} {r : List (List Int)} (hr : r = pf v l o ce sc a l.length) (h0 : r ≠ []) (hb : ∀ i, i < (ch v l o ce sc).length → pg v l o ce sc r i = false) : pm v l o ce sc a = (0, false) := by
  rw [pm, ← hr, if_neg h0, fx_none hb]
  rfl
theorem pow_bd {n j : Nat} (h : n ≤ 8 ^ j) (hj : j ≤ 9) : n ≤ 134217728 := by
  have := Nat.pow_le_pow_right (n := 8) (by decide) hj
  omega
theorem pow_bd8 {n j : Nat} (h : n ≤ 8 ^ j) (hj : j ≤ 8) : n ≤ 16777216 := by
  have := Nat.pow_le_pow_right (n := 8) (by decide) hj
  omega
end Go.Proofs.YtcgkkppidkkjiaaGreatDoor
