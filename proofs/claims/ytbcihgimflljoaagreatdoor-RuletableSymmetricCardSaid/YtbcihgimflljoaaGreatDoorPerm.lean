/- Plain mathematics: lists of positions as multisets; strictly ascending ones are determined by their positions. -/
import Derived.Test.YtbcihgimflljoaaGreatDoorCell
import Derived.Sort.Statements
namespace Go.Proofs.YtbcihgimflljoaaGreatDoor

/-- the first n positions of a list -/
def lst (f : Nat → P2) (n : Nat) : List P2 := (List.range n).map f
theorem lst_len (f : Nat → P2) (n : Nat) : (lst f n).length = n := by simp [lst]
theorem lst_get (f : Nat → P2) (n i : Nat) (h : i < (lst f n).length) : (lst f n)[i] = f i := by simp [lst]
theorem lst_mem {f : Nat → P2} {n : Nat} {a : P2} : a ∈ lst f n ↔ ∃ i, i < n ∧ f i = a := by simp [lst]
theorem lst_succ (f : Nat → P2) (n : Nat) : lst f (n + 1) = lst f n ++ [f n] := by simp [lst, List.range_succ]
theorem lst_pair {f : Nat → P2} {n : Nat} {R : P2 → P2 → Prop} : (lst f n).Pairwise R ↔ ∀ i j, i < j → j < n → R (f i) (f j) := by
  rw [List.pairwise_iff_getElem]
  constructor
  · intro h i j hij hj
    have := h i j (by rw [lst_len]; omega) (by rw [lst_len]; omega) hij
    rwa [lst_get, lst_get] at this
  · intro h i j hi hj hij
    rw [lst_get, lst_get]
    exact h i j hij (by rw [lst_len] at hj; exact hj)
theorem lst_same {f g : Nat → P2} {n : Nat} (h : lst f n = lst g n) (i : Nat) (hi : i < n) : f i = g i := by
  have h1 : (lst f n)[i]? = (lst g n)[i]? := by rw [h]
  rwa [List.getElem?_eq_getElem (by rw [lst_len]; exact hi), List.getElem?_eq_getElem (by rw [lst_len]; exact hi), lst_get, lst_get, Option.some.injEq] at h1
theorem lst_lf (l : List P2) : lst (lf l) l.length = l := by
  apply List.ext_getElem
  · simp [lst_len]
  · intro i h1 h2
    rw [lst_get]
    simp [lf, h2]
theorem lst_congr {f g : Nat → P2} {n : Nat} (h : ∀ i, i < n → f i = g i) : lst f n = lst g n := by
  apply List.ext_getElem
  · simp [lst_len]
  · intro i h1 h2
    rw [lst_get, lst_get]
    exact h i (by rw [lst_len] at h1; exact h1)

/-- strictly ascending -/
def Up (f : Nat → P2) (n : Nat) : Prop := ∀ i j, i < j → j < n → pc (f i) (f j) < 0
/-- two strictly ascending lists of the same positions are equal -/
theorem up_same {f g : Nat → P2} {n : Nat} (hf : Up f n) (hg : Up g n) (hp : (lst f n).Perm (lst g n)) : ∀ i, i < n → f i = g i :=
  lst_same (hp.eq_of_pairwise (le := fun a b => pc a b < 0) (fun a b _ _ h1 h2 => by rw [pc_lt] at h1 h2; omega) (lst_pair.2 hf) (lst_pair.2 hg))
/-- different positions are kept by any order -/
theorem apart_perm {f g : Nat → P2} {n : Nat} (hp : (lst f n).Perm (lst g n)) (h : ∀ i j, i < j → j < n → g i ≠ g j) : ∀ i j, i < j → j < n → f i ≠ f j :=
  (lst_pair (R := fun a b => a ≠ b)).1 (hp.symm.pairwise ((lst_pair (R := fun a b => a ≠ b)).2 h) (fun {_ _} h => Ne.symm h))

/-- the order of positions is a strict weak order -/
theorem pc_swo : Go.Sort.SWO (fun a b : P2 => decide (pc a b < 0)) where
  irrefl x := by rw [decide_eq_false_iff_not, pc_lt]; omega
  trans x y z h1 h2 := by rw [decide_eq_true_iff, pc_lt] at *; omega
  ntrans x y z h1 h2 := by rw [decide_eq_false_iff_not, pc_lt] at *; omega
end Go.Proofs.YtbcihgimflljoaaGreatDoor
