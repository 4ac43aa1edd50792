/- Plain mathematics: lists of cells as multisets; strictly ascending ones are determined by their cells. -/
import Derived.Test.YtobaabankhpfjaaDoorRight
import Derived.Test.YtobaabankhpfjaaDoorMath
import Derived.Sort.Statements
namespace Go.Proofs.YtobaabankhpfjaaDoor

/-- the first n cells of a list -/
def lst (f : Nat → C3) (n : Nat) : List C3 := (List.range n).map f
theorem lst_len (f : Nat → C3) (n : Nat) : (lst f n).length = n := by simp [lst]
theorem lst_get (f : Nat → C3) (n i : Nat) (h : i < (lst f n).length) : (lst f n)[i] = f i := by simp [lst]
theorem lst_mem {f : Nat → C3} {n : Nat} {a : C3} : a ∈ lst f n ↔ ∃ i, i < n ∧ f i = a := by simp [lst]
theorem lst_succ (f : Nat → C3) (n : Nat) : lst f (n + 1) = lst f n ++ [f n] := by simp [lst, List.range_succ]
theorem lst_map (f : Nat → C3) (n : Nat) (t : C3 → C3) : lst (fun i => t (f i)) n = (lst f n).map t := by simp [lst]
theorem lst_pair {f : Nat → C3} {n : Nat} {R : C3 → C3 → Prop} : (lst f n).Pairwise R ↔ ∀ i j, i < j → j < n → R (f i) (f j) := by
  rw [List.pairwise_iff_getElem]
  constructor
  · intro h i j hij hj
    have := h i j (by rw [lst_len]; omega) (by rw [lst_len]; omega) hij
    rwa [lst_get, lst_get] at this
  · intro h i j hi hj hij
    rw [lst_get, lst_get]
    exact h i j hij (by rw [lst_len] at hj; exact hj)
theorem lst_same {f g : Nat → C3} {n : Nat} (h : lst f n = lst g n) (i : Nat) (hi : i < n) : f i = g i := by
  have h1 : (lst f n)[i]? = (lst g n)[i]? := by rw [h]
  rwa [List.getElem?_eq_getElem (by rw [lst_len]; exact hi), List.getElem?_eq_getElem (by rw [lst_len]; exact hi), lst_get, lst_get, Option.some.injEq] at h1

/-- strictly ascending -/
def Up (f : Nat → C3) (n : Nat) : Prop := ∀ i j, i < j → j < n → cp (f i) (f j) < 0
theorem cp_lt (a b : C3) : cp a b < 0 ↔ (a.2.1 < b.2.1 ∨ a.2.1 = b.2.1 ∧ a.1 < b.1) := by
  unfold cp or2
  have h1 := sg_lt a.2.1 b.2.1
  have h2 := sg_zero a.2.1 b.2.1
  have h3 := sg_lt a.1 b.1
  split <;> omega
theorem cp_zero (a b : C3) : cp a b = 0 ↔ (a.1 = b.1 ∧ a.2.1 = b.2.1) := by
  unfold cp or2
  have h2 := sg_zero a.2.1 b.2.1
  have h4 := sg_zero a.1 b.1
  split <;> omega
theorem cp_gt (a b : C3) : 0 < cp a b ↔ cp b a < 0 := by
  rw [cp_lt]
  unfold cp or2
  have h1 := sg_lt b.2.1 a.2.1
  have h1' := sg_lt a.2.1 b.2.1
  have h2 := sg_zero a.2.1 b.2.1
  have h3 := sg_lt b.1 a.1
  have h3' := sg_lt a.1 b.1
  have h4 := sg_zero a.1 b.1
  have h5 := sg_anti a.2.1 b.2.1
  have h6 := sg_anti a.1 b.1
  split <;> omega
theorem OkL.up {f : Nat → C3} {n : Nat} (h : OkL f n) : Up f n := by
  intro i j hij hj
  induction j with
  | zero => omega
  | succ j ih =>
    have h1 := (h.2 (j + 1) hj).2.2 (by omega)
    rw [Nat.add_sub_cancel] at h1
    by_cases e : i = j
    · rw [e]; exact h1
    · have h2 := ih (by omega) (by omega)
      rw [cp_lt] at *
      omega
theorem OkL.ex {f : Nat → C3} {n : Nat} (h : OkL f n) (i : Nat) (hi : i < n) : ex (f i) = 0 ∧ (f i).2.2 ≠ 0 := ⟨(h.2 i hi).1, (h.2 i hi).2.1⟩
theorem okl_of {f : Nat → C3} {n : Nat} (hn : n ≤ 5000) (h : ∀ i, i < n → Go.Proofs.YtobaabankhpfjaaDoor.ex (f i) = 0 ∧ (f i).2.2 ≠ 0) (hu : Up f n) : OkL f n :=
  ⟨hn, fun i hi => ⟨(h i hi).1, (h i hi).2, fun h0 => hu (i - 1) i (by omega) hi⟩⟩
/-- two strictly ascending lists of the same cells are equal -/
theorem up_same {f g : Nat → C3} {n : Nat} (hf : Up f n) (hg : Up g n) (hp : (lst f n).Perm (lst g n)) : ∀ i, i < n → f i = g i :=
  lst_same (hp.eq_of_pairwise (le := fun a b => cp a b < 0) (fun a b _ _ h1 h2 => by rw [cp_lt] at h1 h2; omega) (lst_pair.2 hf) (lst_pair.2 hg))
/-- different positions are kept by any order -/
theorem apart_perm {f g : Nat → C3} {n : Nat} (hp : (lst f n).Perm (lst g n)) (h : ∀ i j, i < j → j < n → cp (g i) (g j) ≠ 0) : ∀ i j, i < j → j < n → cp (f i) (f j) ≠ 0 :=
  (lst_pair (R := fun a b => cp a b ≠ 0)).1 (hp.symm.pairwise ((lst_pair (R := fun a b => cp a b ≠ 0)).2 h) (fun {x y} (h : cp x y ≠ 0) (e : cp y x = 0) => h (by rw [cp_zero] at *; omega)))
theorem all_perm {f g : Nat → C3} {n : Nat} {P : C3 → Prop} (hp : (lst f n).Perm (lst g n)) (h : ∀ i, i < n → P (g i)) : ∀ i, i < n → P (f i) := fun i hi => by
  obtain ⟨j, hj, e⟩ := lst_mem.1 (hp.mem_iff.1 (lst_mem.2 ⟨i, hi, rfl⟩))
  rw [← e]; exact h j hj

/-- the order of places is a strict weak order -/
theorem cp_swo : Go.Sort.SWO (fun a b : C3 => decide (cp a b < 0)) where
  irrefl x := by rw [decide_eq_false_iff_not, cp_lt]; omega
  trans x y z h1 h2 := by rw [decide_eq_true_iff, cp_lt] at *; omega
  ntrans x y z h1 h2 := by rw [decide_eq_false_iff_not, cp_lt] at *; omega
end Go.Proofs.YtobaabankhpfjaaDoor
