/- Plain mathematics: the numbers of a strictly ascending list lie in its bounds. -/
import Derived.Test.YtbdgfegafckkbaaGreatDoorPl
namespace Go.Proofs.YtbdgfegafckkbaaGreatDoor

theorem ig_get {l : List Int} {i : Nat} (h : i < l.length) : ig l i = l[i] := by
  rw [ig, List.getD_eq_getElem?_getD, List.getElem?_eq_getElem h]; rfl
theorem asc_of {l : List Int} {m : Int} (h1 : l.Pairwise (· < ·)) (h2 : ∀ a ∈ l, 0 ≤ a ∧ a < m) : asc l m = true := by
  rw [asc_iff]
  intro i hi
  have h3 := h2 (ig l i) (ig_mem hi)
  refine ⟨h3.1, h3.2, fun hp => ?_⟩
  rw [ig_get hi, ig_get (show i - 1 < l.length by omega)]
  exact List.pairwise_iff_getElem.1 h1 _ _ _ _ (by omega)
theorem asc_lt {l : List Int} {m : Int} (h : asc l m = true) : ∀ d i : Nat, i + d + 1 < l.length → ig l i < ig l (i + d + 1)
  | 0, i, hi => by
    have := ((asc_iff l m).1 h (i + 1) (by omega)).2.2 (by omega)
    simpa using this
  | d + 1, i, hi => by
    have h1 := asc_lt h d i (by omega)
    have h2 := ((asc_iff l m).1 h (i + d + 1 + 1) (by omega)).2.2 (by omega)
    rw [show i + d + 1 + 1 - 1 = i + d + 1 by omega] at h2
    rw [show i + (d + 1) + 1 = i + d + 1 + 1 by omega]
    omega
theorem asc_up {l : List Int} {m : Int} (h : asc l m = true) : l.Pairwise (· < ·) := by
  rw [List.pairwise_iff_getElem]
  intro i j hi hj hij
  have := asc_lt h (j - i - 1) i (by omega)
  rw [show i + (j - i - 1) + 1 = j by omega, ig_get hi, ig_get hj] at this
  exact this
theorem asc_bd {l : List Int} {m : Int} (h : asc l m = true) : ∀ a ∈ l, 0 ≤ a ∧ a < m := by
  intro a ha
  obtain ⟨i, hi, rfl⟩ := mem_ig ha
  have := (asc_iff l m).1 h i hi
  exact ⟨this.1, this.2.1⟩
end Go.Proofs.YtbdgfegafckkbaaGreatDoor
