/- Plain mathematics: the numbers of a complement ascend, and the complement's complement has the numbers themselves. -/
import Derived.Test.YtajepngppnennaaDoorRComp
namespace Go.Proofs.YtajepngppnennaaDoor

theorem up_ext : ∀ {xs ys : List Int}, xs.Pairwise (· < ·) → ys.Pairwise (· < ·) → (∀ a, a ∈ xs ↔ a ∈ ys) → xs = ys
  | [], [], _, _, _ => rfl
  | [], y :: ys, _, _, h => by have := (h y).2 (List.mem_cons_self ..); cases this
  | x :: xs, [], _, _, h => by have := (h x).1 (List.mem_cons_self ..); cases this
  | x :: xs, y :: ys, hx, hy, h => by
    rw [List.pairwise_cons] at hx hy
    have hxy : x = y := by
      have h1 := (h x).1 (List.mem_cons_self ..)
      have h2 := (h y).2 (List.mem_cons_self ..)
      rw [List.mem_cons] at h1 h2
      rcases h1 with h1 | h1
      · exact h1
      · rcases h2 with h2 | h2
        · exact h2.symm
        · have a1 := hy.1 x h1
          have a2 := hx.1 y h2
          omega
    subst hxy
    congr 1
    refine up_ext hx.2 hy.2 fun a => ⟨fun ha => ?_, fun ha => ?_⟩
    · have h1 := (h a).1 (List.mem_cons_of_mem _ ha)
      rw [List.mem_cons] at h1
      rcases h1 with h1 | h1
      · have := hx.1 a ha; omega
      · exact h1
    · have h1 := (h a).2 (List.mem_cons_of_mem _ ha)
      rw [List.mem_cons] at h1
      rcases h1 with h1 | h1
      · have := hy.1 a ha; omega
      · exact h1
theorem nl_mem (p : Nat → Bool) (n : Nat) (a : Int) : a ∈ nl p n ↔ ∃ j : Nat, j < n ∧ p j = true ∧ a = (j : Int) := by
  simp only [nl, List.mem_map, List.mem_filter, List.mem_range]
  constructor
  · rintro ⟨j, ⟨h1, h2⟩, rfl⟩; exact ⟨j, h1, h2, rfl⟩
  · rintro ⟨j, h1, h2, rfl⟩; exact ⟨j, ⟨h1, h2⟩, rfl⟩
theorem nl_up (p : Nat → Bool) (n : Nat) : (nl p n).Pairwise (· < ·) := by
  unfold nl
  rw [List.pairwise_map]
  exact (List.Pairwise.filter p List.pairwise_lt_range).imp fun h => by omega
theorem ig_get {l : List Int} {i : Nat} (h : i < l.length) : ig l i = l[i] := by
  rw [ig, List.getD_eq_getElem?_getD, List.getElem?_eq_getElem h]; rfl
theorem asc_of {l : List Int} {m : Int} (h1 : l.Pairwise (· < ·)) (h2 : ∀ a ∈ l, 0 ≤ a ∧ a < m) : asc l m = true := by
  rw [asc_iff]
  intro i hi
  have h3 := h2 (ig l i) (ig_mem hi)
  refine ⟨h3.1, h3.2, fun hp => ?_⟩
  rw [ig_get hi, ig_get (show i - 1 < l.length by omega)]
  exact List.pairwise_iff_getElem.1 h1 _ _ _ _ (by omega)
theorem asc_lt {l : List Int} {m : Int} (h : asc l m = true) : ∀ d i : Nat, i + d + 1 < l.length → ig l i < ig l (i + d + 1)
  | 0, i, hi => by
    have := ((asc_iff l m).1 h (i + 1) (by omega)).2.2 (by omega)
    simpa using this
  | d + 1, i, hi => by
    have h1 := asc_lt h d i (by omega)
    have h2 := ((asc_iff l m).1 h (i + d + 1 + 1) (by omega)).2.2 (by omega)
    rw [show i + d + 1 + 1 - 1 = i + d + 1 by omega] at h2
    rw [show i + (d + 1) + 1 = i + d + 1 + 1 by omega]
    omega
theorem asc_up {l : List Int} {m : Int} (h : asc l m = true) : l.Pairwise (· < ·) := by
  rw [List.pairwise_iff_getElem]
  intro i j hi hj hij
  have := asc_lt h (j - i - 1) i (by omega)
  rw [show i + (j - i - 1) + 1 = j by omega, ig_get hi, ig_get hj] at this
  exact this
theorem asc_bd {l : List Int} {m : Int} (h : asc l m = true) : ∀ a ∈ l, 0 ≤ a ∧ a < m := by
  intro a ha
  obtain ⟨i, hi, rfl⟩ := mem_ig ha
  have := (asc_iff l m).1 h i hi
  exact ⟨this.1, this.2.1⟩
theorem ex_mem (l : List Int) (m : Nat) (hm : m ≤ 8) (a : Int) : a ∈ ex l m ↔ 0 ≤ a ∧ a ≤ (m : Int) ∧ (m : Int) - a ∉ l := by
  rw [ex, nl_mem]
  constructor
  · rintro ⟨j, h1, h2, rfl⟩
    simp only [exq, Bool.and_eq_true, decide_eq_true_eq, Bool.not_eq_true', decide_eq_false_iff_not] at h2
    exact ⟨by omega, by omega, h2.2⟩
  · rintro ⟨h1, h2, h3⟩
    refine ⟨a.toNat, by omega, ?_, by omega⟩
    have e : ((a.toNat : Nat) : Int) = a := by omega
    simp only [exq, Bool.and_eq_true, decide_eq_true_eq, Bool.not_eq_true', decide_eq_false_iff_not, e]
    exact ⟨by omega, h3⟩
theorem ex_asc (l : List Int) (m : Nat) (hm : m ≤ 8) : asc (ex l m) ((m + 1 : Nat) : Int) = true :=
  asc_of (nl_up _ _) fun a ha => by
    have := (ex_mem l m hm a).1 ha
    omega
theorem ex_ex (l : List Int) (m : Nat) (hm : m ≤ 8) (h : asc l ((m + 1 : Nat) : Int) = true) : ex (ex l m) m = l := by
  refine up_ext (nl_up _ _) (asc_up h) fun a => ?_
  rw [ex_mem _ m hm]
  constructor
  · rintro ⟨h1, h2, h3⟩
    rw [ex_mem _ m hm] at h3
    have e : (m : Int) - ((m : Int) - a) = a := by omega
    rw [e] at h3
    by_cases ha : a ∈ l
    · exact ha
    · exact absurd ⟨by omega, by omega, ha⟩ h3
  · intro ha
    have hb := asc_bd h a ha
    refine ⟨hb.1, by omega, fun h3 => ?_⟩
    rw [ex_mem _ m hm] at h3
    have e : (m : Int) - ((m : Int) - a) = a := by omega
    rw [e] at h3
    exact h3.2.2 ha
theorem ex_len (l : List Int) (m : Nat) : (ex l m).length ≤ 10 := nl_len _ _
end Go.Proofs.YtajepngppnennaaDoor
