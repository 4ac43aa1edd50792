/- Plain facts: a text is read as it was written, and written as it was read. -/
import Derived.Test.YtckkbeknjipddaaDoorText
namespace Go.Proofs.YtckkbeknjipddaaDoor

theorem decVal_rev (r : List Nat) : decVal r.reverse = val 10 (r.map (· - 48)) := by
  induction r with
  | nil => rfl
  | cons c r ih =>
    rw [List.reverse_cons, decVal_snoc, ih, List.map_cons, val]
    omega
theorem map_back (D : List Nat) : (D.map (48 + ·)).map (· - 48) = D := by
  rw [List.map_map]
  conv => rhs; rw [← List.map_id D]
  apply List.map_congr_left
  intro d _
  simp
theorem map_forth {l : List Nat} (h : l.all digB = true) : (l.map (· - 48)).map (48 + ·) = l := by
  rw [List.map_map]
  conv => rhs; rw [← List.map_id l]
  apply List.map_congr_left
  intro d hd
  have := List.all_eq_true.1 h d hd
  simp only [digB, Bool.and_eq_true, decide_eq_true_eq] at this
  simp
  omega
theorem dec_back (D : List Nat) : decVal ((D.map (48 + ·)).reverse) = val 10 D := by rw [decVal_rev, map_back]

theorem isDec_of {D : List Nat} (h : Can 10 D) (hne : D ≠ []) : isDecB ((D.map (48 + ·)).reverse) = true ∧ (D.map (48 + ·)).reverse ≠ [48] ∧ minusB ((D.map (48 + ·)).reverse) = false := by
  obtain ⟨D', d, rfl⟩ : ∃ D' d, D = D' ++ [d] := by
    rcases List.eq_nil_or_concat D with rfl | ⟨D', d, rfl⟩
    · exact absurd rfl hne
    · exact ⟨D', d, by rw [List.concat_eq_append]⟩
  have hd : d ≠ 0 := by intro e; subst e; exact h.2 (by simp)
  have hd10 : d < 10 := h.1 d (by simp)
  have e : ((D' ++ [d]).map (48 + ·)).reverse = (48 + d) :: (D'.map (48 + ·)).reverse := by simp
  rw [e]
  refine ⟨?_, by simp [hd], ?_⟩
  · unfold isDecB
    simp only [Bool.and_eq_true, Bool.or_eq_true]
    refine ⟨?_, Or.inr ⟨by simp, by simp [hd]⟩⟩
    rw [List.all_eq_true]
    intro x hx
    simp only [List.mem_cons, List.mem_reverse, List.mem_map] at hx
    rcases hx with rfl | ⟨y, hy, rfl⟩
    · simp [digB]; omega
    · have := h.1 y (by simp [hy])
      simp [digB]; omega
  · simp [minusB]; omega

theorem read_back {neg : Bool} {xs : List Nat} {t : ByteArray} (ht : TextOf neg xs t) (hx : ∀ d ∈ xs, d < 4294967296) (hr : rightB neg xs = true) : PSpec (bs t) neg xs 0 := by
  obtain ⟨hc, h64, hn⟩ := right_can hr hx
  have hlim : val 4294967296 xs < lim := by
    have := mt (long32 hc).2 (by omega)
    omega
  rcases ht with ⟨h1, _⟩ | ⟨_, h2, h3⟩ | ⟨_, h2, u, ⟨D, h3, h4, h5⟩, h6⟩
  · rw [h1] at hr; cases hr
  · have hx0 := can_zero (by decide) hc h2
    subst hx0
    rw [hn rfl, h3]
    exact Or.inr (Or.inr ⟨by decide, by rw [show decVal (bodyL [48]) = 0 from rfl]; exact Nat.lt_of_le_of_lt (Nat.zero_le _) hlim, rfl, rfl, can_nil _, rfl⟩)
  · have hne : D ≠ [] := by intro e; subst e; simp [val] at h4; omega
    obtain ⟨i1, i2, i3⟩ := isDec_of h3 hne
    rw [h5] at h6
    have hdv : decVal ((D.map (48 + ·)).reverse) = val 4294967296 xs := by rw [dec_back, h4]
    rw [h6]
    cases neg with
    | false =>
      have hb : bodyL ((D.map (48 + ·)).reverse) = (D.map (48 + ·)).reverse := by unfold bodyL; rw [i3]; rfl
      simp only [Bool.false_eq_true, if_false, List.nil_append]
      exact Or.inr (Or.inr ⟨by rw [form_pos i3]; exact i1, by rw [hb, hdv]; exact hlim, rfl, i3.symm, hc, by rw [hb, hdv]⟩)
    | true =>
      have hb : bodyL ([45] ++ (D.map (48 + ·)).reverse) = (D.map (48 + ·)).reverse := rfl
      have hm : minusB ([45] ++ (D.map (48 + ·)).reverse) = true := rfl
      have hf : formB ([45] ++ (D.map (48 + ·)).reverse) = true := by
        unfold formB
        rw [hb, hm, i1]
        simp only [Bool.true_and, Bool.not_eq_true', beq_eq_false_iff_ne, ne_eq]
        exact i2
      simp only [if_true]
      exact Or.inr (Or.inr ⟨hf, by rw [hb, hdv]; exact hlim, rfl, hm.symm, hc, by rw [hb, hdv]⟩)

theorem dec_split {l : List Nat} (h : isDecB l = true) : l = [48] ∨ ∃ c t, l = c :: t ∧ 49 ≤ c := by
  have hall := isDec_all h
  unfold isDecB at h
  simp only [Bool.and_eq_true, Bool.or_eq_true, beq_iff_eq, bne_iff_ne, ne_eq] at h
  rcases h.2 with h2 | ⟨h2, h3⟩
  · exact Or.inl h2
  · cases l with
    | nil => exact absurd rfl h2
    | cons c t =>
      simp only [List.all_cons, Bool.and_eq_true, digB, decide_eq_true_eq] at hall
      have h4 : ¬ c = 48 := by simpa using h3
      exact Or.inr ⟨c, t, rfl, by omega⟩

theorem write_back {s : ByteArray} {neg : Bool} {xs : List Nat} (h : PSpec (bs s) neg xs 0) : TextOf neg xs s ∧ xs.length ≤ 64 ∧ (∀ d ∈ xs, d < 4294967296) := by
  rcases h with ⟨_, h2, _⟩ | ⟨_, _, h2, _⟩ | ⟨hf, hl, _, hneg, hc, hv⟩
  · cases h2
  · cases h2
  · have h64 : xs.length ≤ 64 := by
      rcases Nat.lt_or_ge 64 xs.length with h | h
      · have := (long32 hc).1 h
        omega
      · exact h
    have hd : isDecB (bodyL (bs s)) = true := by
      unfold formB at hf
      simp only [Bool.and_eq_true] at hf
      exact hf.1
    have hz : (minusB (bs s) && bodyL (bs s) == [48]) = false := by
      unfold formB at hf
      simp only [Bool.and_eq_true, Bool.not_eq_true'] at hf
      exact hf.2
    refine ⟨?_, h64, hc.1⟩
    rcases dec_split hd with h48 | ⟨c, t, hct, hc49⟩
    · have hm : minusB (bs s) = false := by rw [h48] at hz; simpa using hz
      have hv0 : val 4294967296 xs = 0 := by rw [hv, h48]; rfl
      have hx0 := can_zero (by decide) hc hv0
      have hbs : bs s = [48] := by rw [← h48]; unfold bodyL; rw [hm]; rfl
      rw [hneg, hm, hx0]
      exact Or.inr (Or.inl ⟨rfl, rfl, hbs⟩)
    · have hp : 0 < val 4294967296 xs := by
        rw [hv, hct]; exact Nat.lt_of_lt_of_le (Nat.pow_pos (by decide)) (decVal_low hc49)
      have hxp : 0 < xs.length := by
        rcases Nat.eq_zero_or_pos xs.length with h0 | h0
        · have := List.eq_nil_of_length_eq_zero h0
          subst this
          simp [val] at hp
        · exact h0
      have hr : rightB neg xs = true := by
        unfold rightB
        rw [if_neg (by omega)]
        simp only [Bool.and_eq_true, decide_eq_true_eq, bne_iff_ne, ne_eq]
        refine ⟨h64, ?_⟩
        have hlast := hc.2
        rw [List.getLast?_eq_getElem?] at hlast
        have hl : xs.length - 1 < xs.length := by omega
        rw [List.getElem?_eq_getElem hl] at hlast
        simp only [List.getD, List.getElem?_eq_getElem hl, Option.getD_some]
        simpa using hlast
      have hall := isDec_all hd
      refine Or.inr (Or.inr ⟨hr, hp, bodyS s, ⟨(bodyL (bs s)).reverse.map (· - 48), ⟨?_, ?_⟩, ?_, ?_⟩, ?_⟩)
      · intro d hd2
        simp only [List.mem_map, List.mem_reverse] at hd2
        obtain ⟨y, hy, rfl⟩ := hd2
        have := List.all_eq_true.1 hall y hy
        simp only [digB, Bool.and_eq_true, decide_eq_true_eq] at this
        omega
      · rw [hct]
        simp
        omega
      · rw [← decVal_rev, List.reverse_reverse, hv]
      · rw [bs_bodyS, map_forth (by rw [List.all_reverse]; exact hall), List.reverse_reverse]
      · rw [bs_bodyS, hneg]
        unfold bodyL
        cases hm : minusB (bs s) with
        | false => rfl
        | true =>
          simp only [if_true]
          unfold minusB at hm
          cases hb : bs s with
          | nil => rw [hb] at hm; cases hm
          | cons a l =>
            rw [hb] at hm
            have : a = 45 := by simpa using hm
            subst this
            rfl

theorem empty_spec {neg : Bool} {xs : List Nat} {t : ByteArray} (ht : TextOf neg xs t) (hr : rightB neg xs = false) : PSpec (bs t) false [] 15 := by
  rcases ht with ⟨_, h2⟩ | ⟨h1, _⟩ | ⟨h1, _⟩
  · rw [h2]; exact Or.inl ⟨by decide, rfl, rfl, rfl⟩
  · rw [hr] at h1; cases h1
  · rw [hr] at h1; cases h1

end Go.Proofs.YtckkbeknjipddaaDoor
