/- The order of lists: total, and unchanged by moves. -/
import Derived.Test.YtobaabankhpfjaaDoorCell
namespace Go.Proofs.YtobaabankhpfjaaDoor

theorem sg_lt (a b : Int) : sg a b < 0 ↔ a < b := by unfold sg; split <;> (try split) <;> omega
theorem sg_anti (a b : Int) : sg b a = - sg a b := by unfold sg; split <;> (try split) <;> (try split) <;> omega
theorem sg_zero (a b : Int) : sg a b = 0 ↔ a = b := by unfold sg; split <;> (try split) <;> omega
theorem or2_anti (a b : Int) : or2 (-a) (-b) = - or2 a b := by unfold or2; split <;> split <;> omega
theorem cc_anti (a b : C3) : cc b a = - cc a b := by
  unfold cc cp
  rw [sg_anti a.2.1 b.2.1, sg_anti a.1 b.1, sg_anti a.2.2 b.2.2, or2_anti, or2_anti]
theorem cc_lt (a b : C3) : cc a b < 0 ↔ (a.2.1 < b.2.1 ∨ a.2.1 = b.2.1 ∧ (a.1 < b.1 ∨ a.1 = b.1 ∧ a.2.2 < b.2.2)) := by
  unfold cc cp or2
  have h1 := sg_lt a.2.1 b.2.1
  have h2 := sg_zero a.2.1 b.2.1
  have h3 := sg_lt a.1 b.1
  have h4 := sg_zero a.1 b.1
  have h5 := sg_lt a.2.2 b.2.2
  split <;> (try split) <;> (try split) <;> omega
theorem cc_zero (a b : C3) : cc a b = 0 ↔ a = b := by
  have h1 := cc_lt a b
  have h2 := cc_lt b a
  have h3 := cc_anti a b
  obtain ⟨x, y, s⟩ := a
  obtain ⟨u, v, r⟩ := b
  simp only [Prod.mk.injEq] at h1 h2 h3 ⊢
  omega
theorem cc_trans (a b c : C3) (h1 : cc a b < 0) (h2 : cc b c < 0) : cc a c < 0 := by
  rw [cc_lt] at *
  omega

theorem com_symm (f : Nat → C3) (n : Nat) (g : Nat → C3) (m : Nat) : com g m f n = com f n g m :=
  com_is (com_le f n g m).2 (com_le f n g m).1 (fun j hj => (com_eq f n g m j hj).symm) (fun h1 h2 e => com_ne f n g m h2 h1 e.symm)
theorem cl_anti (f : Nat → C3) (n : Nat) (g : Nat → C3) (m : Nat) : cl g m f n = - cl f n g m := by
  unfold cl
  rw [com_symm]
  by_cases h : com f n g m = n ∨ com f n g m = m
  · rw [if_pos h, if_pos h.symm, sg_anti]
  · rw [if_neg h, if_neg (fun h' => h h'.symm), cc_anti]
theorem cl_zero (f : Nat → C3) (n : Nat) (g : Nat → C3) (m : Nat) : cl f n g m = 0 ↔ n = m ∧ com f n g m = n := by
  unfold cl
  obtain ⟨l1, l2⟩ := com_le f n g m
  have hne := com_ne f n g m
  by_cases h : com f n g m = n ∨ com f n g m = m
  · rw [if_pos h, sg_zero]
    omega
  · rw [if_neg h, cc_zero]
    exact ⟨fun e => absurd e (hne (by omega) (by omega)), fun e => absurd (Or.inl e.2) h⟩

/-- f is not behind g -/
def Le (f : Nat → C3) (n : Nat) (g : Nat → C3) (m : Nat) : Prop := ∃ i, i ≤ n ∧ i ≤ m ∧ (∀ j, j < i → f j = g j) ∧ (i = n ∨ i < n ∧ i < m ∧ cc (f i) (g i) < 0)
theorem cl_le (f : Nat → C3) (n : Nat) (g : Nat → C3) (m : Nat) : cl f n g m ≤ 0 ↔ Le f n g m := by
  constructor
  · intro h
    obtain ⟨l1, l2⟩ := com_le f n g m
    refine ⟨com f n g m, l1, l2, com_eq f n g m, ?_⟩
    have hne := com_ne f n g m
    unfold cl at h
    by_cases e1 : com f n g m = n
    · exact Or.inl e1
    · right
      by_cases e2 : com f n g m = m
      · rw [if_pos (Or.inr e2)] at h
        unfold sg at h
        rw [if_neg (by omega), if_pos (by omega)] at h
        omega
      · rw [if_neg (by rintro (h | h) <;> contradiction)] at h
        have := hne (by omega) (by omega)
        have h0 := cc_zero (f (com f n g m)) (g (com f n g m))
        refine ⟨by omega, by omega, ?_⟩
        rcases Int.lt_or_eq_of_le h with h | h
        · exact h
        · exact absurd (h0.1 h) this
  · rintro ⟨i, h1, h2, h3, h4 | ⟨h4, h5, h6⟩⟩
    · have hc : com f n g m = i := com_is h1 h2 h3 (fun h => by omega)
      unfold cl
      rw [hc, if_pos (Or.inl h4)]
      unfold sg
      split
      · omega
      · rw [if_neg (by omega)]; omega
    · have hc : com f n g m = i := com_is h1 h2 h3 (fun _ _ e => by rw [(cc_zero _ _).2 e] at h6; omega)
      unfold cl
      rw [hc, if_neg (by omega)]
      omega
theorem Le.trans {f g h : Nat → C3} {n m l : Nat} (h1 : Le f n g m) (h2 : Le g m h l) : Le f n h l := by
  obtain ⟨i, a1, a2, a3, a4⟩ := h1
  obtain ⟨j, b1, b2, b3, b4⟩ := h2
  have both : ∀ k, k < i → k < j → f k = h k := fun k hk hk' => (a3 k hk).trans (b3 k hk')
  rcases a4 with a4 | ⟨a4, a5, a6⟩
  · rcases b4 with b4 | ⟨b4, b5, b6⟩
    · exact ⟨n, Nat.le_refl _, by omega, fun k hk => both k (by omega) (by omega), Or.inl rfl⟩
    · by_cases e : j < n
      · exact ⟨j, by omega, by omega, fun k hk => both k (by omega) hk, Or.inr ⟨e, b5, by rw [a3 j (by omega)]; exact b6⟩⟩
      · exact ⟨n, Nat.le_refl _, by omega, fun k hk => both k (by omega) (by omega), Or.inl rfl⟩
  · rcases b4 with b4 | ⟨b4, b5, b6⟩
    · exact ⟨i, by omega, by omega, fun k hk => both k hk (by omega), Or.inr ⟨a4, by omega, by rw [← b3 i (by omega)]; exact a6⟩⟩
    · rcases Nat.lt_trichotomy i j with e | e | e
      · exact ⟨i, by omega, by omega, fun k hk => both k hk (by omega), Or.inr ⟨a4, by omega, by rw [← b3 i e]; exact a6⟩⟩
      · subst e
        exact ⟨i, by omega, by omega, fun k hk => both k hk hk, Or.inr ⟨a4, by omega, cc_trans _ _ _ a6 b6⟩⟩
      · exact ⟨j, by omega, by omega, fun k hk => both k (by omega) hk, Or.inr ⟨by omega, by omega, by rw [a3 j e]; exact b6⟩⟩
theorem cl_trans (f g h : Nat → C3) (n m l : Nat) (h1 : cl f n g m ≤ 0) (h2 : cl g m h l ≤ 0) : cl f n h l ≤ 0 :=
  (cl_le _ _ _ _).2 (((cl_le _ _ _ _).1 h1).trans ((cl_le _ _ _ _).1 h2))

/-- a list moved -/
def mv (dx dy : Int) (f : Nat → C3) : Nat → C3 := fun k => ((f k).1 + dx, (f k).2.1 + dy, (f k).2.2)
theorem sg_add (a b d : Int) : sg (a + d) (b + d) = sg a b := by unfold sg; split <;> (try split) <;> (try split) <;> (try split) <;> omega
theorem cl_move (dx dy : Int) (f : Nat → C3) (n : Nat) (g : Nat → C3) (m : Nat) : cl (mv dx dy f) n (mv dx dy g) m = cl f n g m := by
  have hc : com (mv dx dy f) n (mv dx dy g) m = com f n g m := by
    refine com_is (com_le f n g m).1 (com_le f n g m).2 (fun j hj => by unfold mv; rw [com_eq f n g m j hj]) (fun h1 h2 e => com_ne f n g m h1 h2 ?_)
    simp only [mv, Prod.mk.injEq] at e
    apply Prod.ext
    · omega
    · apply Prod.ext
      · omega
      · exact e.2.2
  unfold cl
  rw [hc]
  split
  · rfl
  · unfold cc cp mv
    rw [sg_add, sg_add]
end Go.Proofs.YtobaabankhpfjaaDoor
