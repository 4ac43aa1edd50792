/- The walk of Text. -/
import Derived.Test.YtckkbeknjipddaaDoorDec
import Derived.Lib.SmallJoins
namespace Go.Proofs.YtckkbeknjipddaaDoor
open Go.RowKit

/-- what Text must return -/
def TextOf (neg : Bool) (xs : List Nat) (t : ByteArray) : Prop :=
  (rightB neg xs = false ∧ bs t = []) ∨ (rightB neg xs = true ∧ val 4294967296 xs = 0 ∧ bs t = [48]) ∨
  (rightB neg xs = true ∧ 0 < val 4294967296 xs ∧ ∃ u, DecOf (val 4294967296 xs) u ∧ bs t = (if neg then [45] else []) ++ bs u)
theorem TextOf.uniq {neg : Bool} {xs : List Nat} {t t' : ByteArray} (h : TextOf neg xs t) (h' : TextOf neg xs t') : t = t' := by
  rcases h with ⟨a1, a2⟩ | ⟨a1, a2, a3⟩ | ⟨a1, a2, u, a3, a4⟩ <;>
  rcases h' with ⟨b1, b2⟩ | ⟨b1, b2, b3⟩ | ⟨b1, b2, u', b3, b4⟩ <;>
  first
  | exact absurd (a1.symm.trans b1) (by decide)
  | exact absurd a2 (by omega)
  | exact absurd b2 (by omega)
  | exact bs_inj (a2.trans b2.symm)
  | exact bs_inj (a3.trans b3.symm)
  | (have := a3.uniq b3; subst this; exact bs_inj (a4.trans b4.symm))

theorem bs_append (a b : ByteArray) : bs (a ++ b) = bs a ++ bs b := by simp [bs, Joins.data_append]
theorem right_can {neg : Bool} {xs : List Nat} (h : rightB neg xs = true) (hx : ∀ d ∈ xs, d < 4294967296) : Can 4294967296 xs ∧ xs.length ≤ 64 ∧ (xs = [] → neg = false) := by
  unfold rightB at h
  by_cases h0 : xs.length = 0
  · have := List.eq_nil_of_length_eq_zero h0
    subst this
    exact ⟨can_nil _, by simp, fun _ => by simpa using h⟩
  · rw [if_neg h0] at h
    simp only [Bool.and_eq_true, decide_eq_true_eq, bne_iff_ne, ne_eq] at h
    refine ⟨⟨hx, ?_⟩, h.1, fun e => by subst e; simp at h0⟩
    rw [List.getLast?_eq_getElem?]
    have hl : xs.length - 1 < xs.length := by omega
    have := h.2
    simp only [List.getD, List.getElem?_eq_getElem hl, Option.getD_some] at this
    rw [List.getElem?_eq_getElem hl]
    simpa using this
theorem right_pos {neg : Bool} {xs : List Nat} (h : rightB neg xs = true) (hx : ∀ d ∈ xs, d < 4294967296) (h0 : 0 < xs.length) : 0 < val 4294967296 xs := by
  obtain ⟨h1, _, _⟩ := right_can h hx
  exact Nat.lt_of_lt_of_le (Nat.pow_pos (by decide)) (can_pos (by decide) h1 (by intro e; subst e; simp at h0))
theorem DecOf.size {N : Nat} {t : ByteArray} (h : DecOf N t) (hN : N < lim) : t.size ≤ 1000 := by
  obtain ⟨D, h1, h2, h3⟩ := h
  have hl : D.length = t.size := by
    have := congrArg List.length h3
    rw [bs_len] at this
    simpa using this.symm
  rw [← hl]
  rcases Nat.lt_or_ge 1000 D.length with h4 | h4
  · have h5 := (can_len (by decide) h1 1000).1 h4
    obtain ⟨e, he, h6⟩ := lim10
    subst he
    rw [h2] at h5
    exact absurd (Nat.lt_of_lt_of_le hN (Nat.le_trans h6 h5)) (Nat.lt_irrefl _)
  · exact h4

set_option maxRecDepth 100000 in
set_option maxHeartbeats 1000000 in
theorem text_any (neg : Bool) (A : Option Addr) (n c B : Nat) (xs : List Nat) (w : World) (h : Reads w B A n (u32s xs)) (hB : B ≤ w.heap.size) (hn : n ≤ maxLen) (hc : n ≤ c) (hx : ∀ d ∈ xs, d < 4294967296) :
    Calls Tryd.prog 8 #[.agg #[.bool neg, .slice A n c]] w fun e w' => ∃ t, e = .returned (.string t) ∧ TextOf neg xs t ∧ Below w.heap.size w w' := by
  have HL := Lib.hid (u32s_len h)
  have hr := right_any neg A n c B xs (w.alloc (.cells #[.bool neg, .slice A n c] 24)) (h.alloc hB _) (by simp; omega) hn
  have hn' := hn
  unfold maxLen at hn'
  by_cases hR : rightB neg xs = true
  · rw [hR] at hr
    obtain ⟨hcan, h64, hneg⟩ := right_can hR hx
    rw [HL.out] at h64
    have HR := Lib.hid hr
    by_cases h0 : n = 0
    · subst h0
      have hnil := List.eq_nil_of_length_eq_zero HL.out
      have HT := Lib.hid (show TextOf neg xs ⟨#[48]⟩ from Or.inr (Or.inl ⟨hR, by rw [hnil]; rfl, rfl⟩))
      clear hr hR hneg hnil hcan
      go_enter Tryd.func8, Tryd.ntmps8
      go_wp2_with (go_at_call 20; refine HR.out.mono ?_; rintro e w1 ⟨rfl, hb1⟩; obtain ⟨bx0, bx1, bx2, bx3, bx4⟩ := box2 (hb1.mono (by simp)))
      go_ret
      exact ⟨_, rfl, HT.out, ((Below.refl w.heap.size w).alloc (Nat.le_refl _) _).trans (hb1.mono (by simp))⟩
    · have hpos := right_pos hR hx (by rw [HL.out]; omega)
      have hv : val 4294967296 xs < lim := by
        have h1 := val_lt hx
        rw [HL.out] at h1
        exact Nat.lt_of_lt_of_le h1 (Nat.le_trans (Nat.pow_le_pow_right (by decide) h64) (by rw [lim32]; exact Nat.le_refl _))
      have hdec := fun w1 hrd hb => decimal_any A n c B xs w1 hrd hb h64 hc hx hpos
      have HDEC := Lib.hid hdec
      have HTX := Lib.hid (show ∀ u, DecOf (val 4294967296 xs) u → u.size ≤ 1000 from fun u hu => hu.size hv)
      have HRR := Lib.hid hR
      have HPOS := Lib.hid hpos
      have HRD := Lib.hid h
      clear hr hR hneg hcan hpos hv hdec
      cases neg
      · go_enter Tryd.func8, Tryd.ntmps8
        go_wp2_with (first | (go_at_call 20; refine HR.out.mono ?_; rintro e w1 ⟨rfl, hb1⟩; obtain ⟨bx0, bx1, bx2, bx3, bx4⟩ := box2 (hb1.mono (by simp))) | (go_at_call 28; refine (HDEC.out w1 ((HRD.out.alloc hB _).below (hb1.mono (by simp; omega))) (by omega)).mono ?_; rintro e w2 ⟨u, rfl, hdu, hb2⟩; have hus := HTX.out u hdu; have HDU := Lib.hid hdu; clear hdu))
        go_ret
        exact ⟨_, rfl, Or.inr (Or.inr ⟨HRR.out, HPOS.out, u, HDU.out, rfl⟩), (((Below.refl w.heap.size w).alloc (Nat.le_refl _) _).trans (hb1.mono (by simp))).trans (hb2.mono (by omega))⟩
      · go_enter Tryd.func8, Tryd.ntmps8
        go_wp2_with (first | (go_at_call 20; refine HR.out.mono ?_; rintro e w1 ⟨rfl, hb1⟩; obtain ⟨bx0, bx1, bx2, bx3, bx4⟩ := box2 (hb1.mono (by simp))) | (go_at_call 28; refine (HDEC.out w1 ((HRD.out.alloc hB _).below (hb1.mono (by simp; omega))) (by omega)).mono ?_; rintro e w2 ⟨u, rfl, hdu, hb2⟩; have hus := HTX.out u hdu; have HDU := Lib.hid hdu; clear hdu))
        go_ret
        exact ⟨_, rfl, Or.inr (Or.inr ⟨HRR.out, HPOS.out, u, HDU.out, bs_append _ _⟩), (((Below.refl w.heap.size w).alloc (Nat.le_refl _) _).trans (hb1.mono (by simp))).trans (hb2.mono (by omega))⟩
  · have hR' : rightB neg xs = false := by simpa using hR
    rw [hR'] at hr
    have HR := Lib.hid hr
    have HT := Lib.hid (show TextOf neg xs ByteArray.empty from Or.inl ⟨hR', rfl⟩)
    clear hr hR hR'
    go_enter Tryd.func8, Tryd.ntmps8
    go_wp2_with (go_at_call 20; refine HR.out.mono ?_; rintro e w1 ⟨rfl, hb1⟩)
    go_ret
    exact ⟨_, rfl, HT.out, ((Below.refl w.heap.size w).alloc (Nat.le_refl _) _).trans (hb1.mono (by simp))⟩

end Go.Proofs.YtckkbeknjipddaaDoor
