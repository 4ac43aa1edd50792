/- Plain mathematics: the tree with a node in front of the others is valid, and has the same values. -/
import Derived.Test.YtkdcciajihoimaaFol
namespace Go.Proofs.Ytkdcciajihoimaa
open Go.RowKit

/-- the elements of a moved node -/
def mx (l : Int) (X : List Int) : List Int := X.map fun k => if 1 < l then k + 1 else k
theorem mx_len (l : Int) (X : List Int) : (mx l X).length = X.length := by simp [mx]
theorem ig_mx (l : Int) (X : List Int) {s : Nat} (h : s < X.length) : ig (mx l X) s = if 1 < l then ig X s + 1 else ig X s := by
  simp [mx, ig, h]
/-- its levels -/
def lu (lv : Nat → Int) : Nat → Int
  | 0 => 1
  | k + 1 => lv k
/-- its elements -/
def xu (S : Nat) (lv : Nat → Int) (nx : Nat → List Int) : Nat → List Int
  | 0 => List.replicate S 0
  | k + 1 => mx (lv k) (nx k)
/-- the tree with a node in front -/
def up (T : Tr) : Tr := ⟨T.st, T.n, T.f, T.m + 1, lu T.lv, xu T.st.toNat T.lv T.nx⟩
theorem up_rt {T : Tr} (h : Rt T) (h3 : T.m ≤ 300) : Rt (up T) := by
  refine ⟨h.s1, h.s2, h.hd, ?_, ?_, ?_, ?_⟩
  · show 1 ≤ T.m + 1; omega
  · show T.m + 1 ≤ 4096; omega
  · intro i hi
    match i, hi with
    | 0, _ =>
      refine ⟨by show (1 : Int) ≤ 1; omega, by show (1 : Int) ≤ (T.n : Int); have := h.hd.1.1; omega, ?_, ?_⟩
      · show ((List.replicate T.st.toNat (0 : Int)).length : Int) = T.st
        have := h.s1
        rw [List.length_replicate]; omega
      · intro s hs
        have hs' : s < T.st.toNat := by
          have : s < (List.replicate T.st.toNat (0 : Int)).length := hs
          rwa [List.length_replicate] at this
        show El T.st _ 0 1 (ig (List.replicate T.st.toNat (0 : Int)) s)
        rw [show ig (List.replicate T.st.toNat (0 : Int)) s = 0 by simp [ig, hs']]
        have := h.s1
        exact ⟨by omega, fun _ => by omega, fun h => absurd h (by omega)⟩
    | i + 1, hi =>
      have hi' : i < T.m := by have : i + 1 < T.m + 1 := hi; omega
      obtain ⟨b1, b2, b3, b4⟩ := h.nd i hi'
      refine ⟨b1, b2, ?_, ?_⟩
      · show ((mx (T.lv i) (T.nx i)).length : Int) = T.st
        rw [mx_len]; exact b3
      · intro s hs
        have hs' : s < (T.nx i).length := by
          have : s < (mx (T.lv i) (T.nx i)).length := hs
          rwa [mx_len] at this
        show El T.st (lu T.lv) (i + 1) (T.lv i) (ig (mx (T.lv i) (T.nx i)) s)
        rw [ig_mx _ _ hs']
        obtain ⟨p1, p2, p3⟩ := b4 s hs'
        split
        · next hl =>
          obtain ⟨p4, p5⟩ := p3 hl
          refine ⟨by omega, fun h => absurd h (by omega), fun _ => ⟨by omega, ?_⟩⟩
          rw [show (ig (T.nx i) s + 1).toNat = (ig (T.nx i) s).toNat + 1 by omega]
          exact p5
        · next hl => exact ⟨p1, p2, fun h => absurd h hl⟩
  · show lu T.lv (T.m + 1 - 1) = (T.n : Int)
    have := h.m1
    obtain ⟨k, hk⟩ : ∃ k, T.m = k + 1 := ⟨T.m - 1, by omega⟩
    rw [Nat.add_sub_cancel, hk]
    have := h.top
    rw [hk, Nat.add_sub_cancel] at this
    exact this

theorem fo_up {T : Tr} (h : Rt T) : ∀ (r : List Int) (k : Nat), k < T.m → T.lv k = (r.length : Int) → (∀ s ∈ r, 0 ≤ s ∧ s < T.st) → fo (xu T.st.toNat T.lv T.nx) (((k + 1 : Nat)) : Int) r = fo T.nx (k : Int) r
  | [], k, hk, hl, _ => by
    have := (h.nd k hk).1
    simp at hl
    omega
  | s :: r, k, hk, hl, hs => by
    obtain ⟨b1, b2, b3, b4⟩ := h.nd k hk
    have hs0 := hs s (List.mem_cons_self)
    have hsl : s.toNat < (T.nx k).length := by omega
    obtain ⟨p1, p2, p3⟩ := b4 s.toNat hsl
    rw [fo, fo, Int.toNat_natCast, Int.toNat_natCast]
    show fo _ (ig (mx (T.lv k) (T.nx k)) s.toNat) r = _
    rw [ig_mx _ _ hsl]
    split
    · next hl1 =>
      obtain ⟨p4, p5⟩ := p3 hl1
      obtain ⟨k', hk'⟩ : ∃ k' : Nat, ig (T.nx k) s.toNat = (k' : Int) := ⟨(ig (T.nx k) s.toNat).toNat, by omega⟩
      rw [hk'] at p4 p5 ⊢
      rw [Int.toNat_natCast] at p5
      have hlr : T.lv k' = (r.length : Int) := by rw [p5, hl]; simp
      have := fo_up h r k' (by omega) hlr (fun t ht => hs t (List.mem_cons_of_mem _ ht))
      rw [← this]
      rfl
    · next hl1 =>
      have hr : r = [] := by
        have : r.length = 0 := by simp at hl; omega
        exact List.eq_nil_of_length_eq_zero this
      subst hr
      rfl
/-- both trees answer the same -/
theorem ev_up {T : Tr} (h : Rt T) (l : List Int) : ev (up T).st (up T).n l (fo (up T).nx (((up T).m - 1 : Nat) : Int) l) = ev T.st T.n l (fo T.nx ((T.m - 1 : Nat) : Int) l) := by
  show ev T.st T.n l (fo (xu T.st.toNat T.lv T.nx) ((T.m + 1 - 1 : Nat) : Int) l) = _
  unfold ev
  split
  · next hn =>
    split
    · next ha =>
      have hm := h.m1
      obtain ⟨k, hk⟩ : ∃ k, T.m = k + 1 := ⟨T.m - 1, by omega⟩
      have ht := h.top
      rw [hk, Nat.add_sub_cancel] at ht
      rw [hk, Nat.add_sub_cancel, Nat.add_sub_cancel, fo_up h l k (by omega) (by rw [ht, hn])]
      intro s hs
      obtain ⟨j, hj, rfl⟩ := mem_ig hs
      exact (als_iff _ _).1 ha j hj
    · rfl
  · rfl
end Go.Proofs.Ytkdcciajihoimaa
