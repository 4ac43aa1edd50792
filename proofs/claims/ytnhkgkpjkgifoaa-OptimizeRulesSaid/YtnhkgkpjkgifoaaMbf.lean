/- The circuit of a rule at the bits of states: its outputs are the bits of the new state. -/
/- What the words of Eval mean: the lowest bits of the words are the values of the wires. -/
import Derived.Test.YtnhkgkpjkgifoaaMbe
import Derived.Test.YtnhkgkpjkgifoaaMad
import Derived.Test.YtnhkgkpjkgifoaaMar
import Derived.Test.YtnhkgkpjkgifoaaMam
import Derived.Test.YtnhkgkpjkgifoaaMas
namespace Go.Proofs.Ytnhkgkpjkgifoaa
open Go.RowKit

theorem bitsl_at (b : Nat) (hb : 0 < b) : ∀ (ns : List Nat) (p k : Nat), p < ns.length → k < b → bg (bitsl b ns) (p * b + k) = bt (ns.getD p 0) k
  | [], _, _, h, _ => absurd h (Nat.not_lt_zero _)
  | x :: r, 0, k, _, hk => by
    have e : bitsl b (x :: r) = (List.range b).map (bt x) ++ bitsl b r := by simp [bitsl]
    rw [e, bg, List.getD_eq_getElem?_getD, List.getElem?_append_left (by simp; omega)]
    simp [hk]
  | x :: r, p + 1, k, h, hk => by
    have e : bitsl b (x :: r) = (List.range b).map (bt x) ++ bitsl b r := by simp [bitsl]
    have ih := bitsl_at b hb r p k (by simpa using h) hk
    have e2 : (p + 1) * b + k = b + (p * b + k) := by rw [Nat.succ_mul]; omega
    rw [e, bg, List.getD_eq_getElem?_getD, e2, List.getElem?_append_right (by simp)]
    simp only [List.length_map, List.length_range, Nat.add_sub_cancel_left]
    rw [← List.getD_eq_getElem?_getD]
    exact ih
theorem bits_fin : ∀ st : Fin 9, ∀ x s : Fin 8, (2 ≤ st.1 ∧ x.1 < st.1 ∧ s.1 < st.1) → ((List.range (bs st.1)).all fun k => bt x.1 k == bt s.1 k) = decide (x.1 = s.1) := by decide +kernel
theorem bits_dec (st : Nat) (h9 : st < 9) (h2 : 2 ≤ st) (x : Nat) (hx : x < 8) (s : Nat) (hs : s < 8) (h1 : x < st) (h3 : s < st) : ((List.range (bs st)).all fun k => bt x k == bt s k) = decide (x = s) := bits_fin ⟨st, h9⟩ ⟨x, hx⟩ ⟨s, hs⟩ ⟨h2, h1, h3⟩
theorem nmv_fin : ∀ st : Fin 9, ∀ x : Fin 8, (2 ≤ st.1 ∧ x.1 < st.1) → nmv ((List.range (bs st.1)).map fun k => bt x.1 k) = x.1 := by decide +kernel
theorem nmv_dec (st : Nat) (h9 : st < 9) (h2 : 2 ≤ st) (x : Nat) (hx : x < 8) (h1 : x < st) : nmv ((List.range (bs st)).map fun k => bt x k) = x := nmv_fin ⟨st, h9⟩ ⟨x, hx⟩ ⟨h2, h1⟩
theorem te_eq {st : Nat} (h1 : 2 ≤ st) (h2 : st ≤ 8) {ns : List Nat} (hs : ∀ j, j < ns.length → ns.getD j 0 < st) {p s : Nat} (hp : p < ns.length) (hst : s < st) : te (bitsl (bs st) ns) (bs st) p s = decide (ns.getD p 0 = s) := by
  have hb1 : 1 ≤ bs st := by unfold bs; split <;> (try split) <;> omega
  have hx := hs p hp
  rw [← bits_dec st (by omega) h1 (ns.getD p 0) (by omega) s (by omega) hx hst]
  unfold te
  rw [Bool.eq_iff_iff, List.all_eq_true, List.all_eq_true]
  constructor
  · intro h k hk
    rw [← bitsl_at (bs st) hb1 ns p k hp (by simpa using hk)]
    exact h k hk
  · intro h k hk
    rw [bitsl_at (bs st) hb1 ns p k hp (by simpa using hk)]
    exact h k hk
theorem any_one {n s : Nat} (hs : s < n) (f : Nat → Bool) : ((List.range n).any fun j => decide (s = j) && f j) = f s := by
  rw [Bool.eq_iff_iff, List.any_eq_true]
  constructor
  · rintro ⟨j, _, hj⟩
    simp at hj
    obtain ⟨rfl, h⟩ := hj
    exact h
  · intro h
    exact ⟨s, by simpa using hs, by simp [h]⟩
theorem nv_fo {T : Tr} (ht : Rt T) {st : Nat} (hst : T.st = (st : Int)) {ns : List Nat} (hn : ns.length = T.n) (hs : ∀ j, j < ns.length → ns.getD j 0 < st) (k : Nat) : ∀ (f p : Nat), p < T.m → lvN T p = f → 1 ≤ f → f ≤ T.n →
    nv (bitsl (bs st) ns) (bs st) T.n (nxN T) f p k = bt (fo T.nx (p : Int) ((nl ns).drop (T.n - f))).toNat k ∧ 0 ≤ fo T.nx (p : Int) ((nl ns).drop (T.n - f)) ∧ fo T.nx (p : Int) ((nl ns).drop (T.n - f)) < (st : Int)
  | 0, p, _, _, h, _ => absurd h (by omega)
  | f + 1, p, hp, hl, _, hfn => by
    have s1 := ht.s1
    have s2 := ht.s2
    obtain ⟨v1, v2, v3, v4⟩ := tr_lv ht hst p hp
    obtain ⟨q1, q2, q3, q4⟩ := ht.nd p hp
    obtain ⟨x, hx⟩ : ∃ x, ns.getD (T.n - (f + 1)) 0 = x := ⟨_, rfl⟩
    have hxs : x < st := by rw [← hx]; exact hs _ (by omega)
    have hnl : (nl ns).length = T.n := by simp [nl, hn]
    have hfo : fo T.nx (p : Int) ((nl ns).drop (T.n - (f + 1))) = fo T.nx (ig (T.nx p) x) ((nl ns).drop (T.n - f)) := by
      rw [fo_step T.nx (p : Int) (l := nl ns) (j := T.n - (f + 1)) (by omega), nl_ig, hx, Int.toNat_natCast, Int.toNat_natCast, show T.n - (f + 1) + 1 = T.n - f by omega]
    obtain ⟨e1, e2, e3⟩ := q4 x (by omega)
    have hlv : (lvN T p : Int) = T.lv p := by unfold lvN; omega
    rw [hfo, nv, v1]
    have hte : ∀ j, j < st → te (bitsl (bs st) ns) (bs st) (T.n - (f + 1)) j = decide (x = j) := fun j hj => by
      rw [te_eq (by omega) (by omega) hs (by omega) hj, hx]
    have hany : ∀ F : Nat → Bool, ((List.range st).any fun j => te (bitsl (bs st) ns) (bs st) (T.n - (f + 1)) j && F j) = F x := fun F => by
      rw [← any_one hxs F, Bool.eq_iff_iff, List.any_eq_true, List.any_eq_true]
      constructor
      · rintro ⟨j, hj, h⟩
        exact ⟨j, hj, by rw [hte j (by simpa using hj)] at h; exact h⟩
      · rintro ⟨j, hj, h⟩
        exact ⟨j, hj, by rw [hte j (by simpa using hj)]; exact h⟩
    rw [hany]
    by_cases h0 : f = 0
    · subst h0
      have hdrop : (nl ns).drop (T.n - 0) = [] := by rw [Nat.sub_zero, ← hnl]; exact List.drop_length
      rw [if_pos rfl, hdrop, fo, nxN_at]
      have := e2 (by omega)
      exact ⟨rfl, e1, by omega⟩
    · rw [if_neg h0]
      obtain ⟨y1, y2⟩ := v4 (by omega) x hxs
      have ih := nv_fo ht hst hn hs k f ((nxN T p).getD x 0) (by omega) (by omega) (by omega) (by omega)
      have ec : (((nxN T p).getD x 0 : Nat) : Int) = ig (T.nx p) x := by rw [nxN_at]; omega
      rw [ec] at ih
      exact ih
/-- the outputs at the bits of states, read as a number -/
theorem crO_val {T : Tr} (ht : Rt T) {st : Nat} (hst : T.st = (st : Int)) (hn : T.n ≤ 40) (hm : T.m ≤ 60) {ns : List Nat} (hl : ns.length = T.n) (hs : ∀ j, j < ns.length → ns.getD j 0 < st) :
    rt (crO T st) = true ∧ (nmv (bo17 (bvn (crO T st).g (bitsl (bs st) ns) (crO T st).n) (crO T st).o) : Int) = fo T.nx ((T.m - 1 : Nat) : Int) (nl ns) := by
  obtain ⟨h1, h2⟩ := crO_sem ht hst hn hm (bitsl (bs st) ns) (by rw [bitsl_len, hl])
  have s1 := ht.s1
  have s2 := ht.s2
  have m1 := ht.m1
  have htop : lvN T (T.m - 1) = T.n := by unfold lvN; rw [ht.top]; omega
  have n1 : 1 ≤ T.n := by
    obtain ⟨q1, q2, _, _⟩ := ht.nd 0 (by omega)
    omega
  have hv := fun k => nv_fo ht hst hl hs k T.n (T.m - 1) (by omega) htop n1 (Nat.le_refl _)
  rw [Nat.sub_self] at hv
  simp only [List.drop_zero] at hv
  refine ⟨h1, ?_⟩
  obtain ⟨V, hV⟩ : ∃ V, fo T.nx ((T.m - 1 : Nat) : Int) (nl ns) = V := ⟨_, rfl⟩
  rw [hV] at hv ⊢
  obtain ⟨_, v0, v1⟩ := hv 0
  have : (List.range (bs st)).map (fun k => nv (bitsl (bs st) ns) (bs st) T.n (nxN T) T.n (T.m - 1) k) = (List.range (bs st)).map fun k => bt V.toNat k := by
    apply List.map_congr_left
    intro k _
    exact (hv k).1
  rw [h2, this, nmv_dec st (by omega) (by omega) V.toNat (by omega) (by omega)]
  omega
end Go.Proofs.Ytnhkgkpjkgifoaa
namespace Go.Proofs.Ytnhkgkpjkgifoaa
open Go.RowKit

/-- the lowest bit -/
def lob (x : Int) : Bool := (BitVec.ofInt 64 x).getLsbD 0
theorem ofInt_nat64 (b : BitVec 64) : BitVec.ofInt 64 (IntKind.u64.wrap (b.toNat : Int)) = b := by
  have h : IntKind.u64.wrap (b.toNat : Int) = (b.toNat : Int) := by
    have := b.isLt
    rw [IntKind.wrap_u64]
    omega
  rw [h]
  apply BitVec.eq_of_toNat_eq
  simp
theorem bits_and_bv (x y : Int) : BitVec.ofInt 64 (bits .and .u64 x y) = BitVec.ofInt 64 x &&& BitVec.ofInt 64 y := ofInt_nat64 _
theorem bits_or_bv (x y : Int) : BitVec.ofInt 64 (bits .or .u64 x y) = BitVec.ofInt 64 x ||| BitVec.ofInt 64 y := ofInt_nat64 _
theorem bits_xor_bv (x y : Int) : BitVec.ofInt 64 (bits .xor .u64 x y) = BitVec.ofInt 64 x ^^^ BitVec.ofInt 64 y := ofInt_nat64 _
theorem lob_and (x y : Int) : lob (bits .and .u64 x y) = (lob x && lob y) := by unfold lob; rw [bits_and_bv]; simp
theorem lob_or (x y : Int) : lob (bits .or .u64 x y) = (lob x || lob y) := by unfold lob; rw [bits_or_bv]; simp
theorem lob_xor (x y : Int) : lob (bits .xor .u64 x y) = (lob x != lob y) := by unfold lob; rw [bits_xor_bv]; simp
theorem lob_0 : lob 0 = false := by decide
theorem lob_1 : lob 1 = true := by decide
theorem lob_max : lob 18446744073709551615 = true := by decide +kernel
theorem lob_max' : lob IntKind.u64.max = true := by decide +kernel
theorem lob_rs (op x y : Int) : lob (rs op x y) = gop op (lob x) (lob y) := by
  unfold rs gop
  split
  · exact lob_max
  · split
    · rw [lob_xor, lob_max']; cases lob x <;> rfl
    · split
      · exact lob_and _ _
      · split
        · exact lob_or _ _
        · split
          · exact lob_xor _ _
          · exact lob_0
theorem and1_eq (x : Int) : (bits .and .u64 x 1 == 1) = lob x := by
  have h : bits .and .u64 x 1 = ((BitVec.ofInt 64 x &&& BitVec.ofInt 64 1).toNat : Int) := by
    have : ∀ b : BitVec 64, IntKind.u64.wrap (b.toNat : Int) = (b.toNat : Int) := fun b => by have := b.isLt; rw [IntKind.wrap_u64]; omega
    exact this _
  rw [h]
  unfold lob
  have e : (BitVec.ofInt 64 x &&& BitVec.ofInt 64 1) = if (BitVec.ofInt 64 x).getLsbD 0 then 1#64 else 0#64 := by
    apply BitVec.eq_of_getLsbD_eq
    intro i hi
    have e1 : BitVec.ofInt 64 1 = 1#64 := by decide
    rw [e1, BitVec.getLsbD_and, BitVec.getLsbD_one]
    by_cases h0 : i = 0
    · subst h0
      cases (BitVec.ofInt 64 x).getLsbD 0 <;> simp
    · cases (BitVec.ofInt 64 x).getLsbD 0 <;> simp [h0]
  rw [e]
  cases (BitVec.ofInt 64 x).getLsbD 0 <;> decide
theorem lob_wv {g : Nat → C3} {l : List Bool} {v : List Int} (hl : v.map lob = l) : ∀ j, (wv g v j).map lob = bvn g l j
  | 0 => hl
  | j + 1 => by
    have ih := lob_wv (g := g) hl j
    have at_ : ∀ k, lob (ig (wv g v j) k) = bg (bvn g l j) k := fun k => by
      rw [← ih]
      simp only [ig, bg, List.getD_eq_getElem?_getD, List.getElem?_map]
      cases (wv g v j)[k]? with
      | none => exact lob_0
      | some x => rfl
    rw [wv, bvn, List.map_append, ih]
    simp only [List.map_cons, List.map_nil]
    rw [lob_rs, at_, at_]
theorem evb_eq (C : Cr) (l : List Bool) : evb C l = bo17 (bvn C.g l C.n) C.o := by
  have hl : (bw l).map lob = l := by
    unfold bw
    rw [List.map_map]
    conv => rhs; rw [← List.map_id l]
    apply List.map_congr_left
    intro b _
    cases b
    · exact lob_0
    · exact lob_1
  have h := lob_wv (g := C.g) hl C.n
  unfold evb bo ow bo17
  rw [List.map_map]
  apply List.map_congr_left
  intro k _
  simp only [Function.comp]
  rw [and1_eq, ← h]
  simp only [ig, bg, List.getD_eq_getElem?_getD, List.getElem?_map]
  cases (wv C.g (bw l) C.n)[k.toNat]? with
  | none => exact lob_0
  | some x => rfl
end Go.Proofs.Ytnhkgkpjkgifoaa
