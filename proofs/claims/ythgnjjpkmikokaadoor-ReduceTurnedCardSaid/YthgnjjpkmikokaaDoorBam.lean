/- Plain mathematics: what the nodes of a forest mean. -/
/- Plain mathematics: what examine reckons is right. -/
/- Plain mathematics: walks over different forests that mean the same give the same nodes. -/
import Derived.Test.YthgnjjpkmikokaaDoorBak
import Derived.Test.YthgnjjpkmikokaaDoorBai
namespace Go.Proofs.YthgnjjpkmikokaaDoor
open Go.RowKit

/-- the number n is a tree that reads the levels ls -/
def Wf (sn : Nat) (L : List Ndv) : List Int → Int → Prop
  | [], n => 0 ≤ n ∧ n < (sn : Int)
  | l :: ls, n => ∃ nd, nodeF (sn : Int) L n = some nd ∧ nd.lv = l ∧ nd.r.length = 8 ∧ (∀ s, s < sn → Wf sn L ls (ig nd.r s)) ∧ ∀ s, sn ≤ s → ig nd.r s = 0
/-- what it leads to -/
def fv (sn : Nat) (L : List Ndv) : List Int → Int → (Int → Nat) → Int
  | [], n, _ => n
  | l :: ls, n, e => match nodeF (sn : Int) L n with
    | some nd => fv sn L ls (ig nd.r (e l)) e
    | none => 0
def upd (e : Int → Nat) (p : Int) (j : Nat) (x : Int) : Nat := if x = p then j else e x
section
variable {sn : Nat} {L L' : List Ndv}
theorem nodeF_grow (h : L <+: L') {n : Int} {nd : Ndv} (hn : nodeF (sn : Int) L n = some nd) : nodeF (sn : Int) L' n = some nd := by
  unfold nodeF at *
  split at hn
  · next hs =>
    rw [if_pos hs]
    obtain ⟨M, rfl⟩ := h
    rw [List.getElem?_append_left]
    · exact hn
    · rcases Nat.lt_or_ge (n - (sn : Int)).toNat L.length with q | q
      · exact q
      · rw [List.getElem?_eq_none q] at hn; cases hn
  · cases hn
theorem Wf.grow (h : L <+: L') : ∀ {ls : List Int} {n : Int}, Wf sn L ls n → Wf sn L' ls n
  | [], _, hn => hn
  | _ :: _, _, ⟨nd, h1, h2, h3, h4, h5⟩ => ⟨nd, nodeF_grow h h1, h2, h3, fun s hs => (h4 s hs).grow h, h5⟩
theorem fv_grow (h : L <+: L') : ∀ {ls : List Int} {n : Int} {e : Int → Nat}, (∀ x, e x < sn) → Wf sn L ls n → fv sn L' ls n e = fv sn L ls n e
  | [], _, _, _, _ => rfl
  | l :: ls, n, e, he, ⟨nd, h1, h2, h3, h4, h5⟩ => by
    simp only [fv, h1, nodeF_grow h h1]
    exact fv_grow h he (h4 _ (he l))
theorem fv_congr : ∀ {ls : List Int} {n : Int} {e e' : Int → Nat}, (∀ x ∈ ls, e x = e' x) → fv sn L ls n e = fv sn L ls n e'
  | [], _, _, _, _ => rfl
  | l :: ls, n, e, e', h => by
    simp only [fv]
    cases nodeF (sn : Int) L n with
    | none => rfl
    | some nd =>
      simp only
      rw [h l (by simp)]
      exact fv_congr fun x hx => h x (by simp [hx])
theorem ig_ext {r r' : List Int} (h1 : r.length = 8) (h2 : r'.length = 8) (h : ∀ s, s < 8 → ig r s = ig r' s) : r = r' := by
  apply List.ext_getElem (by omega)
  intro i hi hi'
  have := h i (by omega)
  simpa [ig, hi, hi'] using this
theorem nodeF_inj (hL : L.Nodup) {a b : Int} {nd : Ndv} (ha : nodeF (sn : Int) L a = some nd) (hb : nodeF (sn : Int) L b = some nd) : a = b := by
  unfold nodeF at ha hb
  split at ha
  · split at hb
    · have h1 : (a - (sn : Int)).toNat < L.length := by
        rcases Nat.lt_or_ge (a - (sn : Int)).toNat L.length with q | q
        · exact q
        · rw [List.getElem?_eq_none q] at ha; cases ha
      have := (List.getElem?_inj h1 hL).1 (ha.trans hb.symm)
      omega
    · cases hb
  · cases ha
/-- no two numbers mean the same -/
theorem Wf.inj (hs : 0 < sn) (hL : L.Nodup) : ∀ {ls : List Int} {a b : Int}, ls.Nodup → Wf sn L ls a → Wf sn L ls b → (∀ e : Int → Nat, (∀ x, e x < sn) → fv sn L ls a e = fv sn L ls b e) → a = b
  | [], a, b, _, _, _, h => h (fun _ => 0) (fun _ => hs)
  | l :: ls, a, b, hd, ⟨na, a1, a2, a3, a4, a5⟩, ⟨nb, b1, b2, b3, b4, b5⟩, h => by
    obtain ⟨hl, hd'⟩ := List.nodup_cons.1 hd
    have hr : na.r = nb.r := ig_ext a3 b3 fun s _ => by
      rcases Nat.lt_or_ge s sn with q | q
      · refine Wf.inj hs hL hd' (a4 s q) (b4 s q) fun e he => ?_
        have := h (upd e l s) (fun x => by unfold upd; split; exact q; exact he x)
        simp only [fv, a1, b1] at this
        have hu : upd e l s l = s := by simp [upd]
        rw [hu] at this
        have hc : ∀ n, fv sn L ls n (upd e l s) = fv sn L ls n e := fun n => fv_congr fun x hx => by
          unfold upd
          have : x ≠ l := fun q => hl (by rw [← q]; exact hx)
          rw [if_neg this]
        rw [hc, hc] at this
        exact this
      · rw [a5 s q, b5 s q]
    have : na = nb := by
      cases na; cases nb
      simp only at hr a2 b2
      simp [hr, a2, b2]
    subst this
    exact nodeF_inj hL a1 b1
/-- what a number reads is given -/
theorem Wf.levels (hs : 0 < sn) : ∀ {ls ls' : List Int} {n : Int}, Wf sn L ls n → Wf sn L ls' n → ls = ls'
  | [], [], _, _, _ => rfl
  | [], _ :: _, n, h, ⟨nd, h1, _⟩ => by
    unfold nodeF at h1
    split at h1
    · next q => have : 0 ≤ n ∧ n < (sn : Int) := h; omega
    · cases h1
  | _ :: _, [], n, ⟨nd, h1, _⟩, h => by
    unfold nodeF at h1
    split at h1
    · next q => have : 0 ≤ n ∧ n < (sn : Int) := h; omega
    · cases h1
  | l :: ls, l' :: ls', n, ⟨na, a1, a2, a3, a4, a5⟩, ⟨nb, b1, b2, b3, b4, b5⟩ => by
    rw [a1] at b1
    injection b1 with b1
    subst b1
    rw [← a2, ← b2, Wf.levels hs (a4 0 hs) (b4 0 hs)]

/-- the row R is what n leads to, for each state of the level p -/
def Good (sn : Nat) (L : List Ndv) (ls : List Int) (n p : Int) (R : List Int) : Prop :=
  R.length = 8 ∧ (∀ j, j < sn → Wf sn L (ls.erase p) (ig R j) ∧ ∀ e : Int → Nat, (∀ x, e x < sn) → fv sn L (ls.erase p) (ig R j) e = fv sn L ls n (upd e p j)) ∧ ∀ j, sn ≤ j → ig R j = 0
theorem upd_lt {e : Int → Nat} (he : ∀ x, e x < sn) {p : Int} {j : Nat} (hj : j < sn) : ∀ x, upd e p j x < sn := fun x => by unfold upd; split; exact hj; exact he x
theorem Good.grow (h : L <+: L') {ls : List Int} {n p : Int} {R : List Int} (hn : Wf sn L ls n) (g : Good sn L ls n p R) : Good sn L' ls n p R :=
  ⟨g.1, fun j hj => ⟨(g.2.1 j hj).1.grow h, fun e he => by rw [fv_grow h he (g.2.1 j hj).1, fv_grow h (upd_lt he hj) hn]; exact (g.2.1 j hj).2 e he⟩, g.2.2⟩
/-- what is known is right -/
def Kn (sn : Nat) (ρ : Int → Nat) (L : List Ndv) (K : Mem) : Prop :=
  ∀ n R, K.lookup n = some R → ∃ ls p, Wf sn L ls n ∧ p ∈ ls ∧ (∀ q ∈ ls, ρ q ≤ ρ p) ∧ Good sn L ls n p R
theorem Kn.grow {ρ : Int → Nat} {K : Mem} (h : L <+: L') (k : Kn sn ρ L K) : Kn sn ρ L' K := fun n R hl => by
  obtain ⟨ls, p, h1, h2, h3, h4⟩ := k n R hl
  exact ⟨ls, p, h1.grow h, h2, h3, h4.grow h h1⟩
/-- how many nodes an examination adds at most -/
def An : Nat → Nat
  | 0 => 0
  | d + 1 => 8 + 8 * An d
theorem An_mono {d d' : Nat} (h : d ≤ d') : An d ≤ An d' := by
  induction d' generalizing d with
  | zero =>
    obtain rfl : d = 0 := by omega
    exact Nat.le_refl _
  | succ k ih =>
    rcases Nat.lt_or_ge d (k + 1) with q | q
    · have := ih (d := d) (by omega); simp only [An]; omega
    · obtain rfl : d = k + 1 := by omega
      exact Nat.le_refl _
theorem addF_ok {n : Ndv} (hL : L.Nodup) (hl : sn + L.length < 2147483647) : ∃ r L', addF (sn : Int) L n = some (r, L') ∧ L <+: L' ∧ L'.Nodup ∧ L'.length ≤ L.length + 1 ∧ nodeF (sn : Int) L' r = some n := by
  unfold addF
  cases hx : L.idxOf? n with
  | some i =>
    obtain ⟨h1, h2⟩ := idxOf_lt hx
    refine ⟨_, _, rfl, List.prefix_refl _, hL, by omega, ?_⟩
    unfold nodeF
    rw [if_pos (by omega), show ((sn : Int) + (i : Int) - (sn : Int)).toNat = i by omega]
    exact h2
  | none =>
    simp only
    rw [if_pos (by omega)]
    have hn := idxOf_none hx
    refine ⟨_, _, rfl, List.prefix_append _ _, ?_, by simp, ?_⟩
    · rw [List.nodup_append]
      refine ⟨hL, by simp, fun a ha b hb => ?_⟩
      simp at hb
      subst hb
      exact fun e => hn (e ▸ ha)
    · unfold nodeF
      rw [if_pos (by omega), show ((sn : Int) + (L.length : Int) - (sn : Int)).toNat = L.length by omega]
      simp
/-- the columns are added -/
theorem cols_ok {lv : Int} {rows : List (List Int)} : ∀ (k : Nat) (L : List Ndv), L.Nodup → sn + L.length + k < 2147483648 → ∃ res L', rowF (fun (j : Nat) L => addF (sn : Int) L (colN lv rows j)) (List.range k) L = some (res, L') ∧ L <+: L' ∧ L'.Nodup ∧ L'.length ≤ L.length + k ∧ res.length = k ∧ ∀ j, j < k → nodeF (sn : Int) L' (ig res j) = some (colN lv rows j)
  | 0, L, hL, _ => ⟨[], L, rfl, List.prefix_refl _, hL, by omega, rfl, fun j hj => absurd hj (by omega)⟩
  | k + 1, L, hL, hb => by
    obtain ⟨res, L1, h1, h2, h3, h4, h5, h6⟩ := cols_ok k L hL (by omega)
    obtain ⟨r, L2, a1, a2, a3, a4, a5⟩ := addF_ok (sn := sn) (n := colN lv rows k) h3 (by omega)
    refine ⟨res ++ [r], L2, ?_, h2.trans a2, a3, by omega, by simp [h5], fun j hj => ?_⟩
    · rw [List.range_succ, rowF_push, h1]
      simp [a1]
    · rcases Nat.lt_or_ge j k with q | q
      · have : ig (res ++ [r]) j = ig res j := by simp [ig, List.getD, List.getElem?_append_left (show j < res.length by omega)]
        rw [this]
        exact nodeF_grow a2 (h6 j q)
      · obtain rfl : j = k := by omega
        have : ig (res ++ [r]) j = r := by simp [ig, List.getD, h5]
        rw [this]
        exact a5
end
end Go.Proofs.YthgnjjpkmikokaaDoor
namespace Go.Proofs.YthgnjjpkmikokaaDoor
open Go.RowKit

theorem exam_ok {sn : Nat} {ρ : Int → Nat} {p : Int} (hs : 0 < sn) (hs8 : sn ≤ 8) : ∀ (f : Nat) (ls : List Int) (n : Int) (L : List Ndv) (K : Mem), ls.length ≤ f → ls.Nodup → Wf sn L ls n → p ∈ ls → (∀ q ∈ ls, ρ q ≤ ρ p) → (∀ x ∈ ls, ∀ y ∈ ls, ρ x = ρ y → x = y) → L.Nodup → Kn sn ρ L K → sn + L.length + An (ls.idxOf p) < 2147483648 →
    ∃ R L' K', examF sn p f n (L, K) = some (R, (L', K')) ∧ L <+: L' ∧ L'.Nodup ∧ Kn sn ρ L' K' ∧ Good sn L' ls n p R ∧ L'.length ≤ L.length + An (ls.idxOf p)
  | 0, ls, n, L, K, hf, _, _, hp, _, _, _, _, _ => by
    have : ls = [] := List.eq_nil_of_length_eq_zero (by omega)
    subst this
    cases hp
  | f + 1, [], n, L, K, _, _, _, hp, _, _, _, _, _ => by cases hp
  | f + 1, l :: ls, n, L, K, hf, hd, hw, hp, hm, hi, hL, hK, hb => by
    obtain ⟨nd, w1, w2, w3, w4, w5⟩ := id hw
    obtain ⟨hl, hd'⟩ := List.nodup_cons.1 hd
    simp only [examF, w1, Option.bind_some]
    by_cases e : nd.lv = p
    · rw [if_pos e]
      have hlp : l = p := by rw [← w2, e]
      subst hlp
      refine ⟨nd.r, L, K, rfl, List.prefix_refl _, hL, hK, ⟨w3, fun j hj => ?_, w5⟩, by omega⟩
      rw [List.erase_cons_head]
      refine ⟨w4 j hj, fun e' he => ?_⟩
      simp only [fv, w1]
      have hu : upd e' l j l = j := by simp [upd]
      rw [hu]
      refine fv_congr fun x hx => ?_
      have : x ≠ l := fun q => hl (by rw [← q]; exact hx)
      simp [upd, this]
    · rw [if_neg e]
      have hlp : l ≠ p := fun q => e (by rw [w2, q])
      have hp' : p ∈ ls := by
        rcases List.mem_cons.1 hp with q | q
        · exact absurd q.symm hlp
        · exact q
      have hidx : (l :: ls).idxOf p = ls.idxOf p + 1 := by
        rw [List.idxOf_cons]
        have : (l == p) = false := by simp [hlp]
        rw [this]
        rfl
      rw [hidx] at hb ⊢
      cases hk : K.lookup n with
      | some R =>
        obtain ⟨ls2, p2, a1, a2, a3, a4⟩ := hK n R hk
        have := Wf.levels hs hw a1
        subst this
        have hpp : p2 = p := hi _ a2 _ hp (Nat.le_antisymm (hm _ a2) (a3 _ hp))
        subst hpp
        exact ⟨R, L, K, rfl, List.prefix_refl _, hL, hK, a4, by omega⟩
      | none =>
        simp only
        generalize hd0 : ls.idxOf p = d at hb ⊢
        have hAn : An (d + 1) = 8 + 8 * An d := rfl
        have hlen : (nd.r.take sn).take sn = nd.r.take sn := by rw [List.take_take, Nat.min_self]
        have key : ∀ k, k ≤ sn → ∃ rows L1 K1, rowF (examF sn p f) ((nd.r.take sn).take k) (L, K) = some (rows, (L1, K1)) ∧ L <+: L1 ∧ L1.Nodup ∧ Kn sn ρ L1 K1 ∧ rows.length = k ∧ L1.length ≤ L.length + k * An d ∧ ∀ j, j < k → Good sn L1 ls (ig nd.r j) p (rows.getD j []) := by
          intro k
          induction k with
          | zero => intro _; exact ⟨[], L, K, by simp [rowF], List.prefix_refl _, hL, hK, rfl, by omega, fun j hj => absurd hj (by omega)⟩
          | succ k ih =>
            intro hk
            obtain ⟨rows, L1, K1, r1, r2, r3, r4, r5, r6, r7⟩ := ih (by omega)
            have hk8 : k * An d ≤ 7 * An d := Nat.mul_le_mul_right _ (by omega)
            obtain ⟨R, L2, K2, q1, q2, q3, q4, q5, q6⟩ := exam_ok hs hs8 f ls (ig nd.r k) L1 K1 (by have : ls.length + 1 ≤ f + 1 := hf; omega) hd' ((w4 k (by omega)).grow r2) hp' (fun q hq => hm q (by simp [hq])) (fun x hx y hy => hi x (by simp [hx]) y (by simp [hy])) r3 r4 (by rw [hd0]; omega)
            rw [hd0] at q6
            have e1 : (nd.r.take sn).take (k + 1) = (nd.r.take sn).take k ++ [ig nd.r k] := by
              have hk9 : k < (nd.r.take sn).length := by rw [List.length_take]; omega
              rw [List.take_succ_eq_append_getElem hk9]
              congr 1
              simp [ig, show k < nd.r.length by omega]
            refine ⟨rows ++ [R], L2, K2, ?_, r2.trans q2, q3, q4, by simp [r5], ?_, fun j hj => ?_⟩
            · rw [e1, rowF_push, r1]
              simp [q1]
            · rw [Nat.add_mul]; omega
            · rcases Nat.lt_or_ge j k with h | h
              · have : (rows ++ [R]).getD j [] = rows.getD j [] := by simp [List.getD, List.getElem?_append_left (show j < rows.length by omega)]
                rw [this]
                exact (r7 j h).grow q2 ((w4 j (by omega)).grow r2)
              · obtain rfl : j = k := by omega
                have : (rows ++ [R]).getD j [] = R := by simp [List.getD, r5]
                rw [this]
                exact q5
        obtain ⟨rows, L1, K1, r1, r2, r3, r4, r5, r6, r7⟩ := key sn (Nat.le_refl _)
        rw [hlen] at r1
        have hsd : sn * An d ≤ 8 * An d := Nat.mul_le_mul_right _ hs8
        obtain ⟨res, L2, c1, c2, c3, c4, c5, c6⟩ := cols_ok (sn := sn) (lv := nd.lv) (rows := rows) sn L1 r3 (by omega)
        rw [r1]
        simp only [Option.bind_some, c1]
        have hg : Good sn L2 (l :: ls) n p (res ++ List.replicate (8 - sn) 0) := by
          refine ⟨by simp; omega, fun j hj => ?_, fun j hj => ?_⟩
          · have hir : ig (res ++ List.replicate (8 - sn) 0) j = ig res j := by simp [ig, List.getD, List.getElem?_append_left (show j < res.length by omega)]
            have hera : (l :: ls).erase p = l :: ls.erase p := List.erase_cons_tail (by simpa using hlp)
            rw [hir, hera]
            have hcol : ∀ s, s < sn → ig (colN nd.lv rows j).r s = ig (rows.getD s []) j := fun s hs' => by
              have hsl : s < rows.length := by omega
              show ((rows.map fun r => ig r j) ++ List.replicate (8 - rows.length) 0).getD s 0 = _
              rw [List.getD, List.getElem?_append_left (by rw [List.length_map]; exact hsl)]
              simp [List.getD, hsl]
            have hW : Wf sn L2 (l :: ls.erase p) (ig res j) := by
              refine ⟨_, c6 j hj, w2, by simp [colN]; omega, fun s hs' => ?_, fun s hs' => ?_⟩
              · rw [hcol s hs']
                exact ((r7 s hs').2.1 j hj).1.grow c2
              · simp only [colN, ig, List.getD]
                rw [List.getElem?_append_right (by simp; omega), List.getElem?_replicate]
                split <;> rfl
            refine ⟨hW, fun e' he => ?_⟩
            simp only [fv, c6 j hj]
            rw [hcol _ (he l), fv_grow c2 he ((r7 _ (he l)).2.1 j hj).1, ((r7 _ (he l)).2.1 j hj).2 e' he]
            rw [nodeF_grow (r2.trans c2) w1]
            simp only
            have hu : upd e' p j l = e' l := by simp [upd, hlp]
            rw [hu]
            exact (fv_grow c2 (upd_lt he hj) ((w4 _ (he l)).grow r2)).symm
          · simp only [ig, List.getD]
            rw [List.getElem?_append_right (by omega), List.getElem?_replicate]
            split <;> rfl
        refine ⟨_, L2, _, rfl, r2.trans c2, c3, ?_, hg, by omega⟩
        intro m R hm'
        simp only [List.lookup] at hm'
        split at hm'
        · next q =>
          injection hm' with hm'
          subst hm'
          have : m = n := by simpa using q
          subst this
          exact ⟨l :: ls, p, hw.grow (r2.trans c2), hp, hm, hg⟩
        · exact r4.grow c2 m R hm'
end Go.Proofs.YthgnjjpkmikokaaDoor
namespace Go.Proofs.YthgnjjpkmikokaaDoor
open Go.RowKit

/-- two lists, element by element -/
def All2 {α β : Type} (R : α → β → Prop) (xs : List α) (ys : List β) : Prop := xs.length = ys.length ∧ ∀ (k : Nat) (x : α) (y : β), xs[k]? = some x → ys[k]? = some y → R x y
section
variable {α β : Type} {R R' : α → β → Prop}
theorem All2.nil : All2 R [] [] := ⟨rfl, fun k x y h => by simp at h⟩
theorem All2.cons {x : α} {y : β} {xs : List α} {ys : List β} (h : R x y) (t : All2 R xs ys) : All2 R (x :: xs) (y :: ys) :=
  ⟨by simp [t.1], fun k a b ha hb => by
    cases k with
    | zero => simp at ha hb; subst ha hb; exact h
    | succ k => exact t.2 k a b (by simpa using ha) (by simpa using hb)⟩
theorem All2.head {x : α} {y : β} {xs : List α} {ys : List β} (h : All2 R (x :: xs) (y :: ys)) : R x y := h.2 0 x y rfl rfl
theorem All2.tail {x : α} {y : β} {xs : List α} {ys : List β} (h : All2 R (x :: xs) (y :: ys)) : All2 R xs ys := ⟨by simpa using h.1, fun k a b ha hb => h.2 (k + 1) a b (by simpa using ha) (by simpa using hb)⟩
theorem All2.imp {xs : List α} {ys : List β} (h : All2 R xs ys) (i : ∀ x y, R x y → R' x y) : All2 R' xs ys := ⟨h.1, fun k x y hx hy => i _ _ (h.2 k x y hx hy)⟩
end

abbrev Env (sn : Nat) := Nat → Fin sn
/-- an element exchanged -/
def eup {sn : Nat} (e : Env sn) (l : Nat) (j : Fin sn) (x : Nat) : Fin sn := if x = l then j else e x
/-- a way to find elements, and what the numbers mean -/
structure Sys (sn lm cap : Nat) {σ : Type} (el : σ → Int → Nat → Option (List Int × σ)) where
  I : σ → Prop
  le : σ → σ → Prop
  D : σ → Nat → Int → (Env sn → Int) → Prop
  sz : σ → Nat
  cost : Nat → Nat
  refl : ∀ s, le s s
  trans : ∀ {a b c}, le a b → le b c → le a c
  mono : ∀ {s s' l n φ}, le s s' → D s l n φ → D s' l n φ
  inj : ∀ {s l n n' φ}, I s → D s l n φ → D s l n' φ → n = n'
  fn : ∀ {s l l' n φ φ'}, I s → D s l n φ → D s l' n φ' → l = l' ∧ φ = φ'
  zero : ∀ {s n φ}, D s 0 n φ → 0 ≤ n ∧ n < (sn : Int) ∧ ∀ e, φ e = n
  ok : ∀ {s l n φ}, I s → D s (l + 1) n φ → l + 1 ≤ lm → sz s + cost (l + 1) ≤ cap → ∃ r s', el s n (l + 1) = some (r, s') ∧ I s' ∧ le s s' ∧ sn ≤ r.length ∧ sz s' ≤ sz s + cost (l + 1) ∧ ∀ j : Fin sn, D s' l (ig r j) (fun e => φ (eup e (l + 1) j))
def Vn (cost : Nat → Nat) : Nat → Nat
  | 0 => 0
  | l + 1 => cost (l + 1) + 8 * Vn cost l

section
variable {sn lm cA cB : Nat} {σ τ : Type} {eA : σ → Int → Nat → Option (List Int × σ)} {eB : τ → Int → Nat → Option (List Int × τ)} (A : Sys sn lm cA eA) (B : Sys sn lm cB eB)
/-- the same places for the same meanings -/
def FinR (s : σ) (t : τ) : List (Int × Int) → List (Int × Int) → Prop := All2 fun p q => p.2 = q.2 ∧ ∃ l φ, A.D s l p.1 φ ∧ B.D t l q.1 φ
variable {A B}
theorem FinR.mono {s s' : σ} {t t' : τ} {f g : List (Int × Int)} (h : FinR A B s t f g) (h1 : A.le s s') (h2 : B.le t t') : FinR A B s' t' f g := h.imp fun _ _ ⟨e, l, φ, d1, d2⟩ => ⟨e, l, φ, A.mono h1 d1, B.mono h2 d2⟩
theorem FinR.look {s : σ} {t : τ} (hA : A.I s) (hB : B.I t) {a b : Int} {l : Nat} {φ : Env sn → Int} (da : A.D s l a φ) (db : B.D t l b φ) : ∀ {f g : List (Int × Int)}, FinR A B s t f g → f.lookup a = g.lookup b
  | [], [], _ => rfl
  | [], _ :: _, h => by have := h.1; simp at this
  | _ :: _, [], h => by have := h.1; simp at this
  | (a', i) :: f, (b', j) :: g, h => by
    obtain ⟨e, l', φ', d1, d2⟩ := h.head
    simp only at e d1 d2
    subst e
    have ih := FinR.look hA hB da db h.tail
    have iff : (a = a') ↔ (b = b') := by
      constructor
      · intro e
        subst e
        obtain ⟨rfl, rfl⟩ := A.fn hA da d1
        exact B.inj hB db d2
      · intro e
        subst e
        obtain ⟨rfl, rfl⟩ := B.fn hB db d2
        exact A.inj hA da d1
    simp only [List.lookup]
    by_cases e : a = a'
    · have e2 := iff.1 e
      have q1 : (a == a') = true := by simp [e]
      have q2 : (b == b') = true := by simp [e2]
      rw [q1, q2]
    · have e2 : b ≠ b' := fun h => e (iff.2 h)
      have q1 : (a == a') = false := by simp [e]
      have q2 : (b == b') = false := by simp [e2]
      rw [q1, q2]
      exact ih
/-- one step, and another, together -/
theorem bisim (hs : 0 < sn) (hs8 : sn ≤ 8) : ∀ (l : Nat), l ≤ lm → ∀ (a b : Int) (φ : Env sn → Int) (S : Wk σ) (T : Wk τ), A.I S.s → B.I T.s → A.D S.s l a φ → B.D T.s l b φ → FinR A B S.s T.s S.fin T.fin → S.out = T.out → A.sz S.s + Vn A.cost l ≤ cA → B.sz T.s + Vn B.cost l ≤ cB →
    ∃ r S' T', visitF sn eA l a S = some (r, S') ∧ visitF sn eB l b T = some (r, T') ∧ A.I S'.s ∧ B.I T'.s ∧ A.le S.s S'.s ∧ B.le T.s T'.s ∧ FinR A B S'.s T'.s S'.fin T'.fin ∧ S'.out = T'.out ∧ A.sz S'.s ≤ A.sz S.s + Vn A.cost l ∧ B.sz T'.s ≤ B.sz T.s + Vn B.cost l
  | 0, _, a, b, φ, S, T, iA, iB, dA, dB, hf, ho, _, _ => by
    obtain ⟨_, _, ea⟩ := A.zero dA
    obtain ⟨_, _, eb⟩ := B.zero dB
    have : a = b := (ea (fun _ => ⟨0, hs⟩)).symm.trans (eb (fun _ => ⟨0, hs⟩))
    subst this
    exact ⟨a, S, T, rfl, rfl, iA, iB, A.refl _, B.refl _, hf, ho, by simp [Vn], by simp [Vn]⟩
  | l + 1, hl, a, b, φ, S, T, iA, iB, dA, dB, hf, ho, bA, bB => by
    have hlook := FinR.look iA iB dA dB hf
    simp only [visitF]
    cases hfa : S.fin.lookup a with
    | some i =>
      rw [hfa] at hlook
      rw [← hlook]
      exact ⟨i, S, T, rfl, rfl, iA, iB, A.refl _, B.refl _, hf, ho, by omega, by omega⟩
    | none =>
      rw [hfa] at hlook
      rw [← hlook]
      simp only
      by_cases hc : 4096 < S.out.length
      · rw [if_pos hc, if_pos (by rw [← ho]; exact hc)]
        exact ⟨0, S, T, rfl, rfl, iA, iB, A.refl _, B.refl _, hf, ho, by omega, by omega⟩
      · rw [if_neg hc, if_neg (by rw [← ho]; exact hc)]
        simp only [Vn] at bA bB
        obtain ⟨ra, sa, a1, a2, a3, a4, a5, a6⟩ := A.ok iA dA hl (by omega)
        obtain ⟨rb, sb, b1, b2, b3, b4, b5, b6⟩ := B.ok iB dB hl (by omega)
        have row : ∀ (xs ys : List Int) (S1 : Wk σ) (T1 : Wk τ), A.I S1.s → B.I T1.s → All2 (fun x y => ∃ ψ, A.D S1.s l x ψ ∧ B.D T1.s l y ψ) xs ys → FinR A B S1.s T1.s S1.fin T1.fin → S1.out = T1.out → A.sz S1.s + xs.length * Vn A.cost l ≤ cA → B.sz T1.s + xs.length * Vn B.cost l ≤ cB →
            ∃ zs S' T', rowF (visitF sn eA l) xs S1 = some (zs, S') ∧ rowF (visitF sn eB l) ys T1 = some (zs, T') ∧ A.I S'.s ∧ B.I T'.s ∧ A.le S1.s S'.s ∧ B.le T1.s T'.s ∧ FinR A B S'.s T'.s S'.fin T'.fin ∧ S'.out = T'.out ∧ A.sz S'.s ≤ A.sz S1.s + xs.length * Vn A.cost l ∧ B.sz T'.s ≤ B.sz T1.s + xs.length * Vn B.cost l := by
          intro xs
          induction xs with
          | nil =>
            intro ys S1 T1 iA iB h hf ho _ _
            have : ys = [] := List.eq_nil_of_length_eq_zero h.1.symm
            subst this
            exact ⟨[], S1, T1, rfl, rfl, iA, iB, A.refl _, B.refl _, hf, ho, by simp, by simp⟩
          | cons x xs ih =>
            intro ys S1 T1 iA iB h hf ho bA bB
            cases ys with
            | nil => have := h.1; simp at this
            | cons y ys =>
              obtain ⟨ψ, d1, d2⟩ := h.head
              simp only [List.length_cons, Nat.add_mul, Nat.one_mul] at bA bB
              obtain ⟨r, S2, T2, v1, v2, v3, v4, v5, v6, v7, v8, v9, v10⟩ := bisim hs hs8 l (by omega) x y ψ S1 T1 iA iB d1 d2 hf ho (by omega) (by omega)
              obtain ⟨zs, S3, T3, u1, u2, u3, u4, u5, u6, u7, u8, u9, u10⟩ := ih ys S2 T2 v3 v4 (h.tail.imp fun _ _ ⟨ψ, d1, d2⟩ => ⟨ψ, A.mono v5 d1, B.mono v6 d2⟩) v7 v8 (by omega) (by omega)
              refine ⟨r :: zs, S3, T3, ?_, ?_, u3, u4, A.trans v5 u5, B.trans v6 u6, u7, u8, ?_, ?_⟩
              · simp [rowF, v1, u1]
              · simp [rowF, v2, u2]
              · simp only [List.length_cons, Nat.add_mul, Nat.one_mul]; omega
              · simp only [List.length_cons, Nat.add_mul, Nat.one_mul]; omega
        have hxl : (ra.take sn).length = sn := by rw [List.length_take]; omega
        have hyl : (rb.take sn).length = sn := by rw [List.length_take]; omega
        have m1 : sn * Vn A.cost l ≤ 8 * Vn A.cost l := Nat.mul_le_mul_right _ hs8
        have m2 : sn * Vn B.cost l ≤ 8 * Vn B.cost l := Nat.mul_le_mul_right _ hs8
        obtain ⟨zs, S2, T2, u1, u2, u3, u4, u5, u6, u7, u8, u9, u10⟩ := row (ra.take sn) (rb.take sn) { S with s := sa } { T with s := sb } a2 b2 ⟨by omega, fun k x y hx hy => by
          have hk : k < sn := by
            rcases Nat.lt_or_ge k sn with h | h
            · exact h
            · rw [List.getElem?_eq_none (by omega)] at hx; cases hx
          rw [List.getElem?_take, if_pos hk] at hx hy
          have ex : x = ig ra k := by simp [ig, hx]
          have ey : y = ig rb k := by simp [ig, hy]
          rw [ex, ey]
          exact ⟨_, a6 ⟨k, hk⟩, b6 ⟨k, hk⟩⟩⟩ (hf.mono a3 b3) ho (by simp only [hxl]; omega) (by simp only [hxl]; omega)
        rw [hxl] at u9 u10
        simp only at u9 u10 u5 u6
        rw [a1, b1]
        simp only [Option.bind_some, u1, u2]
        refine ⟨(S2.out.length : Int), { S2 with fin := (a, (S2.out.length : Int)) :: S2.fin, out := S2.out ++ [(((l + 1 : Nat) : Int), zs)] }, { T2 with fin := (b, (T2.out.length : Int)) :: T2.fin, out := T2.out ++ [(((l + 1 : Nat) : Int), zs)] }, rfl, by rw [u8], u3, u4, A.trans a3 u5, B.trans b3 u6, ?_, ?_, ?_, ?_⟩
        · refine All2.cons ⟨by rw [u8], l + 1, φ, A.mono (A.trans a3 u5) dA, B.mono (B.trans b3 u6) dB⟩ u7
        · simp only [u8]
        · simp only [Vn]; omega
        · simp only [Vn]; omega
end
end Go.Proofs.YthgnjjpkmikokaaDoor
