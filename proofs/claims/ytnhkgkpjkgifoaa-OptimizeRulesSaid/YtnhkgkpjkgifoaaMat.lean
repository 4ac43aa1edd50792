/- Folding keeps the outputs. -/
import Derived.Test.YtnhkgkpjkgifoaaMas
namespace Go.Proofs.Ytnhkgkpjkgifoaa
open Go.RowKit

/-- the gate of a wire -/
def gtF (I : Int) (ds : List C3) (w : Int) : C3 := ds.getD (w - I).toNat (0, 0, 0)
/-- whether a wire is that of a gate with an operation -/
def isF (I : Int) (ds : List C3) (w op : Int) : Bool := decide (I ≤ w) && decide ((gtF I ds w).1 = op)
def ngF (I : Int) (ds : List C3) (a b : Int) : Bool := isF I ds a 2 && decide ((gtF I ds a).2.1 = b)
def opF (I : Int) (ds : List C3) (a b : Int) : Bool := ngF I ds a b || ngF I ds b a
def fNot (I : Int) (ds : List C3) (a : Int) : C3 × Int :=
  if isF I ds a 0 = true then ((1, 0, 0), I + (ds.length : Int)) else if isF I ds a 1 = true then ((0, 0, 0), I + (ds.length : Int))
  else if isF I ds a 2 = true then ((2, a, 0), (gtF I ds a).2.1) else ((2, a, 0), I + (ds.length : Int))
def fPair (I : Int) (ds : List C3) (g : C3) (dec lea : Int) : C3 × Int :=
  if (isF I ds g.2.1 dec || isF I ds g.2.2 dec) = true then ((dec, 0, 0), I + (ds.length : Int)) else if isF I ds g.2.1 lea = true then (g, g.2.2)
  else if (isF I ds g.2.2 lea || decide (g.2.1 = g.2.2)) = true then (g, g.2.1) else if opF I ds g.2.1 g.2.2 = true then ((dec, 0, 0), I + (ds.length : Int)) else (g, I + (ds.length : Int))
def fXor (I : Int) (ds : List C3) (g : C3) : C3 × Int :=
  if isF I ds g.2.1 0 = true then (g, g.2.2) else if isF I ds g.2.2 0 = true then (g, g.2.1) else if g.2.1 = g.2.2 then ((0, 0, 0), I + (ds.length : Int))
  else if opF I ds g.2.1 g.2.2 = true then ((1, 0, 0), I + (ds.length : Int)) else if isF I ds g.2.1 1 = true then fNot I ds g.2.2
  else if isF I ds g.2.2 1 = true then fNot I ds g.2.1 else (g, I + (ds.length : Int))
def fStep (I : Int) (ds : List C3) (g : C3) : C3 × Int :=
  if g.1 = 2 then fNot I ds g.2.1 else if g.1 = 3 then fPair I ds g 0 1 else if g.1 = 4 then fPair I ds g 1 0 else if g.1 = 5 then fXor I ds g else (g, I + (ds.length : Int))
theorem gv_ext {N : Nat} {p e : List C3} {g : C3} (hg : rg g ((N : Int) + (p.length : Int)) = true) {l : List Bool} (hl : l.length = N) : gv (p ++ e) l g = gv p l g := by
  obtain ⟨op, a, b⟩ := g
  rcases rg_cases hg with ⟨ho, rfl, rfl⟩ | ⟨rfl, ha, ha', rfl⟩ | ⟨ho, ha, ha', hb, hb'⟩
  · rcases ho with rfl | rfl <;> simp [gv, gop]
  · simp only [gv]
    rw [Vl_app l e p a.toNat (by omega)]
    simp [gop]
  · simp only [gv]
    rw [Vl_app l e p a.toNat (by omega), Vl_app l e p b.toNat (by omega)]
/-- the value of a gate's wire -/
theorem gate_val {N : Nat} {ds : List C3} (hG : Gd N ds) {l : List Bool} (hl : l.length = N) (k : Nat) (hk : k < ds.length) : bg (Vl ds l) (N + k) = gv ds l (ds.getD k (0, 0, 0)) := by
  obtain ⟨p, g, r, rfl, rfl⟩ : ∃ p g r, ds = p ++ g :: r ∧ p.length = k := ⟨ds.take k, ds[k], ds.drop (k + 1), by simp, by simp; omega⟩
  have hg := hG.at_
  rw [show (p ++ g :: r).getD p.length (0, 0, 0) = g by simp [List.getD_eq_getElem?_getD], gv_ext hg hl, show p ++ g :: r = (p ++ [g]) ++ r by simp, Vl_app l r (p ++ [g]) (N + p.length) (by simp; omega)]
  have := (Sp.new l p g).2.2
  rw [show ((l.length : Int) + (p.length : Int)).toNat = N + p.length by omega] at this
  exact this
section
variable {N : Nat} {ds : List C3} (hG : Gd N ds) {l : List Bool} (hl : l.length = N)
include hG hl
theorem isF_at {w op : Int} (hw : w < (N : Int) + (ds.length : Int)) (h : isF (N : Int) ds w op = true) : ∃ k, k < ds.length ∧ w = (N : Int) + (k : Int) ∧ gtF (N : Int) ds w = ds.getD k (0, 0, 0) ∧ (ds.getD k (0, 0, 0)).1 = op ∧ bg (Vl ds l) w.toNat = gv ds l (ds.getD k (0, 0, 0)) := by
  simp only [isF, Bool.and_eq_true, decide_eq_true_eq] at h
  obtain ⟨h1, h2⟩ := h
  refine ⟨(w - (N : Int)).toNat, by omega, by omega, rfl, h2, ?_⟩
  rw [← gate_val hG hl _ (by omega), show N + (w - (N : Int)).toNat = w.toNat by omega]
theorem is_zero {w : Int} (hw : w < (N : Int) + (ds.length : Int)) (h : isF (N : Int) ds w 0 = true) : bg (Vl ds l) w.toNat = false := by
  obtain ⟨k, _, _, _, h4, h5⟩ := isF_at hG hl hw h
  rw [h5, gv, h4]; simp [gop]
theorem is_one {w : Int} (hw : w < (N : Int) + (ds.length : Int)) (h : isF (N : Int) ds w 1 = true) : bg (Vl ds l) w.toNat = true := by
  obtain ⟨k, _, _, _, h4, h5⟩ := isF_at hG hl hw h
  rw [h5, gv, h4]; simp [gop]
theorem is_not {w : Int} (hw : w < (N : Int) + (ds.length : Int)) (h : isF (N : Int) ds w 2 = true) : Sp l ds (gtF (N : Int) ds w).2.1 (!bg (Vl ds l) w.toNat) ∧ bg (Vl ds l) w.toNat = !bg (Vl ds l) (gtF (N : Int) ds w).2.1.toNat := by
  obtain ⟨k, h1, h2, h3, h4, h5⟩ := isF_at hG hl hw h
  have hg := hG k h1
  rw [h3]
  generalize ds.getD k (0, 0, 0) = g at hg h4 h5
  obtain ⟨op, a, b⟩ := g
  simp only at h4
  subst h4
  have hv : bg (Vl ds l) w.toNat = !bg (Vl ds l) a.toNat := by rw [h5]; simp [gv, gop]
  rcases rg_cases hg with ⟨ho, _⟩ | ⟨_, ha, ha', _⟩ | ⟨ho, _⟩
  · omega
  · exact ⟨⟨ha, by show a < _; rw [hl]; omega, by show bg (Vl ds l) a.toNat = _; rw [hv]; simp⟩, hv⟩
  · omega
theorem is_opp {a b : Int} (ha : a < (N : Int) + (ds.length : Int)) (hb : b < (N : Int) + (ds.length : Int)) (h : opF (N : Int) ds a b = true) : bg (Vl ds l) a.toNat = !bg (Vl ds l) b.toNat := by
  simp only [opF, ngF, Bool.or_eq_true, Bool.and_eq_true, decide_eq_true_eq] at h
  rcases h with ⟨h1, h2⟩ | ⟨h1, h2⟩
  · rw [(is_not hG hl ha h1).2, h2]
  · rw [(is_not hG hl hb h1).2, h2]; simp
end
/-- a constant gate -/
theorem sp_const {N : Nat} {ds : List C3} {l : List Bool} (hl : l.length = N) (c : Int) (v : Bool) (hv : gop c false false = v) (hc : c = 0 ∨ c = 1) : Sp l (ds ++ [(c, 0, 0)]) ((N : Int) + (ds.length : Int)) v := by
  have := Sp.new l ds (c, 0, 0)
  rw [hl] at this
  rw [← hv]
  rcases hc with rfl | rfl <;> exact this
theorem sp_in {N : Nat} {ds : List C3} {l : List Bool} (hl : l.length = N) {w : Int} (h0 : 0 ≤ w) (hw : w < (N : Int) + (ds.length : Int)) (g : C3) {v : Bool} (hv : bg (Vl ds l) w.toNat = v) : Sp l (ds ++ [g]) w v :=
  (show Sp l ds w v from ⟨h0, by rw [hl]; exact hw, hv⟩).ext (Ext.one _ _)
theorem sp_own {N : Nat} {ds : List C3} {l : List Bool} (hl : l.length = N) (g : C3) : Sp l (ds ++ [g]) ((N : Int) + (ds.length : Int)) (gv ds l g) := by
  have := Sp.new l ds g
  rw [hl] at this
  exact this
theorem fNot_ok {N : Nat} {ds : List C3} (hG : Gd N ds) {a : Int} (h0 : 0 ≤ a) (ha : a < (N : Int) + (ds.length : Int)) :
    rg (fNot N ds a).1 ((N : Int) + (ds.length : Int)) = true ∧ (∀ l : List Bool, l.length = N → Sp l (ds ++ [(fNot N ds a).1]) (fNot N ds a).2 (!bg (Vl ds l) a.toNat)) ∧ wt (fNot N ds a).1 ≤ wt (2, a, 0) ∧ (wt (fNot N ds a).1 = wt (2, a, 0) → (fNot N ds a).1 = (2, a, 0)) := by
  have hn : rg (2, a, 0) ((N : Int) + (ds.length : Int)) = true := rg_of (.inr (.inl ⟨rfl, h0, ha, rfl⟩))
  unfold fNot
  split
  · next h =>
    refine ⟨rg_of (.inl ⟨.inr rfl, rfl, rfl⟩), fun l hl => ?_, by simp [wt, opw], fun e => by simp [wt, opw] at e; omega⟩
    rw [is_zero hG hl ha h]
    exact sp_const hl 1 _ (by decide) (.inr rfl)
  · split
    · next h =>
      refine ⟨rg_of (.inl ⟨.inl rfl, rfl, rfl⟩), fun l hl => ?_, by simp [wt, opw], fun e => by simp [wt, opw] at e; omega⟩
      rw [is_one hG hl ha h]
      exact sp_const hl 0 _ (by decide) (.inl rfl)
    · split
      · next h => exact ⟨hn, fun l hl => ((is_not hG hl ha h).1).ext (Ext.one _ _), Nat.le_refl _, fun _ => rfl⟩
      · refine ⟨hn, fun l hl => ?_, Nat.le_refl _, fun _ => rfl⟩
        have := sp_own (ds := ds) hl (2, a, 0)
        simpa [gv, gop] using this
theorem wt_lt {op a b c : Int} (ho : op = 3 ∨ op = 4 ∨ op = 5) (hc : c = 0 ∨ c = 1) : wt (c, 0, 0) < wt (op, a, b) := by
  rcases ho with rfl | rfl | rfl <;> rcases hc with rfl | rfl <;> simp [wt, opw] <;> omega
theorem fPair_ok {N : Nat} {ds : List C3} (hG : Gd N ds) (op a b dec lea : Int) (hop : (op = 3 ∧ dec = 0 ∧ lea = 1) ∨ (op = 4 ∧ dec = 1 ∧ lea = 0)) (h0 : 0 ≤ a) (ha : a < (N : Int) + (ds.length : Int)) (h1 : 0 ≤ b) (hb : b < (N : Int) + (ds.length : Int)) :
    rg (fPair N ds (op, a, b) dec lea).1 ((N : Int) + (ds.length : Int)) = true ∧ (∀ l : List Bool, l.length = N → Sp l (ds ++ [(fPair N ds (op, a, b) dec lea).1]) (fPair N ds (op, a, b) dec lea).2 (gv ds l (op, a, b))) ∧ wt (fPair N ds (op, a, b) dec lea).1 ≤ wt (op, a, b) ∧ (wt (fPair N ds (op, a, b) dec lea).1 = wt (op, a, b) → (fPair N ds (op, a, b) dec lea).1 = (op, a, b)) := by
  have hn : rg (op, a, b) ((N : Int) + (ds.length : Int)) = true := rg_of (.inr (.inr ⟨by omega, h0, ha, h1, hb⟩))
  have hc : dec = 0 ∨ dec = 1 := by omega
  have hlt : wt (dec, 0, 0) < wt (op, a, b) := wt_lt (by omega) hc
  have hdv : rg (dec, 0, 0) ((N : Int) + (ds.length : Int)) = true := rg_of (.inl ⟨hc, rfl, rfl⟩)
  have vd : ∀ {l : List Bool}, l.length = N → ∀ {w : Int}, w < (N : Int) + (ds.length : Int) → isF (N : Int) ds w dec = true → bg (Vl ds l) w.toNat = decide (dec = 1) := fun hl w hw h => by
    rcases hc with rfl | rfl
    · exact is_zero hG hl hw h
    · exact is_one hG hl hw h
  have vl : ∀ {l : List Bool}, l.length = N → ∀ {w : Int}, w < (N : Int) + (ds.length : Int) → isF (N : Int) ds w lea = true → bg (Vl ds l) w.toNat = decide (dec = 0) := fun hl w hw h => by
    rcases hop with ⟨_, rfl, rfl⟩ | ⟨_, rfl, rfl⟩
    · exact is_one hG hl hw h
    · exact is_zero hG hl hw h
  have hval : ∀ l : List Bool, gv ds l (op, a, b) = if dec = 0 then (bg (Vl ds l) a.toNat && bg (Vl ds l) b.toNat) else (bg (Vl ds l) a.toNat || bg (Vl ds l) b.toNat) := fun l => by
    rcases hop with ⟨rfl, rfl, rfl⟩ | ⟨rfl, rfl, rfl⟩ <;> simp [gv, gop]
  have hcv : ∀ l : List Bool, l.length = N → gv ds l (op, a, b) = decide (dec = 1) → Sp l (ds ++ [(dec, 0, 0)]) ((N : Int) + (ds.length : Int)) (gv ds l (op, a, b)) := fun l hl h => by
    rw [h]
    exact sp_const hl dec _ (by rcases hc with rfl | rfl <;> decide) hc
  unfold fPair
  simp only
  split
  · next h =>
    refine ⟨hdv, fun l hl => hcv l hl ?_, Nat.le_of_lt hlt, fun e => absurd e (Nat.ne_of_lt hlt)⟩
    rw [hval]
    rw [Bool.or_eq_true] at h
    rcases h with h | h
    · rw [vd hl ha h]; rcases hc with rfl | rfl <;> simp
    · rw [vd hl hb h]; rcases hc with rfl | rfl <;> simp
  · split
    · next h =>
      refine ⟨hn, fun l hl => sp_in hl h1 hb _ ?_, Nat.le_refl _, fun _ => rfl⟩
      rw [hval, vl hl ha h]; rcases hc with rfl | rfl <;> simp
    · split
      · next h =>
        refine ⟨hn, fun l hl => sp_in hl h0 ha _ ?_, Nat.le_refl _, fun _ => rfl⟩
        rw [Bool.or_eq_true, decide_eq_true_eq] at h
        rw [hval]
        rcases h with h | h
        · rw [vl hl hb h]; rcases hc with rfl | rfl <;> simp
        · rw [h]; rcases hc with rfl | rfl <;> simp
      · split
        · next h =>
          refine ⟨hdv, fun l hl => hcv l hl ?_, Nat.le_of_lt hlt, fun e => absurd e (Nat.ne_of_lt hlt)⟩
          rw [hval, is_opp hG hl ha hb h]; rcases hc with rfl | rfl <;> simp
        · exact ⟨hn, fun l hl => sp_own hl _, Nat.le_refl _, fun _ => rfl⟩
theorem fXor_ok {N : Nat} {ds : List C3} (hG : Gd N ds) (hN : N ≤ 1000) (hd : ds.length ≤ 20000) (a b : Int) (h0 : 0 ≤ a) (ha : a < (N : Int) + (ds.length : Int)) (h1 : 0 ≤ b) (hb : b < (N : Int) + (ds.length : Int)) :
    rg (fXor N ds (5, a, b)).1 ((N : Int) + (ds.length : Int)) = true ∧ (∀ l : List Bool, l.length = N → Sp l (ds ++ [(fXor N ds (5, a, b)).1]) (fXor N ds (5, a, b)).2 (gv ds l (5, a, b))) ∧ wt (fXor N ds (5, a, b)).1 ≤ wt (5, a, b) ∧ (wt (fXor N ds (5, a, b)).1 = wt (5, a, b) → (fXor N ds (5, a, b)).1 = (5, a, b)) := by
  have hn : rg (5, a, b) ((N : Int) + (ds.length : Int)) = true := rg_of (.inr (.inr ⟨by omega, h0, ha, h1, hb⟩))
  have hlt : ∀ c : Int, c = 0 ∨ c = 1 → wt (c, 0, 0) < wt (5, a, b) := fun c hc => wt_lt (by omega) hc
  have hval : ∀ l : List Bool, gv ds l (5, a, b) = (bg (Vl ds l) a.toNat != bg (Vl ds l) b.toNat) := fun l => by simp [gv, gop]
  have hnlt : ∀ x : Int, 0 ≤ x → x < (N : Int) + (ds.length : Int) → wt (fNot N ds x).1 < wt (5, a, b) := fun x hx hx' => by
    obtain ⟨_, _, q3, _⟩ := fNot_ok hG hx hx'
    have : wt (2, x, 0) < wt (5, a, b) := by simp [wt, opw]; omega
    omega
  unfold fXor
  simp only
  split
  · next h =>
    refine ⟨hn, fun l hl => sp_in hl h1 hb _ ?_, Nat.le_refl _, fun _ => rfl⟩
    rw [hval, is_zero hG hl ha h]; simp
  · split
    · next h =>
      refine ⟨hn, fun l hl => sp_in hl h0 ha _ ?_, Nat.le_refl _, fun _ => rfl⟩
      rw [hval, is_zero hG hl hb h]; simp
    · split
      · next h =>
        refine ⟨rg_of (.inl ⟨.inl rfl, rfl, rfl⟩), fun l hl => ?_, Nat.le_of_lt (hlt 0 (.inl rfl)), fun e => absurd e (Nat.ne_of_lt (hlt 0 (.inl rfl)))⟩
        rw [hval, h]
        exact sp_const hl 0 _ (by simp [gop]) (.inl rfl)
      · split
        · next h =>
          refine ⟨rg_of (.inl ⟨.inr rfl, rfl, rfl⟩), fun l hl => ?_, Nat.le_of_lt (hlt 1 (.inr rfl)), fun e => absurd e (Nat.ne_of_lt (hlt 1 (.inr rfl)))⟩
          rw [hval, is_opp hG hl ha hb h]
          exact sp_const hl 1 _ (by simp [gop]) (.inr rfl)
        · split
          · next h =>
            obtain ⟨q1, q2, q3, q4⟩ := fNot_ok hG h1 hb
            refine ⟨q1, fun l hl => ?_, Nat.le_of_lt (hnlt b h1 hb), fun e => absurd e (Nat.ne_of_lt (hnlt b h1 hb))⟩
            rw [hval, is_one hG hl ha h]
            have := q2 l hl
            simpa using this
          · split
            · next h =>
              obtain ⟨q1, q2, q3, q4⟩ := fNot_ok hG h0 ha
              refine ⟨q1, fun l hl => ?_, Nat.le_of_lt (hnlt a h0 ha), fun e => absurd e (Nat.ne_of_lt (hnlt a h0 ha))⟩
              rw [hval, is_one hG hl hb h]
              have := q2 l hl
              simpa using this
            · exact ⟨hn, fun l hl => sp_own hl _, Nat.le_refl _, fun _ => rfl⟩
/-- folding as a step -/
def foldR (I : Int) (_ : Unit) (ds : List C3) (g : C3) : (C3 × Int) × Unit := (fStep I ds g, ())
theorem fold_step (N : Nat) : StepOk N (foldR N) (fun _ _ => True) := ⟨fun s ds g hd hN hG _ hg => by
  obtain ⟨op, a, b⟩ := g
  show rg (fStep N ds (op, a, b)).1 _ = true ∧ (∀ l : List Bool, l.length = N → Sp l (ds ++ [(fStep N ds (op, a, b)).1]) (fStep N ds (op, a, b)).2 (gv ds l (op, a, b))) ∧ True ∧ wt (fStep N ds (op, a, b)).1 ≤ wt (op, a, b) ∧ (wt (fStep N ds (op, a, b)).1 = wt (op, a, b) → (fStep N ds (op, a, b)).1 = (op, a, b))
  rcases rg_cases hg with ⟨ho, rfl, rfl⟩ | ⟨rfl, h0, ha, rfl⟩ | ⟨ho, h0, ha, h1, hb⟩
  · have e : fStep N ds (op, 0, 0) = ((op, 0, 0), (N : Int) + (ds.length : Int)) := by
      rcases ho with rfl | rfl <;> rfl
    rw [e]
    exact ⟨hg, fun l hl => sp_own hl _, trivial, Nat.le_refl _, fun _ => rfl⟩
  · have e : fStep N ds (2, a, 0) = fNot N ds a := rfl
    rw [e]
    obtain ⟨q1, q2, q3, q4⟩ := fNot_ok hG h0 ha
    exact ⟨q1, fun l hl => by have := q2 l hl; simpa [gv, gop] using this, trivial, q3, q4⟩
  · rcases ho with rfl | rfl | rfl
    · have e : fStep N ds (3, a, b) = fPair N ds (3, a, b) 0 1 := rfl
      rw [e]
      obtain ⟨q1, q2, q3, q4⟩ := fPair_ok hG 3 a b 0 1 (.inl ⟨rfl, rfl, rfl⟩) h0 ha h1 hb
      exact ⟨q1, q2, trivial, q3, q4⟩
    · have e : fStep N ds (4, a, b) = fPair N ds (4, a, b) 1 0 := rfl
      rw [e]
      obtain ⟨q1, q2, q3, q4⟩ := fPair_ok hG 4 a b 1 0 (.inr ⟨rfl, rfl, rfl⟩) h0 ha h1 hb
      exact ⟨q1, q2, trivial, q3, q4⟩
    · have e : fStep N ds (5, a, b) = fXor N ds (5, a, b) := rfl
      rw [e]
      obtain ⟨q1, q2, q3, q4⟩ := fXor_ok hG hN hd a b h0 ha h1 hb
      exact ⟨q1, q2, trivial, q3, q4⟩⟩
/-- sharing -/
def ordF (g : C3) : C3 := if g.1 = 3 ∨ g.1 = 4 ∨ g.1 = 5 then (g.1, min g.2.1 g.2.2, max g.2.1 g.2.2) else g
def shareR (I : Int) (s : C3 → Option Int) (ds : List C3) (g : C3) : (C3 × Int) × (C3 → Option Int) :=
  match s (ordF g) with
  | some w => ((ordF g, w), s)
  | none => ((ordF g, I + (ds.length : Int)), fun x => if x = ordF g then some (I + (ds.length : Int)) else s x)
/-- what the map of the first ones holds -/
def shInv (N : Nat) (s : C3 → Option Int) (ds : List C3) : Prop := ∀ g w, s g = some w → ∃ k, k < ds.length ∧ w = (N : Int) + (k : Int) ∧ ds.getD k (0, 0, 0) = g
theorem ord_ok {N : Nat} {ds : List C3} {g : C3} (hg : rg g ((N : Int) + (ds.length : Int)) = true) : rg (ordF g) ((N : Int) + (ds.length : Int)) = true ∧ (∀ l, gv ds l (ordF g) = gv ds l g) ∧ wt (ordF g) ≤ wt g ∧ (wt (ordF g) = wt g → ordF g = g) := by
  obtain ⟨op, a, b⟩ := g
  rcases rg_cases hg with ⟨ho, rfl, rfl⟩ | ⟨rfl, h0, ha, rfl⟩ | ⟨ho, h0, ha, h1, hb⟩
  · have e : ordF (op, 0, 0) = (op, 0, 0) := by rcases ho with rfl | rfl <;> rfl
    rw [e]; exact ⟨hg, fun _ => rfl, Nat.le_refl _, fun _ => rfl⟩
  · have e : ordF (2, a, 0) = (2, a, 0) := rfl
    rw [e]; exact ⟨hg, fun _ => rfl, Nat.le_refl _, fun _ => rfl⟩
  · have e : ordF (op, a, b) = (op, min a b, max a b) := by unfold ordF; rw [if_pos ho]
    rw [e]
    by_cases hab : a ≤ b
    · rw [Int.min_eq_left hab, Int.max_eq_right hab]
      exact ⟨hg, fun _ => rfl, Nat.le_refl _, fun _ => rfl⟩
    · have hba : b ≤ a := by omega
      rw [Int.min_eq_right hba, Int.max_eq_left hba]
      refine ⟨rg_of (.inr (.inr ⟨ho, h1, hb, h0, ha⟩)), fun l => ?_, by simp [wt]; omega, fun h => ?_⟩
      · rcases ho with rfl | rfl | rfl
        · simp [gv, gop, Bool.and_comm]
        · simp [gv, gop, Bool.or_comm]
        · simp [gv, gop]; cases bg (Vl ds l) a.toNat <;> cases bg (Vl ds l) b.toNat <;> rfl
      · simp [wt] at h; omega
theorem share_step (N : Nat) : StepOk N (shareR N) (shInv N) := ⟨fun s ds g hd hN hG hi hg => by
  obtain ⟨o1, o2, o3, o4⟩ := ord_ok hg
  have hself : ∀ k, k < ds.length → (ds ++ [ordF g]).getD k (0, 0, 0) = ds.getD k (0, 0, 0) := fun k hk => by simp [List.getD_eq_getElem?_getD, List.getElem?_append_left hk]
  unfold shareR
  split
  · next w h =>
    obtain ⟨k, k1, k2, k3⟩ := hi _ _ h
    refine ⟨o1, fun l hl => ?_, fun g' w' h' => ?_, o3, o4⟩
    · refine sp_in hl (by show 0 ≤ w; omega) (by show w < _; omega) _ ?_
      show bg (Vl ds l) w.toNat = _
      rw [k2, show ((N : Int) + (k : Int)).toNat = N + k by omega, gate_val hG hl k k1, k3, o2]
    · obtain ⟨j, j1, j2, j3⟩ := hi _ _ h'
      exact ⟨j, by simp; omega, j2, by rw [hself j j1]; exact j3⟩
  · next h =>
    refine ⟨o1, fun l hl => by have := sp_own (ds := ds) hl (ordF g); rwa [o2] at this, fun g' w' h' => ?_, o3, o4⟩
    simp only at h'
    by_cases e : g' = ordF g
    · rw [if_pos e] at h'
      injection h' with h'
      exact ⟨ds.length, by simp, h'.symm, by rw [e]; simp [List.getD_eq_getElem?_getD]⟩
    · rw [if_neg e] at h'
      obtain ⟨j, j1, j2, j3⟩ := hi _ _ h'
      exact ⟨j, by simp; omega, j2, by rw [hself j j1]; exact j3⟩⟩
end Go.Proofs.Ytnhkgkpjkgifoaa
