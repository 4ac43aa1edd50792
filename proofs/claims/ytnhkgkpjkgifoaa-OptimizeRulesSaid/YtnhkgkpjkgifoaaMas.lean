/- The reference's Eval at valid circuits. -/
/- What optimization does, as functions of lists, and that it keeps the outputs. -/
import Derived.Test.YtnhkgkpjkgifoaaMar
namespace Go.Proofs.Ytnhkgkpjkgifoaa
open Go.RowKit

/-- the outputs' values -/
def bo17 (V : List Bool) (o : List Int) : List Bool := o.map fun k => bg V k.toNat
theorem bo17_len (V : List Bool) (o : List Int) : (bo17 V o).length = o.length := by simp [bo17]
theorem bo17_take (V : List Bool) (o : List Int) (i : Nat) (h : i < o.length) : bo17 V (o.take (i + 1)) = bo17 V (o.take i) ++ [bg V (ig o i).toNat] := by
  unfold bo17
  rw [List.take_add_one, List.map_append, List.getElem?_eq_getElem h]
  simp [ig, List.getD_eq_getElem?_getD, h]
end Go.Proofs.Ytnhkgkpjkgifoaa
namespace Go.Proofs.Ytnhkgkpjkgifoaa
open Go.RowKit

theorem rg_cases {op a b n : Int} (h : rg (op, a, b) n = true) : ((op = 0 ∨ op = 1) ∧ a = 0 ∧ b = 0) ∨ (op = 2 ∧ 0 ≤ a ∧ a < n ∧ b = 0) ∨ ((op = 3 ∨ op = 4 ∨ op = 5) ∧ 0 ≤ a ∧ a < n ∧ 0 ≤ b ∧ b < n) := by
  rcases rg_ops h with rfl | rfl | rfl | rfl | rfl | rfl <;> simp [rg, isw] at h ⊢ <;> omega
theorem rg_of {op a b n : Int} (h : ((op = 0 ∨ op = 1) ∧ a = 0 ∧ b = 0) ∨ (op = 2 ∧ 0 ≤ a ∧ a < n ∧ b = 0) ∨ ((op = 3 ∨ op = 4 ∨ op = 5) ∧ 0 ≤ a ∧ a < n ∧ 0 ≤ b ∧ b < n)) : rg (op, a, b) n = true := by
  rcases h with ⟨rfl | rfl, rfl, rfl⟩ | ⟨rfl, h1, h2, rfl⟩ | ⟨rfl | rfl | rfl, h1, h2, h3, h4⟩ <;> simp [rg, isw, *]
/-- a gate with its operands replaced -/
def mvd (ws : List Int) (g : C3) : C3 := if g.1 = 3 ∨ g.1 = 4 ∨ g.1 = 5 then (g.1, ig ws g.2.1.toNat, ig ws g.2.2.toNat) else if g.1 = 2 then (2, ig ws g.2.1.toNat, g.2.2) else g
/-- all gates, one after the other -/
def prF {σ : Type} (R : σ → List C3 → C3 → (C3 × Int) × σ) : List C3 → List C3 → List Int → σ → (List C3 × List Int) × σ
  | [], ds, ws, s => ((ds, ws), s)
  | g :: r, ds, ws, s => prF R r (ds ++ [(R s ds (mvd ws g)).1.1]) (ws ++ [(R s ds (mvd ws g)).1.2]) (R s ds (mvd ws g)).2
/-- the value of a gate's operation -/
def gv (ds : List C3) (l : List Bool) (g : C3) : Bool := gop g.1 (bg (Vl ds l) g.2.1.toNat) (bg (Vl ds l) g.2.2.toNat)
/-- the weight of an operation, and of a gate -/
def opw (op : Int) : Nat := if op = 3 ∨ op = 4 ∨ op = 5 then 1000000 else if op = 2 then 1 else 0
def wt (g : C3) : Nat := opw g.1 + 2 * g.2.1.toNat + g.2.2.toNat
def wts (gs : List C3) : Nat := (gs.map wt).sum
/-- what one step has to keep -/
structure StepOk {σ : Type} (N : Nat) (R : σ → List C3 → C3 → (C3 × Int) × σ) (inv : σ → List C3 → Prop) : Prop where
  step : ∀ s ds g, ds.length ≤ 20000 → N ≤ 1000 → Gd N ds → inv s ds → rg g ((N : Int) + (ds.length : Int)) = true →
    rg (R s ds g).1.1 ((N : Int) + (ds.length : Int)) = true ∧ (∀ l : List Bool, l.length = N → Sp l (ds ++ [(R s ds g).1.1]) (R s ds g).1.2 (gv ds l g)) ∧ inv (R s ds g).2 (ds ++ [(R s ds g).1.1]) ∧ wt (R s ds g).1.1 ≤ wt g ∧ (wt (R s ds g).1.1 = wt g → (R s ds g).1.1 = g)
/-- wires that stand for others -/
def Al (N : Nat) (g0 ds : List C3) (ws : List Int) : Prop := ws.length = N + g0.length ∧ (∀ k, k < N + g0.length → 0 ≤ ig ws k ∧ ig ws k ≤ (k : Int)) ∧ ∀ l : List Bool, l.length = N → ∀ k, k < N + g0.length → Sp l ds (ig ws k) (bg (Vl g0 l) k)
theorem mvd_ok {N : Nat} {g0 ds : List C3} {ws : List Int} (hA : Al N g0 ds ws) {g : C3} (hg : rg g ((N : Int) + (g0.length : Int)) = true) :
    rg (mvd ws g) ((N : Int) + (g0.length : Int)) = true ∧ (∀ l : List Bool, l.length = N → gv ds l (mvd ws g) = gv g0 l g) ∧ wt (mvd ws g) ≤ wt g ∧ (wt (mvd ws g) = wt g → mvd ws g = g) := by
  obtain ⟨op, a, b⟩ := g
  obtain ⟨_, h2, h3⟩ := hA
  rcases rg_cases hg with ⟨ho, rfl, rfl⟩ | ⟨rfl, ha, ha', rfl⟩ | ⟨ho, ha, ha', hb, hb'⟩
  · have e : mvd ws (op, 0, 0) = (op, 0, 0) := by
      unfold mvd
      rw [if_neg (by rcases ho with rfl | rfl <;> decide), if_neg (by rcases ho with rfl | rfl <;> decide)]
    rw [e]
    refine ⟨hg, fun l _ => ?_, Nat.le_refl _, fun _ => rfl⟩
    rcases ho with rfl | rfl <;> simp [gv, gop]
  · have e : mvd ws (2, a, 0) = (2, ig ws a.toNat, 0) := by
      unfold mvd
      rw [if_neg (by simp), if_pos rfl]
    obtain ⟨q1, q2⟩ := h2 a.toNat (by omega)
    rw [e]
    refine ⟨rg_of (.inr (.inl ⟨rfl, q1, by omega, rfl⟩)), fun l hl => ?_, ?_, ?_⟩
    · obtain ⟨_, _, q3⟩ := h3 l hl a.toNat (by omega)
      simp [gv, gop, q3]
    · simp [wt]; omega
    · intro hw
      simp [wt] at hw
      rw [show ig ws a.toNat = a by omega]
  · have e : mvd ws (op, a, b) = (op, ig ws a.toNat, ig ws b.toNat) := by
      unfold mvd
      rw [if_pos ho]
    obtain ⟨q1, q2⟩ := h2 a.toNat (by omega)
    obtain ⟨r1, r2⟩ := h2 b.toNat (by omega)
    rw [e]
    refine ⟨rg_of (.inr (.inr ⟨ho, q1, by omega, r1, by omega⟩)), fun l hl => ?_, ?_, ?_⟩
    · obtain ⟨_, _, q3⟩ := h3 l hl a.toNat (by omega)
      obtain ⟨_, _, r3⟩ := h3 l hl b.toNat (by omega)
      simp [gv, q3, r3]
    · simp [wt]; omega
    · intro hw
      simp [wt] at hw
      rw [show ig ws a.toNat = a by omega, show ig ws b.toNat = b by omega]
theorem wts_snoc (gs : List C3) (g : C3) : wts (gs ++ [g]) = wts gs + wt g := by simp [wts]
theorem Gd.at_ {N : Nat} {g0 r : List C3} {g : C3} (h : Gd N (g0 ++ g :: r)) : rg g ((N : Int) + (g0.length : Int)) = true := by
  have := h g0.length (by simp)
  simpa [List.getD_eq_getElem?_getD] using this
theorem Gd.pre {N : Nat} {g0 r : List C3} (h : Gd N (g0 ++ r)) : Gd N g0 := fun k hk => by
  have := h k (by simp; omega)
  simpa [List.getD_eq_getElem?_getD, List.getElem?_append_left hk] using this
/-- all steps -/
theorem prF_ok {σ : Type} {N : Nat} {R : σ → List C3 → C3 → (C3 × Int) × σ} {inv : σ → List C3 → Prop} (hR : StepOk N R inv) (hN : N ≤ 1000) : ∀ (r g0 ds : List C3) (ws : List Int) (s : σ), (g0 ++ r).length ≤ 20000 → Gd N (g0 ++ r) → Gd N ds → ds.length = g0.length → Al N g0 ds ws → inv s ds → wts ds ≤ wts g0 → (wts ds = wts g0 → ds = g0) →
    Gd N (prF R r ds ws s).1.1 ∧ (prF R r ds ws s).1.1.length = (g0 ++ r).length ∧ Al N (g0 ++ r) (prF R r ds ws s).1.1 (prF R r ds ws s).1.2 ∧ wts (prF R r ds ws s).1.1 ≤ wts (g0 ++ r) ∧ (wts (prF R r ds ws s).1.1 = wts (g0 ++ r) → (prF R r ds ws s).1.1 = g0 ++ r)
  | [], g0, ds, ws, s, _, _, hd, hl, hA, _, hw, hw' => by
    rw [List.append_nil]
    exact ⟨hd, hl, hA, hw, hw'⟩
  | g :: r, g0, ds, ws, s, hlen, hG, hd, hl, hA, hi, hw, hw' => by
    have hg := hG.at_
    obtain ⟨m1, m2, m3, m4⟩ := mvd_ok hA hg
    rw [← hl] at m1
    obtain ⟨s1, s2, s3, s4, s5⟩ := hR.step s ds (mvd ws g) (by rw [hl]; simp at hlen; omega) hN hd hi m1
    rw [prF]
    have e : g0 ++ g :: r = (g0 ++ [g]) ++ r := by simp
    rw [e]
    refine prF_ok hR hN r (g0 ++ [g]) _ _ _ (by rw [← e]; exact hlen) (by rw [← e]; exact hG) (hd.snoc s1) (by simp [hl]) ?_ s3 ?_ ?_
    · obtain ⟨a1, a2, a3⟩ := hA
      have hx : ∀ k, k < N + (g0 ++ [g]).length → (k < N + g0.length ∧ ig (ws ++ [(R s ds (mvd ws g)).1.2]) k = ig ws k) ∨ (k = N + g0.length ∧ ig (ws ++ [(R s ds (mvd ws g)).1.2]) k = (R s ds (mvd ws g)).1.2) := fun k hk => by
        by_cases h : k < N + g0.length
        · exact .inl ⟨h, (ig_app ws _ k _ a1).1 h⟩
        · obtain rfl : k = N + g0.length := by simp at hk; omega
          exact .inr ⟨rfl, (ig_app ws _ 0 _ a1).2⟩
      refine ⟨by simp [a1]; omega, fun k hk => ?_, fun l hll k hk => ?_⟩
      · rcases hx k hk with ⟨h, e⟩ | ⟨rfl, e⟩
        · rw [e]; exact a2 k h
        · rw [e]
          obtain ⟨z1, z2, _⟩ := s2 (List.replicate N false) (by simp)
          simp [hl] at z2
          exact ⟨z1, by push_cast; omega⟩
      · rcases hx k hk with ⟨h, e⟩ | ⟨rfl, e⟩
        · rw [e, Vl_app l [g] g0 k (by rw [hll]; exact h)]
          exact (a3 l hll k h).ext (Ext.one _ _)
        · rw [e]
          have z := s2 l hll
          rw [m2 l hll] at z
          have z2 := Sp.new l g0 g
          have z3 := z2.2.2
          rw [show ((l.length : Int) + (g0.length : Int)).toNat = N + g0.length by omega] at z3
          rw [z3]
          exact z
    · rw [wts_snoc, wts_snoc]; omega
    · rw [wts_snoc, wts_snoc]
      intro h
      have h1 := hw' (by omega)
      have h2 := s5 (by omega)
      have h3 := m4 (by omega)
      rw [h2, h3, h1]
/-- the inputs stand for themselves -/
def idW (N : Nat) : List Int := (List.range N).map fun (k : Nat) => (k : Int)
theorem idW_ig {N k : Nat} (hk : k < N) : ig (idW N) k = (k : Int) := by simp [ig, idW, List.getD_eq_getElem?_getD, hk]
theorem Al.start (N : Nat) : Al N [] [] (idW N) := by
  refine ⟨by simp [idW], fun k hk => ?_, fun l hl k hk => ?_⟩
  · rw [idW_ig (by simpa using hk)]; omega
  · rw [idW_ig (by simpa using hk)]
    have := Sp.inp l [] k (by rw [hl]; simpa using hk)
    rw [Vl_nil]
    exact this
/-- outputs moved -/
def mo (ws os : List Int) : List Int := os.map fun o => ig ws o.toNat
/-- a valid circuit -/
structure COk (N : Nat) (gs : List C3) (os : List Int) : Prop where
  n : N ≤ 1000
  g : gs.length ≤ 20000
  gd : Gd N gs
  os : ∀ k, k < os.length → 0 ≤ ig os k ∧ ig os k < (N : Int) + (gs.length : Int)
/-- the measure of a circuit -/
def osum (os : List Int) : Nat := (os.map Int.toNat).sum
def mu (gs : List C3) (os : List Int) : Nat := gs.length + wts gs + osum os
theorem ig_cons (x : Int) (l : List Int) (k : Nat) : ig (x :: l) (k + 1) = ig l k := by simp [ig]
theorem osum_le : ∀ (os ps : List Int), os.length = ps.length → (∀ k, k < os.length → 0 ≤ ig ps k ∧ ig ps k ≤ ig os k) → osum ps ≤ osum os ∧ (osum ps = osum os → ps = os)
  | [], [], _, _ => ⟨Nat.le_refl _, fun _ => rfl⟩
  | [], _ :: _, h, _ => by simp at h
  | _ :: _, [], h, _ => by simp at h
  | o :: os, p :: ps, h, hk => by
    obtain ⟨h1, h2⟩ := osum_le os ps (by simpa using h) (fun k hk' => by
      have := hk (k + 1) (by simp; omega)
      rwa [ig_cons, ig_cons] at this)
    have h0 := hk 0 (by simp)
    simp [ig] at h0
    simp only [osum, List.map_cons, List.sum_cons] at h1 h2 ⊢
    refine ⟨by omega, fun e => ?_⟩
    rw [h2 (by omega), show p = o by omega]
theorem mo_ig (ws os : List Int) (k : Nat) (hk : k < os.length) : ig (mo ws os) k = ig ws (ig os k).toNat := by
  simp [mo, ig, List.getD_eq_getElem?_getD, hk]
/-- what a step of optimization keeps -/
def Keeps (N : Nat) (gs : List C3) (os : List Int) (gs' : List C3) (os' : List Int) : Prop :=
  COk N gs' os' ∧ os'.length = os.length ∧ (∀ l : List Bool, l.length = N → bo17 (Vl gs' l) os' = bo17 (Vl gs l) os) ∧ mu gs' os' ≤ mu gs os ∧ (mu gs' os' = mu gs os → gs' = gs ∧ os' = os)
theorem Keeps.trans {N : Nat} {a c e : List C3} {b d f : List Int} (h : Keeps N a b c d) (k : Keeps N c d e f) : Keeps N a b e f := by
  obtain ⟨_, h2, h3, h4, h5⟩ := h
  obtain ⟨k1, k2, k3, k4, k5⟩ := k
  refine ⟨k1, k2.trans h2, fun l hl => (k3 l hl).trans (h3 l hl), by omega, fun e => ?_⟩
  obtain ⟨e1, e2⟩ := k5 (by omega)
  obtain ⟨e3, e4⟩ := h5 (by omega)
  exact ⟨e1.trans e3, e2.trans e4⟩
theorem bo17_eq {V V' : List Bool} {os os' : List Int} (hl : os'.length = os.length) (h : ∀ k, k < os.length → bg V' (ig os' k).toNat = bg V (ig os k).toNat) : bo17 V' os' = bo17 V os := by
  apply List.ext_getElem
  · simp [bo17, hl]
  · intro k h1 h2
    have hk : k < os.length := by simpa [bo17] using h2
    have := h k hk
    simp only [bo17, List.getElem_map]
    rw [show os'[k]'(by omega) = ig os' k by simp [ig, List.getD_eq_getElem?_getD, hl, hk], show os[k] = ig os k by simp [ig, List.getD_eq_getElem?_getD, hk]]
    exact this
/-- .. of the wires that stand for others -/
theorem keeps_al {N : Nat} {gs ds : List C3} {os ws : List Int} (hc : COk N gs os) (hd : Gd N ds) (hl : ds.length = gs.length) (hA : Al N gs ds ws) (hw : wts ds ≤ wts gs) (hw' : wts ds = wts gs → ds = gs) : Keeps N gs os ds (mo ws os) := by
  obtain ⟨a1, a2, a3⟩ := hA
  have hk : ∀ k, k < os.length → (ig os k).toNat < N + gs.length := fun k hk => by have := hc.os k hk; omega
  have hol : (mo ws os).length = os.length := by simp [mo]
  obtain ⟨o1, o2⟩ := osum_le os (mo ws os) hol.symm (fun k hk' => by
    rw [mo_ig ws os k hk']
    have := a2 _ (hk k hk')
    have := hc.os k hk'
    omega)
  refine ⟨⟨hc.n, by rw [hl]; exact hc.g, hd, fun k hk' => ?_⟩, hol, fun l hll => bo17_eq hol fun k hk' => ?_, by unfold mu; omega, fun e => ?_⟩
  · rw [hol] at hk'
    rw [mo_ig ws os k hk', hl]
    have := a2 _ (hk k hk')
    have := hk k hk'
    omega
  · rw [mo_ig ws os k hk']
    exact (a3 l hll _ (hk k hk')).2.2
  · unfold mu at e
    exact ⟨hw' (by omega), o2 (by omega)⟩
/-- all gates processed, the outputs moved -/
theorem keeps_pr {σ : Type} {N : Nat} {R : σ → List C3 → C3 → (C3 × Int) × σ} {inv : σ → List C3 → Prop} (hR : StepOk N R inv) {gs : List C3} {os : List Int} (hc : COk N gs os) (s : σ) (hi : inv s []) : Keeps N gs os (prF R gs [] (idW N) s).1.1 (mo (prF R gs [] (idW N) s).1.2 os) := by
  obtain ⟨p1, p2, p3, p4, p5⟩ := prF_ok hR hc.n gs [] [] (idW N) s (by simpa using hc.g) (by simpa using hc.gd) (fun k hk => absurd hk (by simp)) rfl (Al.start N) hi (Nat.le_refl _) (fun _ => rfl)
  rw [List.nil_append] at p2 p3 p4 p5
  exact keeps_al hc p1 p2 p3 p4 p5
end Go.Proofs.Ytnhkgkpjkgifoaa
