/- Plain mathematics: what a symmetry does to views and tallies; the new state is a state. -/
import Derived.Test.YtbcihgimflljoaaGreatDoorAns
namespace Go.Proofs.YtbcihgimflljoaaGreatDoor

/-- the inverse of a symmetry -/
def inv (t : Nat) : Nat := if t < 4 then (4 - t) % 4 else t
theorem comp_bd : ∀ t, t < 8 → ∀ k, k < 8 → comp k (inv t) < 8 ∧ comp k t < 8 ∧ (t < 4 → k < 4 → comp k (inv t) < 4 ∧ comp k t < 4) := by decide +kernel
theorem turn_comp (t : Nat) (ht : t < 8) (k : Nat) (hk : k < 8) (x y : Int) : turnX t (turnX k x y) (turnY k x y) = turnX (comp k t) x y ∧ turnY t (turnX k x y) (turnY k x y) = turnY (comp k t) x y := by
  refine eight (P := fun t => turnX t (turnX k x y) (turnY k x y) = turnX (comp k t) x y ∧ turnY t (turnX k x y) (turnY k x y) = turnY (comp k t) x y) ?_ ?_ ?_ ?_ ?_ ?_ ?_ ?_ t ht <;>
  (refine eight (P := fun k => turnX _ (turnX k x y) (turnY k x y) = turnX (comp k _) x y ∧ turnY _ (turnX k x y) (turnY k x y) = turnY (comp k _) x y) ?_ ?_ ?_ ?_ ?_ ?_ ?_ ?_ k hk <;> simp [turnX, turnY, comp])
theorem comp_inv : ∀ t, t < 8 → ∀ k, k < 8 → comp (comp k (inv t)) t = k := by decide +kernel
theorem tn_comp (t k : Nat) (ht : t < 8) (hk : k < 8) (f : Nat → P2) (i j : Nat) (h : f j = tn k f i) : tn t f j = tn (comp k t) f i := by
  unfold tn at *
  rw [h]
  have := turn_comp t ht k hk (f i).1 (f i).2
  simp only [this.1, this.2]
theorem px_at {f : Nat → P2} {n j : Nat} (hu : Up f n) (hj : j < n) : px f n (f j) = (j : Int) :=
  fx_some hj (fun i hi => decide_eq_false (hu.ne i j hi hj)) (decide_eq_true rfl)
/-- states that a symmetry has turned -/
def Turned (f : Nat → P2) (n t : Nat) (l m : List Int) : Prop := ∀ i, i < n → ig m (vi f n t i) = ig l i
theorem vw_turned {f : Nat → P2} {n t k : Nat} {l m : List Int} (hu : Up f n) (ht : t < 8) (hk : k < 8) (h : Turned f n t l m) (k1 : Keeps f n k) : vw f n m (comp k t) n = vw f n l k n := by
  unfold vw
  refine List.map_congr_left fun i hi => ?_
  rw [List.mem_range] at hi
  obtain ⟨h1, h2⟩ := keeps_at k1 hi
  have h3 := tn_comp t k ht hk f i (vi f n k i) h2
  have h4 := h (vi f n k i) h1
  rw [show vi f n t (vi f n k i) = vi f n (comp k t) i by unfold vi; rw [show tn t f (px f n (tn k f i)).toNat = tn (comp k t) f i from h3]] at h4
  exact h4
theorem le_tl {st : Int} {v : Nat → List Int} {l : List Int} {o : Int} {vs : Nat → List Int} {m : Nat} (a : Int) : a ≤ tl st v l o vs m ↔ a ≤ st ∧ ∀ k, k < m → mt v l (vs k) = true → a ≤ so l o (vs k) := by
  induction m with
  | zero => exact ⟨fun h => ⟨h, fun k hk => absurd hk (by omega)⟩, fun h => h.1⟩
  | succ m ih =>
    rw [tl]
    constructor
    · intro h
      split at h
      · have hx : a ≤ tl st v l o vs m ∧ a ≤ so l o (vs m) := by split at h <;> omega
        obtain ⟨h1, h2⟩ := ih.1 hx.1
        refine ⟨h1, fun k hk hmt => ?_⟩
        by_cases e : k < m
        · exact h2 k e hmt
        · obtain rfl : k = m := by omega
          exact hx.2
      · rename_i hn
        obtain ⟨h1, h2⟩ := ih.1 h
        refine ⟨h1, fun k hk hmt => ?_⟩
        by_cases e : k < m
        · exact h2 k e hmt
        · obtain rfl : k = m := by omega
          exact absurd hmt hn
    · rintro ⟨h1, h2⟩
      have h3 := ih.2 ⟨h1, fun k hk => h2 k (by omega)⟩
      split
      · rename_i hmt
        have h4 := h2 m (by omega) hmt
        split <;> omega
      · exact h3
theorem tl_same {st : Int} {v : Nat → List Int} {l : List Int} {o : Int} {vs vs' : Nat → List Int} {m : Nat} (h1 : ∀ k, k < m → ∃ j, j < m ∧ vs' j = vs k) (h2 : ∀ k, k < m → ∃ j, j < m ∧ vs j = vs' k) : tl st v l o vs m = tl st v l o vs' m := by
  have key : ∀ {us ws : Nat → List Int}, (∀ k, k < m → ∃ j, j < m ∧ ws j = us k) → tl st v l o ws m ≤ tl st v l o us m := by
    intro us ws h
    rw [le_tl]
    have h3 := (le_tl (st := st) (v := v) (l := l) (o := o) (vs := ws) (m := m) (tl st v l o ws m)).1 (Int.le_refl _)
    refine ⟨h3.1, fun k hk hmt => ?_⟩
    obtain ⟨j, hj, e⟩ := h k hk
    rw [← e] at hmt ⊢
    exact h3.2 j hj hmt
  exact Int.le_antisymm (key h2) (key h1)
theorem comp_in {N t k : Nat} (hN : N = 4 ∧ t < 4 ∨ N = 8 ∧ t < 8) (hk : k < N) : comp k (inv t) < N ∧ comp k t < N := by
  have hb := comp_bd t (by omega) k (by omega)
  rcases hN with ⟨e, h⟩ | ⟨e, h⟩
  · have h2 := hb.2.2 h (by omega)
    omega
  · omega
theorem av_turned {T : Tab} (ht : Rt T) {t : Nat} (h12 : T.sy = 1 ∧ t < 4 ∨ T.sy = 2 ∧ t < 8) {l m : List Int} (h : Turned T.f T.n t l m) (r : List Int) (o : Int) : av T m r o = av T l r o := by
  have h3 : T.sy ≠ 3 := by omega
  unfold av ta
  rw [if_neg h3, if_neg h3]
  have hN : nwv T.sy = 4 ∧ t < 4 ∨ nwv T.sy = 8 ∧ t < 8 := by
    rcases h12 with ⟨e, h⟩ | ⟨e, h⟩
    · exact .inl ⟨by rw [e]; rfl, h⟩
    · exact .inr ⟨by rw [e]; rfl, h⟩
  have hk := ht.keeps
  have hu := ht.hd.up
  generalize nwv T.sy = N at hN hk ⊢
  have e : tl T.st T.v r o (fun k => vw T.f T.n m k T.n) N = tl T.st T.v r o (fun k => vw T.f T.n l k T.n) N := by
    refine tl_same (fun k hkN => ?_) (fun k hkN => ?_)
    · have hb := comp_bd t (by omega) k (by omega)
      have hc := comp_in hN hkN
      refine ⟨comp k (inv t), hc.1, ?_⟩
      have h4 := vw_turned hu (t := t) (k := comp k (inv t)) (by omega) hb.1 h (hk _ hc.1)
      rw [comp_inv t (by omega) k (by omega)] at h4
      exact h4.symm
    · exact ⟨comp k t, (comp_in hN hkN).2, vw_turned hu (by omega) (by omega) h (hk k hkN)⟩
  rw [e]
theorem tn_zero (t : Nat) (ht : t < 8) (f : Nat → P2) (c : Nat) (h : f c = (0, 0)) : tn t f c = (0, 0) := by
  unfold tn
  rw [h]
  refine eight (P := fun t => (turnX t 0 0, turnY t 0 0) = ((0 : Int), (0 : Int))) ?_ ?_ ?_ ?_ ?_ ?_ ?_ ?_ t ht <;> simp [turnX, turnY]
theorem nx_congr {T : Tab} {l m : List Int} (ha : ∀ r o, av T m r o = av T l r o) (hc : 0 ≤ px T.f T.n (0, 0) → ig m (px T.f T.n (0, 0)).toNat = ig l (px T.f T.n (0, 0)).toNat) : nx T m = nx T l := by
  unfold nx
  rw [show (fun k => (av T m (T.ri k) (T.ro k)).2) = fun k => (av T l (T.ri k) (T.ro k)).2 from funext fun k => by rw [ha], ha]
  split
  · rfl
  · split
    · rfl
    · rw [hc (by omega)]
theorem nx_turned {T : Tab} (ht : Rt T) {t : Nat} (h12 : T.sy = 1 ∧ t < 4 ∨ T.sy = 2 ∧ t < 8) {l m : List Int} (h : Turned T.f T.n t l m) : nx T m = nx T l := by
  refine nx_congr (av_turned ht h12 h) fun h0 => ?_
  rcases fx_cases (fun i => decide (T.f i = (0, 0))) T.n with ⟨c, hc, e, h1, _⟩ | ⟨e, _⟩
  · have h1 := of_decide_eq_true h1
    have e1 : px T.f T.n (0, 0) = (c : Int) := e
    rw [e1, show ((c : Int)).toNat = c from rfl]
    have h2 := h c hc
    have h3 : vi T.f T.n t c = c := by
      unfold vi
      rw [tn_zero t (by omega) T.f c h1, ← h1, px_at ht.hd.up hc]
      rfl
    rw [h3] at h2
    exact h2
  · have e1 : px T.f T.n (0, 0) = -1 := e
    omega

/-- counting behind a change -/
theorem cnt_set {l : List Int} {i : Nat} {a k : Int} (hi : i < l.length) (n : Nat) : cnt (l.set i a) k n = if i < n then cnt l k n - (if ig l i = k then 1 else 0) + (if a = k then 1 else 0) else cnt l k n := by
  induction n with
  | zero => simp [cnt]
  | succ n ih =>
    rw [cnt, cnt, ih, ig_set hi]
    by_cases e : i = n
    · subst e
      simp
      try omega
    · have h2 : ¬ n = i := fun e' => e e'.symm
      simp only [h2, if_false]
      by_cases h : i < n
      · simp only [h, show i < n + 1 by omega, if_true]
        omega
      · simp only [h, show ¬ i < n + 1 by omega, if_false]
/-- two states exchanged -/
def swp (l : List Int) (i j : Nat) : List Int := (l.set i (ig l j)).set j (ig l i)
theorem swp_len (l : List Int) (i j : Nat) : (swp l i j).length = l.length := by simp [swp]
theorem swp_at {l : List Int} {i j : Nat} (hi : i < l.length) (hj : j < l.length) (t : Nat) : ig (swp l i j) t = if t = j then ig l i else if t = i then ig l j else ig l t := by
  rw [swp, ig_set (by simpa using hj), ig_set hi]
theorem cnt_swp {l : List Int} {i j : Nat} {k : Int} (hi : i < l.length) (hj : j < l.length) : cnt (swp l i j) k l.length = cnt l k l.length := by
  rw [swp, cnt_set (by simpa using hj), if_pos hj, cnt_set hi, if_pos hi, ig_set hi]
  by_cases e : j = i
  · subst e
    simp
    try omega
  · rw [if_neg e]
    omega
theorem cl8_swp {l : List Int} {i j : Nat} (hi : i < l.length) (hj : j < l.length) : cl8 (swp l i j) l.length = cl8 l l.length := by
  simp only [cl8, cnt_swp hi hj]
theorem pm_neg (v : Nat → List Int) (l : List Int) (o ce sc sc' : Int) (a : List Int) (h : ce < 0) : pm v l o ce sc a = pm v l o ce sc' a := by
  have hch : ∀ e, ch v l e ce sc = ch v l e ce sc' := fun e => by rw [ch, ch, if_pos h, if_pos h]
  have hps : ∀ r j, ps v l o ce sc r j = ps v l o ce sc' r j := fun r j => by rw [ps, ps, hch]
  have hpf : ∀ j, pf v l o ce sc a j = pf v l o ce sc' a j := fun j => by
    induction j with
    | zero => rfl
    | succ j ih => rw [pf, pf, ih, hps]
  have hpg : ∀ r, pg v l o ce sc r = pg v l o ce sc' r := fun r => funext fun k => by rw [pg, pg, hch]
  simp only [pm, hpf, hch, hpg]
theorem nx_swp {T : Tab} (h3 : T.sy = 3) {l : List Int} {i j : Nat} (hl : l.length = T.n) (hi : i < T.n) (hj : j < T.n) (hic : (i : Int) ≠ px T.f T.n (0, 0)) (hjc : (j : Int) ≠ px T.f T.n (0, 0)) : nx T (swp l i j) = nx T l := by
  have hc : 0 ≤ px T.f T.n (0, 0) → ig (swp l i j) (px T.f T.n (0, 0)).toNat = ig l (px T.f T.n (0, 0)).toNat := fun h0 => by
    rw [swp_at (by omega) (by omega), if_neg (by omega), if_neg (by omega)]
  refine nx_congr (fun r o => ?_) hc
  unfold av
  rw [if_pos h3, if_pos h3, ← hl, cl8_swp (by omega) (by omega), hl]
  by_cases h0 : 0 ≤ px T.f T.n (0, 0)
  · rw [hc h0]
  · exact pm_neg _ _ _ _ _ _ _ (by omega)

/-- the new state is a state -/
theorem av_bd {T : Tab} (ht : Rt T) {l r : List Int} {o : Int} (hr : rr T.n T.st T.nv r o = true) (hl : l.length = T.n) (hs : als T.st l = true) (h2 : (av T l r o).2 = true) : 0 ≤ (av T l r o).1 ∧ (av T l r o).1 < 8 := by
  have hw := rw_of hr
  have s2 := ht.s2
  have s1 := ht.s1
  have hst := (als_iff _ _).1 hs
  by_cases h3 : T.sy = 3
  · have hob : -(T.nv : Int) ≤ o ∧ o < T.st := by
      rcases hw.out with h | h
      · omega
      · obtain ⟨i, hi, rfl⟩ := mem_ig h
        exact hw.els i (by rw [← hw.len]; exact hi)
    unfold av at *
    rw [if_pos h3] at *
    unfold pm at *
    split at h2
    · cases h2
    · rename_i hne
      rw [if_neg hne]
      split at h2
      · rename_i h0
        rw [if_pos h0]
        rcases fx_cases (pg T.v r o (px T.f T.n (0, 0)) (ig l (px T.f T.n (0, 0)).toNat) (pf T.v r o (px T.f T.n (0, 0)) (ig l (px T.f T.n (0, 0)).toNat) (cl8 l T.n) r.length)) (ch T.v r o (px T.f T.n (0, 0)) (ig l (px T.f T.n (0, 0)).toNat)).length with ⟨j, hj, e, _⟩ | ⟨e, _⟩
        · rw [e, show ((j : Int)).toNat = j from rfl]
          exact ch_ig ht.bd.2 s2 r _ _ hob.1 hob.2 j hj
        · rw [e] at h0
          omega
      · cases h2
  · unfold av at *
    rw [if_neg h3] at *
    unfold ta at *
    split at h2
    · cases h2
    · rename_i hne
      rw [if_neg hne]
      have h4 := (le_tl (st := T.st) (v := T.v) (l := r) (o := o) (vs := fun k => vw T.f T.n l k T.n) (m := nwv T.sy) (tl T.st T.v r o (fun k => vw T.f T.n l k T.n) (nwv T.sy))).1 (Int.le_refl _)
      have h5 := (le_tl (st := T.st) (v := T.v) (l := r) (o := o) (vs := fun k => vw T.f T.n l k T.n) (m := nwv T.sy) 0).2 ⟨by omega, fun k hk _ => by
        unfold so
        split
        · rename_i ho
          have hmem : o ∈ r := by
            rcases hw.out with h | h
            · omega
            · exact h
          obtain ⟨i, hi, hix, _⟩ := ix_mem hmem
          rw [hix, show ((i : Int)).toNat = i from rfl]
          have hin : i < T.n := by rw [← hw.len]; exact hi
          have hk2 := (keeps_at (ht.keeps k hk) hin).1
          have : ig (vw T.f T.n l k T.n) i = ig l (vi T.f T.n k i) := by
            unfold vw
            simp [ig, hin, List.getD_eq_getElem?_getD]
          rw [this]
          exact (hst _ (by rw [hl]; exact hk2)).1
        · omega⟩
      dsimp only
      omega
theorem nx_bd {T : Tab} (ht : Rt T) {l : List Int} (hl : l.length = T.n) (hs : als T.st l = true) : 0 ≤ nx T l ∧ nx T l < 8 := by
  have s2 := ht.s2
  have s1 := ht.s1
  rcases fx_cases (fun k => (av T l (T.ri k) (T.ro k)).2) T.nr with ⟨k, hk, e, h1, h2⟩ | ⟨e, h1⟩
  · rw [nx_row hk h2 h1]
    exact av_bd ht (ht.rs k hk) hl hs h1
  · rw [nx_none h1]
    split
    · omega
    · have := px_bd T.f T.n (0, 0)
      have := (als_iff _ _).1 hs (px T.f T.n (0, 0)).toNat (by omega)
      omega
end Go.Proofs.YtbcihgimflljoaaGreatDoor
