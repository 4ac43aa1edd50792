/- Trimming keeps the outputs. -/
/- The walk of Bits at two to eight states. -/
import Derived.Test.YtnhkgkpjkgifoaaMat
import Derived.Test.YtnhkgkpjkgifoaaMan
namespace Go.Proofs.Ytnhkgkpjkgifoaa
open Go.RowKit

/-- what the outputs need -/
def ndO (nd : List Bool) : List Int → List Bool
  | [] => nd
  | o :: r => ndO (nd.set o.toNat true) r
/-- what a gate needs -/
def ndG (nd : List Bool) (g : C3) : List Bool := if g.1 = 3 ∨ g.1 = 4 ∨ g.1 = 5 then (nd.set g.2.2.toNat true).set g.2.1.toNat true else if g.1 = 2 then nd.set g.2.1.toNat true else nd
/-- what the gates below i need -/
def ndS (N : Nat) (gs : List C3) : Nat → List Bool → List Bool
  | 0, nd => nd
  | i + 1, nd => ndS N gs i (if bg nd (N + i) = true then ndG nd (gs.getD i (0, 0, 0)) else nd)
theorem bg_set (nd : List Bool) (i k : Nat) (h : bg nd k = true) : bg (nd.set i true) k = true := by
  simp only [bg, List.getD_eq_getElem?_getD] at h ⊢
  by_cases e : i = k
  · subst e
    by_cases hi : i < nd.length
    · simp [hi]
    · simp [hi] at h
  · rw [List.getElem?_set_ne e]; exact h
theorem bg_set_self (nd : List Bool) (i : Nat) (h : i < nd.length) : bg (nd.set i true) i = true := by simp [bg, List.getD_eq_getElem?_getD, h]
theorem bg_set_ne (nd : List Bool) (i k : Nat) (h : i ≠ k) : bg (nd.set i true) k = bg nd k := by simp only [bg, List.getD_eq_getElem?_getD]; rw [List.getElem?_set_ne h]
theorem ndO_len : ∀ (os : List Int) (nd : List Bool), (ndO nd os).length = nd.length
  | [], _ => rfl
  | o :: r, nd => by rw [ndO, ndO_len r]; simp
theorem ndO_mono : ∀ (os : List Int) (nd : List Bool) (k : Nat), bg nd k = true → bg (ndO nd os) k = true
  | [], _, _, h => h
  | o :: r, nd, k, h => ndO_mono r _ k (bg_set nd _ k h)
theorem ndO_has : ∀ (os : List Int) (nd : List Bool) (k : Nat), k < os.length → (ig os k).toNat < nd.length → bg (ndO nd os) (ig os k).toNat = true
  | [], _, _, h, _ => absurd h (Nat.not_lt_zero _)
  | o :: r, nd, 0, _, hl => by
    have e : ig (o :: r) 0 = o := rfl
    rw [e] at hl ⊢
    exact ndO_mono r _ _ (bg_set_self nd _ hl)
  | o :: r, nd, k + 1, h, hl => by
    rw [ig_cons] at hl ⊢
    exact ndO_has r _ k (by simpa using h) (by simpa using hl)
theorem ndG_len (nd : List Bool) (g : C3) : (ndG nd g).length = nd.length := by unfold ndG; split <;> (try split) <;> simp
theorem ndG_mono (nd : List Bool) (g : C3) (k : Nat) (h : bg nd k = true) : bg (ndG nd g) k = true := by
  unfold ndG
  split
  · exact bg_set _ _ _ (bg_set _ _ _ h)
  · split
    · exact bg_set _ _ _ h
    · exact h
theorem ndS_len (N : Nat) (gs : List C3) : ∀ (i : Nat) (nd : List Bool), (ndS N gs i nd).length = nd.length
  | 0, _ => rfl
  | i + 1, nd => by rw [ndS, ndS_len N gs i]; split <;> simp [ndG_len]
theorem ndS_mono (N : Nat) (gs : List C3) : ∀ (i : Nat) (nd : List Bool) (k : Nat), bg nd k = true → bg (ndS N gs i nd) k = true
  | 0, _, _, h => h
  | i + 1, nd, k, h => by
    rw [ndS]
    refine ndS_mono N gs i _ k ?_
    split
    · exact ndG_mono _ _ _ h
    · exact h
theorem ndG_high {N i : Nat} {nd : List Bool} {g : C3} (hg : rg g ((N : Int) + (i : Int)) = true) (k : Nat) (hk : N + i ≤ k) : bg (ndG nd g) k = bg nd k := by
  obtain ⟨op, a, b⟩ := g
  rcases rg_cases hg with ⟨ho, rfl, rfl⟩ | ⟨rfl, h0, ha, rfl⟩ | ⟨ho, h0, ha, h1, hb⟩
  · unfold ndG
    rw [if_neg (by rcases ho with rfl | rfl <;> decide), if_neg (by rcases ho with rfl | rfl <;> decide)]
  · unfold ndG
    rw [if_neg (by simp), if_pos rfl]
    exact bg_set_ne _ _ _ (by show a.toNat ≠ k; omega)
  · unfold ndG
    rw [if_pos ho, bg_set_ne _ _ _ (by show a.toNat ≠ k; omega), bg_set_ne _ _ _ (by show b.toNat ≠ k; omega)]
theorem ndS_high {N : Nat} {gs : List C3} (hG : Gd N gs) : ∀ (i : Nat) (nd : List Bool), i ≤ gs.length → ∀ k, N + i ≤ k → bg (ndS N gs i nd) k = bg nd k
  | 0, _, _, _, _ => rfl
  | i + 1, nd, hi, k, hk => by
    rw [ndS, ndS_high hG i _ (by omega) k (by omega)]
    split
    · exact ndG_high (hG i (by omega)) k (by omega)
    · rfl
/-- a gate's operands are needed -/
def OpsIn (nd : List Bool) (g : C3) : Prop := (g.1 = 2 ∨ g.1 = 3 ∨ g.1 = 4 ∨ g.1 = 5 → bg nd g.2.1.toNat = true) ∧ (g.1 = 3 ∨ g.1 = 4 ∨ g.1 = 5 → bg nd g.2.2.toNat = true)
theorem ndS_closed {N : Nat} {gs : List C3} (hG : Gd N gs) : ∀ (i : Nat) (nd : List Bool), i ≤ gs.length → N + gs.length ≤ nd.length → ∀ j, j < i → bg (ndS N gs i nd) (N + j) = true → OpsIn (ndS N gs i nd) (gs.getD j (0, 0, 0))
  | 0, _, _, _, j, hj, _ => absurd hj (Nat.not_lt_zero _)
  | i + 1, nd, hi, hl, j, hj, h => by
    rw [ndS] at h ⊢
    by_cases e : j < i
    · exact ndS_closed hG i _ (by omega) (by split; rw [ndG_len]; exact hl; exact hl) j e h
    · obtain rfl : j = i := by omega
      have hg := hG j (by omega)
      rw [ndS_high hG j _ (by omega) (N + j) (Nat.le_refl _)] at h
      have h0 : bg nd (N + j) = true := by
        by_cases hb : bg nd (N + j) = true
        · exact hb
        · rw [if_neg hb] at h; exact h
      rw [if_pos h0]
      generalize gs.getD j (0, 0, 0) = g at hg
      have key : OpsIn (ndG nd g) g := by
        obtain ⟨op, a, b⟩ := g
        rcases rg_cases hg with ⟨ho, rfl, rfl⟩ | ⟨rfl, q0, qa, rfl⟩ | ⟨ho, q0, qa, q1, qb⟩
        · refine ⟨fun q => ?_, fun q => ?_⟩ <;> (simp only at q; omega)
        · refine ⟨fun _ => ?_, fun q => ?_⟩
          · unfold ndG
            rw [if_neg (by simp), if_pos rfl]
            exact bg_set_self _ _ (by show a.toNat < nd.length; omega)
          · simp only at q; omega
        · unfold ndG
          rw [if_pos ho]
          exact ⟨fun _ => bg_set_self _ _ (by simp; omega), fun _ => bg_set _ _ _ (bg_set_self _ _ (by show b.toNat < nd.length; omega))⟩
      exact ⟨fun q => ndS_mono N gs j _ _ (key.1 q), fun q => ndS_mono N gs j _ _ (key.2 q)⟩
/-- the gates that are needed -/
def trF (N : Nat) (nd : List Bool) : List C3 → Nat → List C3 → List Int → List C3 × List Int
  | [], _, ks, ws => (ks, ws)
  | g :: r, i, ks, ws => if bg nd (N + i) = true then trF N nd r (i + 1) (ks ++ [mvd (ws ++ [(N : Int) + (ks.length : Int)]) g]) (ws ++ [(N : Int) + (ks.length : Int)]) else trF N nd r (i + 1) ks (ws ++ [(N : Int) + (ks.length : Int)])
/-- wires that stand for others, where they are needed -/
structure Bl (N : Nat) (nd : List Bool) (g0 ks : List C3) (ws : List Int) : Prop where
  gd : Gd N ks
  len : ws.length = N + g0.length
  le : ks.length ≤ g0.length
  wle : ∀ k, k < N + g0.length → 0 ≤ ig ws k ∧ ig ws k ≤ (k : Int)
  sp : ∀ l : List Bool, l.length = N → ∀ k, k < N + g0.length → (k < N ∨ bg nd k = true) → Sp l ks (ig ws k) (bg (Vl g0 l) k)
  wt_ : wts ks ≤ wts g0
  eq : ks.length = g0.length → ks = g0 ∧ ∀ k, k < N + g0.length → ig ws k = (k : Int)
theorem mvd_app {ws : List Int} {x : Int} {N : Nat} (hl : ws.length = N) {g : C3} (hg : rg g (N : Int) = true) : mvd (ws ++ [x]) g = mvd ws g := by
  obtain ⟨op, a, b⟩ := g
  rcases rg_cases hg with ⟨ho, rfl, rfl⟩ | ⟨rfl, q0, qa, rfl⟩ | ⟨ho, q0, qa, q1, qb⟩
  · unfold mvd
    rw [if_neg (by rcases ho with rfl | rfl <;> decide), if_neg (by rcases ho with rfl | rfl <;> decide), if_neg (by rcases ho with rfl | rfl <;> decide), if_neg (by rcases ho with rfl | rfl <;> decide)]
  · unfold mvd
    rw [if_neg (by simp), if_pos rfl, if_neg (by simp), if_pos rfl, (ig_app ws x a.toNat N hl).1 (by omega)]
  · unfold mvd
    rw [if_pos ho, if_pos ho, (ig_app ws x a.toNat N hl).1 (by omega), (ig_app ws x b.toNat N hl).1 (by omega)]
theorem mvdB_ok {N : Nat} {nd : List Bool} {g0 ks : List C3} {ws : List Int} (hB : Bl N nd g0 ks ws) {g : C3} (hg : rg g ((N : Int) + (g0.length : Int)) = true) (ho : OpsIn nd g) :
    rg (mvd ws g) ((N : Int) + (ks.length : Int)) = true ∧ (∀ l : List Bool, l.length = N → gv ks l (mvd ws g) = gv g0 l g) ∧ wt (mvd ws g) ≤ wt g ∧ ((∀ k, k < N + g0.length → ig ws k = (k : Int)) → mvd ws g = g) := by
  have h2 := hB.wle
  have h3 := hB.sp
  have l0 : (List.replicate N false).length = N := by simp
  obtain ⟨op, a, b⟩ := g
  obtain ⟨o1, o2⟩ := ho
  rcases rg_cases hg with ⟨ho, rfl, rfl⟩ | ⟨rfl, ha, ha', rfl⟩ | ⟨ho, ha, ha', hb, hb'⟩
  · have e : mvd ws (op, 0, 0) = (op, 0, 0) := by
      unfold mvd
      rw [if_neg (by rcases ho with rfl | rfl <;> decide), if_neg (by rcases ho with rfl | rfl <;> decide)]
    rw [e]
    refine ⟨rg_of (.inl ⟨ho, rfl, rfl⟩), fun l _ => ?_, Nat.le_refl _, fun _ => rfl⟩
    rcases ho with rfl | rfl <;> simp [gv, gop]
  · have e : mvd ws (2, a, 0) = (2, ig ws a.toNat, 0) := by
      unfold mvd
      rw [if_neg (by simp), if_pos rfl]
    obtain ⟨q1, q2⟩ := h2 a.toNat (by omega)
    have ha2 := h3 _ l0 a.toNat (by omega) (.inr (o1 (.inl rfl)))
    have ha3 := ha2.2.1
    rw [l0] at ha3
    rw [e]
    refine ⟨rg_of (.inr (.inl ⟨rfl, q1, ha3, rfl⟩)), fun l hl => ?_, ?_, fun h => ?_⟩
    · obtain ⟨_, _, q3⟩ := h3 l hl a.toNat (by omega) (.inr (o1 (.inl rfl)))
      simp [gv, gop, q3]
    · simp [wt]; omega
    · rw [h a.toNat (by omega), show ((a.toNat : Nat) : Int) = a by omega]
  · have e : mvd ws (op, a, b) = (op, ig ws a.toNat, ig ws b.toNat) := by
      unfold mvd
      rw [if_pos ho]
    obtain ⟨q1, q2⟩ := h2 a.toNat (by omega)
    obtain ⟨r1, r2⟩ := h2 b.toNat (by omega)
    have ha2 := h3 _ l0 a.toNat (by omega) (.inr (o1 (.inr ho)))
    have ha3 := ha2.2.1
    have hb2 := h3 _ l0 b.toNat (by omega) (.inr (o2 ho))
    have hb3 := hb2.2.1
    rw [l0] at ha3 hb3
    rw [e]
    refine ⟨rg_of (.inr (.inr ⟨ho, q1, ha3, r1, hb3⟩)), fun l hl => ?_, ?_, fun h => ?_⟩
    · obtain ⟨_, _, q3⟩ := h3 l hl a.toNat (by omega) (.inr (o1 (.inr ho)))
      obtain ⟨_, _, r3⟩ := h3 l hl b.toNat (by omega) (.inr (o2 ho))
      simp [gv, q3, r3]
    · simp [wt]; omega
    · rw [h a.toNat (by omega), h b.toNat (by omega), show ((a.toNat : Nat) : Int) = a by omega, show ((b.toNat : Nat) : Int) = b by omega]
theorem trF_ok {N : Nat} {nd : List Bool} : ∀ (r g0 ks : List C3) (ws : List Int), Gd N (g0 ++ r) → (∀ j, j < (g0 ++ r).length → bg nd (N + j) = true → OpsIn nd ((g0 ++ r).getD j (0, 0, 0))) → Bl N nd g0 ks ws → (∀ k, k < N → bg nd k = true ∨ bg nd k = false) → Bl N nd (g0 ++ r) (trF N nd r g0.length ks ws).1 (trF N nd r g0.length ks ws).2
  | [], g0, ks, ws, _, _, hB, _ => by rw [List.append_nil]; exact hB
  | g :: r, g0, ks, ws, hG, hC, hB, ht => by
    have hg := hG.at_
    have hm : mvd (ws ++ [(N : Int) + (ks.length : Int)]) g = mvd ws g := mvd_app (N := N + g0.length) hB.len (by rw [show (((N + g0.length : Nat) : Int)) = (N : Int) + (g0.length : Int) by omega]; exact hg)
    have e : g0 ++ g :: r = (g0 ++ [g]) ++ r := by simp
    have el : (g0 ++ [g]).length = g0.length + 1 := by simp
    have hx : ∀ k, k < N + (g0 ++ [g]).length → (k < N + g0.length ∧ ig (ws ++ [(N : Int) + (ks.length : Int)]) k = ig ws k) ∨ (k = N + g0.length ∧ ig (ws ++ [(N : Int) + (ks.length : Int)]) k = (N : Int) + (ks.length : Int)) := fun k hk => by
      by_cases h : k < N + g0.length
      · exact .inl ⟨h, (ig_app ws _ k _ hB.len).1 h⟩
      · obtain rfl : k = N + g0.length := by simp at hk; omega
        exact .inr ⟨rfl, (ig_app ws _ 0 _ hB.len).2⟩
    have hwle : ∀ k, k < N + (g0 ++ [g]).length → 0 ≤ ig (ws ++ [(N : Int) + (ks.length : Int)]) k ∧ ig (ws ++ [(N : Int) + (ks.length : Int)]) k ≤ (k : Int) := fun k hk => by
      have := hB.le
      rcases hx k hk with ⟨h, e⟩ | ⟨rfl, e⟩
      · rw [e]; exact hB.wle k h
      · rw [e]; omega
    rw [trF, hm]
    by_cases hn : bg nd (N + g0.length) = true
    · rw [if_pos hn]
      have ho := hC g0.length (by simp) hn
      rw [show (g0 ++ g :: r).getD g0.length (0, 0, 0) = g by simp [List.getD_eq_getElem?_getD]] at ho
      obtain ⟨m1, m2, m3, m4⟩ := mvdB_ok hB hg ho
      rw [← el, e]
      refine trF_ok r (g0 ++ [g]) _ _ (by rw [← e]; exact hG) (by rw [← e]; exact hC) ⟨hB.gd.snoc m1, by simp [hB.len]; omega, by have := hB.le; simp; omega, hwle, fun l hl k hk hp => ?_, by rw [wts_snoc, wts_snoc]; have := hB.wt_; omega, fun h => ?_⟩ ht
      · rcases hx k hk with ⟨h, e⟩ | ⟨rfl, e⟩
        · rw [e, Vl_app l [g] g0 k (by rw [hl]; exact h)]
          exact (hB.sp l hl k h hp).ext (Ext.one _ _)
        · rw [e]
          have z := sp_own (ds := ks) hl (mvd ws g)
          rw [m2 l hl] at z
          have z2 := (Sp.new l g0 g).2.2
          rw [show ((l.length : Int) + (g0.length : Int)).toNat = N + g0.length by omega] at z2
          rw [z2]
          exact z
      · have h' : ks.length = g0.length := by simpa using h
        obtain ⟨q1, q2⟩ := hB.eq h'
        refine ⟨by rw [m4 q2, q1], fun k hk => ?_⟩
        rcases hx k hk with ⟨h, e⟩ | ⟨rfl, e⟩
        · rw [e]; exact q2 k h
        · rw [e]; omega
    · rw [if_neg hn, ← el, e]
      refine trF_ok r (g0 ++ [g]) _ _ (by rw [← e]; exact hG) (by rw [← e]; exact hC) ⟨hB.gd, by simp [hB.len]; omega, by have := hB.le; simp; omega, hwle, fun l hl k hk hp => ?_, by rw [wts_snoc]; have := hB.wt_; omega, fun h => ?_⟩ ht
      · rcases hx k hk with ⟨h, e⟩ | ⟨rfl, e⟩
        · rw [e, Vl_app l [g] g0 k (by rw [hl]; exact h)]
          exact hB.sp l hl k h hp
        · rcases hp with hp | hp
          · omega
          · exact absurd hp hn
      · have := hB.le
        simp at h
        omega
/-- what the outputs need in the end -/
def ndA (N : Nat) (gs : List C3) (os : List Int) : List Bool := ndS N gs gs.length (ndO (List.replicate (N + gs.length) false) os)
theorem keeps_trim {N : Nat} {gs : List C3} {os : List Int} (hc : COk N gs os) : Keeps N gs os (trF N (ndA N gs os) gs 0 [] (idW N)).1 (mo (trF N (ndA N gs os) gs 0 [] (idW N)).2 os) := by
  have hstart : Bl N (ndA N gs os) [] [] (idW N) := by
    obtain ⟨q1, q2, q3⟩ := Al.start N
    exact ⟨fun k hk => absurd hk (by simp), q1, Nat.le_refl _, q2, fun l hl k hk _ => q3 l hl k hk, Nat.le_refl _, fun _ => ⟨rfl, fun k hk => idW_ig (by simpa using hk)⟩⟩
  have hnl : (ndO (List.replicate (N + gs.length) false) os).length = N + gs.length := by rw [ndO_len]; simp
  have hB := trF_ok (nd := ndA N gs os) gs [] [] (idW N) (by simpa using hc.gd) (fun j hj h => by
    rw [List.nil_append] at hj ⊢
    exact ndS_closed hc.gd gs.length _ (Nat.le_refl _) (by rw [hnl]; exact Nat.le_refl _) j hj h) hstart (fun k _ => by cases bg (ndA N gs os) k <;> simp)
  rw [List.nil_append] at hB
  have hno : ∀ k, k < os.length → bg (ndA N gs os) (ig os k).toNat = true := fun k hk => ndS_mono N gs _ _ _ (ndO_has os _ k hk (by have := hc.os k hk; simp; omega))
  simp only [List.length_nil] at hB
  generalize trF N (ndA N gs os) gs 0 [] (idW N) = p at hB
  obtain ⟨ks, ws⟩ := p
  simp only at hB ⊢
  have hk : ∀ k, k < os.length → (ig os k).toNat < N + gs.length := fun k hk => by have := hc.os k hk; omega
  have hol : (mo ws os).length = os.length := by simp [mo]
  obtain ⟨o1, o2⟩ := osum_le os (mo ws os) hol.symm (fun k hk' => by
    rw [mo_ig ws os k hk']
    have := hB.wle _ (hk k hk')
    have := hc.os k hk'
    omega)
  have l0 : (List.replicate N false).length = N := by simp
  have hle := hB.le
  have hwt := hB.wt_
  refine ⟨⟨hc.n, by have := hc.g; omega, hB.gd, fun k hk' => ?_⟩, hol, fun l hll => bo17_eq hol fun k hk' => ?_, by unfold mu; omega, fun e => ?_⟩
  · rw [hol] at hk'
    rw [mo_ig ws os k hk']
    obtain ⟨z1, z2, _⟩ := hB.sp _ l0 _ (hk k hk') (.inr (hno k hk'))
    rw [l0] at z2
    exact ⟨z1, z2⟩
  · rw [mo_ig ws os k hk']
    exact (hB.sp l hll _ (hk k hk') (.inr (hno k hk'))).2.2
  · unfold mu at e
    obtain ⟨q1, _⟩ := hB.eq (by omega)
    exact ⟨q1, o2 (by omega)⟩
/-- a round -/
def foldC (N : Nat) (gs : List C3) (os : List Int) : List C3 × List Int := ((prF (foldR N) gs [] (idW N) ()).1.1, mo (prF (foldR N) gs [] (idW N) ()).1.2 os)
def shareC (N : Nat) (gs : List C3) (os : List Int) : List C3 × List Int := ((prF (shareR N) gs [] (idW N) (fun _ => none)).1.1, mo (prF (shareR N) gs [] (idW N) (fun _ => none)).1.2 os)
def trimC (N : Nat) (gs : List C3) (os : List Int) : List C3 × List Int := ((trF N (ndA N gs os) gs 0 [] (idW N)).1, mo (trF N (ndA N gs os) gs 0 [] (idW N)).2 os)
theorem keeps_fold {N : Nat} {gs : List C3} {os : List Int} (hc : COk N gs os) : Keeps N gs os (foldC N gs os).1 (foldC N gs os).2 := keeps_pr (fold_step N) hc () trivial
theorem keeps_share {N : Nat} {gs : List C3} {os : List Int} (hc : COk N gs os) : Keeps N gs os (shareC N gs os).1 (shareC N gs os).2 := keeps_pr (share_step N) hc _ (fun g w h => by cases h)
theorem keeps_trimC {N : Nat} {gs : List C3} {os : List Int} (hc : COk N gs os) : Keeps N gs os (trimC N gs os).1 (trimC N gs os).2 := keeps_trim hc
/-- fold, share and trim -/
def rndC (N : Nat) (gs : List C3) (os : List Int) : List C3 × List Int := trimC N (shareC N (foldC N gs os).1 (foldC N gs os).2).1 (shareC N (foldC N gs os).1 (foldC N gs os).2).2
theorem keeps_rnd {N : Nat} {gs : List C3} {os : List Int} (hc : COk N gs os) : Keeps N gs os (rndC N gs os).1 (rndC N gs os).2 := by
  have h1 := keeps_fold hc
  have h2 := keeps_share h1.1
  exact (h1.trans h2).trans (keeps_trimC h2.1)
end Go.Proofs.Ytnhkgkpjkgifoaa
namespace Go.Proofs.Ytnhkgkpjkgifoaa
open Go.RowKit

/-- the bits of a state, of st ones -/
def bs (st : Nat) : Nat := if st ≤ 2 then 1 else if st ≤ 4 then 2 else 3
set_option maxRecDepth 100000 in
set_option maxHeartbeats 2000000 in
theorem len64_lit (x : Nat) (w : World) (h1 : 1 ≤ x) (h2 : x ≤ 7) :
    Calls Try.prog 101 #[.int .u64 (x : Int)] w fun e w' => e = .returned (.int .i64 (bs (x + 1) : Int)) ∧ w' = w := by
  have hx : x = 1 ∨ x = 2 ∨ x = 3 ∨ x = 4 ∨ x = 5 ∨ x = 6 ∨ x = 7 := by omega
  rcases hx with rfl | rfl | rfl | rfl | rfl | rfl | rfl <;>
    (go_enter Try.func101, Try.ntmps101
     go_wp2
     go_ret
     exact ⟨by kernel_rfl, rfl⟩)
set_option maxRecDepth 100000 in
set_option maxHeartbeats 2000000 in
theorem len_lit (x : Nat) (w : World) (h1 : 1 ≤ x) (h2 : x ≤ 7) :
    Calls Try.prog 64 #[.int .u64 (x : Int)] w fun e w' => e = .returned (.int .i64 (bs (x + 1) : Int)) ∧ w' = w := by
  have LE := Lib.hid (fun w' => len64_lit x w' h1 h2)
  generalize bs (x + 1) = b at LE ⊢
  have e1 : IntKind.u64.wrap (x : Int) = (x : Int) := by
    have hx : x = 1 ∨ x = 2 ∨ x = 3 ∨ x = 4 ∨ x = 5 ∨ x = 6 ∨ x = 7 := by omega
    rcases hx with rfl | rfl | rfl | rfl | rfl | rfl | rfl <;> rfl
  go_enter Try.func64, Try.ntmps64
  go_wp2_with (with_reducible refine (LE.out _).mono ?_; rintro e w' ⟨rfl, rfl⟩)
  go_ret
  exact ⟨rfl, rfl⟩
set_option maxRecDepth 100000 in
set_option maxHeartbeats 2000000 in
theorem bits_any (st : Nat) (w : World) (h1 : 2 ≤ st) (h2 : st ≤ 8) :
    Calls Try.prog 33 #[.int .i64 (st : Int)] w fun e w' => e = .returned (.int .i64 (bs st : Int)) ∧ w' = w := by
  have hx : st = 2 ∨ st = 3 ∨ st = 4 ∨ st = 5 ∨ st = 6 ∨ st = 7 ∨ st = 8 := by omega
  rcases hx with rfl | rfl | rfl | rfl | rfl | rfl | rfl
  · have L := Lib.hid (fun w' => show Calls Try.prog 64 #[.int .u64 1] w' (fun e w'' => e = .returned (.int .i64 1) ∧ w'' = w') from len_lit 1 w' (by decide) (by decide))
    go_enter Try.func33, Try.ntmps33
    go_wp2_with (with_reducible refine (L.out _).mono ?_; rintro e w' ⟨rfl, rfl⟩)
    go_ret
    exact ⟨rfl, rfl⟩
  · have L := Lib.hid (fun w' => show Calls Try.prog 64 #[.int .u64 2] w' (fun e w'' => e = .returned (.int .i64 2) ∧ w'' = w') from len_lit 2 w' (by decide) (by decide))
    go_enter Try.func33, Try.ntmps33
    go_wp2_with (with_reducible refine (L.out _).mono ?_; rintro e w' ⟨rfl, rfl⟩)
    go_ret
    exact ⟨rfl, rfl⟩
  · have L := Lib.hid (fun w' => show Calls Try.prog 64 #[.int .u64 3] w' (fun e w'' => e = .returned (.int .i64 2) ∧ w'' = w') from len_lit 3 w' (by decide) (by decide))
    go_enter Try.func33, Try.ntmps33
    go_wp2_with (with_reducible refine (L.out _).mono ?_; rintro e w' ⟨rfl, rfl⟩)
    go_ret
    exact ⟨rfl, rfl⟩
  · have L := Lib.hid (fun w' => show Calls Try.prog 64 #[.int .u64 4] w' (fun e w'' => e = .returned (.int .i64 3) ∧ w'' = w') from len_lit 4 w' (by decide) (by decide))
    go_enter Try.func33, Try.ntmps33
    go_wp2_with (with_reducible refine (L.out _).mono ?_; rintro e w' ⟨rfl, rfl⟩)
    go_ret
    exact ⟨rfl, rfl⟩
  · have L := Lib.hid (fun w' => show Calls Try.prog 64 #[.int .u64 5] w' (fun e w'' => e = .returned (.int .i64 3) ∧ w'' = w') from len_lit 5 w' (by decide) (by decide))
    go_enter Try.func33, Try.ntmps33
    go_wp2_with (with_reducible refine (L.out _).mono ?_; rintro e w' ⟨rfl, rfl⟩)
    go_ret
    exact ⟨rfl, rfl⟩
  · have L := Lib.hid (fun w' => show Calls Try.prog 64 #[.int .u64 6] w' (fun e w'' => e = .returned (.int .i64 3) ∧ w'' = w') from len_lit 6 w' (by decide) (by decide))
    go_enter Try.func33, Try.ntmps33
    go_wp2_with (with_reducible refine (L.out _).mono ?_; rintro e w' ⟨rfl, rfl⟩)
    go_ret
    exact ⟨rfl, rfl⟩
  · have L := Lib.hid (fun w' => show Calls Try.prog 64 #[.int .u64 7] w' (fun e w'' => e = .returned (.int .i64 3) ∧ w'' = w') from len_lit 7 w' (by decide) (by decide))
    go_enter Try.func33, Try.ntmps33
    go_wp2_with (with_reducible refine (L.out _).mono ?_; rintro e w' ⟨rfl, rfl⟩)
    go_ret
    exact ⟨rfl, rfl⟩
end Go.Proofs.Ytnhkgkpjkgifoaa
