/- Plain mathematics: what a walk leaves is a valid tree that means the same. -/
/- Plain mathematics: the two walks as ways to find elements. -/
/- Plain mathematics: what is planted means what the tree means; Turn, back, and Reduce. -/
import Derived.Test.YthgnjjpkmikokaaDoorBam
import Derived.Test.YthgnjjpkmikokaaDoorReo
import Derived.Test.YthgnjjpkmikokaaDoorBaf
namespace Go.Proofs.YthgnjjpkmikokaaDoor
open Go.RowKit

/-- what a list of nodes leads to -/
def tv {sn : Nat} (out : List (Int × List Int)) : Nat → Int → Env sn → Int
  | 0, i, _ => i
  | l + 1, i, e => tv out l (ig (nxO out i.toNat) (e (l + 1))) e
/-- an index that reads l levels -/
def Vi (sn : Nat) (out : List (Int × List Int)) : Nat → Int → Prop
  | 0, i => 0 ≤ i ∧ i < (sn : Int)
  | l + 1, i => 0 ≤ i ∧ i < (out.length : Int) ∧ lvO out i.toNat = ((l + 1 : Nat) : Int)
/-- valid nodes -/
def Nok (sn lm : Nat) (out : List (Int × List Int)) : Prop := ∀ k, k < out.length → ∃ l, l < lm ∧ lvO out k = ((l + 1 : Nat) : Int) ∧ (nxO out k).length = sn ∧ ∀ s, s < sn → Vi sn out l (ig (nxO out k) s) ∧ (0 < l → ig (nxO out k) s < (k : Int))
section
variable {sn lm : Nat} {out out' : List (Int × List Int)}
theorem lvO_pre (h : out <+: out') {k : Nat} (hk : k < out.length) : lvO out' k = lvO out k ∧ nxO out' k = nxO out k := by
  obtain ⟨m, rfl⟩ := h
  simp [lvO, nxO, List.getD, List.getElem?_append_left hk]
theorem Vi.grow (h : out <+: out') {l : Nat} {i : Int} (hi : Vi sn out l i) : Vi sn out' l i := by
  cases l with
  | zero => exact hi
  | succ l =>
    obtain ⟨h1, h2, h3⟩ := hi
    refine ⟨h1, by have := h.length_le; omega, ?_⟩
    rw [(lvO_pre h (by omega)).1]
    exact h3
theorem tv_grow (h : out <+: out') (hn : Nok sn lm out) : ∀ {l : Nat} {i : Int} {e : Env sn}, Vi sn out l i → tv out' l i e = tv out l i e
  | 0, _, _, _ => rfl
  | l + 1, i, e, ⟨h1, h2, h3⟩ => by
    simp only [tv]
    obtain ⟨l', q1, q2, q3, q4⟩ := hn i.toNat (by omega)
    have : l' = l := by
      rw [h3] at q2
      omega
    subst this
    rw [(lvO_pre h (show i.toNat < out.length by omega)).2]
    exact tv_grow h hn (q4 _ (e (l' + 1)).isLt).1
end
section
variable {sn lm cA : Nat} {σ : Type} {eA : σ → Int → Nat → Option (List Int × σ)} (A : Sys sn lm cA eA)
/-- what was finished -/
def Keys (S : Wk σ) : Prop := S.fin.length = S.out.length ∧ (S.fin.map (·.1)).Nodup ∧ ∀ p ∈ S.fin, ∃ l φ, A.D S.s (l + 1) p.1 φ
/-- what was finished is valid, and means what it should -/
def Outs (S : Wk σ) : Prop := Nok sn lm S.out ∧ ∀ n i, S.fin.lookup n = some i → ∃ l φ, A.D S.s (l + 1) n φ ∧ Vi sn S.out (l + 1) i ∧ ∀ e, tv S.out (l + 1) i e = φ e
variable {A}
theorem lvO_lastX (out : List (Int × List Int)) (x : Int × List Int) : lvO (out ++ [x]) out.length = x.1 ∧ nxO (out ++ [x]) out.length = x.2 := by
  simp [lvO, nxO, List.getD]
theorem lookup_none {f : List (Int × Int)} {n : Int} (h : f.lookup n = none) : n ∉ f.map (·.1) := by
  induction f with
  | nil => simp
  | cons p f ih =>
    obtain ⟨a, b⟩ := p
    simp only [List.lookup] at h
    split at h
    · cases h
    · next q =>
      have : n ≠ a := by simpa using q
      simp only [List.map_cons, List.mem_cons, not_or]
      exact ⟨this, ih h⟩
theorem walk_ok (hs : 0 < sn) (hs8 : sn ≤ 8) : ∀ (l : Nat), l ≤ lm → ∀ (a : Int) (φ : Env sn → Int) (S : Wk σ), A.I S.s → A.D S.s l a φ → A.sz S.s + Vn A.cost l ≤ cA → Keys A S →
    ∃ r S', visitF sn eA l a S = some (r, S') ∧ A.I S'.s ∧ A.le S.s S'.s ∧ A.sz S'.s ≤ A.sz S.s + Vn A.cost l ∧ Keys A S' ∧ S.out <+: S'.out ∧ (∃ add, S'.fin = add ++ S.fin ∧ ∀ p ∈ add, ∃ l' φ', l' < l ∧ A.D S'.s (l' + 1) p.1 φ') ∧
      (S'.out.length ≤ 4096 → Outs A S → Outs A S' ∧ Vi sn S'.out l r ∧ ∀ e, tv S'.out l r e = φ e)
  | 0, _, a, φ, S, iA, dA, _, hk => by
    obtain ⟨z1, z2, z3⟩ := A.zero dA
    exact ⟨a, S, rfl, iA, A.refl _, by simp [Vn], hk, List.prefix_refl _, ⟨[], rfl, by simp⟩, fun _ ho => ⟨ho, ⟨z1, z2⟩, fun e => (z3 e).symm⟩⟩
  | l + 1, hl, a, φ, S, iA, dA, bA, hk => by
    simp only [visitF]
    cases hfa : S.fin.lookup a with
    | some i =>
      refine ⟨i, S, rfl, iA, A.refl _, by omega, hk, List.prefix_refl _, ⟨[], rfl, by simp⟩, fun _ ho => ⟨ho, ?_⟩⟩
      obtain ⟨l', φ', d, v1, v2⟩ := ho.2 a i hfa
      obtain ⟨e1, e2⟩ := A.fn iA dA d
      obtain rfl : l' = l := by omega
      subst e2
      exact ⟨v1, v2⟩
    | none =>
      simp only
      by_cases hc : 4096 < S.out.length
      · rw [if_pos hc]
        exact ⟨0, S, rfl, iA, A.refl _, by omega, hk, List.prefix_refl _, ⟨[], rfl, by simp⟩, fun h _ => by omega⟩
      · rw [if_neg hc]
        simp only [Vn] at bA
        obtain ⟨ra, sa, a1, a2, a3, a4, a5, a6⟩ := A.ok iA dA hl (by omega)
        have row : ∀ (xs : List Int) (ψs : List (Env sn → Int)) (S1 : Wk σ), A.I S1.s → All2 (fun x ψ => A.D S1.s l x ψ) xs ψs → A.sz S1.s + xs.length * Vn A.cost l ≤ cA → Keys A S1 →
            ∃ zs S', rowF (visitF sn eA l) xs S1 = some (zs, S') ∧ A.I S'.s ∧ A.le S1.s S'.s ∧ A.sz S'.s ≤ A.sz S1.s + xs.length * Vn A.cost l ∧ Keys A S' ∧ S1.out <+: S'.out ∧ (∃ add, S'.fin = add ++ S1.fin ∧ ∀ p ∈ add, ∃ l' φ', l' < l ∧ A.D S'.s (l' + 1) p.1 φ') ∧
              (S'.out.length ≤ 4096 → Outs A S1 → Outs A S' ∧ All2 (fun z ψ => Vi sn S'.out l z ∧ ∀ e, tv S'.out l z e = ψ e) zs ψs) := by
          intro xs
          induction xs with
          | nil =>
            intro ψs S1 iA h _ hk
            have : ψs = [] := List.eq_nil_of_length_eq_zero h.1.symm
            subst this
            exact ⟨[], S1, rfl, iA, A.refl _, by simp, hk, List.prefix_refl _, ⟨[], rfl, by simp⟩, fun _ ho => ⟨ho, All2.nil⟩⟩
          | cons x xs ih =>
            intro ψs S1 iA h bA hk
            cases ψs with
            | nil => have := h.1; simp at this
            | cons ψ ψs =>
              simp only [List.length_cons, Nat.add_mul, Nat.one_mul] at bA
              obtain ⟨r, S2, v1, v2, v3, v4, v5, v6, ⟨ad1, v7, v7'⟩, v8⟩ := walk_ok hs hs8 l (by omega) x ψ S1 iA h.head (by omega) hk
              obtain ⟨zs, S3, u1, u2, u3, u4, u5, u6, ⟨ad2, u7, u7'⟩, u8⟩ := ih ψs S2 v2 (h.tail.imp fun _ _ d => A.mono v3 d) (by omega) v5
              refine ⟨r :: zs, S3, by simp [rowF, v1, u1], u2, A.trans v3 u3, ?_, u5, v6.trans u6, ⟨ad2 ++ ad1, by rw [u7, v7, List.append_assoc], fun p hp => ?_⟩, fun h4 ho => ?_⟩
              · simp only [List.length_cons, Nat.add_mul, Nat.one_mul]; omega
              · rcases List.mem_append.1 hp with hp | hp
                · exact u7' p hp
                · obtain ⟨l', φ', q1, q2⟩ := v7' p hp
                  exact ⟨l', φ', q1, A.mono u3 q2⟩
              · have h2 : S2.out.length ≤ 4096 := Nat.le_trans u6.length_le h4
                obtain ⟨o1, o2, o3⟩ := v8 h2 ho
                obtain ⟨p1, p2⟩ := u8 h4 o1
                refine ⟨p1, All2.cons ⟨o2.grow u6, fun e => ?_⟩ p2⟩
                rw [tv_grow u6 o1.1 o2]
                exact o3 e
        have hxl : (ra.take sn).length = sn := by rw [List.length_take]; omega
        have m1 : sn * Vn A.cost l ≤ 8 * Vn A.cost l := Nat.mul_le_mul_right _ hs8
        obtain ⟨zs, S2, u1, u2, u3, u4, u5, u6, ⟨ad, u7, u7'⟩, u8⟩ := row (ra.take sn) ((List.finRange sn).map fun j => fun e => φ (eup e (l + 1) j)) { S with s := sa } a2 ⟨by simp; omega, fun k x ψ hx hy => by
          have hkk : k < sn := by
            rcases Nat.lt_or_ge k sn with h | h
            · exact h
            · rw [List.getElem?_eq_none (by omega)] at hx; cases hx
          rw [List.getElem?_take, if_pos hkk] at hx
          have ex : x = ig ra k := by simp [ig, hx]
          have ey : ψ = fun e => φ (eup e (l + 1) ⟨k, hkk⟩) := by
            rw [List.getElem?_map] at hy
            simp [hkk] at hy
            exact hy.symm
          rw [ex, ey]
          exact a6 ⟨k, hkk⟩⟩ (by simp only [hxl]; omega) ⟨hk.1, hk.2.1, fun p hp => by
            obtain ⟨l', φ', q⟩ := hk.2.2 p hp
            exact ⟨l', φ', A.mono a3 q⟩⟩
        rw [hxl] at u4
        simp only at u4 u3 u6 u7
        have hle := A.trans a3 u3
        rw [a1]
        simp only [Option.bind_some, u1]
        have hnew : a ∉ S2.fin.map (·.1) := by
          rw [u7, List.map_append, List.mem_append]
          rintro (h | h)
          · obtain ⟨p, hp, rfl⟩ := List.mem_map.1 h
            obtain ⟨l', φ', q1, q2⟩ := u7' p hp
            have := (A.fn u2 q2 (A.mono hle dA)).1
            omega
          · exact lookup_none hfa h
        refine ⟨(S2.out.length : Int), { S2 with fin := (a, (S2.out.length : Int)) :: S2.fin, out := S2.out ++ [(((l + 1 : Nat) : Int), zs)] }, rfl, u2, hle, by simp only [Vn]; omega, ⟨by simp [u5.1], ?_, ?_⟩, u6.trans (List.prefix_append _ _), ⟨(a, (S2.out.length : Int)) :: ad, by simp [u7], ?_⟩, ?_⟩
        · simp only [List.map_cons, List.nodup_cons]
          exact ⟨hnew, u5.2.1⟩
        · intro p hp
          rcases List.mem_cons.1 hp with rfl | hp
          · exact ⟨l, φ, A.mono hle dA⟩
          · exact u5.2.2 p hp
        · intro p hp
          rcases List.mem_cons.1 hp with rfl | hp
          · exact ⟨l, φ, by omega, A.mono hle dA⟩
          · obtain ⟨l', φ', q1, q2⟩ := u7' p hp
            exact ⟨l', φ', by omega, q2⟩
        · intro h4 ho
          simp only [List.length_append, List.length_singleton] at h4
          have hoS : Outs A { S with s := sa } := ⟨ho.1, fun n i hn => by
            obtain ⟨l', φ', d, q⟩ := ho.2 n i hn
            exact ⟨l', φ', A.mono a3 d, q⟩⟩
          obtain ⟨p1, p2⟩ := u8 (by omega) hoS
          have hpre : S2.out <+: S2.out ++ [(((l + 1 : Nat) : Int), zs)] := List.prefix_append _ _
          have hzl : zs.length = sn := by have := p2.1; simp at this; exact this
          have hz : ∀ s (h : s < sn), Vi sn S2.out l (ig zs s) ∧ ∀ e, tv S2.out l (ig zs s) e = φ (eup e (l + 1) ⟨s, h⟩) := fun s h => by
            have h1 : zs[s]? = some (ig zs s) := by
              rw [List.getElem?_eq_getElem (by omega)]
              simp [ig, show s < zs.length by omega]
            exact p2.2 s _ _ h1 (by simp [h])
          have hl1 : lvO (S2.out ++ [(((l + 1 : Nat) : Int), zs)]) S2.out.length = ((l + 1 : Nat) : Int) := (lvO_lastX S2.out _).1
          have hn1 : nxO (S2.out ++ [(((l + 1 : Nat) : Int), zs)]) S2.out.length = zs := (lvO_lastX S2.out _).2
          have hnok : Nok sn lm (S2.out ++ [(((l + 1 : Nat) : Int), zs)]) := by
            intro k hkk
            simp only [List.length_append, List.length_singleton] at hkk
            rcases Nat.lt_or_ge k S2.out.length with h | h
            · obtain ⟨l', q1, q2, q3, q4⟩ := p1.1 k h
              obtain ⟨e1, e2⟩ := lvO_pre hpre h
              exact ⟨l', q1, by rw [e1]; exact q2, by rw [e2]; exact q3, fun s hs => by rw [e2]; exact ⟨(q4 s hs).1.grow hpre, (q4 s hs).2⟩⟩
            · obtain rfl : k = S2.out.length := by omega
              refine ⟨l, by omega, hl1, by rw [hn1]; exact hzl, fun s hs => ?_⟩
              rw [hn1]
              refine ⟨(hz s hs).1.grow hpre, fun hl0 => ?_⟩
              obtain ⟨l'', rfl⟩ : ∃ l'', l = l'' + 1 := ⟨l - 1, by omega⟩
              exact (hz s hs).1.2.1
          have hvi : Vi sn (S2.out ++ [(((l + 1 : Nat) : Int), zs)]) (l + 1) (S2.out.length : Int) := ⟨by omega, by simp; omega, by rw [Int.toNat_natCast]; exact hl1⟩
          have htv : ∀ e, tv (S2.out ++ [(((l + 1 : Nat) : Int), zs)]) (l + 1) (S2.out.length : Int) e = φ e := fun e => by
            simp only [tv]
            rw [Int.toNat_natCast, hn1, tv_grow hpre p1.1 (hz _ (e (l + 1)).isLt).1, (hz _ (e (l + 1)).isLt).2 e]
            congr 1
            funext x
            unfold eup
            split
            · next h => rw [h]
            · rfl
          refine ⟨⟨hnok, fun n i hn => ?_⟩, hvi, htv⟩
          simp only [List.lookup] at hn
          split at hn
          · next q =>
            injection hn with hn
            subst hn
            have : n = a := by simpa using q
            subst this
            exact ⟨l, φ, A.mono hle dA, hvi, htv⟩
          · obtain ⟨l', φ', d, q1, q2⟩ := p1.2 n i hn
            refine ⟨l', φ', d, q1.grow hpre, fun e => ?_⟩
            rw [tv_grow hpre p1.1 q1]
            exact q2 e
end
end Go.Proofs.YthgnjjpkmikokaaDoor
namespace Go.Proofs.YthgnjjpkmikokaaDoor
open Go.RowKit

/-- levels, descending -/
def dl : Nat → List Int
  | 0 => []
  | n + 1 => ((n + 1 : Nat) : Int) :: dl n
theorem dl_len (n : Nat) : (dl n).length = n := by
  induction n with
  | zero => rfl
  | succ n ih => simp [dl, ih]
theorem mem_dl {n : Nat} {x : Int} : x ∈ dl n ↔ 1 ≤ x ∧ x ≤ (n : Int) := by
  induction n with
  | zero => simp [dl]; omega
  | succ n ih => simp only [dl, List.mem_cons, ih]; omega
theorem dl_nodup (n : Nat) : (dl n).Nodup := by
  induction n with
  | zero => exact List.nodup_nil
  | succ n ih =>
    refine List.nodup_cons.2 ⟨fun h => ?_, ih⟩
    have := mem_dl.1 h
    omega
/-- an environment by levels -/
def eI {sn : Nat} (e : Env sn) (x : Int) : Nat := (e x.toNat).val
theorem eI_lt {sn : Nat} (e : Env sn) (x : Int) : eI e x < sn := (e x.toNat).isLt
def DN (sn : Nat) (L : List Ndv) (l : Nat) (n : Int) (φ : Env sn → Int) : Prop := Wf sn L (dl l) n ∧ ∀ e, φ e = fv sn L (dl l) n (eI e)
/-- the nodes of a reduced tree -/
def sysN {sn : Nat} (hs : 0 < sn) (hs8 : sn ≤ 8) {L : List Ndv} (hL : L.Nodup) (lm cap : Nat) : Sys sn lm cap (elN (sn : Int) L) where
  I := fun _ => True
  le := fun _ _ => True
  D := fun _ l n φ => DN sn L l n φ
  sz := fun _ => 0
  cost := fun _ => 0
  refl := fun _ => trivial
  trans := fun _ _ => trivial
  mono := fun _ h => h
  inj := fun {s l n n' φ} _ h h' => by
    refine Wf.inj hs hL (dl_nodup _) h.1 h'.1 fun e he => ?_
    have h1 := h.2 (fun x => ⟨e (x : Int), he _⟩)
    have h2 := h'.2 (fun x => ⟨e (x : Int), he _⟩)
    have hc : ∀ n, fv sn L (dl l) n (eI (fun x => (⟨e (x : Int), he _⟩ : Fin sn))) = fv sn L (dl l) n e := fun n => fv_congr fun x hx => by
      have := mem_dl.1 hx
      simp only [eI]
      rw [show ((x.toNat : Nat) : Int) = x by omega]
    rw [hc] at h1 h2
    exact h1.symm.trans h2
  fn := fun {s l l' n φ φ'} _ h h' => by
    have := Wf.levels hs h.1 h'.1
    have hl : l = l' := by rw [← dl_len l, this, dl_len]
    subst hl
    exact ⟨rfl, funext fun e => by rw [h.2, h'.2]⟩
  zero := fun h => ⟨h.1.1, h.1.2, fun e => h.2 e⟩
  ok := fun {s l n φ} _ h hl _ => by
    obtain ⟨nd, w1, w2, w3, w4, w5⟩ := h.1
    refine ⟨nd.r, (), by simp [elN, w1], trivial, trivial, by omega, by simp, fun j => ⟨w4 _ j.isLt, fun e => ?_⟩⟩
    show φ (eup e (l + 1) j) = _
    rw [h.2]
    simp only [dl, fv, w1]
    have h1 : eI (eup e (l + 1) j) ((l + 1 : Nat) : Int) = j.val := by simp [eI, eup]
    rw [h1]
    refine fv_congr fun x hx => ?_
    have := mem_dl.1 hx
    simp only [eI, eup]
    rw [if_neg (by omega)]

/-- a permutation of the positions, seen by levels -/
structure Ord (N : Nat) (os : List Int) (ρ : Int → Nat) (lam : Nat → Int) : Prop where
  len : os.length = N
  lamIs : ∀ l, 1 ≤ l → l ≤ N → lam l = (N : Int) - ig os (N - l)
  lamIn : ∀ l, 1 ≤ l → l ≤ N → 1 ≤ lam l ∧ lam l ≤ (N : Int) ∧ ρ (lam l) = l
  rho : ∀ x : Int, 1 ≤ x → x ≤ (N : Int) → 1 ≤ ρ x ∧ ρ x ≤ N ∧ lam (ρ x) = x
/-- the levels that are left -/
def lsB (N : Nat) (ρ : Int → Nat) (l : Nat) : List Int := (dl N).filter fun x => decide (ρ x ≤ l)
section
variable {N : Nat} {os : List Int} {ρ : Int → Nat} {lam : Nat → Int}
theorem mem_lsB {l : Nat} {x : Int} : x ∈ lsB N ρ l ↔ (1 ≤ x ∧ x ≤ (N : Int)) ∧ ρ x ≤ l := by simp [lsB, mem_dl]
theorem lsB_nodup (l : Nat) : (lsB N ρ l).Nodup := (dl_nodup N).filter _
theorem lsB_all (o : Ord N os ρ lam) : lsB N ρ N = dl N := List.filter_eq_self.2 fun x hx => by
  have := mem_dl.1 hx
  simpa using (o.rho x this.1 this.2).2.1
theorem lsB_zero (o : Ord N os ρ lam) : lsB N ρ 0 = [] := List.filter_eq_nil_iff.2 fun x hx => by
  have := mem_dl.1 hx
  have := (o.rho x this.1 this.2).1
  simp; omega
theorem lsB_erase (o : Ord N os ρ lam) {l : Nat} (hl : l + 1 ≤ N) : (lsB N ρ (l + 1)).erase (lam (l + 1)) = lsB N ρ l := by
  rw [List.Nodup.erase_eq_filter (lsB_nodup _), lsB, List.filter_filter, lsB]
  refine List.filter_congr fun x hx => ?_
  have hx := mem_dl.1 hx
  obtain ⟨r1, r2, r3⟩ := o.rho x hx.1 hx.2
  obtain ⟨l1, l2, l3⟩ := o.lamIn (l + 1) (by omega) hl
  by_cases h : ρ x ≤ l
  · have : x ≠ lam (l + 1) := fun e => by rw [e, l3] at h; omega
    have h2 : ρ x ≤ l + 1 := by omega
    simp [h, h2, this]
  · by_cases h2 : ρ x ≤ l + 1
    · have e : ρ x = l + 1 := by omega
      have h3 : x = lam (l + 1) := by rw [← e, r3]
      have h4 : (x != lam (l + 1)) = false := by simp [h3]
      simp [h, h4]
    · simp [h, h2]
theorem lsB_mem (o : Ord N os ρ lam) {l : Nat} (hl : l + 1 ≤ N) : lam (l + 1) ∈ lsB N ρ (l + 1) := by
  obtain ⟨l1, l2, l3⟩ := o.lamIn (l + 1) (by omega) hl
  exact mem_lsB.2 ⟨⟨l1, l2⟩, by omega⟩
theorem lsB_len (o : Ord N os ρ lam) : ∀ l, l ≤ N → (lsB N ρ l).length = l
  | 0, _ => by rw [lsB_zero o]; rfl
  | l + 1, hl => by
    have h1 := List.length_erase_of_mem (lsB_mem o hl)
    rw [lsB_erase o hl, lsB_len o l (by omega)] at h1
    have := List.length_pos_of_mem (lsB_mem o hl)
    omega
end
def eR {sn : Nat} (ρ : Int → Nat) (e : Env sn) (x : Int) : Nat := (e (ρ x)).val
theorem eR_lt {sn : Nat} (ρ : Int → Nat) (e : Env sn) (x : Int) : eR ρ e x < sn := (e (ρ x)).isLt
def DR (sn N : Nat) (ρ : Int → Nat) (s : List Ndv × Mem) (l : Nat) (n : Int) (φ : Env sn → Int) : Prop := l ≤ N ∧ Wf sn s.1 (lsB N ρ l) n ∧ ∀ e, φ e = fv sn s.1 (lsB N ρ l) n (eR ρ e)
/-- the nodes of a reduced tree that reads the positions in another order -/
def sysR {sn N : Nat} (hs : 0 < sn) (hs8 : sn ≤ 8) {os : List Int} {ρ : Int → Nat} {lam : Nat → Int} (o : Ord N os ρ lam) (hN : N ≤ 40) : Sys sn N 2147483647 (elR sn os) where
  I := fun s => s.1.Nodup ∧ Kn sn ρ s.1 s.2
  le := fun s s' => s.1 <+: s'.1
  D := fun s l n φ => DR sn N ρ s l n φ
  sz := fun s => s.1.length + sn
  cost := fun l => An (l - 1)
  refl := fun _ => List.prefix_refl _
  trans := fun h h' => h.trans h'
  mono := fun h d => ⟨d.1, d.2.1.grow h, fun e => by rw [d.2.2 e, fv_grow h (eR_lt ρ e) d.2.1]⟩
  inj := fun {s l n n' φ} hI h h' => by
    refine Wf.inj hs hI.1 (lsB_nodup l) h.2.1 h'.2.1 fun e he => ?_
    have h1 := h.2.2 (fun x => ⟨e (lam x), he _⟩)
    have h2 := h'.2.2 (fun x => ⟨e (lam x), he _⟩)
    have hc : ∀ n, fv sn s.1 (lsB N ρ l) n (eR ρ (fun x => (⟨e (lam x), he _⟩ : Fin sn))) = fv sn s.1 (lsB N ρ l) n e := fun n => fv_congr fun x hx => by
      have hx := (mem_lsB.1 hx).1
      simp only [eR]
      rw [(o.rho x hx.1 hx.2).2.2]
    rw [hc] at h1 h2
    exact h1.symm.trans h2
  fn := fun {s l l' n φ φ'} hI h h' => by
    have := Wf.levels hs h.2.1 h'.2.1
    have hl : l = l' := by rw [← lsB_len o l h.1, this, lsB_len o l' h'.1]
    subst hl
    exact ⟨rfl, funext fun e => by rw [h.2.2, h'.2.2]⟩
  zero := fun h => by
    obtain ⟨_, h1, h2⟩ := h
    rw [lsB_zero o] at h1 h2
    exact ⟨h1.1, h1.2, fun e => h2 e⟩
  ok := fun {s l n φ} hI h hl hc => by
    obtain ⟨L, K⟩ := s
    obtain ⟨h0, h1, h2⟩ := h
    simp only at h1 h2 hc hI
    have hidx : (lsB N ρ (l + 1)).idxOf (lam (l + 1)) ≤ l := by
      have := List.idxOf_lt_length_of_mem (lsB_mem o hl)
      rw [lsB_len o _ hl] at this
      omega
    have hAn := An_mono hidx
    have hl1 : An (l + 1 - 1) = An l := by rw [Nat.add_sub_cancel]
    rw [hl1] at hc
    obtain ⟨R, L', K', e1, e2, e3, e4, e5, e6⟩ := exam_ok (ρ := ρ) (p := lam (l + 1)) hs hs8 40 (lsB N ρ (l + 1)) n L K (by rw [lsB_len o _ hl]; omega) (lsB_nodup _) h1 (lsB_mem o hl) (fun q hq => by
        rw [(o.lamIn (l + 1) (by omega) hl).2.2]; exact (mem_lsB.1 hq).2) (fun x hx y hy e => by
        have hx := (mem_lsB.1 hx).1
        have hy := (mem_lsB.1 hy).1
        rw [← (o.rho x hx.1 hx.2).2.2, e, (o.rho y hy.1 hy.2).2.2]) hI.1 hI.2 (by omega)
    refine ⟨R, (L', K'), ?_, ⟨e3, e4⟩, e2, by rw [e5.1]; exact hs8, by simp only [hl1]; omega, fun j => ⟨by omega, ?_, fun e => ?_⟩⟩
    · unfold elR
      rw [o.len, ← o.lamIs (l + 1) (by omega) hl]
      exact e1
    · have := (e5.2.1 j j.isLt).1
      rw [lsB_erase o hl] at this
      exact this
    · have := (e5.2.1 j j.isLt).2 (eR ρ e) (eR_lt ρ e)
      rw [lsB_erase o hl] at this
      simp only
      rw [this, h2, ← fv_grow e2 (eR_lt ρ _) h1]
      refine fv_congr fun x hx => ?_
      have hx := (mem_lsB.1 hx).1
      simp only [eR, eup, upd]
      by_cases hxl : x = lam (l + 1)
      · rw [if_pos hxl, hxl, (o.lamIn (l + 1) (by omega) hl).2.2, if_pos rfl]
      · rw [if_neg hxl, if_neg (fun q => hxl (by rw [← (o.rho x hx.1 hx.2).2.2, q]))]
theorem Vn_nine : Vn (fun l => An (l - 1)) 9 ≤ 200000000 := by decide +kernel
theorem Vn_zero : ∀ n, Vn (fun _ => 0) n = 0
  | 0 => rfl
  | n + 1 => by simp [Vn, Vn_zero n]
theorem Vn_mono {c : Nat → Nat} {n m : Nat} (h : n ≤ m) : Vn c n ≤ Vn c m := by
  induction m with
  | zero =>
    obtain rfl : n = 0 := by omega
    exact Nat.le_refl _
  | succ m ih =>
    rcases Nat.lt_or_ge n (m + 1) with q | q
    · have := ih (by omega)
      simp only [Vn]; omega
    · obtain rfl : n = m + 1 := by omega
      exact Nat.le_refl _
end Go.Proofs.YthgnjjpkmikokaaDoor
namespace Go.Proofs.YthgnjjpkmikokaaDoor
open Go.RowKit

/-- what a list of nodes leads to, from a node down -/
def tvx {sn : Nat} (nx : Nat → List Int) : Nat → Int → Env sn → Int
  | 0, i, _ => i
  | l + 1, i, e => tvx nx l (ig (nx i.toNat) (e (l + 1))) e
theorem tv_tvx {sn : Nat} (out : List (Int × List Int)) : ∀ (l : Nat) (i : Int) (e : Env sn), tv out l i e = tvx (nxO out) l i e
  | 0, _, _ => rfl
  | l + 1, i, e => tv_tvx out l _ e
theorem tvx_congr {sn : Nat} (nx : Nat → List Int) : ∀ (l : Nat) (i : Int) (e e' : Env sn), (∀ x, 1 ≤ x → x ≤ l → e x = e' x) → tvx nx l i e = tvx nx l i e'
  | 0, _, _, _, _ => rfl
  | l + 1, i, e, e', h => by
    simp only [tvx]
    rw [h (l + 1) (by omega) (by omega)]
    exact tvx_congr nx l _ e e' fun x h1 h2 => h x h1 (by omega)
/-- the list of states, followed -/
theorem fo_tvx {sn : Nat} (nx : Nat → List Int) (l : List Int) (e : Env sn) (h : ∀ i, i < l.length → ig l i = ((e (l.length - i)).val : Int)) : ∀ (d : Nat), d ≤ l.length → ∀ k, fo nx k (l.drop (l.length - d)) = tvx nx d k e
  | 0, _, k => by simp [fo, tvx]
  | d + 1, hd, k => by
    rw [fo_step nx k (show l.length - (d + 1) < l.length by omega)]
    have := h (l.length - (d + 1)) (by omega)
    rw [this, show l.length - (d + 1) + 1 = l.length - d by omega, fo_tvx nx l e h d (by omega)]
    simp only [tvx]
    rw [show l.length - (l.length - (d + 1)) = d + 1 by omega, Int.toNat_natCast]
/-- the meaning of a tree -/
def Phi {sn : Nat} (T : Tr) (e : Env sn) : Int := tvx T.nx T.n ((T.m - 1 : Nat) : Int) e

theorem plant_ok {sn : Nat} {T : Tr} (hT : Rt T) (hst : T.st = (sn : Int)) : ∀ (i : Nat), i ≤ T.m → ∃ nums L, plantF (sn : Int) T.lv T.nx i [] = some (nums, L) ∧ nums.length = i ∧ L.Nodup ∧ L.length ≤ i ∧ ∀ k, k < i → Wf sn L (dl (T.lv k).toNat) (ig nums k) ∧ ∀ e : Env sn, fv sn L (dl (T.lv k).toNat) (ig nums k) (eI e) = tvx T.nx (T.lv k).toNat (k : Int) e
  | 0, _ => ⟨[], [], rfl, rfl, List.nodup_nil, Nat.le_refl _, fun k hk => absurd hk (by omega)⟩
  | i + 1, hi => by
    obtain ⟨nums, L, p1, p2, p3, p4, p5⟩ := plant_ok hT hst i (by omega)
    obtain ⟨n1, n2, n3, n4⟩ := hT.nd i (by omega)
    have s1 := hT.s1
    have s2 := hT.s2
    have m2 := hT.m2
    have hlen : (T.nx i).length = sn := by omega
    obtain ⟨r, L', a1, a2, a3, a4, a5⟩ := addF_ok (sn := sn) (n := pn (T.lv i) nums (T.nx i) (T.nx i).length) p3 (by omega)
    obtain ⟨l, hl⟩ : ∃ l : Nat, T.lv i = ((l + 1 : Nat) : Int) := ⟨(T.lv i).toNat - 1, by omega⟩
    have hgr : ∀ k, k < i → ig (nums ++ [r]) k = ig nums k := fun k hk => by simp [ig, List.getD, List.getElem?_append_left (show k < nums.length by omega)]
    have hgl : ig (nums ++ [r]) i = r := by simp [ig, List.getD, p2]
    have hcell : ∀ s, s < sn → ig (pn (T.lv i) nums (T.nx i) (T.nx i).length).r s = pv (T.lv i) nums (ig (T.nx i) s) := fun s hs => by
      have h1 : s < (T.nx i).length := by omega
      have h2 : s < (((T.nx i).take (T.nx i).length).map (pv (T.lv i) nums)).length := by rw [List.length_map, List.take_length]; exact h1
      show (((T.nx i).take (T.nx i).length).map (pv (T.lv i) nums) ++ List.replicate (8 - (T.nx i).length) 0).getD s 0 = _
      rw [List.getD, List.getElem?_append_left h2]
      simp [ig, h1]
    have hzero : ∀ s, sn ≤ s → ig (pn (T.lv i) nums (T.nx i) (T.nx i).length).r s = 0 := fun s hs => by
      have h2 : (((T.nx i).take (T.nx i).length).map (pv (T.lv i) nums)).length ≤ s := by rw [List.length_map, List.take_length]; omega
      show (((T.nx i).take (T.nx i).length).map (pv (T.lv i) nums) ++ List.replicate (8 - (T.nx i).length) 0).getD s 0 = _
      rw [List.getD, List.getElem?_append_right h2, List.getElem?_replicate]
      split <;> rfl
    have hchild : ∀ s, s < sn → Wf sn L (dl l) (pv (T.lv i) nums (ig (T.nx i) s)) ∧ ∀ e : Env sn, fv sn L (dl l) (pv (T.lv i) nums (ig (T.nx i) s)) (eI e) = tvx T.nx l (ig (T.nx i) s) e := fun s hs => by
      obtain ⟨e1, e2, e3⟩ := n4 s (by omega)
      by_cases h1 : 1 < T.lv i
      · obtain ⟨e4, e5⟩ := e3 h1
        simp only [pv, if_pos h1]
        obtain ⟨q1, q2⟩ := p5 (ig (T.nx i) s).toNat (by omega)
        have hll : (T.lv (ig (T.nx i) s).toNat).toNat = l := by rw [e5]; omega
        rw [hll, show (((ig (T.nx i) s).toNat : Nat) : Int) = ig (T.nx i) s by omega] at q2
        rw [hll] at q1
        exact ⟨q1, q2⟩
      · have h2 : T.lv i = 1 := by omega
        obtain rfl : l = 0 := by omega
        simp only [pv, if_neg h1]
        have := e2 h2
        exact ⟨⟨e1, by omega⟩, fun e => rfl⟩
    refine ⟨nums ++ [r], L', ?_, by simp [p2], a3, by omega, fun k hk => ?_⟩
    · simp only [plantF, p1, Option.bind_some, a1]
    · rcases Nat.lt_or_ge k i with h | h
      · rw [hgr k h]
        obtain ⟨q1, q2⟩ := p5 k h
        exact ⟨q1.grow a2, fun e => by rw [fv_grow a2 (eI_lt e) q1]; exact q2 e⟩
      · obtain rfl : k = i := by omega
        rw [hgl, hl]
        simp only [Int.toNat_natCast, dl]
        have hW : Wf sn L' (((l + 1 : Nat) : Int) :: dl l) r := by
          refine ⟨_, a5, hl, pn_len (Nat.le_refl _) (by omega), fun s hs => ?_, hzero⟩
          rw [hcell s hs]
          exact (hchild s hs).1.grow a2
        refine ⟨hW, fun e => ?_⟩
        simp only [fv, a5, tvx, Int.toNat_natCast]
        have hee : eI e ((l + 1 : Nat) : Int) = (e (l + 1)).val := by simp [eI]
        rw [hee, hcell _ (e (l + 1)).isLt, fv_grow a2 (eI_lt e) (hchild _ (e (l + 1)).isLt).1]
        exact (hchild _ (e (l + 1)).isLt).2 e
/-- the whole tree is planted -/
theorem plant_all {sn : Nat} {T : Tr} (hT : Rt T) (hst : T.st = (sn : Int)) : ∃ nums L, plantF (sn : Int) T.lv T.nx T.m [] = some (nums, L) ∧ L.Nodup ∧ L.length ≤ T.m ∧ DN sn L T.n (ig nums (T.m - 1)) (Phi T) := by
  obtain ⟨nums, L, p1, p2, p3, p4, p5⟩ := plant_ok hT hst T.m (Nat.le_refl _)
  have m1 := hT.m1
  obtain ⟨q1, q2⟩ := p5 (T.m - 1) (by omega)
  rw [hT.top, Int.toNat_natCast] at q1 q2
  exact ⟨nums, L, p1, p3, p4, q1, fun e => (q2 e).symm⟩
/-- the environment that another order gives -/
def eT {sn : Nat} (ρ : Int → Nat) (e : Env sn) : Env sn := fun x => e (ρ (x : Int))
theorem DR_of {sn N : Nat} {L : List Ndv} {os : List Int} {ρ : Int → Nat} {lam : Nat → Int} (o : Ord N os ρ lam) {n : Int} {φ : Env sn → Int} (h : DN sn L N n φ) (K : Mem) : DR sn N ρ (L, K) N n (fun e => φ (eT ρ e)) := by
  refine ⟨Nat.le_refl _, by rw [lsB_all o]; exact h.1, fun e => ?_⟩
  rw [lsB_all o]
  show φ (eT ρ e) = _
  rw [h.2]
  refine fv_congr fun x hx => ?_
  have := mem_dl.1 hx
  simp only [eI, eT, eR]
  rw [show ((x.toNat : Nat) : Int) = x by omega]
/-- the root is the last node -/
theorem visit_root {σ : Type} {sn : Nat} {el : σ → Int → Nat → Option (List Int × σ)} {l : Nat} {n r : Int} {s : σ} {S' : Wk σ} (h : visitF sn el (l + 1) n ⟨s, [], []⟩ = some (r, S')) : 1 ≤ S'.out.length ∧ r = ((S'.out.length - 1 : Nat) : Int) := by
  simp only [visitF, List.lookup, List.length_nil] at h
  rw [if_neg (by omega)] at h
  cases he : el s n (l + 1) with
  | none => rw [he] at h; cases h
  | some p =>
    obtain ⟨own, e⟩ := p
    rw [he] at h
    simp only [Option.bind_some] at h
    cases hr : rowF (visitF sn el l) (own.take sn) (⟨e, [], []⟩ : Wk σ) with
    | none => rw [hr] at h; cases h
    | some q =>
      obtain ⟨next, S2⟩ := q
      rw [hr] at h
      simp only [Option.bind_some, Option.some.injEq, Prod.mk.injEq] at h
      obtain ⟨rfl, rfl⟩ := h
      simp
theorem length_le_of_lt : ∀ (m : Nat) (l : List Nat), l.Nodup → (∀ x ∈ l, x < m) → l.length ≤ m
  | 0, l, _, h => by
    cases l with
    | nil => simp
    | cons a l => have := h a (by simp); omega
  | m + 1, l, hd, h => by
    have h1 := length_le_of_lt m (l.erase m) (hd.erase m) (fun x hx => by
      have h2 := h x (List.mem_of_mem_erase hx)
      have h3 : x ≠ m := fun e => by
        subst e
        exact (List.Nodup.not_mem_erase hd) hx
      omega)
    by_cases hm : m ∈ l
    · have := List.length_erase_of_mem hm
      omega
    · rw [List.erase_of_not_mem hm] at h1
      omega
/-- a tree of finished nodes -/
def trO (sn n : Nat) (f : Nat → P2) (out : List (Int × List Int)) : Tr := ⟨(sn : Int), n, f, out.length, lvO out, nxO out⟩
theorem rt_out {sn n : Nat} {f : Nat → P2} {out : List (Int × List Int)} {r : Int} (h1 : 2 ≤ sn) (h2 : sn ≤ 8) (hd : Hd f n) (hn : Nok sn n out) (hl1 : 1 ≤ out.length) (hl2 : out.length ≤ 4096) (hr : r = ((out.length - 1 : Nat) : Int)) (hv : Vi sn out n r) : Rt (trO sn n f out) := by
  refine ⟨by show (2 : Int) ≤ (sn : Int); omega, by show (sn : Int) ≤ 8; omega, hd, hl1, hl2, fun i hi => ?_, ?_⟩
  · obtain ⟨l, q1, q2, q3, q4⟩ := hn i hi
    refine ⟨by show 1 ≤ lvO out i; omega, by show lvO out i ≤ (n : Int); omega, by show ((nxO out i).length : Int) = (sn : Int); omega, fun s hs => ?_⟩
    have hs : s < sn := by
      have : s < (nxO out i).length := hs
      omega
    obtain ⟨v1, v2⟩ := q4 s hs
    show El (sn : Int) (lvO out) i (lvO out i) (ig (nxO out i) s)
    rw [q2]
    cases l with
    | zero => exact ⟨v1.1, fun _ => v1.2, fun h => absurd h (by simp)⟩
    | succ l =>
      obtain ⟨w1, w2, w3⟩ := v1
      exact ⟨w1, fun h => by omega, fun _ => ⟨v2 (by omega), by rw [w3]; omega⟩⟩
  · obtain ⟨n', rfl⟩ : ∃ n', n = n' + 1 := ⟨n - 1, by have := hd.1.1; omega⟩
    obtain ⟨_, _, v3⟩ := hv
    rw [hr, Int.toNat_natCast] at v3
    exact v3
/-- no more nodes than the forest has -/
theorem keys_len {sn lm cap : Nat} {L : List Ndv} (hs : 0 < sn) (hs8 : sn ≤ 8) (hL : L.Nodup) {S : Wk Unit} (h : Keys (sysN hs hs8 hL lm cap) S) : S.out.length ≤ L.length := by
  obtain ⟨h1, h2, h3⟩ := h
  rw [← h1]
  have key : ∀ p ∈ S.fin, (sn : Int) ≤ p.1 ∧ (p.1 - (sn : Int)).toNat < L.length := fun p hp => by
    obtain ⟨l, φ, hd⟩ := h3 p hp
    obtain ⟨nd, w1, _⟩ := hd.1
    unfold nodeF at w1
    split at w1
    · next q =>
      refine ⟨q, ?_⟩
      rcases Nat.lt_or_ge (p.1 - (sn : Int)).toNat L.length with h | h
      · exact h
      · rw [List.getElem?_eq_none h] at w1; cases w1
    · cases w1
  have := length_le_of_lt L.length (S.fin.map fun p => (p.1 - (sn : Int)).toNat) ?_ ?_
  · simpa using this
  · rw [List.nodup_iff_pairwise_ne, List.pairwise_map] at h2 ⊢
    refine List.Pairwise.imp_of_mem ?_ h2
    intro a b ha hb hne e
    have := (key a ha).1
    have := (key b hb).1
    omega
  · intro x hx
    obtain ⟨p, hp, rfl⟩ := List.mem_map.1 hx
    exact (key p hp).2
theorem reduce_walk {sn : Nat} {T : Tr} {nums : List Int} {L : List Ndv} (hT : Rt T) (hst : T.st = (sn : Int)) (hL : L.Nodup) (hD : DN sn L T.n (ig nums (T.m - 1)) (Phi T)) (hl : L.length ≤ T.m) :
    ∃ r S', visitF sn (elN (sn : Int) L) T.n (ig nums (T.m - 1)) ⟨(), [], []⟩ = some (r, S') ∧ S'.out.length ≤ L.length ∧ 1 ≤ S'.out.length ∧ Nok sn T.n S'.out ∧ r = ((S'.out.length - 1 : Nat) : Int) ∧ Vi sn S'.out T.n r ∧ ∀ e : Env sn, tvx (nxO S'.out) T.n r e = Phi T e := by
  have s1 := hT.s1
  have s2 := hT.s2
  have m2 := hT.m2
  have hd := hT.hd.1.1
  obtain ⟨r, S', w1, _, _, _, w5, _, _, w8⟩ := walk_ok (A := sysN (by omega) (by omega) hL T.n 0) (by omega) (by omega) T.n (Nat.le_refl _) (ig nums (T.m - 1)) (Phi T) ⟨(), [], []⟩ trivial hD (by rw [show (sysN (sn := sn) (by omega) (by omega) hL T.n 0).cost = fun _ => 0 from rfl, Vn_zero]; exact Nat.le_refl _) ⟨rfl, List.nodup_nil, by simp⟩
  have hlen := keys_len _ _ _ w5
  obtain ⟨o1, o2, o3⟩ := w8 (by omega) ⟨fun k hk => absurd hk (by simp), fun n i h => by simp at h⟩
  obtain ⟨n', hn'⟩ : ∃ n', T.n = n' + 1 := ⟨T.n - 1, by omega⟩
  have hroot := visit_root (by rw [hn'] at w1; exact w1)
  exact ⟨r, S', w1, hlen, hroot.1, o1.1, hroot.2, o2, fun e => by rw [← tv_tvx]; exact o3 e⟩
theorem turn_walk {sn : Nat} {T : Tr} {nums : List Int} {L : List Ndv} {os : List Int} {ρ : Int → Nat} {lam : Nat → Int} (o : Ord T.n os ρ lam) (h9 : T.n ≤ 9) (hT : Rt T) (hst : T.st = (sn : Int)) (hL : L.Nodup) (hD : DN sn L T.n (ig nums (T.m - 1)) (Phi T)) (hl : L.length ≤ T.m) :
    ∃ r S', visitF sn (elR sn os) T.n (ig nums (T.m - 1)) ⟨(L, []), [], []⟩ = some (r, S') ∧ 1 ≤ S'.out.length ∧ r = ((S'.out.length - 1 : Nat) : Int) ∧ (S'.out.length ≤ 4096 → Nok sn T.n S'.out ∧ Vi sn S'.out T.n r ∧ ∀ e : Env sn, tvx (nxO S'.out) T.n r e = Phi T (eT ρ e)) := by
  have s1 := hT.s1
  have s2 := hT.s2
  have m2 := hT.m2
  have hd := hT.hd.1.1
  have hV : Vn (fun l => An (l - 1)) T.n ≤ 200000000 := Nat.le_trans (Vn_mono h9) Vn_nine
  obtain ⟨r, S', w1, _, _, _, w5, _, _, w8⟩ := walk_ok (A := sysR (by omega) (by omega) o (by omega)) (by omega) (by omega) T.n (Nat.le_refl _) (ig nums (T.m - 1)) _ ⟨(L, []), [], []⟩ ⟨hL, fun n R h => by simp at h⟩ (DR_of o hD []) (by
    show L.length + sn + Vn (fun l => An (l - 1)) T.n ≤ 2147483647
    omega) ⟨rfl, List.nodup_nil, by simp⟩
  obtain ⟨n', hn'⟩ : ∃ n', T.n = n' + 1 := ⟨T.n - 1, by omega⟩
  have hroot := visit_root (by rw [hn'] at w1; exact w1)
  refine ⟨r, S', w1, hroot.1, hroot.2, fun h4 => ?_⟩
  obtain ⟨o1, o2, o3⟩ := w8 h4 ⟨fun k hk => absurd hk (by simp), fun n i h => by simp at h⟩
  exact ⟨o1.1, o2, fun e => by rw [← tv_tvx]; exact o3 e⟩
/-- turned back, it is the reduced tree -/
theorem back_walk {sn : Nat} {T U : Tr} {numsT numsU : List Int} {LT LU : List Ndv} {os : List Int} {ρ ρ' : Int → Nat} {lam : Nat → Int} (hn : U.n = T.n) (o : Ord T.n os ρ' lam) (h9 : T.n ≤ 9) (hT : Rt T) (hU : Rt U) (hst : T.st = (sn : Int)) (hLT : LT.Nodup) (hLU : LU.Nodup) (hDT : DN sn LT T.n (ig numsT (T.m - 1)) (Phi T)) (hDU : DN sn LU T.n (ig numsU (U.m - 1)) (Phi U)) (hlU : LU.length ≤ U.m)
    (hP : ∀ e : Env sn, Phi U e = Phi T (eT ρ e)) (hρ : ∀ x : Int, 1 ≤ x → x ≤ (T.n : Int) → (ρ' (ρ x : Int) : Int) = x) {r : Int} {S : Wk Unit} (hv : visitF sn (elN (sn : Int) LT) T.n (ig numsT (T.m - 1)) ⟨(), [], []⟩ = some (r, S)) :
    ∃ S', visitF sn (elR sn os) T.n (ig numsU (U.m - 1)) ⟨(LU, []), [], []⟩ = some (r, S') ∧ S'.out = S.out := by
  have s1 := hT.s1
  have s2 := hT.s2
  have m2 := hU.m2
  have hV : Vn (fun l => An (l - 1)) T.n ≤ 200000000 := Nat.le_trans (Vn_mono h9) Vn_nine
  have hphi : (fun e : Env sn => Phi U (eT ρ' e)) = Phi T := by
    funext e
    rw [hP]
    unfold Phi
    refine tvx_congr _ _ _ _ _ fun x h1 h2 => ?_
    show e (ρ' ((ρ (x : Int) : Nat) : Int)) = e x
    have := hρ (x : Int) (by omega) (by omega)
    congr 1
    omega
  have hDR := DR_of o hDU []
  rw [hphi] at hDR
  obtain ⟨r', S1, S2, b1, b2, _, _, _, _, _, b8, _, _⟩ := bisim (A := sysN (by omega) (by omega) hLT T.n 0) (B := sysR (by omega) (by omega) o (by omega)) (by omega) (by omega) T.n (Nat.le_refl _) (ig numsT (T.m - 1)) (ig numsU (U.m - 1)) (Phi T) ⟨(), [], []⟩ ⟨(LU, []), [], []⟩ trivial ⟨hLU, fun n R h => by simp at h⟩ hDT hDR All2.nil rfl
    (by rw [show (sysN (sn := sn) (by omega) (by omega) hLT T.n 0).cost = fun _ => 0 from rfl, Vn_zero]; exact Nat.le_refl _) (by
    show LU.length + sn + Vn (fun l => An (l - 1)) T.n ≤ 2147483647
    omega)
  rw [hv] at b1
  simp only [Option.some.injEq, Prod.mk.injEq] at b1
  obtain ⟨rfl, rfl⟩ := b1
  exact ⟨S2, b2, b8.symm⟩
end Go.Proofs.YthgnjjpkmikokaaDoor
