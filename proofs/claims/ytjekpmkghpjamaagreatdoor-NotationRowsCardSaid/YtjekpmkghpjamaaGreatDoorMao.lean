/- Plain mathematics: what examine reckons is right. -/
/- Plain mathematics: what a walk leaves is a valid tree that means the same. -/
import Derived.Test.YtjekpmkghpjamaaGreatDoorMaj
import Derived.Test.YtjekpmkghpjamaaGreatDoorMae
import Derived.Test.YtjekpmkghpjamaaGreatDoorMab
import Derived.Test.YtjekpmkghpjamaaGreatDoorMaa
import Derived.Test.YtjekpmkghpjamaaGreatDoorMak
import Derived.Test.YtjekpmkghpjamaaGreatDoorMag
import Derived.Test.YtjekpmkghpjamaaGreatDoorMah
import Derived.Below
import Derived.BigQuiet
import Derived.Carry
import Derived.Deep.AppendLies
import Derived.Deep.CutRange
import Derived.Deep.Draws
import Derived.Deep.QuietTactic
import Derived.Deep.RegionHeldLaw
import Derived.Deep.RegionLaw
import Derived.DeepKeys4
import Derived.IntWalk
import Derived.Laws.MakeOwn
import Derived.Laws.OwnMore
import Derived.Laws.Rows
import Derived.Lib.Hide
import Derived.LoopN
import Derived.Maps.OwnOps
import Derived.OwnWalk
import Derived.Shelf.Abstract
import Derived.Sort.Statements
import Derived.StillTail
import Derived.StillTailTactics
import Derived.Test.YtjekpmkghpjamaaGreatDoorRows
import Derived.WalkKit
namespace Go.Proofs.YtjekpmkghpjamaaGreatDoor
open Go.RowKit
theorem exam_ok {sn : Nat} {ρ : Int → Nat} {p : Int} (hs : 0 < sn) (hs8 : sn ≤ 8) : ∀ (f : Nat) (ls : List Int) (n : Int) (L : List Ndv) (K : Mem), ls.length ≤ f → ls.Nodup → Wf sn L ls n → p ∈ ls → (∀ q ∈ ls, ρ q ≤ ρ p) → (∀ x ∈ ls, ∀ y ∈ ls, ρ x = ρ y → x = y) → L.Nodup → Kn sn ρ L K → sn + L.length + An (ls.idxOf p) < 2147483648 →
    ∃ R L' K', examF sn p f n (L, K) = some (R, (L', K')) ∧ L <+: L' ∧ L'.Nodup ∧ Kn sn ρ L' K' ∧ Good sn L' ls n p R ∧ L'.length ≤ L.length + An (ls.idxOf p)
  | 0, ls, n, L, K, hf, _, _, hp, _, _, _, _, _ => by
    have : ls = [] := List.eq_nil_of_length_eq_zero (by omega)
    subst this
    cases hp
  | f + 1, [], n, L, K, _, _, _, hp, _, _, _, _, _ => by cases hp
  | f + 1, l :: ls, n, L, K, hf, hd, hw, hp, hm, hi, hL, hK, hb => by
    obtain ⟨nd, w1, w2, w3, w4, w5⟩ := id hw
    obtain ⟨hl, hd'⟩ := List.nodup_cons.1 hd
    simp only [examF, w1, Option.bind_some]
    by_cases e : nd.lv = p
    · rw [if_pos e]
      have hlp : l = p := by rw [← w2, e]
      subst hlp
      refine ⟨nd.r, L, K, rfl, List.prefix_refl _, hL, hK, ⟨w3, fun j hj => ?_, w5⟩, by omega⟩
      rw [List.erase_cons_head]
      refine ⟨w4 j hj, fun e' he => ?_⟩
      simp only [fv, w1]
      have hu : upd e' l j l = j := by simp [upd]
      rw [hu]
      refine fv_congr fun x hx => ?_
      have : x ≠ l := fun q => hl (by rw [← q]; exact hx)
      simp [upd, this]
    · rw [if_neg e]
      have hlp : l ≠ p := fun q => e (by rw [w2, q])
      have hp' : p ∈ ls := by
        rcases List.mem_cons.1 hp with q | q
        · exact absurd q.symm hlp
        · exact q
      have hidx : (l :: ls).idxOf p = ls.idxOf p + 1 := by
        rw [List.idxOf_cons]
        have : (l == p) = false := by simp [hlp]
        rw [this]
        rfl
      rw [hidx] at hb ⊢
      cases hk : K.lookup n with
      | some R =>
        obtain ⟨ls2, p2, a1, a2, a3, a4⟩ := hK n R hk
        have := Wf.levels hs hw a1
        subst this
        have hpp : p2 = p := hi _ a2 _ hp (Nat.le_antisymm (hm _ a2) (a3 _ hp))
        subst hpp
        exact ⟨R, L, K, rfl, List.prefix_refl _, hL, hK, a4, by omega⟩
      | none =>
        simp only
        generalize hd0 : ls.idxOf p = d at hb ⊢
        have hAn : An (d + 1) = 8 + 8 * An d := rfl
        have hlen : (nd.r.take sn).take sn = nd.r.take sn := by rw [List.take_take, Nat.min_self]
        have key : ∀ k, k ≤ sn → ∃ rows L1 K1, rowF (examF sn p f) ((nd.r.take sn).take k) (L, K) = some (rows, (L1, K1)) ∧ L <+: L1 ∧ L1.Nodup ∧ Kn sn ρ L1 K1 ∧ rows.length = k ∧ L1.length ≤ L.length + k * An d ∧ ∀ j, j < k → Good sn L1 ls (ig nd.r j) p (rows.getD j []) := by
          intro k
          induction k with
          | zero => intro _; exact ⟨[], L, K, by simp [rowF], List.prefix_refl _, hL, hK, rfl, by omega, fun j hj => absurd hj (by omega)⟩
          | succ k ih =>
            intro hk
            obtain ⟨rows, L1, K1, r1, r2, r3, r4, r5, r6, r7⟩ := ih (by omega)
            have hk8 : k * An d ≤ 7 * An d := Nat.mul_le_mul_right _ (by omega)
            obtain ⟨R, L2, K2, q1, q2, q3, q4, q5, q6⟩ := exam_ok hs hs8 f ls (ig nd.r k) L1 K1 (by have : ls.length + 1 ≤ f + 1 := hf; omega) hd' ((w4 k (by omega)).grow r2) hp' (fun q hq => hm q (by simp [hq])) (fun x hx y hy => hi x (by simp [hx]) y (by simp [hy])) r3 r4 (by rw [hd0]; omega)
            rw [hd0] at q6
            have e1 : (nd.r.take sn).take (k + 1) = (nd.r.take sn).take k ++ [ig nd.r k] := by
              have hk9 : k < (nd.r.take sn).length := by rw [List.length_take]; omega
              rw [List.take_succ_eq_append_getElem hk9]
              congr 1
              simp [ig, show k < nd.r.length by omega]
            refine ⟨rows ++ [R], L2, K2, ?_, r2.trans q2, q3, q4, by simp [r5], ?_, fun j hj => ?_⟩
            · rw [e1, rowF_push, r1]
              simp [q1]
            · rw [Nat.add_mul]; omega
            · rcases Nat.lt_or_ge j k with h | h
              · have : (rows ++ [R]).getD j [] = rows.getD j [] := by simp [List.getD, List.getElem?_append_left (show j < rows.length by omega)]
                rw [this]
                exact (r7 j h).grow q2 ((w4 j (by omega)).grow r2)
              · obtain rfl : j = k := by omega
                have : (rows ++ [R]).getD j [] = R := by simp [List.getD, r5]
                rw [this]
                exact q5
        obtain ⟨rows, L1, K1, r1, r2, r3, r4, r5, r6, r7⟩ := key sn (Nat.le_refl _)
        rw [hlen] at r1
        have hsd : sn * An d ≤ 8 * An d := Nat.mul_le_mul_right _ hs8
        obtain ⟨res, L2, c1, c2, c3, c4, c5, c6⟩ := cols_ok (sn := sn) (lv := nd.lv) (rows := rows) sn L1 r3 (by omega)
        rw [r1]
        simp only [Option.bind_some, c1]
        have hg : Good sn L2 (l :: ls) n p (res ++ List.replicate (8 - sn) 0) := by
          refine ⟨by simp; omega, fun j hj => ?_, fun j hj => ?_⟩
          · have hir : ig (res ++ List.replicate (8 - sn) 0) j = ig res j := by simp [ig, List.getD, List.getElem?_append_left (show j < res.length by omega)]
            have hera : (l :: ls).erase p = l :: ls.erase p := List.erase_cons_tail (by simpa using hlp)
            rw [hir, hera]
            have hcol : ∀ s, s < sn → ig (colN nd.lv rows j).r s = ig (rows.getD s []) j := fun s hs' => by
              have hsl : s < rows.length := by omega
              show ((rows.map fun r => ig r j) ++ List.replicate (8 - rows.length) 0).getD s 0 = _
              rw [List.getD, List.getElem?_append_left (by rw [List.length_map]; exact hsl)]
              simp [List.getD, hsl]
            have hW : Wf sn L2 (l :: ls.erase p) (ig res j) := by
              refine ⟨_, c6 j hj, w2, by simp [colN]; omega, fun s hs' => ?_, fun s hs' => ?_⟩
              · rw [hcol s hs']
                exact ((r7 s hs').2.1 j hj).1.grow c2
              · simp only [colN, ig, List.getD]
                rw [List.getElem?_append_right (by simp; omega), List.getElem?_replicate]
                split <;> rfl
            refine ⟨hW, fun e' he => ?_⟩
            simp only [fv, c6 j hj]
            rw [hcol _ (he l), fv_grow c2 he ((r7 _ (he l)).2.1 j hj).1, ((r7 _ (he l)).2.1 j hj).2 e' he]
            rw [nodeF_grow (r2.trans c2) w1]
            simp only
            have hu : upd e' p j l = e' l := by simp [upd, hlp]
            rw [hu]
            exact (fv_grow c2 (upd_lt he hj) ((w4 _ (he l)).grow r2)).symm
          · simp only [ig, List.getD]
            rw [List.getElem?_append_right (by omega), List.getElem?_replicate]
            split <;> rfl
        refine ⟨_, L2, _, rfl, r2.trans c2, c3, ?_, hg, by omega⟩
        intro m R hm'
        simp only [List.lookup] at hm'
        split at hm'
        · next q =>
          injection hm' with hm'
          subst hm'
          have : m = n := by simpa using q
          subst this
          exact ⟨l :: ls, p, hw.grow (r2.trans c2), hp, hm, hg⟩
        · exact r4.grow c2 m R hm'
end Go.Proofs.YtjekpmkghpjamaaGreatDoor
namespace Go.Proofs.YtjekpmkghpjamaaGreatDoor
open Go.RowKit
/-- what a list of nodes leads to -/
def tv {sn : Nat} (out : List (Int × List Int)) : Nat → Int → Env sn → Int
  | 0, i, _ => i
  | l + 1, i, e => tv out l (ig (nxO out i.toNat) (e (l + 1))) e
/-- an index that reads l levels -/
def Vi (sn : Nat) (out : List (Int × List Int)) : Nat → Int → Prop
  | 0, i => 0 ≤ i ∧ i < (sn : Int)
  | l + 1, i => 0 ≤ i ∧ i < (out.length : Int) ∧ lvO out i.toNat = ((l + 1 : Nat) : Int)
/-- valid nodes -/
def Nok (sn lm : Nat) (out : List (Int × List Int)) : Prop := ∀ k, k < out.length → ∃ l, l < lm ∧ lvO out k = ((l + 1 : Nat) : Int) ∧ (nxO out k).length = sn ∧ ∀ s, s < sn → Vi sn out l (ig (nxO out k) s) ∧ (0 < l → ig (nxO out k) s < (k : Int))
section
variable {sn lm : Nat} {out out' : List (Int × List Int)}
theorem lvO_pre (h : out <+: out') {k : Nat} (hk : k < out.length) : lvO out' k = lvO out k ∧ nxO out' k = nxO out k := by
  obtain ⟨m, rfl⟩ := h
  simp [lvO, nxO, List.getD, List.getElem?_append_left hk]
theorem Vi.grow (h : out <+: out') {l : Nat} {i : Int} (hi : Vi sn out l i) : Vi sn out' l i := by
  cases l with
  | zero => exact hi
  | succ l =>
    obtain ⟨h1, h2, h3⟩ := hi
    refine ⟨h1, by have := h.length_le; omega, ?_⟩
    rw [(lvO_pre h (by omega)).1]
    exact h3
theorem tv_grow (h : out <+: out') (hn : Nok sn lm out) : ∀ {l : Nat} {i : Int} {e : Env sn}, Vi sn out l i → tv out' l i e = tv out l i e
  | 0, _, _, _ => rfl
  | l + 1, i, e, ⟨h1, h2, h3⟩ => by
    simp only [tv]
    obtain ⟨l', q1, q2, q3, q4⟩ := hn i.toNat (by omega)
    have : l' = l := by
      rw [h3] at q2
      omega
    subst this
    rw [(lvO_pre h (show i.toNat < out.length by omega)).2]
    exact tv_grow h hn (q4 _ (e (l' + 1)).isLt).1
end
section
variable {sn lm cA : Nat} {σ : Type} {eA : σ → Int → Nat → Option (List Int × σ)} (A : Sys sn lm cA eA)
/-- what was finished -/
def Keys (S : Wk σ) : Prop := S.fin.length = S.out.length ∧ (S.fin.map (·.1)).Nodup ∧ ∀ p ∈ S.fin, ∃ l φ, A.D S.s (l + 1) p.1 φ
/-- what was finished is valid, and means what it should -/
def Outs (S : Wk σ) : Prop := Nok sn lm S.out ∧ ∀ n i, S.fin.lookup n = some i → ∃ l φ, A.D S.s (l + 1) n φ ∧ Vi sn S.out (l + 1) i ∧ ∀ e, tv S.out (l + 1) i e = φ e
variable {A}
theorem lvO_lastX (out : List (Int × List Int)) (x : Int × List Int) : lvO (out ++ [x]) out.length = x.1 ∧ nxO (out ++ [x]) out.length = x.2 := by
  simp [lvO, nxO, List.getD]
theorem lookup_none {f : List (Int × Int)} {n : Int} (h : f.lookup n = none) : n ∉ f.map (·.1) := by
  induction f with
  | nil => simp
  | cons p f ih =>
    obtain ⟨a, b⟩ := p
    simp only [List.lookup] at h
    split at h
    · cases h
    · next q =>
      have : n ≠ a := by simpa using q
      simp only [List.map_cons, List.mem_cons, not_or]
      exact ⟨this, ih h⟩
theorem walk_ok (hs : 0 < sn) (hs8 : sn ≤ 8) : ∀ (l : Nat), l ≤ lm → ∀ (a : Int) (φ : Env sn → Int) (S : Wk σ), A.I S.s → A.D S.s l a φ → A.sz S.s + Vn A.cost l ≤ cA → Keys A S →
    ∃ r S', visitF sn eA l a S = some (r, S') ∧ A.I S'.s ∧ A.le S.s S'.s ∧ A.sz S'.s ≤ A.sz S.s + Vn A.cost l ∧ Keys A S' ∧ S.out <+: S'.out ∧ (∃ add, S'.fin = add ++ S.fin ∧ ∀ p ∈ add, ∃ l' φ', l' < l ∧ A.D S'.s (l' + 1) p.1 φ') ∧
      (S'.out.length ≤ 4096 → Outs A S → Outs A S' ∧ Vi sn S'.out l r ∧ ∀ e, tv S'.out l r e = φ e)
  | 0, _, a, φ, S, iA, dA, _, hk => by
    obtain ⟨z1, z2, z3⟩ := A.zero dA
    exact ⟨a, S, rfl, iA, A.refl _, by simp [Vn], hk, List.prefix_refl _, ⟨[], rfl, by simp⟩, fun _ ho => ⟨ho, ⟨z1, z2⟩, fun e => (z3 e).symm⟩⟩
  | l + 1, hl, a, φ, S, iA, dA, bA, hk => by
    simp only [visitF]
    cases hfa : S.fin.lookup a with
    | some i =>
      refine ⟨i, S, rfl, iA, A.refl _, by omega, hk, List.prefix_refl _, ⟨[], rfl, by simp⟩, fun _ ho => ⟨ho, ?_⟩⟩
      obtain ⟨l', φ', d, v1, v2⟩ := ho.2 a i hfa
      obtain ⟨e1, e2⟩ := A.fn iA dA d
      obtain rfl : l' = l := by omega
      subst e2
      exact ⟨v1, v2⟩
    | none =>
      simp only
      by_cases hc : 4096 < S.out.length
      · rw [if_pos hc]
        exact ⟨0, S, rfl, iA, A.refl _, by omega, hk, List.prefix_refl _, ⟨[], rfl, by simp⟩, fun h _ => by omega⟩
      · rw [if_neg hc]
        simp only [Vn] at bA
        obtain ⟨ra, sa, a1, a2, a3, a4, a5, a6⟩ := A.ok iA dA hl (by omega)
        have row : ∀ (xs : List Int) (ψs : List (Env sn → Int)) (S1 : Wk σ), A.I S1.s → All2 (fun x ψ => A.D S1.s l x ψ) xs ψs → A.sz S1.s + xs.length * Vn A.cost l ≤ cA → Keys A S1 →
            ∃ zs S', rowF (visitF sn eA l) xs S1 = some (zs, S') ∧ A.I S'.s ∧ A.le S1.s S'.s ∧ A.sz S'.s ≤ A.sz S1.s + xs.length * Vn A.cost l ∧ Keys A S' ∧ S1.out <+: S'.out ∧ (∃ add, S'.fin = add ++ S1.fin ∧ ∀ p ∈ add, ∃ l' φ', l' < l ∧ A.D S'.s (l' + 1) p.1 φ') ∧
              (S'.out.length ≤ 4096 → Outs A S1 → Outs A S' ∧ All2 (fun z ψ => Vi sn S'.out l z ∧ ∀ e, tv S'.out l z e = ψ e) zs ψs) := by
          intro xs
          induction xs with
          | nil =>
            intro ψs S1 iA h _ hk
            have : ψs = [] := List.eq_nil_of_length_eq_zero h.1.symm
            subst this
            exact ⟨[], S1, rfl, iA, A.refl _, by simp, hk, List.prefix_refl _, ⟨[], rfl, by simp⟩, fun _ ho => ⟨ho, All2.nil⟩⟩
          | cons x xs ih =>
            intro ψs S1 iA h bA hk
            cases ψs with
            | nil => have := h.1; simp at this
            | cons ψ ψs =>
              simp only [List.length_cons, Nat.add_mul, Nat.one_mul] at bA
              obtain ⟨r, S2, v1, v2, v3, v4, v5, v6, ⟨ad1, v7, v7'⟩, v8⟩ := walk_ok hs hs8 l (by omega) x ψ S1 iA h.head (by omega) hk
              obtain ⟨zs, S3, u1, u2, u3, u4, u5, u6, ⟨ad2, u7, u7'⟩, u8⟩ := ih ψs S2 v2 (h.tail.imp fun _ _ d => A.mono v3 d) (by omega) v5
              refine ⟨r :: zs, S3, by simp [rowF, v1, u1], u2, A.trans v3 u3, ?_, u5, v6.trans u6, ⟨ad2 ++ ad1, by rw [u7, v7, List.append_assoc], fun p hp => ?_⟩, fun h4 ho => ?_⟩
              · simp only [List.length_cons, Nat.add_mul, Nat.one_mul]; omega
              · rcases List.mem_append.1 hp with hp | hp
                · exact u7' p hp
                · obtain ⟨l', φ', q1, q2⟩ := v7' p hp
                  exact ⟨l', φ', q1, A.mono u3 q2⟩
              · have h2 : S2.out.length ≤ 4096 := Nat.le_trans u6.length_le h4
                obtain ⟨o1, o2, o3⟩ := v8 h2 ho
                obtain ⟨p1, p2⟩ := u8 h4 o1
                refine ⟨p1, All2.cons ⟨o2.grow u6, fun e => ?_⟩ p2⟩
                rw [tv_grow u6 o1.1 o2]
                exact o3 e
        have hxl : (ra.take sn).length = sn := by rw [List.length_take]; omega
        have m1 : sn * Vn A.cost l ≤ 8 * Vn A.cost l := Nat.mul_le_mul_right _ hs8
        obtain ⟨zs, S2, u1, u2, u3, u4, u5, u6, ⟨ad, u7, u7'⟩, u8⟩ := row (ra.take sn) ((List.finRange sn).map fun j => fun e => φ (eup e (l + 1) j)) { S with s := sa } a2 ⟨by simp; omega, fun k x ψ hx hy => by
          have hkk : k < sn := by
            rcases Nat.lt_or_ge k sn with h | h
            · exact h
            · rw [List.getElem?_eq_none (by omega)] at hx; cases hx
          rw [List.getElem?_take, if_pos hkk] at hx
          have ex : x = ig ra k := by simp [ig, hx]
          have ey : ψ = fun e => φ (eup e (l + 1) ⟨k, hkk⟩) := by
            rw [List.getElem?_map] at hy
            simp [hkk] at hy
            exact hy.symm
          rw [ex, ey]
          exact a6 ⟨k, hkk⟩⟩ (by simp only [hxl]; omega) ⟨hk.1, hk.2.1, fun p hp => by
            obtain ⟨l', φ', q⟩ := hk.2.2 p hp
            exact ⟨l', φ', A.mono a3 q⟩⟩
        rw [hxl] at u4
        simp only at u4 u3 u6 u7
        have hle := A.trans a3 u3
        rw [a1]
        simp only [Option.bind_some, u1]
        have hnew : a ∉ S2.fin.map (·.1) := by
          rw [u7, List.map_append, List.mem_append]
          rintro (h | h)
          · obtain ⟨p, hp, rfl⟩ := List.mem_map.1 h
            obtain ⟨l', φ', q1, q2⟩ := u7' p hp
            have := (A.fn u2 q2 (A.mono hle dA)).1
            omega
          · exact lookup_none hfa h
        refine ⟨(S2.out.length : Int), { S2 with fin := (a, (S2.out.length : Int)) :: S2.fin, out := S2.out ++ [(((l + 1 : Nat) : Int), zs)] }, rfl, u2, hle, by simp only [Vn]; omega, ⟨by simp [u5.1], ?_, ?_⟩, u6.trans (List.prefix_append _ _), ⟨(a, (S2.out.length : Int)) :: ad, by simp [u7], ?_⟩, ?_⟩
        · simp only [List.map_cons, List.nodup_cons]
          exact ⟨hnew, u5.2.1⟩
        · intro p hp
          rcases List.mem_cons.1 hp with rfl | hp
          · exact ⟨l, φ, A.mono hle dA⟩
          · exact u5.2.2 p hp
        · intro p hp
          rcases List.mem_cons.1 hp with rfl | hp
          · exact ⟨l, φ, by omega, A.mono hle dA⟩
          · obtain ⟨l', φ', q1, q2⟩ := u7' p hp
            exact ⟨l', φ', by omega, q2⟩
        · intro h4 ho
          simp only [List.length_append, List.length_singleton] at h4
          have hoS : Outs A { S with s := sa } := ⟨ho.1, fun n i hn => by
            obtain ⟨l', φ', d, q⟩ := ho.2 n i hn
            exact ⟨l', φ', A.mono a3 d, q⟩⟩
          obtain ⟨p1, p2⟩ := u8 (by omega) hoS
          have hpre : S2.out <+: S2.out ++ [(((l + 1 : Nat) : Int), zs)] := List.prefix_append _ _
          have hzl : zs.length = sn := by have := p2.1; simp at this; exact this
          have hz : ∀ s (h : s < sn), Vi sn S2.out l (ig zs s) ∧ ∀ e, tv S2.out l (ig zs s) e = φ (eup e (l + 1) ⟨s, h⟩) := fun s h => by
            have h1 : zs[s]? = some (ig zs s) := by
              rw [List.getElem?_eq_getElem (by omega)]
              simp [ig, show s < zs.length by omega]
            exact p2.2 s _ _ h1 (by simp [h])
          have hl1 : lvO (S2.out ++ [(((l + 1 : Nat) : Int), zs)]) S2.out.length = ((l + 1 : Nat) : Int) := (lvO_lastX S2.out _).1
          have hn1 : nxO (S2.out ++ [(((l + 1 : Nat) : Int), zs)]) S2.out.length = zs := (lvO_lastX S2.out _).2
          have hnok : Nok sn lm (S2.out ++ [(((l + 1 : Nat) : Int), zs)]) := by
            intro k hkk
            simp only [List.length_append, List.length_singleton] at hkk
            rcases Nat.lt_or_ge k S2.out.length with h | h
            · obtain ⟨l', q1, q2, q3, q4⟩ := p1.1 k h
              obtain ⟨e1, e2⟩ := lvO_pre hpre h
              exact ⟨l', q1, by rw [e1]; exact q2, by rw [e2]; exact q3, fun s hs => by rw [e2]; exact ⟨(q4 s hs).1.grow hpre, (q4 s hs).2⟩⟩
            · obtain rfl : k = S2.out.length := by omega
              refine ⟨l, by omega, hl1, by rw [hn1]; exact hzl, fun s hs => ?_⟩
              rw [hn1]
              refine ⟨(hz s hs).1.grow hpre, fun hl0 => ?_⟩
              obtain ⟨l'', rfl⟩ : ∃ l'', l = l'' + 1 := ⟨l - 1, by omega⟩
              exact (hz s hs).1.2.1
          have hvi : Vi sn (S2.out ++ [(((l + 1 : Nat) : Int), zs)]) (l + 1) (S2.out.length : Int) := ⟨by omega, by simp; omega, by rw [Int.toNat_natCast]; exact hl1⟩
          have htv : ∀ e, tv (S2.out ++ [(((l + 1 : Nat) : Int), zs)]) (l + 1) (S2.out.length : Int) e = φ e := fun e => by
            simp only [tv]
            rw [Int.toNat_natCast, hn1, tv_grow hpre p1.1 (hz _ (e (l + 1)).isLt).1, (hz _ (e (l + 1)).isLt).2 e]
            congr 1
            funext x
            unfold eup
            split
            · next h => rw [h]
            · rfl
          refine ⟨⟨hnok, fun n i hn => ?_⟩, hvi, htv⟩
          simp only [List.lookup] at hn
          split at hn
          · next q =>
            injection hn with hn
            subst hn
            have : n = a := by simpa using q
            subst this
            exact ⟨l, φ, A.mono hle dA, hvi, htv⟩
          · obtain ⟨l', φ', d, q1, q2⟩ := p1.2 n i hn
            refine ⟨l', φ', d, q1.grow hpre, fun e => ?_⟩
            rw [tv_grow hpre p1.1 q1]
            exact q2 e
end
end Go.Proofs.YtjekpmkghpjamaaGreatDoor
