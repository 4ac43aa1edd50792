/- Plain mathematics: what the nodes of a forest mean. -/
/- Plain mathematics: walks over different forests that mean the same give the same nodes. -/
/- The first number that has a property. -/
/- The walks of Inverse, and of the reference's Mod and Apply. -/
/- The walks of newForest and plant. -/
import Derived.Test.YtjekpmkghpjamaaGreatDoorMaj
import Derived.Test.YtjekpmkghpjamaaGreatDoorMae
import Derived.Test.YtjekpmkghpjamaaGreatDoorMab
import Derived.Test.YtjekpmkghpjamaaGreatDoorMag
import Derived.Test.YtjekpmkghpjamaaGreatDoorMah
import Derived.Below
import Derived.BigQuiet
import Derived.Carry
import Derived.Deep.AppendLies
import Derived.Deep.CutRange
import Derived.Deep.Draws
import Derived.Deep.QuietTactic
import Derived.Deep.RegionHeldLaw
import Derived.Deep.RegionLaw
import Derived.DeepKeys4
import Derived.IntWalk
import Derived.Laws.MakeOwn
import Derived.Laws.OwnMore
import Derived.Laws.Rows
import Derived.Lib.Hide
import Derived.LoopN
import Derived.Maps.OwnOps
import Derived.OwnWalk
import Derived.Shelf.Abstract
import Derived.Sort.Statements
import Derived.StillTail
import Derived.StillTailTactics
import Derived.Test.YtjekpmkghpjamaaGreatDoorRows
import Derived.WalkKit
import Derived.Test.YtjekpmkghpjamaaGreatDoorMaa
import Derived.Laws.BitsLemmas
import Derived.Test.YtjekpmkghpjamaaGreatDoorMai
namespace Go.Proofs.YtjekpmkghpjamaaGreatDoor
open Go.RowKit
/-- the number n is a tree that reads the levels ls -/
def Wf (sn : Nat) (L : List Ndv) : List Int → Int → Prop
  | [], n => 0 ≤ n ∧ n < (sn : Int)
  | l :: ls, n => ∃ nd, nodeF (sn : Int) L n = some nd ∧ nd.lv = l ∧ nd.r.length = 8 ∧ (∀ s, s < sn → Wf sn L ls (ig nd.r s)) ∧ ∀ s, sn ≤ s → ig nd.r s = 0
/-- what it leads to -/
def fv (sn : Nat) (L : List Ndv) : List Int → Int → (Int → Nat) → Int
  | [], n, _ => n
  | l :: ls, n, e => match nodeF (sn : Int) L n with
    | some nd => fv sn L ls (ig nd.r (e l)) e
    | none => 0
def upd (e : Int → Nat) (p : Int) (j : Nat) (x : Int) : Nat := if x = p then j else e x
section
variable {sn : Nat} {L L' : List Ndv}
theorem nodeF_grow (h : L <+: L') {n : Int} {nd : Ndv} (hn : nodeF (sn : Int) L n = some nd) : nodeF (sn : Int) L' n = some nd := by
  unfold nodeF at *
  split at hn
  · next hs =>
    rw [if_pos hs]
    obtain ⟨M, rfl⟩ := h
    rw [List.getElem?_append_left]
    · exact hn
    · rcases Nat.lt_or_ge (n - (sn : Int)).toNat L.length with q | q
      · exact q
      · rw [List.getElem?_eq_none q] at hn; cases hn
  · cases hn
theorem Wf.grow (h : L <+: L') : ∀ {ls : List Int} {n : Int}, Wf sn L ls n → Wf sn L' ls n
  | [], _, hn => hn
  | _ :: _, _, ⟨nd, h1, h2, h3, h4, h5⟩ => ⟨nd, nodeF_grow h h1, h2, h3, fun s hs => (h4 s hs).grow h, h5⟩
theorem fv_grow (h : L <+: L') : ∀ {ls : List Int} {n : Int} {e : Int → Nat}, (∀ x, e x < sn) → Wf sn L ls n → fv sn L' ls n e = fv sn L ls n e
  | [], _, _, _, _ => rfl
  | l :: ls, n, e, he, ⟨nd, h1, h2, h3, h4, h5⟩ => by
    simp only [fv, h1, nodeF_grow h h1]
    exact fv_grow h he (h4 _ (he l))
theorem fv_congr : ∀ {ls : List Int} {n : Int} {e e' : Int → Nat}, (∀ x ∈ ls, e x = e' x) → fv sn L ls n e = fv sn L ls n e'
  | [], _, _, _, _ => rfl
  | l :: ls, n, e, e', h => by
    simp only [fv]
    cases nodeF (sn : Int) L n with
    | none => rfl
    | some nd =>
      simp only
      rw [h l (by simp)]
      exact fv_congr fun x hx => h x (by simp [hx])
theorem ig_ext {r r' : List Int} (h1 : r.length = 8) (h2 : r'.length = 8) (h : ∀ s, s < 8 → ig r s = ig r' s) : r = r' := by
  apply List.ext_getElem (by omega)
  intro i hi hi'
  have := h i (by omega)
  simpa [ig, hi, hi'] using this
theorem nodeF_inj (hL : L.Nodup) {a b : Int} {nd : Ndv} (ha : nodeF (sn : Int) L a = some nd) (hb : nodeF (sn : Int) L b = some nd) : a = b := by
  unfold nodeF at ha hb
  split at ha
  · split at hb
    · have h1 : (a - (sn : Int)).toNat < L.length := by
        rcases Nat.lt_or_ge (a - (sn : Int)).toNat L.length with q | q
        · exact q
        · rw [List.getElem?_eq_none q] at ha; cases ha
      have := (List.getElem?_inj h1 hL).1 (ha.trans hb.symm)
      omega
    · cases hb
  · cases ha
/-- no two numbers mean the same -/
theorem Wf.inj (hs : 0 < sn) (hL : L.Nodup) : ∀ {ls : List Int} {a b : Int}, ls.Nodup → Wf sn L ls a → Wf sn L ls b → (∀ e : Int → Nat, (∀ x, e x < sn) → fv sn L ls a e = fv sn L ls b e) → a = b
  | [], a, b, _, _, _, h => h (fun _ => 0) (fun _ => hs)
  | l :: ls, a, b, hd, ⟨na, a1, a2, a3, a4, a5⟩, ⟨nb, b1, b2, b3, b4, b5⟩, h => by
    obtain ⟨hl, hd'⟩ := List.nodup_cons.1 hd
    have hr : na.r = nb.r := ig_ext a3 b3 fun s _ => by
      rcases Nat.lt_or_ge s sn with q | q
      · refine Wf.inj hs hL hd' (a4 s q) (b4 s q) fun e he => ?_
        have := h (upd e l s) (fun x => by unfold upd; split; exact q; exact he x)
        simp only [fv, a1, b1] at this
        have hu : upd e l s l = s := by simp [upd]
        rw [hu] at this
        have hc : ∀ n, fv sn L ls n (upd e l s) = fv sn L ls n e := fun n => fv_congr fun x hx => by
          unfold upd
          have : x ≠ l := fun q => hl (by rw [← q]; exact hx)
          rw [if_neg this]
        rw [hc, hc] at this
        exact this
      · rw [a5 s q, b5 s q]
    have : na = nb := by
      cases na; cases nb
      simp only at hr a2 b2
      simp [hr, a2, b2]
    subst this
    exact nodeF_inj hL a1 b1
/-- what a number reads is given -/
theorem Wf.levels (hs : 0 < sn) : ∀ {ls ls' : List Int} {n : Int}, Wf sn L ls n → Wf sn L ls' n → ls = ls'
  | [], [], _, _, _ => rfl
  | [], _ :: _, n, h, ⟨nd, h1, _⟩ => by
    unfold nodeF at h1
    split at h1
    · next q => have : 0 ≤ n ∧ n < (sn : Int) := h; omega
    · cases h1
  | _ :: _, [], n, ⟨nd, h1, _⟩, h => by
    unfold nodeF at h1
    split at h1
    · next q => have : 0 ≤ n ∧ n < (sn : Int) := h; omega
    · cases h1
  | l :: ls, l' :: ls', n, ⟨na, a1, a2, a3, a4, a5⟩, ⟨nb, b1, b2, b3, b4, b5⟩ => by
    rw [a1] at b1
    injection b1 with b1
    subst b1
    rw [← a2, ← b2, Wf.levels hs (a4 0 hs) (b4 0 hs)]

/-- the row R is what n leads to, for each state of the level p -/
def Good (sn : Nat) (L : List Ndv) (ls : List Int) (n p : Int) (R : List Int) : Prop :=
  R.length = 8 ∧ (∀ j, j < sn → Wf sn L (ls.erase p) (ig R j) ∧ ∀ e : Int → Nat, (∀ x, e x < sn) → fv sn L (ls.erase p) (ig R j) e = fv sn L ls n (upd e p j)) ∧ ∀ j, sn ≤ j → ig R j = 0
theorem upd_lt {e : Int → Nat} (he : ∀ x, e x < sn) {p : Int} {j : Nat} (hj : j < sn) : ∀ x, upd e p j x < sn := fun x => by unfold upd; split; exact hj; exact he x
theorem Good.grow (h : L <+: L') {ls : List Int} {n p : Int} {R : List Int} (hn : Wf sn L ls n) (g : Good sn L ls n p R) : Good sn L' ls n p R :=
  ⟨g.1, fun j hj => ⟨(g.2.1 j hj).1.grow h, fun e he => by rw [fv_grow h he (g.2.1 j hj).1, fv_grow h (upd_lt he hj) hn]; exact (g.2.1 j hj).2 e he⟩, g.2.2⟩
/-- what is known is right -/
def Kn (sn : Nat) (ρ : Int → Nat) (L : List Ndv) (K : Mem) : Prop :=
  ∀ n R, K.lookup n = some R → ∃ ls p, Wf sn L ls n ∧ p ∈ ls ∧ (∀ q ∈ ls, ρ q ≤ ρ p) ∧ Good sn L ls n p R
theorem Kn.grow {ρ : Int → Nat} {K : Mem} (h : L <+: L') (k : Kn sn ρ L K) : Kn sn ρ L' K := fun n R hl => by
  obtain ⟨ls, p, h1, h2, h3, h4⟩ := k n R hl
  exact ⟨ls, p, h1.grow h, h2, h3, h4.grow h h1⟩
/-- how many nodes an examination adds at most -/
def An : Nat → Nat
  | 0 => 0
  | d + 1 => 8 + 8 * An d
theorem An_mono {d d' : Nat} (h : d ≤ d') : An d ≤ An d' := by
  induction d' generalizing d with
  | zero =>
    obtain rfl : d = 0 := by omega
    exact Nat.le_refl _
  | succ k ih =>
    rcases Nat.lt_or_ge d (k + 1) with q | q
    · have := ih (d := d) (by omega); simp only [An]; omega
    · obtain rfl : d = k + 1 := by omega
      exact Nat.le_refl _
theorem addF_ok {n : Ndv} (hL : L.Nodup) (hl : sn + L.length < 2147483647) : ∃ r L', addF (sn : Int) L n = some (r, L') ∧ L <+: L' ∧ L'.Nodup ∧ L'.length ≤ L.length + 1 ∧ nodeF (sn : Int) L' r = some n := by
  unfold addF
  cases hx : L.idxOf? n with
  | some i =>
    obtain ⟨h1, h2⟩ := idxOf_lt hx
    refine ⟨_, _, rfl, List.prefix_refl _, hL, by omega, ?_⟩
    unfold nodeF
    rw [if_pos (by omega), show ((sn : Int) + (i : Int) - (sn : Int)).toNat = i by omega]
    exact h2
  | none =>
    simp only
    rw [if_pos (by omega)]
    have hn := idxOf_none hx
    refine ⟨_, _, rfl, List.prefix_append _ _, ?_, by simp, ?_⟩
    · rw [List.nodup_append]
      refine ⟨hL, by simp, fun a ha b hb => ?_⟩
      simp at hb
      subst hb
      exact fun e => hn (e ▸ ha)
    · unfold nodeF
      rw [if_pos (by omega), show ((sn : Int) + (L.length : Int) - (sn : Int)).toNat = L.length by omega]
      simp
/-- the columns are added -/
theorem cols_ok {lv : Int} {rows : List (List Int)} : ∀ (k : Nat) (L : List Ndv), L.Nodup → sn + L.length + k < 2147483648 → ∃ res L', rowF (fun (j : Nat) L => addF (sn : Int) L (colN lv rows j)) (List.range k) L = some (res, L') ∧ L <+: L' ∧ L'.Nodup ∧ L'.length ≤ L.length + k ∧ res.length = k ∧ ∀ j, j < k → nodeF (sn : Int) L' (ig res j) = some (colN lv rows j)
  | 0, L, hL, _ => ⟨[], L, rfl, List.prefix_refl _, hL, by omega, rfl, fun j hj => absurd hj (by omega)⟩
  | k + 1, L, hL, hb => by
    obtain ⟨res, L1, h1, h2, h3, h4, h5, h6⟩ := cols_ok k L hL (by omega)
    obtain ⟨r, L2, a1, a2, a3, a4, a5⟩ := addF_ok (sn := sn) (n := colN lv rows k) h3 (by omega)
    refine ⟨res ++ [r], L2, ?_, h2.trans a2, a3, by omega, by simp [h5], fun j hj => ?_⟩
    · rw [List.range_succ, rowF_push, h1]
      simp [a1]
    · rcases Nat.lt_or_ge j k with q | q
      · have : ig (res ++ [r]) j = ig res j := by simp [ig, List.getD, List.getElem?_append_left (show j < res.length by omega)]
        rw [this]
        exact nodeF_grow a2 (h6 j q)
      · obtain rfl : j = k := by omega
        have : ig (res ++ [r]) j = r := by simp [ig, List.getD, h5]
        rw [this]
        exact a5
end
end Go.Proofs.YtjekpmkghpjamaaGreatDoor
namespace Go.Proofs.YtjekpmkghpjamaaGreatDoor
open Go.RowKit
/-- two lists, element by element -/
def All2 {α β : Type} (R : α → β → Prop) (xs : List α) (ys : List β) : Prop := xs.length = ys.length ∧ ∀ (k : Nat) (x : α) (y : β), xs[k]? = some x → ys[k]? = some y → R x y
section
variable {α β : Type} {R R' : α → β → Prop}
theorem All2.nil : All2 R [] [] := ⟨rfl, fun k x y h => by simp at h⟩
theorem All2.cons {x : α} {y : β} {xs : List α} {ys : List β} (h : R x y) (t : All2 R xs ys) : All2 R (x :: xs) (y :: ys) :=
  ⟨by simp [t.1], fun k a b ha hb => by
    cases k with
    | zero => simp at ha hb; subst ha hb; exact h
    | succ k => exact t.2 k a b (by simpa using ha) (by simpa using hb)⟩
theorem All2.head {x : α} {y : β} {xs : List α} {ys : List β} (h : All2 R (x :: xs) (y :: ys)) : R x y := h.2 0 x y rfl rfl
theorem All2.tail {x : α} {y : β} {xs : List α} {ys : List β} (h : All2 R (x :: xs) (y :: ys)) : All2 R xs ys := ⟨by simpa using h.1, fun k a b ha hb => h.2 (k + 1) a b (by simpa using ha) (by simpa using hb)⟩
theorem All2.imp {xs : List α} {ys : List β} (h : All2 R xs ys) (i : ∀ x y, R x y → R' x y) : All2 R' xs ys := ⟨h.1, fun k x y hx hy => i _ _ (h.2 k x y hx hy)⟩
end
abbrev Env (sn : Nat) := Nat → Fin sn
/-- an element exchanged -/
def eup {sn : Nat} (e : Env sn) (l : Nat) (j : Fin sn) (x : Nat) : Fin sn := if x = l then j else e x
/-- a way to find elements, and what the numbers mean -/
structure Sys (sn lm cap : Nat) {σ : Type} (el : σ → Int → Nat → Option (List Int × σ)) where
  I : σ → Prop
  le : σ → σ → Prop
  D : σ → Nat → Int → (Env sn → Int) → Prop
  sz : σ → Nat
  cost : Nat → Nat
  refl : ∀ s, le s s
  trans : ∀ {a b c}, le a b → le b c → le a c
  mono : ∀ {s s' l n φ}, le s s' → D s l n φ → D s' l n φ
  inj : ∀ {s l n n' φ}, I s → D s l n φ → D s l n' φ → n = n'
  fn : ∀ {s l l' n φ φ'}, I s → D s l n φ → D s l' n φ' → l = l' ∧ φ = φ'
  zero : ∀ {s n φ}, D s 0 n φ → 0 ≤ n ∧ n < (sn : Int) ∧ ∀ e, φ e = n
  ok : ∀ {s l n φ}, I s → D s (l + 1) n φ → l + 1 ≤ lm → sz s + cost (l + 1) ≤ cap → ∃ r s', el s n (l + 1) = some (r, s') ∧ I s' ∧ le s s' ∧ sn ≤ r.length ∧ sz s' ≤ sz s + cost (l + 1) ∧ ∀ j : Fin sn, D s' l (ig r j) (fun e => φ (eup e (l + 1) j))
def Vn (cost : Nat → Nat) : Nat → Nat
  | 0 => 0
  | l + 1 => cost (l + 1) + 8 * Vn cost l

section
variable {sn lm cA cB : Nat} {σ τ : Type} {eA : σ → Int → Nat → Option (List Int × σ)} {eB : τ → Int → Nat → Option (List Int × τ)} (A : Sys sn lm cA eA) (B : Sys sn lm cB eB)
/-- the same places for the same meanings -/
def FinR (s : σ) (t : τ) : List (Int × Int) → List (Int × Int) → Prop := All2 fun p q => p.2 = q.2 ∧ ∃ l φ, A.D s l p.1 φ ∧ B.D t l q.1 φ
variable {A B}
theorem FinR.mono {s s' : σ} {t t' : τ} {f g : List (Int × Int)} (h : FinR A B s t f g) (h1 : A.le s s') (h2 : B.le t t') : FinR A B s' t' f g := h.imp fun _ _ ⟨e, l, φ, d1, d2⟩ => ⟨e, l, φ, A.mono h1 d1, B.mono h2 d2⟩
end
end Go.Proofs.YtjekpmkghpjamaaGreatDoor
namespace Go.Proofs.YtjekpmkghpjamaaGreatDoor
open Go.RowKit
/-- the first number below n with a property; -1 if there is none -/
def fx (p : Nat → Bool) : Nat → Int
  | 0 => -1
  | n + 1 => if 0 ≤ fx p n then fx p n else if p n = true then (n : Int) else -1
theorem fx_none {p : Nat → Bool} {n : Nat} (h : ∀ i, i < n → p i = false) : fx p n = -1 := by
  induction n with
  | zero => rfl
  | succ n ih => rw [fx, ih (fun i hi => h i (by omega)), h n (by omega)]; simp
theorem fx_some {p : Nat → Bool} {n j : Nat} (hj : j < n) (h : ∀ i, i < j → p i = false) (hp : p j = true) : fx p n = (j : Int) := by
  induction n with
  | zero => omega
  | succ n ih =>
    rw [fx]
    by_cases e : j < n
    · rw [ih e, if_pos (by omega)]
    · obtain rfl : j = n := by omega
      rw [fx_none h, hp]
      simp
/-- where a position stands first in a list -/
def px (f : Nat → P2) (n : Nat) (a : P2) : Int := fx (fun i => decide (f i = a)) n

end Go.Proofs.YtjekpmkghpjamaaGreatDoor
namespace Go.Proofs.YtjekpmkghpjamaaGreatDoor
open Go.RowKit
theorem cmp_four : ∀ b : Nat, b < 8 → 4 ≤ b → (bits .and .i64 (b : Int) 4 != 0) = true := by decide
theorem cmp_low : ∀ b : Nat, b < 8 → b < 4 → (bits .and .i64 (b : Int) 4 != 0) = false := by decide
/-- the symmetry back -/
def iv (m : Nat) : Nat := if m < 4 then (4 - m) % 4 else m
theorem iv_lt : ∀ m, m < 8 → iv m < 8 := by decide
theorem iv_low : ∀ m : Nat, m < 8 → m < 4 → bits .and .i64 (-(m : Int)) 3 = (iv m : Nat) := by decide +kernel
theorem inverse_any (k : Int) (w : World) : Calls Tryz.prog 102 #[.int .i64 k] w fun e w' => e = .returned (.int .i64 (iv (md k) : Nat)) ∧ w = w' := by
  have H := Lib.hid (fun w => number_any k w)
  have hm := md_lt k
  generalize md k = m at H hm ⊢
  by_cases h4 : 4 ≤ m
  · have t := cmp_four m hm h4
    have e : iv m = m := by unfold iv; rw [if_neg (by omega)]
    rw [e]
    go_enter Tryz.func102, Tryz.ntmps102
    go_wp2_with (go_at_call 159; (with_reducible refine (H.out _).mono ?_); rintro e w' ⟨rfl, rfl⟩)
    go_ret
    exact ⟨rfl, rfl⟩
  · have t := cmp_low m hm (by omega)
    have v := iv_low m hm (by omega)
    have hw : IntKind.i64.wrap (-(m : Int)) = -(m : Int) := IntWalk.i64_in _ ⟨by omega, by omega⟩
    go_enter Tryz.func102, Tryz.ntmps102
    go_wp2_with (go_at_call 159; (with_reducible refine (H.out _).mono ?_); rintro e w' ⟨rfl, rfl⟩)
    go_ret
    exact ⟨rfl, rfl⟩
end Go.Proofs.YtjekpmkghpjamaaGreatDoor
namespace Go.Proofs.YtjekpmkghpjamaaGreatDoor
open Go.RowKit
theorem newForest_any {sn : Nat} {w : World} (h1 : 2 ≤ sn) (h2 : sn ≤ 8) : Calls Tryz.prog 54 #[.int .i64 (sn : Int)] w fun e w' => ∃ fb G, e = .returned (.pointer (some ⟨fb, 0, none⟩)) ∧ Fo w' fb G (sn : Int) [] ∧ (∀ k, G k → w.heap.size ≤ k) ∧ Below w.heap.size w w' := by
  have hmm := @run_makeMap Tryz.prog
  go_enter Tryz.func54, Tryz.ntmps54
  go_wp2
  go_ret
  have K2 := Blk.new (w.alloc (.map #[] 0)) 146 #[.int .i64 (sn : Int), .slice none 0 0, .map (some w.heap.size)]
  have K1 := MapOf.new Tryz.prog w 155 nodV (fun (x : Int) => .int .i32 x)
  simp only [World.size_alloc] at K2
  refine ⟨w.heap.size + 1, fun k => k = w.heap.size ∨ k = w.heap.size + 1, rfl, ⟨none, 0, w.heap.size, K2, World.ownsRow_nil _ _ _ _, ?_, .inr rfl, .inl rfl, ?_, ?_, by omega, by omega, by simp, by simp; omega⟩, ?_, ?_⟩
  · exact K1.of_block (Below.heap_alloc _ _ _ (by simp))
  · intro g hg; simp [Value.ownBlock] at hg
  · intro b hb; simp; omega
  · intro k hk; omega
  · exact ((Below.refl _ _).alloc (Nat.le_refl _) _).alloc (by simp) _

/-- numbers as cells -/
def r32 (l : List Int) : Array Value := (l.map fun x => .int .i32 x).toArray
theorem r32_get {l : List Int} {j : Nat} (h : j < l.length) : (r32 l)[j]? = some (.int .i32 (ig l j)) := row_get h
theorem made_i32 (n : Nat) : madeCells (Value.int .i32 0).cells (n * 1) = r32 (List.replicate n 0) := by
  apply Array.ext
  · simp [madeCells, r32]
  · intro i h1 h2
    simp [madeCells, Value.cells, Nat.mod_one, r32]
theorem Tryz.info_i32 : (Tryz.prog.info? 21).map (fun i => (i.zero, i.size, i.bytes)) = some (some (.int .i32 0), 1, 4) := by kernel_rfl
theorem mk_i32 {m : Nat} (hm : m ≤ 5000) (w : World) : (Instr.makeSlice 153 (.int .i64 (m : Int)) (.int .i64 (m : Int))).run Tryz.prog w = .ok (.slice (some ⟨w.heap.size, 0, none⟩) m m) (w.alloc (.cells (r32 (List.replicate m 0)) 21)) := by
  obtain ⟨i0, hi, hz0, hz1, hz2⟩ := info_parts Tryz.info_i32
  have := run_make (P := Tryz.prog) w 153 21 i0 (.int .i32 0) Tryz.underlying153 hi hz0 .i64 .i64 (m : Int) (m : Int) (by omega) (by omega) (by rw [hz2]; omega) (by omega)
  rw [this, hz1, Int.toNat_natCast, made_i32]
theorem r32_step {ys : List Int} {sn : Nat} (h : ys.length < sn) (y : Int) : (r32 (ys ++ List.replicate (sn - ys.length) 0)).setIfInBounds ys.length (.int .i32 y) = r32 ((ys ++ [y]) ++ List.replicate (sn - (ys ++ [y]).length) 0) := by
  obtain ⟨k, hk⟩ : ∃ k, sn - ys.length = k + 1 := ⟨sn - ys.length - 1, by omega⟩
  have hk2 : sn - (ys ++ [y]).length = k := by simp; omega
  rw [hk, hk2, List.replicate_succ]
  simp [r32]

/-- an element of a planted node -/
def pv (l : Int) (nums : List Int) (k : Int) : Int := if 1 < l then ig nums k.toNat else k
/-- a planted node, its first j elements laid -/
def pn (l : Int) (nums e : List Int) (j : Nat) : Ndv := ⟨l, (e.take j).map (pv l nums) ++ List.replicate (8 - j) 0⟩
def plantF (st : Int) (lv : Nat → Int) (nx : Nat → List Int) : Nat → List Ndv → Option (List Int × List Ndv)
  | 0, L => some ([], L)
  | i + 1, L => (plantF st lv nx i L).bind fun (nums, L1) => (addF st L1 (pn (lv i) nums (nx i) (nx i).length)).bind fun (r, L2) => some (nums ++ [r], L2)
theorem plantF_at {st : Int} {lv : Nat → Int} {nx : Nat → List Int} {L L' : List Ndv} {nums : List Int} : ∀ {m : Nat}, plantF st lv nx m L = some (nums, L') → nums.length = m ∧ ∀ i, i < m → ∃ n1 L1 r L2, plantF st lv nx i L = some (n1, L1) ∧ n1.length = i ∧ addF st L1 (pn (lv i) n1 (nx i) (nx i).length) = some (r, L2) ∧ plantF st lv nx (i + 1) L = some (n1 ++ [r], L2) ∧ n1 = nums.take i := by
  intro m
  induction m generalizing nums L' with
  | zero =>
    intro h
    simp only [plantF, Option.some.injEq, Prod.mk.injEq] at h
    obtain ⟨rfl, _⟩ := h
    exact ⟨rfl, fun i hi => absurd hi (by omega)⟩
  | succ m ih =>
    intro h
    have h0 := h
    simp only [plantF] at h
    cases h1 : plantF st lv nx m L with
    | none => rw [h1] at h; cases h
    | some p =>
      obtain ⟨n1, L1⟩ := p
      rw [h1] at h
      simp only [Option.bind_some] at h
      cases h2 : addF st L1 (pn (lv m) n1 (nx m) (nx m).length) with
      | none => rw [h2] at h; cases h
      | some q =>
        obtain ⟨r, L2⟩ := q
        rw [h2] at h
        simp only [Option.bind_some, Option.some.injEq, Prod.mk.injEq] at h
        obtain ⟨rfl, rfl⟩ := h
        obtain ⟨g1, g2⟩ := ih h1
        refine ⟨by simp [g1], fun i hi => ?_⟩
        by_cases e : i < m
        · obtain ⟨n1', L1', r', L2', a1, a2, a3, a4, a5⟩ := g2 i e
          exact ⟨n1', L1', r', L2', a1, a2, a3, a4, by rw [a5, List.take_append_of_le_length (by omega)]⟩
        · obtain rfl : i = m := by omega
          exact ⟨n1, L1, r, L2, h1, g1, h2, h0, by rw [List.take_append_of_le_length (by omega), List.take_of_length_le (by omega)]⟩
theorem addF_rng {st r : Int} {L L2 : List Ndv} {n : Ndv} (h : addF st L n = some (r, L2)) (h0 : 0 ≤ st) (h1 : st + (L.length : Int) ≤ 2147483647) : st ≤ r ∧ r < 2147483647 ∧ st + (L2.length : Int) ≤ 2147483647 := by
  unfold addF at h
  cases hx : L.idxOf? n with
  | some i =>
    rw [hx] at h
    simp only [Option.some.injEq, Prod.mk.injEq] at h
    obtain ⟨rfl, rfl⟩ := h
    have := (idxOf_lt hx).1
    omega
  | none =>
    rw [hx] at h
    simp only at h
    split at h
    · simp only [Option.some.injEq, Prod.mk.injEq] at h
      obtain ⟨rfl, rfl⟩ := h
      simp; omega
    · cases h
theorem plantF_rng {st : Int} {lv : Nat → Int} {nx : Nat → List Int} {L : List Ndv} (h0 : 0 ≤ st) (h1 : st + (L.length : Int) ≤ 2147483647) : ∀ {m : Nat} {L' : List Ndv} {nums : List Int}, plantF st lv nx m L = some (nums, L') → (∀ x ∈ nums, 0 ≤ x ∧ x < 2147483647) ∧ st + (L'.length : Int) ≤ 2147483647 := by
  intro m
  induction m with
  | zero =>
    intro L' nums h
    simp only [plantF, Option.some.injEq, Prod.mk.injEq] at h
    obtain ⟨rfl, rfl⟩ := h
    exact ⟨by simp, h1⟩
  | succ m ih =>
    intro L' nums h
    simp only [plantF] at h
    cases h2 : plantF st lv nx m L with
    | none => rw [h2] at h; cases h
    | some p =>
      obtain ⟨n1, L1⟩ := p
      rw [h2] at h
      simp only [Option.bind_some] at h
      cases h3 : addF st L1 (pn (lv m) n1 (nx m) (nx m).length) with
      | none => rw [h3] at h; cases h
      | some q =>
        obtain ⟨r, L2⟩ := q
        rw [h3] at h
        simp only [Option.bind_some, Option.some.injEq, Prod.mk.injEq] at h
        obtain ⟨rfl, rfl⟩ := h
        obtain ⟨g1, g2⟩ := ih h2
        obtain ⟨g3, g4, g5⟩ := addF_rng h3 h0 g2
        refine ⟨fun x hx => ?_, g5⟩
        rcases List.mem_append.1 hx with hx | hx
        · exact g1 x hx
        · simp at hx; subst hx; exact ⟨by omega, g4⟩
theorem pn_cells {l : Int} {nums e : List Int} {j : Nat} (hj : j < e.length) (he : e.length ≤ 8) : (nodC (pn l nums e j)).toArray.setIfInBounds (1 + j) (.int .i32 (pv l nums (ig e j))) = (nodC (pn l nums e (j + 1))).toArray := by
  have e1 : e.take (j + 1) = e.take j ++ [ig e j] := by
    rw [List.take_succ_eq_append_getElem hj]
    simp [ig, hj]
  obtain ⟨k, hk⟩ : ∃ k, 8 - j = k + 1 := ⟨8 - j - 1, by omega⟩
  have hk2 : 8 - (j + 1) = k := by omega
  have hl : ((e.take j).map (pv l nums)).length = j := by simp; omega
  generalize hA : (e.take j).map (pv l nums) = A at hl
  simp only [pn, nodC, e1, List.map_append, hA, hk, hk2, List.replicate_succ]
  subst hl
  rw [Nat.add_comm]
  simp [List.set_append]
theorem pn_len {l : Int} {nums e : List Int} {j : Nat} (hj : j ≤ e.length) (he : e.length ≤ 8) : (pn l nums e j).r.length = 8 := by simp [pn]; omega
end Go.Proofs.YtjekpmkghpjamaaGreatDoor
