/- Plain mathematics: what the nodes of a forest mean. -/
/- Plain mathematics: walks over different forests that mean the same give the same nodes. -/
/- A list of nodes that grows in a struct. -/
/- The walk over a forest: what it reckons, and the blocks that it lies in. -/
/- The walk of examine, its easy ways. -/
import Derived.Test.YtcgkkppidkkjiaaGreatDoorMab
import Derived.Test.YtcgkkppidkkjiaaGreatDoorMae
import Derived.Test.YtcgkkppidkkjiaaGreatDoorMbn
import Derived.Below
import Derived.BigQuiet
import Derived.Carry
import Derived.Deep.AppendLies
import Derived.Deep.CutRange
import Derived.Deep.Draws
import Derived.Deep.QuietTactic
import Derived.Deep.RegionHeldLaw
import Derived.Deep.RegionLaw
import Derived.DeepKeys4
import Derived.IntWalk
import Derived.Laws.MakeOwn
import Derived.Laws.OwnMore
import Derived.Laws.Rows
import Derived.Lib.Hide
import Derived.LoopN
import Derived.Maps.OwnOps
import Derived.OwnWalk
import Derived.Shelf.Abstract
import Derived.Sort.Statements
import Derived.StillTail
import Derived.StillTailTactics
import Derived.Test.YtcgkkppidkkjiaaGreatDoorRows
import Derived.WalkKit
import Derived.Test.YtcgkkppidkkjiaaGreatDoorMaa
import Derived.Test.YtcgkkppidkkjiaaGreatDoorMad
import Derived.Test.YtcgkkppidkkjiaaGreatDoorMah
import Derived.Test.YtcgkkppidkkjiaaGreatDoorMag
import Derived.Test.YtcgkkppidkkjiaaGreatDoorMaj
namespace Go.Proofs.YtcgkkppidkkjiaaGreatDoor
open Go.RowKit
/-- the number n is a tree that reads the levels ls -/
def Wf (sn : Nat) (L : List Ndv) : List Int → Int → Prop
  | [], n => 0 ≤ n ∧ n < (sn : Int)
  | l :: ls, n => ∃ nd, nodeF (sn : Int) L n = some nd ∧ nd.lv = l ∧ nd.r.length = 8 ∧ (∀ s, s < sn → Wf sn L ls (ig nd.r s)) ∧ ∀ s, sn ≤ s → ig nd.r s = 0
/-- what it leads to -/
def fv (sn : Nat) (L : List Ndv) : List Int → Int → (Int → Nat) → Int
  | [], n, _ => n
  | l :: ls, n, e => match nodeF (sn : Int) L n with
    | some nd => fv sn L ls (ig nd.r (e l)) e
    | none => 0
def upd (e : Int → Nat) (p : Int) (j : Nat) (x : Int) : Nat := if x = p then j else e x
section
variable {sn : Nat} {L L' : List Ndv}
theorem fv_congr : ∀ {ls : List Int} {n : Int} {e e' : Int → Nat}, (∀ x ∈ ls, e x = e' x) → fv sn L ls n e = fv sn L ls n e'
  | [], _, _, _, _ => rfl
  | l :: ls, n, e, e', h => by
    simp only [fv]
    cases nodeF (sn : Int) L n with
    | none => rfl
    | some nd =>
      simp only
      rw [h l (by simp)]
      exact fv_congr fun x hx => h x (by simp [hx])
theorem ig_ext {r r' : List Int} (h1 : r.length = 8) (h2 : r'.length = 8) (h : ∀ s, s < 8 → ig r s = ig r' s) : r = r' := by
  apply List.ext_getElem (by omega)
  intro i hi hi'
  have := h i (by omega)
  simpa [ig, hi, hi'] using this
theorem nodeF_inj (hL : L.Nodup) {a b : Int} {nd : Ndv} (ha : nodeF (sn : Int) L a = some nd) (hb : nodeF (sn : Int) L b = some nd) : a = b := by
  unfold nodeF at ha hb
  split at ha
  · split at hb
    · have h1 : (a - (sn : Int)).toNat < L.length := by
        rcases Nat.lt_or_ge (a - (sn : Int)).toNat L.length with q | q
        · exact q
        · rw [List.getElem?_eq_none q] at ha; cases ha
      have := (List.getElem?_inj h1 hL).1 (ha.trans hb.symm)
      omega
    · cases hb
  · cases ha
/-- no two numbers mean the same -/
theorem Wf.inj (hs : 0 < sn) (hL : L.Nodup) : ∀ {ls : List Int} {a b : Int}, ls.Nodup → Wf sn L ls a → Wf sn L ls b → (∀ e : Int → Nat, (∀ x, e x < sn) → fv sn L ls a e = fv sn L ls b e) → a = b
  | [], a, b, _, _, _, h => h (fun _ => 0) (fun _ => hs)
  | l :: ls, a, b, hd, ⟨na, a1, a2, a3, a4, a5⟩, ⟨nb, b1, b2, b3, b4, b5⟩, h => by
    obtain ⟨hl, hd'⟩ := List.nodup_cons.1 hd
    have hr : na.r = nb.r := ig_ext a3 b3 fun s _ => by
      rcases Nat.lt_or_ge s sn with q | q
      · refine Wf.inj hs hL hd' (a4 s q) (b4 s q) fun e he => ?_
        have := h (upd e l s) (fun x => by unfold upd; split; exact q; exact he x)
        simp only [fv, a1, b1] at this
        have hu : upd e l s l = s := by simp [upd]
        rw [hu] at this
        have hc : ∀ n, fv sn L ls n (upd e l s) = fv sn L ls n e := fun n => fv_congr fun x hx => by
          unfold upd
          have : x ≠ l := fun q => hl (by rw [← q]; exact hx)
          rw [if_neg this]
        rw [hc, hc] at this
        exact this
      · rw [a5 s q, b5 s q]
    have : na = nb := by
      cases na; cases nb
      simp only at hr a2 b2
      simp [hr, a2, b2]
    subst this
    exact nodeF_inj hL a1 b1
end
end Go.Proofs.YtcgkkppidkkjiaaGreatDoor
namespace Go.Proofs.YtcgkkppidkkjiaaGreatDoor
open Go.RowKit
/-- two lists, element by element -/
def All2 {α β : Type} (R : α → β → Prop) (xs : List α) (ys : List β) : Prop := xs.length = ys.length ∧ ∀ (k : Nat) (x : α) (y : β), xs[k]? = some x → ys[k]? = some y → R x y
section
variable {α β : Type} {R R' : α → β → Prop}
theorem All2.imp {xs : List α} {ys : List β} (h : All2 R xs ys) (i : ∀ x y, R x y → R' x y) : All2 R' xs ys := ⟨h.1, fun k x y hx hy => i _ _ (h.2 k x y hx hy)⟩
end
abbrev Env (sn : Nat) := Nat → Fin sn
/-- an element exchanged -/
def eup {sn : Nat} (e : Env sn) (l : Nat) (j : Fin sn) (x : Nat) : Fin sn := if x = l then j else e x
/-- a way to find elements, and what the numbers mean -/
structure Sys (sn lm cap : Nat) {σ : Type} (el : σ → Int → Nat → Option (List Int × σ)) where
  I : σ → Prop
  le : σ → σ → Prop
  D : σ → Nat → Int → (Env sn → Int) → Prop
  sz : σ → Nat
  cost : Nat → Nat
  refl : ∀ s, le s s
  trans : ∀ {a b c}, le a b → le b c → le a c
  mono : ∀ {s s' l n φ}, le s s' → D s l n φ → D s' l n φ
  inj : ∀ {s l n n' φ}, I s → D s l n φ → D s l n' φ → n = n'
  fn : ∀ {s l l' n φ φ'}, I s → D s l n φ → D s l' n φ' → l = l' ∧ φ = φ'
  zero : ∀ {s n φ}, D s 0 n φ → 0 ≤ n ∧ n < (sn : Int) ∧ ∀ e, φ e = n
  ok : ∀ {s l n φ}, I s → D s (l + 1) n φ → l + 1 ≤ lm → sz s + cost (l + 1) ≤ cap → ∃ r s', el s n (l + 1) = some (r, s') ∧ I s' ∧ le s s' ∧ sn ≤ r.length ∧ sz s' ≤ sz s + cost (l + 1) ∧ ∀ j : Fin sn, D s' l (ig r j) (fun e => φ (eup e (l + 1) j))
section
variable {sn lm cA cB : Nat} {σ τ : Type} {eA : σ → Int → Nat → Option (List Int × σ)} {eB : τ → Int → Nat → Option (List Int × τ)} (A : Sys sn lm cA eA) (B : Sys sn lm cB eB)
/-- the same places for the same meanings -/
def FinR (s : σ) (t : τ) : List (Int × Int) → List (Int × Int) → Prop := All2 fun p q => p.2 = q.2 ∧ ∃ l φ, A.D s l p.1 φ ∧ B.D t l q.1 φ
variable {A B}
theorem FinR.mono {s s' : σ} {t t' : τ} {f g : List (Int × Int)} (h : FinR A B s t f g) (h1 : A.le s s') (h2 : B.le t t') : FinR A B s' t' f g := h.imp fun _ _ ⟨e, l, φ, d1, d2⟩ => ⟨e, l, φ, A.mono h1 d1, B.mono h2 d2⟩
end
end Go.Proofs.YtcgkkppidkkjiaaGreatDoor
namespace Go.Proofs.YtcgkkppidkkjiaaGreatDoor
open Go.RowKit
/-- a growing list of nodes, in a struct -/
def UR (w : World) (base gu : Nat) (s h : Value) (j : Nat) (lv : Nat → Int) (nx : Nat → List Int) : Prop :=
  ∃ gn c xs, Blk w gu 32 #[s, h, .slice (some ⟨gn, 0, none⟩) j c] ∧ gn ≠ gu ∧ w.ownsRow base 66 2 (.slice (some ⟨gn, 0, none⟩) j c) j xs ∧ Inn w (fun b => b = gn ∨ b = gu) xs j lv nx
theorem UR.below {w w' : World} {base gu j : Nat} {s h : Value} {lv : Nat → Int} {nx : Nat → List Int} (hu : UR w base gu s h j lv nx) (hb : Below w.heap.size w w') : UR w' base gu s h j lv nx := by
  obtain ⟨gn, c, xs, h1, h2, h3, h4⟩ := hu
  exact ⟨gn, c, xs, h1.below hb h1.lt, h2, own_below2 h3 hb, h4.below hb⟩

end Go.Proofs.YtcgkkppidkkjiaaGreatDoor
namespace Go.Proofs.YtcgkkppidkkjiaaGreatDoor
open Go.RowKit
/-- what a walk has done so far -/
structure Wk (σ : Type) where
  s : σ
  fin : List (Int × Int)
  out : List (Int × List Int)
/-- one after another -/
def rowF {ι α τ : Type} (v : ι → τ → Option (α × τ)) : List ι → τ → Option (List α × τ)
  | [], t => some ([], t)
  | x :: xs, t => (v x t).bind fun (y, t1) => (rowF v xs t1).bind fun (ys, t2) => some (y :: ys, t2)
section
variable {ι α τ : Type}
theorem rowF_push (v : ι → τ → Option (α × τ)) (l : List ι) (x : ι) (t : τ) : rowF v (l ++ [x]) t = (rowF v l t).bind fun (ys, t1) => (v x t1).bind fun (y, t2) => some (ys ++ [y], t2) := by
  induction l generalizing t with
  | nil =>
    simp only [List.nil_append, rowF, Option.bind_some]
  | cons a l ih =>
    simp only [List.cons_append, rowF]
    cases v a t with
    | none => rfl
    | some p =>
      obtain ⟨y, t1⟩ := p
      simp only [Option.bind_some, ih]
      cases rowF v l t1 with
      | none => rfl
      | some q =>
        obtain ⟨ys, t2⟩ := q
        simp only [Option.bind_some]
        cases v x t2 with
        | none => rfl
        | some r => obtain ⟨z, t3⟩ := r; simp
/-- parts of a row -/
theorem rowF_cons {v : ι → τ → Option (α × τ)} {x : ι} {xs : List ι} {t t' : τ} {ys : List α} (h : rowF v (x :: xs) t = some (ys, t')) : ∃ y zs t1, v x t = some (y, t1) ∧ rowF v xs t1 = some (zs, t') ∧ ys = y :: zs := by
  simp only [rowF] at h
  cases hv : v x t with
  | none => rw [hv] at h; cases h
  | some p =>
    obtain ⟨y, t1⟩ := p
    rw [hv] at h
    simp only [Option.bind_some] at h
    cases hr : rowF v xs t1 with
    | none => rw [hr] at h; cases h
    | some q =>
      obtain ⟨ys', t2⟩ := q
      rw [hr] at h
      simp only [Option.bind_some, Option.some.injEq, Prod.mk.injEq] at h
      obtain ⟨rfl, rfl⟩ := h
      exact ⟨y, ys', t1, rfl, hr, rfl⟩
/-- what has come before -/
theorem rowF_at {v : ι → τ → Option (α × τ)} {l : List ι} {t t' : τ} {ys : List α} (h : rowF v l t = some (ys, t')) {j : Nat} {x : ι} (hx : l[j]? = some x) :
    ∃ y zs t1 t2, rowF v (l.take j) t = some (zs, t1) ∧ v x t1 = some (y, t2) ∧ rowF v (l.take (j + 1)) t = some (zs ++ [y], t2) := by
  have hj : j < l.length := by
    rcases Nat.lt_or_ge j l.length with q | q
    · exact q
    · rw [List.getElem?_eq_none q] at hx; cases hx
  have e : l.take (j + 1) = l.take j ++ [x] := by
    rw [List.take_succ_eq_append_getElem hj]
    rw [List.getElem?_eq_getElem hj] at hx
    injection hx with hx
    rw [hx]
  rw [e, rowF_push]
  have hpre : ∀ (a b : List ι) (t : τ) (r), rowF v (a ++ b) t = some r → ∃ q, rowF v a t = some q := by
    intro a
    induction a with
    | nil => intro b t r _; exact ⟨_, rfl⟩
    | cons x a ih =>
      intro b t r hr
      obtain ⟨r1, r2⟩ := r
      obtain ⟨y, zs, t1, h1, h2, _⟩ := rowF_cons hr
      obtain ⟨q2, hq2⟩ := ih b t1 _ h2
      simp only [rowF, h1, Option.bind_some, hq2]
      exact ⟨_, rfl⟩
  obtain ⟨⟨zs, t2⟩, h2⟩ := hpre (l.take (j + 1)) (l.drop (j + 1)) t (ys, t') (by rw [List.take_append_drop]; exact h)
  rw [e, rowF_push] at h2
  cases h3 : rowF v (l.take j) t with
  | none => rw [h3] at h2; cases h2
  | some q =>
    obtain ⟨zs', t1⟩ := q
    rw [h3] at h2
    simp only [Option.bind_some] at h2 ⊢
    cases h4 : v x t1 with
    | none => rw [h4] at h2; cases h2
    | some q =>
      obtain ⟨y, t3⟩ := q
      exact ⟨y, zs', t1, t3, rfl, h4, by simp⟩
end
theorem rowF_take {α τ : Type} {v : Int → τ → Option (α × τ)} {l : List Int} {t t' : τ} {ys : List α} (h : rowF v l t = some (ys, t')) {j : Nat} (hj : j < l.length) :
    ∃ y zs t1 t2, rowF v (l.take j) t = some (zs, t1) ∧ v (ig l j) t1 = some (y, t2) ∧ rowF v (l.take (j + 1)) t = some (zs ++ [y], t2) :=
  rowF_at h (by rw [List.getElem?_eq_getElem hj]; simp [ig, hj])

/-- the walk: what a number becomes -/
def visitF {σ : Type} (st : Nat) (el : σ → Int → Nat → Option (List Int × σ)) : Nat → Int → Wk σ → Option (Int × Wk σ)
  | 0, n, s => some (n, s)
  | l + 1, n, s => match s.fin.lookup n with
    | some i => some (i, s)
    | none => if 4096 < s.out.length then some (0, s) else
      (el s.s n (l + 1)).bind fun (own, e) => (rowF (visitF st el l) (own.take st) { s with s := e }).bind fun (next, s') =>
        some ((s'.out.length : Int), { s' with fin := (n, (s'.out.length : Int)) :: s'.fin, out := s'.out ++ [(((l + 1 : Nat) : Int), next)] })

/-- the walk's blocks -/
structure WB where
  xf : Nat
  xn : Nat
  xp : Nat
  xe : Nat
  xv : Nat
  mb : Nat
  fb : Nat
  ev : Value
  vv : Value
  bs : Nat
def WB.cst (b : WB) (k : Nat) : Prop := k = b.xf ∨ k = b.xp ∨ k = b.xe ∨ k = b.xv

/-- the memory of a walk: T holds what it turns, U what its nodes' elements don't lie in -/
structure WstR {σ : Type} (st : Int) (St : World → (Nat → Prop) → σ → Prop) (b : WB) (w : World) (T U : Nat → Prop) (S : Wk σ) : Prop where
  cf : Blk w b.xf 158 #[.map (some b.mb)]
  cp : Blk w b.xp 101 #[.pointer (some ⟨b.fb, 0, none⟩)]
  ce : Blk w b.xe 136 #[b.ev]
  cv : Blk w b.xv 159 #[b.vv]
  cT : ∀ k, b.cst k → ¬ T k
  tU : ∀ k, T k → U k
  uL : ∀ k, U k → k < w.heap.size
  bL : b.bs ≤ w.heap.size
  map : MapOf Tryz.prog w 21 b.mb (fun x => .int .i32 x) (fun x => .int .i64 x) (fun n => S.fin.lookup n)
  tm : T b.mb
  tn : T b.xn
  rest : ∃ G A c xs, St w G S.s ∧ (∀ k, G k → T k ∧ k ≠ b.mb ∧ k ≠ b.xn ∧ (Value.slice A S.out.length c).ownBlock ≠ some k) ∧
    Blk w b.xn 30 #[.slice A S.out.length c] ∧ w.ownsRow b.bs 66 2 (.slice A S.out.length c) S.out.length xs ∧
    (∀ g, (Value.slice A S.out.length c).ownBlock = some g → T g ∧ g ≠ b.xn ∧ g ≠ b.mb) ∧ Inn w U xs S.out.length (lvO S.out) (nxO S.out)

/-- a number in range -/
def I32 (n : Int) : Prop := -2147483648 ≤ n ∧ n < 2147483648
instance (n : Int) : Decidable (I32 n) := by unfold I32; exact inferInstance
/-- what the elements' function and its state must be good for -/
structure Els {σ : Type} (st : Nat) (St : World → (Nat → Prop) → σ → Prop) (el : σ → Int → Nat → Option (List Int × σ)) (b : WB) (lm : Nat) (gE : FuncId) (cb : Array Value) : Prop where
  keep : ∀ {w w' : World} {G H H' : Nat → Prop} {s : σ}, St w G s → Fr H w H' w' → (∀ k, G k → ¬ H k) → St w' G s
  lt : ∀ {w : World} {G : Nat → Prop} {s : σ}, St w G s → ∀ k, G k → k < w.heap.size
  sts : ∀ {w : World} {G : Nat → Prop} {s : σ}, St w G s → w.cell? ⟨b.fb, 0, none⟩ = some (.int .i64 st) ∧ b.fb < w.heap.size
  call : ∀ (w : World) (G : Nat → Prop) (s s' : σ) (n : Int) (l : Nat) (r : List Int), 1 ≤ l → l ≤ lm → I32 n → St w G s → el s n l = some (r, s') →
    R8 r ∧ Calls Tryz.prog gE (#[.int .i32 n, .int .i64 (l : Int)] ++ cb) w fun e w' => ∃ G', e = .returned (rowV r) ∧ St w' G' s' ∧ Fr G w G' w'

section
variable {σ : Type} {st : Int} {sn lm : Nat} {St : World → (Nat → Prop) → σ → Prop} {el : σ → Int → Nat → Option (List Int × σ)} {b : WB} {w w' : World} {T U H H' : Nat → Prop} {S : Wk σ} {gE : FuncId} {cb : Array Value}
theorem WstR.wide {U' : Nat → Prop} (h : WstR st St b w T U S) (h1 : ∀ k, T k → U' k) (h2 : ∀ k, U' k → U k) : WstR st St b w T U' S := by
  obtain ⟨G, A, c, xs, a1, a2, a3, a4, a5, a6⟩ := h.rest
  exact ⟨h.cf, h.cp, h.ce, h.cv, h.cT, h1, fun k hk => h.uL k (h2 k hk), h.bL, h.map, h.tm, h.tn, G, A, c, xs, a1, a2, a3, a4, a5, a6.sub fun k _ hk => h2 k hk⟩
/-- what turns other blocks, or makes some -/
theorem WstR.keep (E : Els sn St el b lm gE cb) (h : WstR st St b w T U S) (hf : Fr H w H' w') (h1 : ∀ k, T k → ¬ H k) (h2 : ∀ k, b.cst k → ¬ H k) (h3 : ∀ k, H k → U k) (U' : Nat → Prop) (h4 : ∀ k, U k → U' k) (h5 : ∀ k, U' k → U k ∨ w.heap.size ≤ k) (h6 : ∀ k, U' k → k < w'.heap.size) : WstR st St b w' T U' S := by
  obtain ⟨G, A, c, xs, a1, a2, a3, a4, a5, a6⟩ := h.rest
  refine ⟨hf.blk h.cf (h2 _ (.inl rfl)), hf.blk h.cp (h2 _ (.inr (.inl rfl))), hf.blk h.ce (h2 _ (.inr (.inr (.inl rfl)))), hf.blk h.cv (h2 _ (.inr (.inr (.inr rfl)))), h.cT, fun k hk => h4 k (h.tU k hk), h6, Nat.le_trans h.bL hf.size, hf.map h.map (h1 _ h.tm), h.tm, h.tn,
    G, A, c, xs, E.keep a1 hf (fun k hk => h1 k (a2 k hk).1), a2, hf.blk a3 (h1 _ h.tn), hf.row a4 (fun g hg => h1 g (a5 g hg).1), a5, ?_⟩
  refine (a6.far hf.size (fun k hk hU => hf.block k hk (fun hh => hU (h3 k hh))) (fun k hk hk' => ?_))
  rcases h5 k hk' with h | h
  · exact h
  · omega
theorem WstR.below (E : Els sn St el b lm gE cb) (h : WstR st St b w T U S) (hb : Below w.heap.size w w') : WstR st St b w' T U S :=
  h.keep E (Fr.of_below (G := fun _ => False) hb) (fun _ _ h => h) (fun _ _ h => h) (fun _ h => h.elim) U (fun _ h => h) (fun _ h => .inl h) (fun k hk => Nat.lt_of_lt_of_le (h.uL k hk) hb.size)
end
end Go.Proofs.YtcgkkppidkkjiaaGreatDoor
namespace Go.Proofs.YtcgkkppidkkjiaaGreatDoor
open Go.RowKit
abbrev Mem := List (Int × List Int)
/-- the forest and what is known already -/
def Exs (sn : Nat) (fb kb : Nat) (w : World) (G : Nat → Prop) (s : List Ndv × Mem) : Prop :=
  ∃ H, Fo w fb H (sn : Int) s.1 ∧ (∀ k, H k → G k ∧ k ≠ kb) ∧ MapOf Tryz.prog w 21 kb (fun x => .int .i32 x) rowV (fun n => s.2.lookup n) ∧ G kb ∧ (∀ k, G k → k < w.heap.size) ∧ ∀ n R, s.2.lookup n = some R → R8 R
section
variable {sn fb kb : Nat} {w w' : World} {G H H' : Nat → Prop} {s : List Ndv × Mem}
theorem Exs.keep (h : Exs sn fb kb w G s) (hf : Fr H w H' w') (hd : ∀ k, G k → ¬ H k) : Exs sn fb kb w' G s := by
  obtain ⟨H1, h1, h2, h3, h4, h5, h6⟩ := h
  exact ⟨H1, h1.keep hf (fun k hk => hd k (h2 k hk).1), h2, hf.map h3 (hd _ h4), h4, fun k hk => Nat.lt_of_lt_of_le (h5 k hk) hf.size, h6⟩
theorem Exs.below (h : Exs sn fb kb w G s) (hb : Below w.heap.size w w') : Exs sn fb kb w' G s := h.keep (Fr.of_below (G := fun _ => False) hb) (fun _ _ h => h)
theorem Exs.lt (h : Exs sn fb kb w G s) : ∀ k, G k → k < w.heap.size := by
  obtain ⟨H1, h1, h2, h3, h4, h5, h6⟩ := h
  exact h5
end
end Go.Proofs.YtcgkkppidkkjiaaGreatDoor
