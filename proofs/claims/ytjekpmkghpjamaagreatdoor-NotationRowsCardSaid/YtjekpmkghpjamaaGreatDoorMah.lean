/- The walk over a forest: what it reckons, and the blocks that it lies in. -/
/- The walk of walk$1, its easy ways. -/
/- What a visit does to the walk's memory. -/
import Derived.Test.YtjekpmkghpjamaaGreatDoorMab
import Derived.Test.YtjekpmkghpjamaaGreatDoorMae
import Derived.Test.YtjekpmkghpjamaaGreatDoorMad
import Derived.Test.YtjekpmkghpjamaaGreatDoorMaa
import Derived.Test.YtjekpmkghpjamaaGreatDoorMac
import Derived.Test.YtjekpmkghpjamaaGreatDoorMag
import Derived.Below
import Derived.BigQuiet
import Derived.Deep.AppendLies
import Derived.Deep.CutRange
import Derived.Deep.Draws
import Derived.Deep.QuietTactic
import Derived.Deep.RegionHeldLaw
import Derived.Deep.RegionLaw
import Derived.DeepKeys4
import Derived.IntWalk
import Derived.Laws.OwnMore
import Derived.Laws.Rows
import Derived.Lib.Hide
import Derived.LoopN
import Derived.Maps.OwnOps
import Derived.OwnWalk
import Derived.Sort.Statements
import Derived.StillTail
import Derived.StillTailTactics
import Derived.Test.YtjekpmkghpjamaaGreatDoorRows
import Derived.WalkKit
import Derived.Test.YtjekpmkghpjamaaGreatDoorMaf
import Derived.Shelf.Abstract
namespace Go.Proofs.YtjekpmkghpjamaaGreatDoor
open Go.RowKit
/-- what a walk has done so far -/
structure Wk (σ : Type) where
  s : σ
  fin : List (Int × Int)
  out : List (Int × List Int)
/-- one after another -/
def rowF {ι α τ : Type} (v : ι → τ → Option (α × τ)) : List ι → τ → Option (List α × τ)
  | [], t => some ([], t)
  | x :: xs, t => (v x t).bind fun (y, t1) => (rowF v xs t1).bind fun (ys, t2) => some (y :: ys, t2)
section
variable {ι α τ : Type}
theorem rowF_push (v : ι → τ → Option (α × τ)) (l : List ι) (x : ι) (t : τ) : rowF v (l ++ [x]) t = (rowF v l t).bind fun (ys, t1) => (v x t1).bind fun (y, t2) => some (ys ++ [y], t2) := by
  induction l generalizing t with
  | nil =>
    simp only [List.nil_append, rowF, Option.bind_some]
  | cons a l ih =>
    simp only [List.cons_append, rowF]
    cases v a t with
    | none => rfl
    | some p =>
      obtain ⟨y, t1⟩ := p
      simp only [Option.bind_some, ih]
      cases rowF v l t1 with
      | none => rfl
      | some q =>
        obtain ⟨ys, t2⟩ := q
        simp only [Option.bind_some]
        cases v x t2 with
        | none => rfl
        | some r => obtain ⟨z, t3⟩ := r; simp
/-- parts of a row -/
theorem rowF_cons {v : ι → τ → Option (α × τ)} {x : ι} {xs : List ι} {t t' : τ} {ys : List α} (h : rowF v (x :: xs) t = some (ys, t')) : ∃ y zs t1, v x t = some (y, t1) ∧ rowF v xs t1 = some (zs, t') ∧ ys = y :: zs := by
  simp only [rowF] at h
  cases hv : v x t with
  | none => rw [hv] at h; cases h
  | some p =>
    obtain ⟨y, t1⟩ := p
    rw [hv] at h
    simp only [Option.bind_some] at h
    cases hr : rowF v xs t1 with
    | none => rw [hr] at h; cases h
    | some q =>
      obtain ⟨ys', t2⟩ := q
      rw [hr] at h
      simp only [Option.bind_some, Option.some.injEq, Prod.mk.injEq] at h
      obtain ⟨rfl, rfl⟩ := h
      exact ⟨y, ys', t1, rfl, hr, rfl⟩
theorem rowF_len {v : ι → τ → Option (α × τ)} {l : List ι} {t t' : τ} {ys : List α} (h : rowF v l t = some (ys, t')) : ys.length = l.length := by
  induction l generalizing t ys with
  | nil => simp only [rowF, Option.some.injEq, Prod.mk.injEq] at h; obtain ⟨rfl, _⟩ := h; rfl
  | cons a l ih =>
    obtain ⟨y, zs, t1, _, h2, rfl⟩ := rowF_cons h
    simp [ih h2]
/-- what has come before -/
theorem rowF_at {v : ι → τ → Option (α × τ)} {l : List ι} {t t' : τ} {ys : List α} (h : rowF v l t = some (ys, t')) {j : Nat} {x : ι} (hx : l[j]? = some x) :
    ∃ y zs t1 t2, rowF v (l.take j) t = some (zs, t1) ∧ v x t1 = some (y, t2) ∧ rowF v (l.take (j + 1)) t = some (zs ++ [y], t2) := by
  have hj : j < l.length := by
    rcases Nat.lt_or_ge j l.length with q | q
    · exact q
    · rw [List.getElem?_eq_none q] at hx; cases hx
  have e : l.take (j + 1) = l.take j ++ [x] := by
    rw [List.take_succ_eq_append_getElem hj]
    rw [List.getElem?_eq_getElem hj] at hx
    injection hx with hx
    rw [hx]
  rw [e, rowF_push]
  have hpre : ∀ (a b : List ι) (t : τ) (r), rowF v (a ++ b) t = some r → ∃ q, rowF v a t = some q := by
    intro a
    induction a with
    | nil => intro b t r _; exact ⟨_, rfl⟩
    | cons x a ih =>
      intro b t r hr
      obtain ⟨r1, r2⟩ := r
      obtain ⟨y, zs, t1, h1, h2, _⟩ := rowF_cons hr
      obtain ⟨q2, hq2⟩ := ih b t1 _ h2
      simp only [rowF, h1, Option.bind_some, hq2]
      exact ⟨_, rfl⟩
  obtain ⟨⟨zs, t2⟩, h2⟩ := hpre (l.take (j + 1)) (l.drop (j + 1)) t (ys, t') (by rw [List.take_append_drop]; exact h)
  rw [e, rowF_push] at h2
  cases h3 : rowF v (l.take j) t with
  | none => rw [h3] at h2; cases h2
  | some q =>
    obtain ⟨zs', t1⟩ := q
    rw [h3] at h2
    simp only [Option.bind_some] at h2 ⊢
    cases h4 : v x t1 with
    | none => rw [h4] at h2; cases h2
    | some q =>
      obtain ⟨y, t3⟩ := q
      exact ⟨y, zs', t1, t3, rfl, h4, by simp⟩
end
theorem rowF_take {α τ : Type} {v : Int → τ → Option (α × τ)} {l : List Int} {t t' : τ} {ys : List α} (h : rowF v l t = some (ys, t')) {j : Nat} (hj : j < l.length) :
    ∃ y zs t1 t2, rowF v (l.take j) t = some (zs, t1) ∧ v (ig l j) t1 = some (y, t2) ∧ rowF v (l.take (j + 1)) t = some (zs ++ [y], t2) :=
  rowF_at h (by rw [List.getElem?_eq_getElem hj]; simp [ig, hj])

/-- the walk: what a number becomes -/
def visitF {σ : Type} (st : Nat) (el : σ → Int → Nat → Option (List Int × σ)) : Nat → Int → Wk σ → Option (Int × Wk σ)
  | 0, n, s => some (n, s)
  | l + 1, n, s => match s.fin.lookup n with
    | some i => some (i, s)
    | none => if 4096 < s.out.length then some (0, s) else
      (el s.s n (l + 1)).bind fun (own, e) => (rowF (visitF st el l) (own.take st) { s with s := e }).bind fun (next, s') =>
        some ((s'.out.length : Int), { s' with fin := (n, (s'.out.length : Int)) :: s'.fin, out := s'.out ++ [(((l + 1 : Nat) : Int), next)] })

/-- level, elements of a node by its index -/
def lvO (out : List (Int × List Int)) (k : Nat) : Int := (out.getD k (0, [])).1
def nxO (out : List (Int × List Int)) (k : Nat) : List Int := (out.getD k (0, [])).2

/-- the walk's blocks -/
structure WB where
  xf : Nat
  xn : Nat
  xp : Nat
  xe : Nat
  xv : Nat
  mb : Nat
  fb : Nat
  ev : Value
  vv : Value
  bs : Nat
def WB.cst (b : WB) (k : Nat) : Prop := k = b.xf ∨ k = b.xp ∨ k = b.xe ∨ k = b.xv

/-- the memory of a walk: T holds what it turns, U what its nodes' elements don't lie in -/
structure Wst {σ : Type} (st : Int) (St : World → (Nat → Prop) → σ → Prop) (b : WB) (w : World) (T U : Nat → Prop) (S : Wk σ) : Prop where
  cf : Blk w b.xf 208 #[.map (some b.mb)]
  cp : Blk w b.xp 105 #[.pointer (some ⟨b.fb, 0, none⟩)]
  ce : Blk w b.xe 152 #[b.ev]
  cv : Blk w b.xv 209 #[b.vv]
  cT : ∀ k, b.cst k → ¬ T k
  tU : ∀ k, T k → U k
  uL : ∀ k, U k → k < w.heap.size
  bL : b.bs ≤ w.heap.size
  map : MapOf Tryz.prog w 21 b.mb (fun x => .int .i32 x) (fun x => .int .i64 x) (fun n => S.fin.lookup n)
  tm : T b.mb
  tn : T b.xn
  rest : ∃ G A c xs, St w G S.s ∧ (∀ k, G k → T k ∧ k ≠ b.mb ∧ k ≠ b.xn ∧ (Value.slice A S.out.length c).ownBlock ≠ some k) ∧
    Blk w b.xn 23 #[.slice A S.out.length c] ∧ w.ownsRow b.bs 101 2 (.slice A S.out.length c) S.out.length xs ∧
    (∀ g, (Value.slice A S.out.length c).ownBlock = some g → T g ∧ g ≠ b.xn ∧ g ≠ b.mb) ∧ Inn w U xs S.out.length (lvO S.out) (nxO S.out)

/-- a number in range -/
def I32 (n : Int) : Prop := -2147483648 ≤ n ∧ n < 2147483648
instance (n : Int) : Decidable (I32 n) := by unfold I32; exact inferInstance
/-- what the elements' function and its state must be good for -/
structure Els {σ : Type} (st : Nat) (St : World → (Nat → Prop) → σ → Prop) (el : σ → Int → Nat → Option (List Int × σ)) (b : WB) (lm : Nat) (gE : FuncId) (cb : Array Value) : Prop where
  keep : ∀ {w w' : World} {G H H' : Nat → Prop} {s : σ}, St w G s → Fr H w H' w' → (∀ k, G k → ¬ H k) → St w' G s
  lt : ∀ {w : World} {G : Nat → Prop} {s : σ}, St w G s → ∀ k, G k → k < w.heap.size
  sts : ∀ {w : World} {G : Nat → Prop} {s : σ}, St w G s → w.cell? ⟨b.fb, 0, none⟩ = some (.int .i64 st) ∧ b.fb < w.heap.size
  call : ∀ (w : World) (G : Nat → Prop) (s s' : σ) (n : Int) (l : Nat) (r : List Int), 1 ≤ l → l ≤ lm → I32 n → St w G s → el s n l = some (r, s') →
    R8 r ∧ Calls Tryz.prog gE (#[.int .i32 n, .int .i64 (l : Int)] ++ cb) w fun e w' => ∃ G', e = .returned (rowV r) ∧ St w' G' s' ∧ Fr G w G' w'

section
variable {σ : Type} {st : Int} {sn lm : Nat} {St : World → (Nat → Prop) → σ → Prop} {el : σ → Int → Nat → Option (List Int × σ)} {b : WB} {w w' : World} {T U H H' : Nat → Prop} {S : Wk σ} {gE : FuncId} {cb : Array Value}
theorem Inn.sub {w : World} {G G' : Nat → Prop} {xs : List Value} {j : Nat} {lv : Nat → Int} {nx : Nat → List Int} (h : Inn w G xs j lv nx) (hG : ∀ k, k < w.heap.size → G' k → G k) : Inn w G' xs j lv nx :=
  h.far (Nat.le_refl _) (fun _ _ _ => rfl) hG
theorem Wst.wide {U' : Nat → Prop} (h : Wst st St b w T U S) (h1 : ∀ k, T k → U' k) (h2 : ∀ k, U' k → U k) : Wst st St b w T U' S := by
  obtain ⟨G, A, c, xs, a1, a2, a3, a4, a5, a6⟩ := h.rest
  exact ⟨h.cf, h.cp, h.ce, h.cv, h.cT, h1, fun k hk => h.uL k (h2 k hk), h.bL, h.map, h.tm, h.tn, G, A, c, xs, a1, a2, a3, a4, a5, a6.sub fun k _ hk => h2 k hk⟩
/-- what turns other blocks, or makes some -/
theorem Wst.keep (E : Els sn St el b lm gE cb) (h : Wst st St b w T U S) (hf : Fr H w H' w') (h1 : ∀ k, T k → ¬ H k) (h2 : ∀ k, b.cst k → ¬ H k) (h3 : ∀ k, H k → U k) (U' : Nat → Prop) (h4 : ∀ k, U k → U' k) (h5 : ∀ k, U' k → U k ∨ w.heap.size ≤ k) (h6 : ∀ k, U' k → k < w'.heap.size) : Wst st St b w' T U' S := by
  obtain ⟨G, A, c, xs, a1, a2, a3, a4, a5, a6⟩ := h.rest
  refine ⟨hf.blk h.cf (h2 _ (.inl rfl)), hf.blk h.cp (h2 _ (.inr (.inl rfl))), hf.blk h.ce (h2 _ (.inr (.inr (.inl rfl)))), hf.blk h.cv (h2 _ (.inr (.inr (.inr rfl)))), h.cT, fun k hk => h4 k (h.tU k hk), h6, Nat.le_trans h.bL hf.size, hf.map h.map (h1 _ h.tm), h.tm, h.tn,
    G, A, c, xs, E.keep a1 hf (fun k hk => h1 k (a2 k hk).1), a2, hf.blk a3 (h1 _ h.tn), hf.row a4 (fun g hg => h1 g (a5 g hg).1), a5, ?_⟩
  refine (a6.far hf.size (fun k hk hU => hf.block k hk (fun hh => hU (h3 k hh))) (fun k hk hk' => ?_))
  rcases h5 k hk' with h | h
  · exact h
  · omega
theorem Wst.below (E : Els sn St el b lm gE cb) (h : Wst st St b w T U S) (hb : Below w.heap.size w w') : Wst st St b w' T U S :=
  h.keep E (Fr.of_below (G := fun _ => False) hb) (fun _ _ h => h) (fun _ _ h => h) (fun _ h => h.elim) U (fun _ h => h) (fun _ h => .inl h) (fun k hk => Nat.lt_of_lt_of_le (h.uL k hk) hb.size)
end
end Go.Proofs.YtjekpmkghpjamaaGreatDoor
namespace Go.Proofs.YtjekpmkghpjamaaGreatDoor
open Go.RowKit
theorem zero_int (w : World) : (zeroValue 3).run Tryz.prog w = .ok (.int .i64 0) w := by kernel_rfl
def WB.cb (b : WB) : Array Value := #[.pointer (some ⟨b.xf, 0, none⟩), .pointer (some ⟨b.xn, 0, none⟩), .pointer (some ⟨b.xp, 0, none⟩), .pointer (some ⟨b.xe, 0, none⟩), .pointer (some ⟨b.xv, 0, none⟩)]
theorem Blk.one {w : World} {g : Nat} {t : TypeId} {a : Value} (h : Blk w g t #[a]) : w.cell? ⟨g, 0, none⟩ = some a ∧ w.frozen? ⟨g, 0, none⟩ = false ∧ g < w.heap.size := ⟨by rw [h.cell]; rfl, h.frozen 0, h.lt⟩
/-- what a visit promises -/
def VisOut {σ : Type} (st : Int) (St : World → (Nat → Prop) → σ → Prop) (b : WB) (w : World) (T U : Nat → Prop) (r : Int) (S' : Wk σ) (e : Ending) (w' : World) : Prop :=
  ∃ T', e = .returned (.int .i64 r) ∧ Wst st St b w' T' (fun k => U k ∨ T' k) S' ∧ Fr T w T' w'
theorem fin_look {P : Program} {w : World} {mb : Nat} {fin : List (Int × Int)} (hm : MapOf Tryz.prog w 21 mb (fun x => .int .i32 x) (fun x => .int .i64 x) (fun n => fin.lookup n)) {n : Int} (hn : I32 n) (c : Bool) :
    (Instr.lookup 208 (.map (some mb)) (.int .i32 n) c).run Tryz.prog w = .ok (match fin.lookup n with | some v => (if c then .tuple #[.int .i64 v, .bool true] else .int .i64 v) | none => (if c then .tuple #[.int .i64 0, .bool false] else .int .i64 0)) w := by
  rw [hm.look c Tryz.keyI32 Tryz.underlying208 (zero_int w) (key_i32 hn.1 hn.2) (fun y _ _ e => i32V_inj e)]
  cases fin.lookup n <;> rfl

section
variable {σ : Type} {sn lm : Nat} {St : World → (Nat → Prop) → σ → Prop} {el : σ → Int → Nat → Option (List Int × σ)} {b : WB} {w : World} {T U : Nat → Prop} {S : Wk σ} {gE : FuncId} {cb : Array Value}
theorem Wst.here {st : Int} (h : Wst st St b w T U S) : Wst st St b w T (fun k => U k ∨ T k) S := h.wide (fun k hk => .inr hk) (fun k hk => hk.elim id (h.tU k))
set_option maxRecDepth 100000 in
theorem vis_zero {n : Int} (hn : I32 n) (h : Wst (sn : Int) St b w T U S) :
    Calls Tryz.prog 160 #[.int .i32 n, .int .i64 0, .pointer (some ⟨b.xf, 0, none⟩), .pointer (some ⟨b.xn, 0, none⟩), .pointer (some ⟨b.xp, 0, none⟩), .pointer (some ⟨b.xe, 0, none⟩), .pointer (some ⟨b.xv, 0, none⟩)] w fun e w' => VisOut (sn : Int) St b w T U n S e w' := by
  have H := Lib.hid h
  obtain ⟨n1, n2⟩ := hn
  have c1 : IntKind.i64.wrap n = n := IntWalk.i64_in _ ⟨by omega, by omega⟩
  clear h
  go_enter Tryz.func160, Tryz.ntmps160
  go_wp2
  go_ret
  exact ⟨T, rfl, H.out.here, Fr.refl _ _⟩
set_option maxRecDepth 100000 in
theorem vis_found {n i : Int} {l : Nat} (hl : 1 ≤ l) (hl2 : l ≤ 1000) (hn : I32 n) (h : Wst (sn : Int) St b w T U S) (hf : S.fin.lookup n = some i) :
    Calls Tryz.prog 160 #[.int .i32 n, .int .i64 (l : Int), .pointer (some ⟨b.xf, 0, none⟩), .pointer (some ⟨b.xn, 0, none⟩), .pointer (some ⟨b.xp, 0, none⟩), .pointer (some ⟨b.xe, 0, none⟩), .pointer (some ⟨b.xv, 0, none⟩)] w fun e w' => VisOut (sn : Int) St b w T U i S e w' := by
  have H := Lib.hid h
  have lk := fin_look (P := Tryz.prog) h.map hn true
  rw [hf] at lk
  simp only [if_true] at lk
  obtain ⟨k0, k1, k2⟩ := h.cf.one
  clear h hn hf
  go_enter Tryz.func160, Tryz.ntmps160
  go_wp2
  go_ret
  exact ⟨T, rfl, H.out.here, Fr.refl _ _⟩
set_option maxRecDepth 100000 in
theorem vis_cut {n : Int} {l : Nat} (hl : 1 ≤ l) (hl2 : l ≤ 1000) (hn : I32 n) (h : Wst (sn : Int) St b w T U S) (hf : S.fin.lookup n = none) (ho : 4096 < S.out.length) :
    Calls Tryz.prog 160 #[.int .i32 n, .int .i64 (l : Int), .pointer (some ⟨b.xf, 0, none⟩), .pointer (some ⟨b.xn, 0, none⟩), .pointer (some ⟨b.xp, 0, none⟩), .pointer (some ⟨b.xe, 0, none⟩), .pointer (some ⟨b.xv, 0, none⟩)] w fun e w' => VisOut (sn : Int) St b w T U 0 S e w' := by
  have H := Lib.hid h
  have lk := fin_look (P := Tryz.prog) h.map hn true
  rw [hf] at lk
  simp only [if_true] at lk
  obtain ⟨k0, k1, k2⟩ := h.cf.one
  obtain ⟨G, A, c, xs, a1, a2, a3, a4, a5, a6⟩ := h.rest
  obtain ⟨m0, m1, m2⟩ := a3.one
  clear h hn hf a1 a2 a3 a4 a5 a6
  go_enter Tryz.func160, Tryz.ntmps160
  go_wp2
  go_ret
  exact ⟨T, rfl, H.out.here, Fr.refl _ _⟩
end
end Go.Proofs.YtjekpmkghpjamaaGreatDoor
namespace Go.Proofs.YtjekpmkghpjamaaGreatDoor
open Go.RowKit
section
variable {σ : Type} {sn lm : Nat} {st : Int} {St : World → (Nat → Prop) → σ → Prop} {el : σ → Int → Nat → Option (List Int × σ)} {b : WB} {w : World} {T U : Nat → Prop} {S : Wk σ} {gE : FuncId} {cb : Array Value}
/-- the elements' function -/
theorem Wst.elm (E : Els sn St el b lm gE cb) (h : Wst st St b w T U S) : ∃ G, St w G S.s ∧ ∀ w' G' s', St w' G' s' → Fr G w G' w' → Wst st St b w' (fun k => T k ∨ G' k) (fun k => U k ∨ G' k) { S with s := s' } ∧ Fr T w (fun k => T k ∨ G' k) w' := by
  obtain ⟨G, A, c, xs, a1, a2, a3, a4, a5, a6⟩ := h.rest
  refine ⟨G, a1, fun w' G' s' hs hf => ?_⟩
  have hnew : ∀ k, k < w.heap.size → G' k → G k := fun k hk hG => (hf.new k hG).elim id (fun h => absurd hk (by omega))
  have hT : ∀ k, T k → k < w.heap.size := fun k hk => h.uL k (h.tU k hk)
  have hcl : ∀ k, b.cst k → k < w.heap.size := fun k hk => by
    rcases hk with rfl | rfl | rfl | rfl
    · exact h.cf.lt
    · exact h.cp.lt
    · exact h.ce.lt
    · exact h.cv.lt
  have hcn : ∀ k, b.cst k → ¬ G k := fun k hk hG => h.cT k hk (a2 k hG).1
  refine ⟨⟨hf.blk h.cf (hcn _ (.inl rfl)), hf.blk h.cp (hcn _ (.inr (.inl rfl))), hf.blk h.ce (hcn _ (.inr (.inr (.inl rfl)))), hf.blk h.cv (hcn _ (.inr (.inr (.inr rfl)))), ?_, ?_, ?_, Nat.le_trans h.bL hf.size, hf.map h.map (fun hG => (a2 _ hG).2.1 rfl), .inl h.tm, .inl h.tn,
    G', A, c, xs, hs, ?_, hf.blk a3 (fun hG => (a2 _ hG).2.2.1 rfl), hf.row a4 (fun g hg hG => (a2 g hG).2.2.2 hg), fun g hg => ⟨.inl (a5 g hg).1, (a5 g hg).2⟩, ?_⟩, ?_⟩
  · intro k hk hk'
    rcases hk' with hk' | hk'
    · exact h.cT k hk hk'
    · exact hcn k hk (hnew k (hcl k hk) hk')
  · intro k hk
    exact hk.imp (h.tU k) id
  · intro k hk
    rcases hk with hk | hk
    · exact Nat.lt_of_lt_of_le (h.uL k hk) hf.size
    · exact E.lt hs k hk
  · intro k hk
    refine ⟨.inr hk, ?_⟩
    rcases hf.new k hk with hG | hge
    · exact (a2 k hG).2
    · refine ⟨fun e => ?_, fun e => ?_, fun e => ?_⟩
      · have := hT _ h.tm; omega
      · have := hT _ h.tn; omega
      · have := hT _ (a5 k e).1; omega
  · exact a6.far hf.size (fun k hk hU => hf.block k hk (fun hG => hU (h.tU k (a2 k hG).1))) (fun k hk hU => hU.elim id (fun hG => h.tU k (a2 k (hnew k hk hG)).1))
  · refine hf.weak (fun k hG => (a2 k hG).1) (fun k hk => hk.elim .inl (fun hG => ?_))
    rcases hf.new k hG with hG | hge
    · exact .inl (a2 k hG).1
    · exact .inr hge

theorem lvO_push (out : List (Int × List Int)) (x : Int × List Int) {k : Nat} : k < out.length → lvO (out ++ [x]) k = lvO out k ∧ nxO (out ++ [x]) k = nxO out k := fun h => by
  simp [lvO, nxO, List.getD, List.getElem?_append_left h]
theorem lvO_last (out : List (Int × List Int)) (x : Int × List Int) : lvO (out ++ [x]) out.length = x.1 ∧ nxO (out ++ [x]) out.length = x.2 := by
  simp [lvO, nxO, List.getD]
theorem Inn.congr {w : World} {G : Nat → Prop} {xs : List Value} {j : Nat} {lv lv' : Nat → Int} {nx nx' : Nat → List Int} (h : Inn w G xs j lv nx) (h1 : ∀ k, k < j → lv' k = lv k ∧ nx' k = nx k) : Inn w G xs j lv' nx' := fun k hk => by
  obtain ⟨e1, e2⟩ := h1 k hk
  rw [e1, e2]
  exact h k hk
/-- a node is finished -/
theorem Wst.push (E : Els sn St el b lm gE cb) (h : Wst st St b w T U S) {U' : Nat → Prop} (h1 : ∀ k, T k → U' k) (h2 : ∀ k, U' k → U k) {n l : Int} {X : List Int} {gz : Nat} (hX : Reads w w.heap.size (some ⟨gz, 0, none⟩) X.length (il X)) (hz : ¬ U' gz) (hzl : gz < w.heap.size) {w5 : World}
    (hm5 : MapOf Tryz.prog w5 21 b.mb (fun x => .int .i32 x) (fun x => .int .i64 x) (fun y => if y = n then some (S.out.length : Int) else S.fin.lookup y)) (hf5 : Fr (fun i => i = b.mb) w (fun i => i = b.mb) w5) (hs5 : w5.heap.size = w.heap.size)
    {A : Option Addr} {c : Nat} (hA : Blk w b.xn 23 #[.slice A S.out.length c]) :
    ∃ xs, w5.ownsRow b.bs 101 2 (.slice A S.out.length c) S.out.length xs ∧ ∀ (o : Obj) (g7 d7 c2 : Nat) (w7 : World), w7.ownsRow b.bs 101 2 (.slice (some ⟨g7, 0, none⟩) (S.out.length + 1) d7) (S.out.length + 1) (xs ++ [.int .i64 l, .slice (some ⟨gz, 0, none⟩) X.length c2]) →
      (w5.alloc o).grownBy w7 (Value.slice A S.out.length c).ownBlock → ((Value.slice A S.out.length c).ownBlock = some g7 ∨ g7 = w5.heap.size + 1) → g7 < w7.heap.size →
      ∃ T', Wst st St b (w7.setCell ⟨b.xn, 0, none⟩ (.slice (some ⟨g7, 0, none⟩) (S.out.length + 1) d7)) T' (fun k => U' k ∨ T' k) { S with fin := (n, (S.out.length : Int)) :: S.fin, out := S.out ++ [(l, X)] } ∧ Fr T w T' (w7.setCell ⟨b.xn, 0, none⟩ (.slice (some ⟨g7, 0, none⟩) (S.out.length + 1) d7)) := by
  obtain ⟨G, A', c', xs, a1, a2, a3, a4, a5, a6⟩ := h.rest
  have e : A' = A ∧ c' = c := by
    have := hA.symm.trans a3
    injection this with this
    injection this with this
    simp at this
    exact ⟨this.1.symm, this.2.symm⟩
  obtain ⟨rfl, rfl⟩ := e
  have hT : ∀ k, T k → k < w.heap.size := fun k hk => h.uL k (h.tU k hk)
  have r5 := hf5.row a4 (fun g hg => (a5 g hg).2.2)
  refine ⟨xs, r5, fun o g7 d7 c2 w7 hown7 hgr7 hat7 hlt7 => ?_⟩
  have hs7 := hgr7.size
  simp only [World.size_alloc] at hs7
  have F1 : Fr T w T w5 := hf5.weak (fun k e => e ▸ h.tm) (fun k h => .inl h)
  have F2 : Fr T w T (w5.alloc o) := F1.trans (Fr.alloc T w5 o)
  have F3 : Fr T w (fun k => T k ∨ k = g7) w7 := F2.trans ⟨hgr7.os, hgr7.tape, hgr7.output, hgr7.size, fun k hk hG => hgr7.block k hk (fun e => hG (a5 k e.symm).1), fun k hk => by
    rcases hk with hk | hk
    · exact .inl hk
    · subst hk
      rcases hat7 with e | e
      · exact .inl (a5 _ e).1
      · exact .inr (by simp; omega)⟩
  have F4 := F3.trans (Fr.set_ (G := fun k => T k ∨ k = g7) w7 (p := ⟨b.xn, 0, none⟩) (.slice (some ⟨g7, 0, none⟩) (S.out.length + 1) d7) (.inl h.tn))
  have hsz : (w7.setCell ⟨b.xn, 0, none⟩ (.slice (some ⟨g7, 0, none⟩) (S.out.length + 1) d7)).heap.size = w7.heap.size := by simp [World.setCell]
  have hg7 : g7 ≠ b.xn ∧ g7 ≠ b.mb := by
    rcases hat7 with e | e
    · exact (a5 _ e).2
    · have q1 := hT _ h.tn
      have q2 := hT _ h.tm
      exact ⟨by omega, by omega⟩
  have hcl : ∀ k, b.cst k → k < w.heap.size := fun k hk => by
    rcases hk with rfl | rfl | rfl | rfl
    · exact h.cf.lt
    · exact h.cp.lt
    · exact h.ce.lt
    · exact h.cv.lt
  have hmn : b.mb ≠ b.xn := fun e => by
    obtain ⟨es, clock, hb, _⟩ := h.map
    rw [e, a3] at hb
    cases hb
  have H := h.cT
  have hgT : T g7 ∨ w.heap.size ≤ g7 := by
    rcases hat7 with e | e
    · exact .inl (a5 _ e).1
    · exact .inr (by omega)
  have hrow : ∀ k, k < w.heap.size → ¬ T k → (w7.setCell ⟨b.xn, 0, none⟩ (.slice (some ⟨g7, 0, none⟩) (S.out.length + 1) d7)).heap[k]? = w.heap[k]? := fun k hk hT' => F4.block k hk hT'
  refine ⟨fun k => T k ∨ k = g7, ⟨F4.blk h.cf (H _ (.inl rfl)), F4.blk h.cp (H _ (.inr (.inl rfl))), F4.blk h.ce (H _ (.inr (.inr (.inl rfl)))), F4.blk h.cv (H _ (.inr (.inr (.inr rfl)))), ?_, fun k hk => .inr hk, ?_, Nat.le_trans h.bL F4.size, ?_, .inl h.tm, .inl h.tn, G, some ⟨g7, 0, none⟩, d7, xs ++ [.int .i64 l, .slice (some ⟨gz, 0, none⟩) X.length c2], ?_, ?_, ?_, ?_, ?_, ?_⟩, F4⟩
  · intro k hk hk'
    rcases hk' with hk' | rfl
    · exact H k hk hk'
    · rcases hgT with q | q
      · exact H k hk q
      · have := hcl k hk; omega
  · intro k hk
    rw [hsz]
    rcases hk with hk | hk | rfl
    · have := h.uL k (h2 k hk); omega
    · have := hT k hk; omega
    · exact hlt7
  · have : (fun y => List.lookup y ((n, (S.out.length : Int)) :: S.fin)) = (fun y => if y = n then some (S.out.length : Int) else S.fin.lookup y) := by
      funext y
      by_cases e : y = n <;> simp [List.lookup, e]
      · have : (y == n) = false := by simp [e]
        rw [this]
    show MapOf _ _ _ _ _ _ (fun y => List.lookup y ((n, (S.out.length : Int)) :: S.fin))
    rw [this]
    refine hm5.of_block ?_
    have q2 := hT _ h.tm
    rw [Below.heap_setCell _ _ _ _ hmn, hgr7.block b.mb (by simp; omega) (fun e => (a5 _ e.symm).2.2 rfl), Below.heap_alloc _ _ _ (by omega)]
  · refine E.keep (H := fun k => (k = b.mb ∨ (Value.slice A' S.out.length c').ownBlock = some k) ∨ k = b.xn) (H' := fun k => False) a1 (Fr.mk F4.os F4.tape F4.output F4.size ?_ (fun _ h => h.elim)) ?_
    · intro k hk hn
      rw [Below.heap_setCell _ _ _ _ (fun e => hn (.inr e)), hgr7.block k (by simp; omega) (fun e => hn (.inl (.inr e.symm))), Below.heap_alloc _ _ _ (by omega), hf5.block k hk (fun e => hn (.inl (.inl e)))]
    · intro k hk hn
      obtain ⟨_, q1, q2, q3⟩ := a2 k hk
      rcases hn with (q | q) | q
      · exact q1 q
      · exact q3 q
      · exact q2 q
  · intro k hk
    obtain ⟨q0, q1, q2, q3⟩ := a2 k hk
    refine ⟨.inl q0, q1, q2, ?_⟩
    intro e
    have : g7 = k := by simpa [Value.ownBlock] using e
    subst this
    rcases hat7 with e | e
    · exact q3 e
    · have := hT _ q0; omega
  · have hb : Blk w7 b.xn _ _ := (hgr7.block b.xn (by have := hT _ h.tn; simp; omega) (fun e => (a5 _ e.symm).2.1 rfl)).trans ((hf5.blk a3 (Ne.symm hmn)).alloc o)
    have := hb.set_ 0 (.slice (some ⟨g7, 0, none⟩) (S.out.length + 1) d7)
    simpa using this
  · have := own_set hown7 (p := ⟨b.xn, 0, none⟩) (by simp [Value.ownBlock]; exact hg7.1) (.slice (some ⟨g7, 0, none⟩) (S.out.length + 1) d7)
    simpa using this
  · intro g hg
    have : g7 = g := by simpa [Value.ownBlock] using hg
    subst this
    exact ⟨.inr rfl, hg7⟩
  · have hi := a6.sub (fun k _ hk => h2 k hk)
    have hl := a4.1
    have hi2 : Inn w U' (xs ++ [.int .i64 (lvO (S.out ++ [(l, X)]) S.out.length), .slice (some ⟨gz, 0, none⟩) (nxO (S.out ++ [(l, X)]) S.out.length).length c2]) (S.out.length + 1) (lvO (S.out ++ [(l, X)])) (nxO (S.out ++ [(l, X)])) := by
      refine (hi.congr (fun k hk => lvO_push _ _ hk)).push hl ?_ ?_
      · rw [(lvO_last S.out (l, X)).2]; exact hX
      · intro _ ad e
        injection e with e
        subst e
        exact hz
    rw [(lvO_last S.out (l, X)).1, (lvO_last S.out (l, X)).2] at hi2
    have hlen : (S.out ++ [(l, X)]).length = S.out.length + 1 := by simp
    show Inn _ _ _ (S.out ++ [(l, X)]).length (lvO (S.out ++ [(l, X)])) (nxO (S.out ++ [(l, X)]))
    rw [hlen]
    refine hi2.far (by rw [hsz]; omega) (fun k hk hU => hrow k hk (fun hT' => hU (h1 k hT'))) ?_
    intro k hk hk'
    rcases hk' with hk' | hk' | rfl
    · exact hk'
    · exact h1 k hk'
    · rcases hgT with q | q
      · exact h1 _ q
      · omega
end
end Go.Proofs.YtjekpmkghpjamaaGreatDoor
