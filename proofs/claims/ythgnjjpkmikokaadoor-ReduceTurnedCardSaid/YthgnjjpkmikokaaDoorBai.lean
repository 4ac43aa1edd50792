/- The walk over a forest: what it reckons, and the blocks that it lies in. -/
/- The walk of walk$1, its easy ways. -/
/- What a visit does to the walk's memory. -/
/- The walk of walk$1: a node that is new. -/
import Derived.Test.YthgnjjpkmikokaaDoorBah
import Derived.Test.YthgnjjpkmikokaaDoorBag
import Derived.Shelf.Abstract
namespace Go.Proofs.YthgnjjpkmikokaaDoor
open Go.RowKit

/-- what a walk has done so far -/
structure Wk (σ : Type) where
  s : σ
  fin : List (Int × Int)
  out : List (Int × List Int)
/-- one after another -/
def rowF {ι α τ : Type} (v : ι → τ → Option (α × τ)) : List ι → τ → Option (List α × τ)
  | [], t => some ([], t)
  | x :: xs, t => (v x t).bind fun (y, t1) => (rowF v xs t1).bind fun (ys, t2) => some (y :: ys, t2)
section
variable {ι α τ : Type}
theorem rowF_push (v : ι → τ → Option (α × τ)) (l : List ι) (x : ι) (t : τ) : rowF v (l ++ [x]) t = (rowF v l t).bind fun (ys, t1) => (v x t1).bind fun (y, t2) => some (ys ++ [y], t2) := by
  induction l generalizing t with
  | nil =>
    simp only [List.nil_append, rowF, Option.bind_some]
  | cons a l ih =>
    simp only [List.cons_append, rowF]
    cases v a t with
    | none => rfl
    | some p =>
      obtain ⟨y, t1⟩ := p
      simp only [Option.bind_some, ih]
      cases rowF v l t1 with
      | none => rfl
      | some q =>
        obtain ⟨ys, t2⟩ := q
        simp only [Option.bind_some]
        cases v x t2 with
        | none => rfl
        | some r => obtain ⟨z, t3⟩ := r; simp
/-- parts of a row -/
theorem rowF_cons {v : ι → τ → Option (α × τ)} {x : ι} {xs : List ι} {t t' : τ} {ys : List α} (h : rowF v (x :: xs) t = some (ys, t')) : ∃ y zs t1, v x t = some (y, t1) ∧ rowF v xs t1 = some (zs, t') ∧ ys = y :: zs := by
  simp only [rowF] at h
  cases hv : v x t with
  | none => rw [hv] at h; cases h
  | some p =>
    obtain ⟨y, t1⟩ := p
    rw [hv] at h
    simp only [Option.bind_some] at h
    cases hr : rowF v xs t1 with
    | none => rw [hr] at h; cases h
    | some q =>
      obtain ⟨ys', t2⟩ := q
      rw [hr] at h
      simp only [Option.bind_some, Option.some.injEq, Prod.mk.injEq] at h
      obtain ⟨rfl, rfl⟩ := h
      exact ⟨y, ys', t1, rfl, hr, rfl⟩
theorem rowF_len {v : ι → τ → Option (α × τ)} {l : List ι} {t t' : τ} {ys : List α} (h : rowF v l t = some (ys, t')) : ys.length = l.length := by
  induction l generalizing t ys with
  | nil => simp only [rowF, Option.some.injEq, Prod.mk.injEq] at h; obtain ⟨rfl, _⟩ := h; rfl
  | cons a l ih =>
    obtain ⟨y, zs, t1, _, h2, rfl⟩ := rowF_cons h
    simp [ih h2]
/-- what has come before -/
theorem rowF_at {v : ι → τ → Option (α × τ)} {l : List ι} {t t' : τ} {ys : List α} (h : rowF v l t = some (ys, t')) {j : Nat} {x : ι} (hx : l[j]? = some x) :
    ∃ y zs t1 t2, rowF v (l.take j) t = some (zs, t1) ∧ v x t1 = some (y, t2) ∧ rowF v (l.take (j + 1)) t = some (zs ++ [y], t2) := by
  have hj : j < l.length := by
    rcases Nat.lt_or_ge j l.length with q | q
    · exact q
    · rw [List.getElem?_eq_none q] at hx; cases hx
  have e : l.take (j + 1) = l.take j ++ [x] := by
    rw [List.take_succ_eq_append_getElem hj]
    rw [List.getElem?_eq_getElem hj] at hx
    injection hx with hx
    rw [hx]
  rw [e, rowF_push]
  have hpre : ∀ (a b : List ι) (t : τ) (r), rowF v (a ++ b) t = some r → ∃ q, rowF v a t = some q := by
    intro a
    induction a with
    | nil => intro b t r _; exact ⟨_, rfl⟩
    | cons x a ih =>
      intro b t r hr
      obtain ⟨r1, r2⟩ := r
      obtain ⟨y, zs, t1, h1, h2, _⟩ := rowF_cons hr
      obtain ⟨q2, hq2⟩ := ih b t1 _ h2
      simp only [rowF, h1, Option.bind_some, hq2]
      exact ⟨_, rfl⟩
  obtain ⟨⟨zs, t2⟩, h2⟩ := hpre (l.take (j + 1)) (l.drop (j + 1)) t (ys, t') (by rw [List.take_append_drop]; exact h)
  rw [e, rowF_push] at h2
  cases h3 : rowF v (l.take j) t with
  | none => rw [h3] at h2; cases h2
  | some q =>
    obtain ⟨zs', t1⟩ := q
    rw [h3] at h2
    simp only [Option.bind_some] at h2 ⊢
    cases h4 : v x t1 with
    | none => rw [h4] at h2; cases h2
    | some q =>
      obtain ⟨y, t3⟩ := q
      exact ⟨y, zs', t1, t3, rfl, h4, by simp⟩
end
theorem rowF_take {α τ : Type} {v : Int → τ → Option (α × τ)} {l : List Int} {t t' : τ} {ys : List α} (h : rowF v l t = some (ys, t')) {j : Nat} (hj : j < l.length) :
    ∃ y zs t1 t2, rowF v (l.take j) t = some (zs, t1) ∧ v (ig l j) t1 = some (y, t2) ∧ rowF v (l.take (j + 1)) t = some (zs ++ [y], t2) :=
  rowF_at h (by rw [List.getElem?_eq_getElem hj]; simp [ig, hj])

/-- the walk: what a number becomes -/
def visitF {σ : Type} (st : Nat) (el : σ → Int → Nat → Option (List Int × σ)) : Nat → Int → Wk σ → Option (Int × Wk σ)
  | 0, n, s => some (n, s)
  | l + 1, n, s => match s.fin.lookup n with
    | some i => some (i, s)
    | none => if 4096 < s.out.length then some (0, s) else
      (el s.s n (l + 1)).bind fun (own, e) => (rowF (visitF st el l) (own.take st) { s with s := e }).bind fun (next, s') =>
        some ((s'.out.length : Int), { s' with fin := (n, (s'.out.length : Int)) :: s'.fin, out := s'.out ++ [(((l + 1 : Nat) : Int), next)] })

/-- level, elements of a node by its index -/
def lvO (out : List (Int × List Int)) (k : Nat) : Int := (out.getD k (0, [])).1
def nxO (out : List (Int × List Int)) (k : Nat) : List Int := (out.getD k (0, [])).2

/-- the walk's blocks -/
structure WB where
  xf : Nat
  xn : Nat
  xp : Nat
  xe : Nat
  xv : Nat
  mb : Nat
  fb : Nat
  ev : Value
  vv : Value
  bs : Nat
def WB.cst (b : WB) (k : Nat) : Prop := k = b.xf ∨ k = b.xp ∨ k = b.xe ∨ k = b.xv

/-- the memory of a walk: T holds what it turns, U what its nodes' elements don't lie in -/
structure Wst {σ : Type} (st : Int) (St : World → (Nat → Prop) → σ → Prop) (b : WB) (w : World) (T U : Nat → Prop) (S : Wk σ) : Prop where
  cf : Blk w b.xf 115 #[.map (some b.mb)]
  cp : Blk w b.xp 51 #[.pointer (some ⟨b.fb, 0, none⟩)]
  ce : Blk w b.xe 87 #[b.ev]
  cv : Blk w b.xv 116 #[b.vv]
  cT : ∀ k, b.cst k → ¬ T k
  tU : ∀ k, T k → U k
  uL : ∀ k, U k → k < w.heap.size
  bL : b.bs ≤ w.heap.size
  map : MapOf Tryd.prog w 21 b.mb (fun x => .int .i32 x) (fun x => .int .i64 x) (fun n => S.fin.lookup n)
  tm : T b.mb
  tn : T b.xn
  rest : ∃ G A c xs, St w G S.s ∧ (∀ k, G k → T k ∧ k ≠ b.mb ∧ k ≠ b.xn ∧ (Value.slice A S.out.length c).ownBlock ≠ some k) ∧
    Blk w b.xn 23 #[.slice A S.out.length c] ∧ w.ownsRow b.bs 44 2 (.slice A S.out.length c) S.out.length xs ∧
    (∀ g, (Value.slice A S.out.length c).ownBlock = some g → T g ∧ g ≠ b.xn ∧ g ≠ b.mb) ∧ Inn w U xs S.out.length (lvO S.out) (nxO S.out)

/-- a number in range -/
def I32 (n : Int) : Prop := -2147483648 ≤ n ∧ n < 2147483648
instance (n : Int) : Decidable (I32 n) := by unfold I32; exact inferInstance
/-- what the elements' function and its state must be good for -/
structure Els {σ : Type} (st : Nat) (St : World → (Nat → Prop) → σ → Prop) (el : σ → Int → Nat → Option (List Int × σ)) (b : WB) (lm : Nat) (gE : FuncId) (cb : Array Value) : Prop where
  keep : ∀ {w w' : World} {G H H' : Nat → Prop} {s : σ}, St w G s → Fr H w H' w' → (∀ k, G k → ¬ H k) → St w' G s
  lt : ∀ {w : World} {G : Nat → Prop} {s : σ}, St w G s → ∀ k, G k → k < w.heap.size
  sts : ∀ {w : World} {G : Nat → Prop} {s : σ}, St w G s → w.cell? ⟨b.fb, 0, none⟩ = some (.int .i64 st) ∧ b.fb < w.heap.size
  call : ∀ (w : World) (G : Nat → Prop) (s s' : σ) (n : Int) (l : Nat) (r : List Int), 1 ≤ l → l ≤ lm → I32 n → St w G s → el s n l = some (r, s') →
    R8 r ∧ Calls Tryd.prog gE (#[.int .i32 n, .int .i64 (l : Int)] ++ cb) w fun e w' => ∃ G', e = .returned (rowV r) ∧ St w' G' s' ∧ Fr G w G' w'

section
variable {σ : Type} {st : Int} {sn lm : Nat} {St : World → (Nat → Prop) → σ → Prop} {el : σ → Int → Nat → Option (List Int × σ)} {b : WB} {w w' : World} {T U H H' : Nat → Prop} {S : Wk σ} {gE : FuncId} {cb : Array Value}
theorem Inn.sub {w : World} {G G' : Nat → Prop} {xs : List Value} {j : Nat} {lv : Nat → Int} {nx : Nat → List Int} (h : Inn w G xs j lv nx) (hG : ∀ k, k < w.heap.size → G' k → G k) : Inn w G' xs j lv nx :=
  h.far (Nat.le_refl _) (fun _ _ _ => rfl) hG
theorem Wst.wide {U' : Nat → Prop} (h : Wst st St b w T U S) (h1 : ∀ k, T k → U' k) (h2 : ∀ k, U' k → U k) : Wst st St b w T U' S := by
  obtain ⟨G, A, c, xs, a1, a2, a3, a4, a5, a6⟩ := h.rest
  exact ⟨h.cf, h.cp, h.ce, h.cv, h.cT, h1, fun k hk => h.uL k (h2 k hk), h.bL, h.map, h.tm, h.tn, G, A, c, xs, a1, a2, a3, a4, a5, a6.sub fun k _ hk => h2 k hk⟩
/-- what turns other blocks, or makes some -/
theorem Wst.keep (E : Els sn St el b lm gE cb) (h : Wst st St b w T U S) (hf : Fr H w H' w') (h1 : ∀ k, T k → ¬ H k) (h2 : ∀ k, b.cst k → ¬ H k) (h3 : ∀ k, H k → U k) (U' : Nat → Prop) (h4 : ∀ k, U k → U' k) (h5 : ∀ k, U' k → U k ∨ w.heap.size ≤ k) (h6 : ∀ k, U' k → k < w'.heap.size) : Wst st St b w' T U' S := by
  obtain ⟨G, A, c, xs, a1, a2, a3, a4, a5, a6⟩ := h.rest
  refine ⟨hf.blk h.cf (h2 _ (.inl rfl)), hf.blk h.cp (h2 _ (.inr (.inl rfl))), hf.blk h.ce (h2 _ (.inr (.inr (.inl rfl)))), hf.blk h.cv (h2 _ (.inr (.inr (.inr rfl)))), h.cT, fun k hk => h4 k (h.tU k hk), h6, Nat.le_trans h.bL hf.size, hf.map h.map (h1 _ h.tm), h.tm, h.tn,
    G, A, c, xs, E.keep a1 hf (fun k hk => h1 k (a2 k hk).1), a2, hf.blk a3 (h1 _ h.tn), hf.row a4 (fun g hg => h1 g (a5 g hg).1), a5, ?_⟩
  refine (a6.far hf.size (fun k hk hU => hf.block k hk (fun hh => hU (h3 k hh))) (fun k hk hk' => ?_))
  rcases h5 k hk' with h | h
  · exact h
  · omega
theorem Wst.below (E : Els sn St el b lm gE cb) (h : Wst st St b w T U S) (hb : Below w.heap.size w w') : Wst st St b w' T U S :=
  h.keep E (Fr.of_below (G := fun _ => False) hb) (fun _ _ h => h) (fun _ _ h => h) (fun _ h => h.elim) U (fun _ h => h) (fun _ h => .inl h) (fun k hk => Nat.lt_of_lt_of_le (h.uL k hk) hb.size)
end
end Go.Proofs.YthgnjjpkmikokaaDoor
namespace Go.Proofs.YthgnjjpkmikokaaDoor
open Go.RowKit

theorem zero_int (w : World) : (zeroValue 3).run Tryd.prog w = .ok (.int .i64 0) w := by kernel_rfl
def WB.cb (b : WB) : Array Value := #[.pointer (some ⟨b.xf, 0, none⟩), .pointer (some ⟨b.xn, 0, none⟩), .pointer (some ⟨b.xp, 0, none⟩), .pointer (some ⟨b.xe, 0, none⟩), .pointer (some ⟨b.xv, 0, none⟩)]
theorem Blk.one {w : World} {g : Nat} {t : TypeId} {a : Value} (h : Blk w g t #[a]) : w.cell? ⟨g, 0, none⟩ = some a ∧ w.frozen? ⟨g, 0, none⟩ = false ∧ g < w.heap.size := ⟨by rw [h.cell]; rfl, h.frozen 0, h.lt⟩
/-- what a visit promises -/
def VisOut {σ : Type} (st : Int) (St : World → (Nat → Prop) → σ → Prop) (b : WB) (w : World) (T U : Nat → Prop) (r : Int) (S' : Wk σ) (e : Ending) (w' : World) : Prop :=
  ∃ T', e = .returned (.int .i64 r) ∧ Wst st St b w' T' (fun k => U k ∨ T' k) S' ∧ Fr T w T' w'
theorem fin_look {P : Program} {w : World} {mb : Nat} {fin : List (Int × Int)} (hm : MapOf Tryd.prog w 21 mb (fun x => .int .i32 x) (fun x => .int .i64 x) (fun n => fin.lookup n)) {n : Int} (hn : I32 n) (c : Bool) :
    (Instr.lookup 115 (.map (some mb)) (.int .i32 n) c).run Tryd.prog w = .ok (match fin.lookup n with | some v => (if c then .tuple #[.int .i64 v, .bool true] else .int .i64 v) | none => (if c then .tuple #[.int .i64 0, .bool false] else .int .i64 0)) w := by
  rw [hm.look c Tryd.keyI32 Tryd.underlying115 (zero_int w) (key_i32 hn.1 hn.2) (fun y _ _ e => i32V_inj e)]
  cases fin.lookup n <;> rfl

section
variable {σ : Type} {sn lm : Nat} {St : World → (Nat → Prop) → σ → Prop} {el : σ → Int → Nat → Option (List Int × σ)} {b : WB} {w : World} {T U : Nat → Prop} {S : Wk σ} {gE : FuncId} {cb : Array Value}
theorem Wst.here {st : Int} (h : Wst st St b w T U S) : Wst st St b w T (fun k => U k ∨ T k) S := h.wide (fun k hk => .inr hk) (fun k hk => hk.elim id (h.tU k))
set_option maxRecDepth 100000 in
theorem vis_zero {n : Int} (hn : I32 n) (h : Wst (sn : Int) St b w T U S) :
    Calls Tryd.prog 80 #[.int .i32 n, .int .i64 0, .pointer (some ⟨b.xf, 0, none⟩), .pointer (some ⟨b.xn, 0, none⟩), .pointer (some ⟨b.xp, 0, none⟩), .pointer (some ⟨b.xe, 0, none⟩), .pointer (some ⟨b.xv, 0, none⟩)] w fun e w' => VisOut (sn : Int) St b w T U n S e w' := by
  have H := Lib.hid h
  obtain ⟨n1, n2⟩ := hn
  have c1 : IntKind.i64.wrap n = n := IntWalk.i64_in _ ⟨by omega, by omega⟩
  clear h
  go_enter Tryd.func80, Tryd.ntmps80
  go_wp2
  go_ret
  exact ⟨T, rfl, H.out.here, Fr.refl _ _⟩
set_option maxRecDepth 100000 in
theorem vis_found {n i : Int} {l : Nat} (hl : 1 ≤ l) (hl2 : l ≤ 1000) (hn : I32 n) (h : Wst (sn : Int) St b w T U S) (hf : S.fin.lookup n = some i) :
    Calls Tryd.prog 80 #[.int .i32 n, .int .i64 (l : Int), .pointer (some ⟨b.xf, 0, none⟩), .pointer (some ⟨b.xn, 0, none⟩), .pointer (some ⟨b.xp, 0, none⟩), .pointer (some ⟨b.xe, 0, none⟩), .pointer (some ⟨b.xv, 0, none⟩)] w fun e w' => VisOut (sn : Int) St b w T U i S e w' := by
  have H := Lib.hid h
  have lk := fin_look (P := Tryd.prog) h.map hn true
  rw [hf] at lk
  simp only [if_true] at lk
  obtain ⟨k0, k1, k2⟩ := h.cf.one
  clear h hn hf
  go_enter Tryd.func80, Tryd.ntmps80
  go_wp2
  go_ret
  exact ⟨T, rfl, H.out.here, Fr.refl _ _⟩
set_option maxRecDepth 100000 in
theorem vis_cut {n : Int} {l : Nat} (hl : 1 ≤ l) (hl2 : l ≤ 1000) (hn : I32 n) (h : Wst (sn : Int) St b w T U S) (hf : S.fin.lookup n = none) (ho : 4096 < S.out.length) :
    Calls Tryd.prog 80 #[.int .i32 n, .int .i64 (l : Int), .pointer (some ⟨b.xf, 0, none⟩), .pointer (some ⟨b.xn, 0, none⟩), .pointer (some ⟨b.xp, 0, none⟩), .pointer (some ⟨b.xe, 0, none⟩), .pointer (some ⟨b.xv, 0, none⟩)] w fun e w' => VisOut (sn : Int) St b w T U 0 S e w' := by
  have H := Lib.hid h
  have lk := fin_look (P := Tryd.prog) h.map hn true
  rw [hf] at lk
  simp only [if_true] at lk
  obtain ⟨k0, k1, k2⟩ := h.cf.one
  obtain ⟨G, A, c, xs, a1, a2, a3, a4, a5, a6⟩ := h.rest
  obtain ⟨m0, m1, m2⟩ := a3.one
  clear h hn hf a1 a2 a3 a4 a5 a6
  go_enter Tryd.func80, Tryd.ntmps80
  go_wp2
  go_ret
  exact ⟨T, rfl, H.out.here, Fr.refl _ _⟩
end
end Go.Proofs.YthgnjjpkmikokaaDoor
namespace Go.Proofs.YthgnjjpkmikokaaDoor
open Go.RowKit

section
variable {σ : Type} {sn lm : Nat} {st : Int} {St : World → (Nat → Prop) → σ → Prop} {el : σ → Int → Nat → Option (List Int × σ)} {b : WB} {w : World} {T U : Nat → Prop} {S : Wk σ} {gE : FuncId} {cb : Array Value}
/-- the elements' function -/
theorem Wst.elm (E : Els sn St el b lm gE cb) (h : Wst st St b w T U S) : ∃ G, St w G S.s ∧ ∀ w' G' s', St w' G' s' → Fr G w G' w' → Wst st St b w' (fun k => T k ∨ G' k) (fun k => U k ∨ G' k) { S with s := s' } ∧ Fr T w (fun k => T k ∨ G' k) w' := by
  obtain ⟨G, A, c, xs, a1, a2, a3, a4, a5, a6⟩ := h.rest
  refine ⟨G, a1, fun w' G' s' hs hf => ?_⟩
  have hnew : ∀ k, k < w.heap.size → G' k → G k := fun k hk hG => (hf.new k hG).elim id (fun h => absurd hk (by omega))
  have hT : ∀ k, T k → k < w.heap.size := fun k hk => h.uL k (h.tU k hk)
  have hcl : ∀ k, b.cst k → k < w.heap.size := fun k hk => by
    rcases hk with rfl | rfl | rfl | rfl
    · exact h.cf.lt
    · exact h.cp.lt
    · exact h.ce.lt
    · exact h.cv.lt
  have hcn : ∀ k, b.cst k → ¬ G k := fun k hk hG => h.cT k hk (a2 k hG).1
  refine ⟨⟨hf.blk h.cf (hcn _ (.inl rfl)), hf.blk h.cp (hcn _ (.inr (.inl rfl))), hf.blk h.ce (hcn _ (.inr (.inr (.inl rfl)))), hf.blk h.cv (hcn _ (.inr (.inr (.inr rfl)))), ?_, ?_, ?_, Nat.le_trans h.bL hf.size, hf.map h.map (fun hG => (a2 _ hG).2.1 rfl), .inl h.tm, .inl h.tn,
    G', A, c, xs, hs, ?_, hf.blk a3 (fun hG => (a2 _ hG).2.2.1 rfl), hf.row a4 (fun g hg hG => (a2 g hG).2.2.2 hg), fun g hg => ⟨.inl (a5 g hg).1, (a5 g hg).2⟩, ?_⟩, ?_⟩
  · intro k hk hk'
    rcases hk' with hk' | hk'
    · exact h.cT k hk hk'
    · exact hcn k hk (hnew k (hcl k hk) hk')
  · intro k hk
    exact hk.imp (h.tU k) id
  · intro k hk
    rcases hk with hk | hk
    · exact Nat.lt_of_lt_of_le (h.uL k hk) hf.size
    · exact E.lt hs k hk
  · intro k hk
    refine ⟨.inr hk, ?_⟩
    rcases hf.new k hk with hG | hge
    · exact (a2 k hG).2
    · refine ⟨fun e => ?_, fun e => ?_, fun e => ?_⟩
      · have := hT _ h.tm; omega
      · have := hT _ h.tn; omega
      · have := hT _ (a5 k e).1; omega
  · exact a6.far hf.size (fun k hk hU => hf.block k hk (fun hG => hU (h.tU k (a2 k hG).1))) (fun k hk hU => hU.elim id (fun hG => h.tU k (a2 k (hnew k hk hG)).1))
  · refine hf.weak (fun k hG => (a2 k hG).1) (fun k hk => hk.elim .inl (fun hG => ?_))
    rcases hf.new k hG with hG | hge
    · exact .inl (a2 k hG).1
    · exact .inr hge

theorem lvO_push (out : List (Int × List Int)) (x : Int × List Int) {k : Nat} : k < out.length → lvO (out ++ [x]) k = lvO out k ∧ nxO (out ++ [x]) k = nxO out k := fun h => by
  simp [lvO, nxO, List.getD, List.getElem?_append_left h]
theorem lvO_last (out : List (Int × List Int)) (x : Int × List Int) : lvO (out ++ [x]) out.length = x.1 ∧ nxO (out ++ [x]) out.length = x.2 := by
  simp [lvO, nxO, List.getD]
theorem Inn.congr {w : World} {G : Nat → Prop} {xs : List Value} {j : Nat} {lv lv' : Nat → Int} {nx nx' : Nat → List Int} (h : Inn w G xs j lv nx) (h1 : ∀ k, k < j → lv' k = lv k ∧ nx' k = nx k) : Inn w G xs j lv' nx' := fun k hk => by
  obtain ⟨e1, e2⟩ := h1 k hk
  rw [e1, e2]
  exact h k hk
/-- a node is finished -/
theorem Wst.push (E : Els sn St el b lm gE cb) (h : Wst st St b w T U S) {U' : Nat → Prop} (h1 : ∀ k, T k → U' k) (h2 : ∀ k, U' k → U k) {n l : Int} {X : List Int} {gz : Nat} (hX : Reads w w.heap.size (some ⟨gz, 0, none⟩) X.length (il X)) (hz : ¬ U' gz) (hzl : gz < w.heap.size) {w5 : World}
    (hm5 : MapOf Tryd.prog w5 21 b.mb (fun x => .int .i32 x) (fun x => .int .i64 x) (fun y => if y = n then some (S.out.length : Int) else S.fin.lookup y)) (hf5 : Fr (fun i => i = b.mb) w (fun i => i = b.mb) w5) (hs5 : w5.heap.size = w.heap.size)
    {A : Option Addr} {c : Nat} (hA : Blk w b.xn 23 #[.slice A S.out.length c]) :
    ∃ xs, w5.ownsRow b.bs 44 2 (.slice A S.out.length c) S.out.length xs ∧ ∀ (o : Obj) (g7 d7 c2 : Nat) (w7 : World), w7.ownsRow b.bs 44 2 (.slice (some ⟨g7, 0, none⟩) (S.out.length + 1) d7) (S.out.length + 1) (xs ++ [.int .i64 l, .slice (some ⟨gz, 0, none⟩) X.length c2]) →
      (w5.alloc o).grownBy w7 (Value.slice A S.out.length c).ownBlock → ((Value.slice A S.out.length c).ownBlock = some g7 ∨ g7 = w5.heap.size + 1) → g7 < w7.heap.size →
      ∃ T', Wst st St b (w7.setCell ⟨b.xn, 0, none⟩ (.slice (some ⟨g7, 0, none⟩) (S.out.length + 1) d7)) T' (fun k => U' k ∨ T' k) { S with fin := (n, (S.out.length : Int)) :: S.fin, out := S.out ++ [(l, X)] } ∧ Fr T w T' (w7.setCell ⟨b.xn, 0, none⟩ (.slice (some ⟨g7, 0, none⟩) (S.out.length + 1) d7)) := by
  obtain ⟨G, A', c', xs, a1, a2, a3, a4, a5, a6⟩ := h.rest
  have e : A' = A ∧ c' = c := by
    have := hA.symm.trans a3
    injection this with this
    injection this with this
    simp at this
    exact ⟨this.1.symm, this.2.symm⟩
  obtain ⟨rfl, rfl⟩ := e
  have hT : ∀ k, T k → k < w.heap.size := fun k hk => h.uL k (h.tU k hk)
  have r5 := hf5.row a4 (fun g hg => (a5 g hg).2.2)
  refine ⟨xs, r5, fun o g7 d7 c2 w7 hown7 hgr7 hat7 hlt7 => ?_⟩
  have hs7 := hgr7.size
  simp only [World.size_alloc] at hs7
  have F1 : Fr T w T w5 := hf5.weak (fun k e => e ▸ h.tm) (fun k h => .inl h)
  have F2 : Fr T w T (w5.alloc o) := F1.trans (Fr.alloc T w5 o)
  have F3 : Fr T w (fun k => T k ∨ k = g7) w7 := F2.trans ⟨hgr7.os, hgr7.tape, hgr7.output, hgr7.size, fun k hk hG => hgr7.block k hk (fun e => hG (a5 k e.symm).1), fun k hk => by
    rcases hk with hk | hk
    · exact .inl hk
    · subst hk
      rcases hat7 with e | e
      · exact .inl (a5 _ e).1
      · exact .inr (by simp; omega)⟩
  have F4 := F3.trans (Fr.set_ (G := fun k => T k ∨ k = g7) w7 (p := ⟨b.xn, 0, none⟩) (.slice (some ⟨g7, 0, none⟩) (S.out.length + 1) d7) (.inl h.tn))
  have hsz : (w7.setCell ⟨b.xn, 0, none⟩ (.slice (some ⟨g7, 0, none⟩) (S.out.length + 1) d7)).heap.size = w7.heap.size := by simp [World.setCell]
  have hg7 : g7 ≠ b.xn ∧ g7 ≠ b.mb := by
    rcases hat7 with e | e
    · exact (a5 _ e).2
    · have q1 := hT _ h.tn
      have q2 := hT _ h.tm
      exact ⟨by omega, by omega⟩
  have hcl : ∀ k, b.cst k → k < w.heap.size := fun k hk => by
    rcases hk with rfl | rfl | rfl | rfl
    · exact h.cf.lt
    · exact h.cp.lt
    · exact h.ce.lt
    · exact h.cv.lt
  have hmn : b.mb ≠ b.xn := fun e => by
    obtain ⟨es, clock, hb, _⟩ := h.map
    rw [e, a3] at hb
    cases hb
  have H := h.cT
  have hgT : T g7 ∨ w.heap.size ≤ g7 := by
    rcases hat7 with e | e
    · exact .inl (a5 _ e).1
    · exact .inr (by omega)
  have hrow : ∀ k, k < w.heap.size → ¬ T k → (w7.setCell ⟨b.xn, 0, none⟩ (.slice (some ⟨g7, 0, none⟩) (S.out.length + 1) d7)).heap[k]? = w.heap[k]? := fun k hk hT' => F4.block k hk hT'
  refine ⟨fun k => T k ∨ k = g7, ⟨F4.blk h.cf (H _ (.inl rfl)), F4.blk h.cp (H _ (.inr (.inl rfl))), F4.blk h.ce (H _ (.inr (.inr (.inl rfl)))), F4.blk h.cv (H _ (.inr (.inr (.inr rfl)))), ?_, fun k hk => .inr hk, ?_, Nat.le_trans h.bL F4.size, ?_, .inl h.tm, .inl h.tn, G, some ⟨g7, 0, none⟩, d7, xs ++ [.int .i64 l, .slice (some ⟨gz, 0, none⟩) X.length c2], ?_, ?_, ?_, ?_, ?_, ?_⟩, F4⟩
  · intro k hk hk'
    rcases hk' with hk' | rfl
    · exact H k hk hk'
    · rcases hgT with q | q
      · exact H k hk q
      · have := hcl k hk; omega
  · intro k hk
    rw [hsz]
    rcases hk with hk | hk | rfl
    · have := h.uL k (h2 k hk); omega
    · have := hT k hk; omega
    · exact hlt7
  · have : (fun y => List.lookup y ((n, (S.out.length : Int)) :: S.fin)) = (fun y => if y = n then some (S.out.length : Int) else S.fin.lookup y) := by
      funext y
      by_cases e : y = n <;> simp [List.lookup, e]
      · have : (y == n) = false := by simp [e]
        rw [this]
    show MapOf _ _ _ _ _ _ (fun y => List.lookup y ((n, (S.out.length : Int)) :: S.fin))
    rw [this]
    refine hm5.of_block ?_
    have q2 := hT _ h.tm
    rw [Below.heap_setCell _ _ _ _ hmn, hgr7.block b.mb (by simp; omega) (fun e => (a5 _ e.symm).2.2 rfl), Below.heap_alloc _ _ _ (by omega)]
  · refine E.keep (H := fun k => (k = b.mb ∨ (Value.slice A' S.out.length c').ownBlock = some k) ∨ k = b.xn) (H' := fun k => False) a1 (Fr.mk F4.os F4.tape F4.output F4.size ?_ (fun _ h => h.elim)) ?_
    · intro k hk hn
      rw [Below.heap_setCell _ _ _ _ (fun e => hn (.inr e)), hgr7.block k (by simp; omega) (fun e => hn (.inl (.inr e.symm))), Below.heap_alloc _ _ _ (by omega), hf5.block k hk (fun e => hn (.inl (.inl e)))]
    · intro k hk hn
      obtain ⟨_, q1, q2, q3⟩ := a2 k hk
      rcases hn with (q | q) | q
      · exact q1 q
      · exact q3 q
      · exact q2 q
  · intro k hk
    obtain ⟨q0, q1, q2, q3⟩ := a2 k hk
    refine ⟨.inl q0, q1, q2, ?_⟩
    intro e
    have : g7 = k := by simpa [Value.ownBlock] using e
    subst this
    rcases hat7 with e | e
    · exact q3 e
    · have := hT _ q0; omega
  · have hb : Blk w7 b.xn _ _ := (hgr7.block b.xn (by have := hT _ h.tn; simp; omega) (fun e => (a5 _ e.symm).2.1 rfl)).trans ((hf5.blk a3 (Ne.symm hmn)).alloc o)
    have := hb.set_ 0 (.slice (some ⟨g7, 0, none⟩) (S.out.length + 1) d7)
    simpa using this
  · have := own_set hown7 (p := ⟨b.xn, 0, none⟩) (by simp [Value.ownBlock]; exact hg7.1) (.slice (some ⟨g7, 0, none⟩) (S.out.length + 1) d7)
    simpa using this
  · intro g hg
    have : g7 = g := by simpa [Value.ownBlock] using hg
    subst this
    exact ⟨.inr rfl, hg7⟩
  · have hi := a6.sub (fun k _ hk => h2 k hk)
    have hl := a4.1
    have hi2 : Inn w U' (xs ++ [.int .i64 (lvO (S.out ++ [(l, X)]) S.out.length), .slice (some ⟨gz, 0, none⟩) (nxO (S.out ++ [(l, X)]) S.out.length).length c2]) (S.out.length + 1) (lvO (S.out ++ [(l, X)])) (nxO (S.out ++ [(l, X)])) := by
      refine (hi.congr (fun k hk => lvO_push _ _ hk)).push hl ?_ ?_
      · rw [(lvO_last S.out (l, X)).2]; exact hX
      · intro _ ad e
        injection e with e
        subst e
        exact hz
    rw [(lvO_last S.out (l, X)).1, (lvO_last S.out (l, X)).2] at hi2
    have hlen : (S.out ++ [(l, X)]).length = S.out.length + 1 := by simp
    show Inn _ _ _ (S.out ++ [(l, X)]).length (lvO (S.out ++ [(l, X)])) (nxO (S.out ++ [(l, X)]))
    rw [hlen]
    refine hi2.far (by rw [hsz]; omega) (fun k hk hU => hrow k hk (fun hT' => hU (h1 k hT'))) ?_
    intro k hk hk'
    rcases hk' with hk' | hk' | rfl
    · exact hk'
    · exact h1 k hk'
    · rcases hgT with q | q
      · exact h1 _ q
      · omega
end
end Go.Proofs.YthgnjjpkmikokaaDoor
namespace Go.Proofs.YthgnjjpkmikokaaDoor
open Go.RowKit

theorem Fr.set_new {G G' : Nat → Prop} {w w' : World} (h : Fr G w G' w') {p : Addr} (hp : w.heap.size ≤ p.block) (u : Value) : Fr G w G' (w'.setCell p u) :=
  ⟨h.os, h.tape, h.output, by have := h.size; simpa [World.setCell] using this, fun k hk hG => (Below.heap_setCell w' p u k (by omega)).trans (h.block k hk hG), h.new⟩
theorem il_get {l : List Int} {j : Nat} (h : j < l.length) : (il l).toArray[j]? = some (.int .i64 (ig l j)) := by
  simp [il, ig, h]
theorem row_get {l : List Int} {j : Nat} (h : j < l.length) : ((l.map fun x => Value.int .i32 x).toArray)[j]? = some (.int .i32 (ig l j)) := by
  simp [ig, h]
theorem zs_step {ys : List Int} {sn : Nat} (h : ys.length < sn) (y : Int) : ((il (ys ++ List.replicate (sn - ys.length) 0)).toArray).setIfInBounds ys.length (.int .i64 y) = (il ((ys ++ [y]) ++ List.replicate (sn - (ys ++ [y]).length) 0)).toArray := by
  obtain ⟨k, hk⟩ : ∃ k, sn - ys.length = k + 1 := ⟨sn - ys.length - 1, by omega⟩
  have hk2 : sn - (ys ++ [y]).length = k := by simp; omega
  rw [hk, hk2, List.replicate_succ]
  simp [il]
theorem ig_take {l : List Int} {j k : Nat} (h : j < k) : ig (l.take k) j = ig l j := by
  simp [ig, List.getD, List.getElem?_take, h]

theorem rowV_eight (a b c d e f g i : Int) : rowV [a, b, c, d, e, f, g, i] = .agg #[.int .i32 a, .int .i32 b, .int .i32 c, .int .i32 d, .int .i32 e, .int .i32 f, .int .i32 g, .int .i32 i] := rfl
set_option maxRecDepth 100000 in
set_option maxHeartbeats 4000000 in
theorem vis_go {σ : Type} {sn lm : Nat} {St : World → (Nat → Prop) → σ → Prop} {el : σ → Int → Nat → Option (List Int × σ)} {xf xn xp xe xv mb fb bs : Nat} {w : World} {T U : Nat → Prop} {S S2 : Wk σ} {gE gV : FuncId} {cb : Array Value} {n : Int} {l : Nat} {own next : List Int} {e1 : σ}
    {lv : Nat} (hlv : lv = l + 1) (hl : lv ≤ lm) (hlm : lm ≤ 100) (hs1 : 2 ≤ sn) (hs2 : sn ≤ 8) (E : Els sn St el ⟨xf, xn, xp, xe, xv, mb, fb, .func (.func gE) #[] cb, .func (.func gV) #[] #[.pointer (some ⟨xf, 0, none⟩), .pointer (some ⟨xn, 0, none⟩), .pointer (some ⟨xp, 0, none⟩), .pointer (some ⟨xe, 0, none⟩), .pointer (some ⟨xv, 0, none⟩)], bs⟩ lm gE cb)
    (eg : ∀ args w, (callFunc gE args).run Tryd.prog w = .ok (.enter gE args) w) (egV : ∀ args w, (callFunc gV args).run Tryd.prog w = .ok (.enter gV args) w)
    (IH : ∀ (n r : Int) (S S' : Wk σ) (w : World) (T U : Nat → Prop), I32 n → visitF sn el l n S = some (r, S') → Wst (sn : Int) St ⟨xf, xn, xp, xe, xv, mb, fb, .func (.func gE) #[] cb, .func (.func gV) #[] #[.pointer (some ⟨xf, 0, none⟩), .pointer (some ⟨xn, 0, none⟩), .pointer (some ⟨xp, 0, none⟩), .pointer (some ⟨xe, 0, none⟩), .pointer (some ⟨xv, 0, none⟩)], bs⟩ w T U S →
      Calls Tryd.prog gV #[.int .i32 n, .int .i64 (l : Int), .pointer (some ⟨xf, 0, none⟩), .pointer (some ⟨xn, 0, none⟩), .pointer (some ⟨xp, 0, none⟩), .pointer (some ⟨xe, 0, none⟩), .pointer (some ⟨xv, 0, none⟩)] w fun e w' => VisOut (sn : Int) St ⟨xf, xn, xp, xe, xv, mb, fb, .func (.func gE) #[] cb, .func (.func gV) #[] #[.pointer (some ⟨xf, 0, none⟩), .pointer (some ⟨xn, 0, none⟩), .pointer (some ⟨xp, 0, none⟩), .pointer (some ⟨xe, 0, none⟩), .pointer (some ⟨xv, 0, none⟩)], bs⟩ w T U r S' e w')
    (hn : I32 n) (h : Wst (sn : Int) St ⟨xf, xn, xp, xe, xv, mb, fb, .func (.func gE) #[] cb, .func (.func gV) #[] #[.pointer (some ⟨xf, 0, none⟩), .pointer (some ⟨xn, 0, none⟩), .pointer (some ⟨xp, 0, none⟩), .pointer (some ⟨xe, 0, none⟩), .pointer (some ⟨xv, 0, none⟩)], bs⟩ w T U S) (hf : S.fin.lookup n = none) (ho : S.out.length ≤ 4096)
    (he : el S.s n lv = some (own, e1)) (hr : rowF (visitF sn el l) (own.take sn) { S with s := e1 } = some (next, S2)) (hS2 : S2.out.length ≤ 5000) :
    Calls Tryd.prog 80 #[.int .i32 n, .int .i64 (lv : Int), .pointer (some ⟨xf, 0, none⟩), .pointer (some ⟨xn, 0, none⟩), .pointer (some ⟨xp, 0, none⟩), .pointer (some ⟨xe, 0, none⟩), .pointer (some ⟨xv, 0, none⟩)] w fun e w' =>
      VisOut (sn : Int) St ⟨xf, xn, xp, xe, xv, mb, fb, .func (.func gE) #[] cb, .func (.func gV) #[] #[.pointer (some ⟨xf, 0, none⟩), .pointer (some ⟨xn, 0, none⟩), .pointer (some ⟨xp, 0, none⟩), .pointer (some ⟨xe, 0, none⟩), .pointer (some ⟨xv, 0, none⟩)], bs⟩ w T U (S2.out.length : Int) { S2 with fin := (n, (S2.out.length : Int)) :: S2.fin, out := S2.out ++ [((lv : Int), next)] } e w' := by
  obtain ⟨b, hb⟩ : ∃ b : WB, b = ⟨xf, xn, xp, xe, xv, mb, fb, .func (.func gE) #[] cb, .func (.func gV) #[] #[.pointer (some ⟨xf, 0, none⟩), .pointer (some ⟨xn, 0, none⟩), .pointer (some ⟨xp, 0, none⟩), .pointer (some ⟨xe, 0, none⟩), .pointer (some ⟨xv, 0, none⟩)], bs⟩ := ⟨_, rfl⟩
  rw [← hb] at E IH h ⊢
  obtain ⟨b1, b2, b3, b4, b5, b6, b7, b8, b9⟩ : b.xf = xf ∧ b.xn = xn ∧ b.xp = xp ∧ b.xe = xe ∧ b.xv = xv ∧ b.mb = mb ∧ b.fb = fb ∧ b.ev = .func (.func gE) #[] cb ∧ b.vv = .func (.func gV) #[] #[.pointer (some ⟨xf, 0, none⟩), .pointer (some ⟨xn, 0, none⟩), .pointer (some ⟨xp, 0, none⟩), .pointer (some ⟨xe, 0, none⟩), .pointer (some ⟨xv, 0, none⟩)] := by subst hb; exact ⟨rfl, rfl, rfl, rfl, rfl, rfl, rfl, rfl, rfl⟩
  clear hb
  have hcl : ∀ k, b.cst k → k < w.heap.size := fun k hk => by
    rcases hk with rfl | rfl | rfl | rfl
    · exact h.cf.lt
    · exact h.cp.lt
    · exact h.ce.lt
    · exact h.cv.lt
  have HCL := Lib.hid hcl
  have lk := fin_look (P := Tryd.prog) h.map hn true
  rw [hf, b6] at lk
  simp only [if_true] at lk
  have kf := h.cf
  rw [b1, b6] at kf
  have kp := h.cp
  rw [b3, b7] at kp
  obtain ⟨f0, f1, f2⟩ := kf.one
  obtain ⟨p0, p1, p2⟩ := kp.one
  obtain ⟨G, A, c, xs, a1, a2, a3, a4, a5, a6⟩ := h.rest
  rw [b2] at a3
  obtain ⟨m0, m1, m2⟩ := a3.one
  obtain ⟨t0, t1⟩ := E.sts a1
  rw [b7] at t0 t1
  have mz := mk_zs hs1 hs2 w
  have F1 : Fr T w T (w.alloc (.cells (zs sn) 3)) := Fr.alloc T w _
  have W1 := h.keep E (Fr.alloc (fun _ => False) w (.cells (zs sn) 3)) (fun _ _ h => h) (fun _ _ h => h) (fun _ h => h.elim) (fun k => U k ∨ k = w.heap.size) (fun k hk => .inl hk) (fun k hk => hk.elim .inl (fun e => .inr (by omega))) (fun k hk => by
    rcases hk with hk | hk
    · have := h.uL k hk; simp; omega
    · simp; omega)
  obtain ⟨G1, hG1, hEl1⟩ := W1.elm E
  obtain ⟨hR8, C1⟩ := E.call _ G1 S.s e1 n lv own (by omega) hl hn hG1 he
  obtain ⟨x1, x2, x3, x4, x5, x6, x7, x8, rfl⟩ := oct hR8.1
  simp only [rowV_eight] at C1
  have ke := W1.ce
  rw [b4, b8] at ke
  obtain ⟨e10, e11, e12⟩ := ke.one
  have KZ := Lib.hid (Blk.new w 3 (zs sn))
  have EL1 := Lib.hid hEl1
  have C1H := Lib.hid C1
  have FF1 := Lib.hid F1
  have EE := Lib.hid E
  have IHH := Lib.hid IH
  have HR8 := Lib.hid hR8
  have HR := Lib.hid hr
  have HN := Lib.hid hn
  have HU := Lib.hid h.uL
  have HTU := Lib.hid h.tU
  have hn12 : IntKind.i64.wrap ((lv : Int) - 1) = (l : Int) := by rw [IntWalk.i64_in _ ⟨by omega, by omega⟩]; omega
  have hwl : IntKind.i64.wrap (l : Int) = (l : Int) := IntWalk.i64_in _ ⟨by omega, by omega⟩
  have hlv1 : (lv : Int) - 1 = (l : Int) := by omega
  have hlv2 : 1 ≤ lv := by omega
  clear h kf kp hlv a1 a2 a3 a4 a5 a6 hG1 W1 hEl1 C1 ke F1 E IH hR8 hf he hcl hr
  go_enter Tryd.func80, Tryd.ntmps80
  go_wp2_with (first
    | ((with_reducible refine (C1H.out).mono ?_); rintro e w2 ⟨G2, rfl, hs2', hf2⟩; obtain ⟨W2, F2⟩ := EL1.out w2 G2 e1 hs2' hf2; have WW2 := Lib.hid W2; have FF2 := Lib.hid (FF1.out.trans (F2.weak (H := T) (H' := fun k => T k ∨ G2 k) (fun _ h => h) (F2.new))); have FX2 := Lib.hid F2; clear W2 F2 hf2 hs2'))
  have hgz : w.heap.size < w2.heap.size := by have := FX2.out.size; simp at this; omega
  have K2 := Lib.hid (FX2.out.blk KZ.out (fun hT => by have := HU.out _ (HTU.out _ hT); omega))
  have W3 := WW2.out.keep EE.out (Fr.alloc (fun _ => False) w2 (.cells #[.int .i32 x1, .int .i32 x2, .int .i32 x3, .int .i32 x4, .int .i32 x5, .int .i32 x6, .int .i32 x7, .int .i32 x8] 85)) (fun _ _ h => h) (fun _ _ h => h) (fun _ h => h.elim) (fun k => ((U k ∨ k = w.heap.size) ∨ G2 k) ∨ k = w2.heap.size) (fun k hk => .inl hk) (fun k hk => hk.elim .inl (fun e => .inr (by omega))) (fun k hk => by
    rcases hk with hk | hk
    · have := WW2.out.uL k hk; simp; omega
    · simp; omega)
  have W3 := Lib.hid (W3.wide (U' := fun k => (U k ∨ k = w.heap.size ∨ k = w2.heap.size) ∨ (T k ∨ G2 k)) (fun k hk => .inr hk) (fun k hk => by
    rcases hk with (hk | hk | hk) | hk | hk
    · exact .inl (.inl (.inl hk))
    · exact .inl (.inl (.inr hk))
    · exact .inr hk
    · exact .inl (.inl (.inl (HTU.out k hk)))
    · exact .inl (.inr hk)))
  have F3 := Lib.hid (FF2.out.trans (Fr.alloc (fun k => T k ∨ G2 k) w2 (.cells #[.int .i32 x1, .int .i32 x2, .int .i32 x3, .int .i32 x4, .int .i32 x5, .int .i32 x6, .int .i32 x7, .int .i32 x8] 85)))
  have KO3 := Lib.hid (Blk.new w2 85 #[.int .i32 x1, .int .i32 x2, .int .i32 x3, .int .i32 x4, .int .i32 x5, .int .i32 x6, .int .i32 x7, .int .i32 x8])
  have KZ3 := Lib.hid (K2.out.alloc (.cells #[.int .i32 x1, .int .i32 x2, .int .i32 x3, .int .i32 x4, .int .i32 x5, .int .i32 x6, .int .i32 x7, .int .i32 x8] 85))
  have hT3 := Lib.hid (show ¬ (T w.heap.size ∨ G2 w.heap.size) ∧ ¬ (T w2.heap.size ∨ G2 w2.heap.size) from by
    refine ⟨fun hk => ?_, fun hk => ?_⟩
    · rcases FX2.out.new _ hk with h | h
      · have := HU.out _ (HTU.out _ h); omega
      · simp at h; omega
    · rcases hk with h | h
      · have := HU.out _ (HTU.out _ h); omega
      · have := WW2.out.uL _ (.inr h); omega)
  go_loopw [43] (fun jv wr => ∃ (j : Nat) (ys : List Int) (Sj : Wk σ) (Tj : Nat → Prop), j ≤ sn ∧ jv = .int .i64 (j : Int) ∧ ys.length = j ∧ rowF (visitF sn el l) ((([x1, x2, x3, x4, x5, x6, x7, x8] : List Int).take sn).take j) { S with s := e1 } = some (ys, Sj) ∧
    Wst (sn : Int) St b wr Tj (fun k => (U k ∨ k = w.heap.size ∨ k = w2.heap.size) ∨ Tj k) Sj ∧ Fr T w Tj wr ∧ ¬ Tj w.heap.size ∧ ¬ Tj w2.heap.size ∧ Blk wr w.heap.size 3 (il (ys ++ List.replicate (sn - ys.length) 0)).toArray ∧ Blk wr w2.heap.size 85 #[.int .i32 x1, .int .i32 x2, .int .i32 x3, .int .i32 x4, .int .i32 x5, .int .i32 x6, .int .i32 x7, .int .i32 x8]) (fun jv _ => sn - (intOf jv).toNat)
  case atStart => exact ⟨0, [], _, _, Nat.zero_le _, rfl, rfl, rfl, W3.out, F3.out, hT3.out.1, hT3.out.2, KZ3.out, KO3.out⟩
  case round =>
    obtain ⟨j, ys, Sj, Tj, hj, rfl, hyl, hrow, hw, hfr, ht1, ht2, hkz, hko⟩ := hrel
    have hszr : w2.heap.size < wr.heap.size := hko.lt
    have hgl : w.heap.size < wr.heap.size := hkz.lt
    have HW := Lib.hid hw
    have HF := Lib.hid hfr
    have HKZ := Lib.hid hkz
    have HKO := Lib.hid hko
    have HYL := Lib.hid hyl
    have HT1 := Lib.hid ht1
    have HT2 := Lib.hid ht2
    have HROW := Lib.hid hrow
    clear hw hfr hkz hko ht1 ht2 hrow hyl
    by_cases hjn : j < sn
    · have d1 : decide ((j : Int) < (sn : Int)) = true := by rw [decide_eq_true_iff]; omega
      have i0 : (0 : Int) ≤ (j : Int) := by omega
      have i1 : (j : Int) < 8 := by omega
      have i2 : (j : Int) < (sn : Int) := by omega
      have hj8 : j < 8 := by omega
      obtain ⟨y, zs', t1, t2, q1, q2, q3⟩ := rowF_take HR.out (j := j) (by simp; omega)
      have hqq := HROW.out.symm.trans q1
      simp only [Option.some.injEq, Prod.mk.injEq] at hqq
      obtain ⟨rfl, rfl⟩ := hqq
      rw [ig_take hjn] at q2
      have hx : I32 (ig ([x1, x2, x3, x4, x5, x6, x7, x8] : List Int) j) := HR8.out.2 _ (ig_mem (by simpa using hj8))
      have hwd := HW.out.below EE.out ((Below.refl wr.heap.size wr).drew)
      have CC := Lib.hid (IHH.out _ _ _ _ _ _ _ hx q2 hwd)
      have kv := HW.out.cv
      rw [b5, b9] at kv
      obtain ⟨v0, v1, v2⟩ := kv.one
      have ko : wr.cell? ⟨w2.heap.size, j, none⟩ = some (.int .i32 (ig ([x1, x2, x3, x4, x5, x6, x7, x8] : List Int) j)) := (HKO.out.cell j).trans (row_get (l := ([x1, x2, x3, x4, x5, x6, x7, x8] : List Int)) (by simpa using hj8))
      have Q3 := Lib.hid q3
      generalize ig ([x1, x2, x3, x4, x5, x6, x7, x8] : List Int) j = x at CC ko
      clear q1 q2 q3 hx hwd kv
      go_wp2
      go_region_with ((with_reducible refine (CC.out).mono ?_); rintro e w4 ⟨T4, rfl, hW4, hF4⟩; have W4 := Lib.hid hW4; have F4 := Lib.hid hF4; have KZ4 := Lib.hid (F4.out.blk (show Blk wr.drew _ _ _ from HKZ.out) HT1.out); have KO4 := Lib.hid (F4.out.blk (show Blk wr.drew _ _ _ from HKO.out) HT2.out); have z0 := KZ4.out.cell j; have z1 := KZ4.out.frozen j; rw [il_get (by have := HYL.out; simp; omega)] at z0; clear hW4 hF4)
      all_goals
        have hw4l : wr.heap.size ≤ w4.heap.size := F4.out.size
        have hN := Lib.hid F4.out.new
        have t41 : ¬ T4 w.heap.size := fun h => (hN.out _ h).elim HT1.out (fun h' => by have h' : wr.heap.size ≤ w.heap.size := h'; omega)
        have t42 : ¬ T4 w2.heap.size := fun h => (hN.out _ h).elim HT2.out (fun h' => by have h' : wr.heap.size ≤ w2.heap.size := h'; omega)
        have W5 := Lib.hid ((W4.out.wide (U' := fun k => (U k ∨ k = w.heap.size ∨ k = w2.heap.size) ∨ T4 k) (fun k hk => .inr hk) (fun k hk => hk.elim (fun h => .inl (.inl h)) .inr)).keep EE.out (Fr.set_ (G := fun k => k = w.heap.size) w4 (p := ⟨w.heap.size, j, none⟩) (.int .i64 y) rfl) (fun k hk e => t41 (e ▸ hk)) (fun k hk e => by have := HCL.out k hk; omega) (fun k e => .inl (.inr (.inl e))) _ (fun k hk => hk) (fun k hk => .inl hk) (fun k hk => by
          have : k < w4.heap.size := by
            rcases hk with hk | hk
            · exact W4.out.uL k (.inl (.inl hk))
            · exact W4.out.uL k (.inr hk)
          simpa [World.setCell] using this))
        have F5 := Lib.hid ((HF.out.trans (show Fr Tj wr T4 w4 from ⟨F4.out.os, F4.out.tape, F4.out.output, F4.out.size, F4.out.block, F4.out.new⟩)).set_new (p := ⟨w.heap.size, j, none⟩) (Nat.le_refl _) (.int .i64 y))
        have KZ5 := KZ4.out.set_ j (.int .i64 y)
        have hy2 := HYL.out
        rw [← hy2, zs_step (by omega), hy2] at KZ5
        have KZ5 := Lib.hid KZ5
        have KO5 := Lib.hid (KO4.out.far (p := ⟨w.heap.size, j, none⟩) (by show w2.heap.size ≠ w.heap.size; omega) (.int .i64 y))
        clear z0 z1 hy2 hN
        generalize w4.setCell ⟨w.heap.size, j, none⟩ (.int .i64 y) = w5 at W5 F5 KZ5 KO5 ⊢
        go_wp2
        go_roundw
        case rel => exact ⟨j + 1, ys ++ [y], t2, T4, by omega, by go_num, by simp [HYL.out], Q3.out, W5.out, F5.out, t41, t42, KZ5.out, KO5.out⟩
        case measure => simp [intOf]; omega
    · obtain rfl : j = sn := by omega
      have d1 : decide ((j : Int) < (j : Int)) = false := by rw [decide_eq_false_iff_not]; omega
      have hl8 : (([x1, x2, x3, x4, x5, x6, x7, x8] : List Int).take j).length = j := by simp; omega
      have hrow := HROW.out
      rw [List.take_of_length_le (by omega)] at hrow
      have hqq := HR.out.symm.trans hrow
      simp only [Option.some.injEq, Prod.mk.injEq] at hqq
      obtain ⟨rfl, rfl⟩ := hqq
      have kz := HKZ.out
      rw [HYL.out, Nat.sub_self, List.replicate_zero, List.append_nil] at kz
      have hw := HW.out
      obtain ⟨Gr, Ar, cr, xr, r1, r2, r3, r4, r5, r6⟩ := hw.rest
      obtain ⟨w5, hr5, hm5, hs5, hf5⟩ := MapOf.store (t := 115) hw.map Tryd.keyI32 Tryd.underlying115 (S2.out.length : Int) (key_i32 HN.out.1 HN.out.2) (fun y _ _ e => i32V_inj e)
      have hX : Reads wr wr.heap.size (some ⟨w.heap.size, 0, none⟩) next.length (il next) := by
        refine ⟨by simp [il], fun _ => ⟨_, rfl, hgl, fun i u hi => ?_⟩⟩
        have : (⟨w.heap.size, 0, none⟩ : Addr).add i = ⟨w.heap.size, i, none⟩ := by
          unfold Addr.add
          split
          · next h => subst h; rfl
          · simp
        rw [this, kz.cell, ← hi]
        simp
      obtain ⟨xs, ho5, PUSH⟩ := hw.push (n := n) (l := (lv : Int)) (X := next) (gz := w.heap.size) EE.out (U' := fun k => U k ∨ Tj k) (fun k hk => .inr hk) (fun k hk => hk.elim (fun h => .inl (.inl h)) .inr) hX (fun h => h.elim (fun h => by have := HU.out _ h; omega) HT1.out) hgl hm5 hf5 hs5 r3
      rw [b6] at hr5
      have kf := hw.cf
      rw [b1, b6] at kf
      obtain ⟨g0, g1, g2⟩ := kf.one
      have kn := r3
      rw [b2] at kn
      obtain ⟨n0, n1, n2⟩ := kn.one
      have hmn : b.mb ≠ b.xn := fun e => by
        obtain ⟨es, clock, hb, _⟩ := hw.map
        rw [e, r3] at hb
        cases hb
      have KN5 := Lib.hid (hf5.blk r3 (Ne.symm hmn))
      have kn5 := KN5.out
      rw [b2] at kn5
      obtain ⟨n50, n51, n52⟩ := kn5.one
      have PU := Lib.hid PUSH
      have O5 := Lib.hid ho5
      have HXL := Lib.hid (HYL.out)
      obtain ⟨i0, ji, jz0, jz1, jz2⟩ := info_parts Tryd.info_node
      have hrow5 : ∀ g, (Value.slice Ar S2.out.length cr).ownBlock = some g → g ≠ b.xn := fun g hg => (r5 g hg).2.1
      have HR5 := Lib.hid hrow5
      have hnl : b.xn < w5.heap.size := KN5.out.lt
      have hlen : (j : Int) = (next.length : Int) := by rw [HYL.out]
      have hb5 : b.bs ≤ w5.heap.size := by rw [hs5]; exact hw.bL
      have HS5 := Lib.hid hs5
      clear hs5
      clear hX PUSH ho5 kz r1 r2 r3 r4 r5 r6 hm5 hf5 kf kn kn5 hw hrow hrow5
      go_wp2_with (first
        | (at_builtin; refine wpList_append2L rfl _ _ 23 rfl b.bs 44 i0 (.agg #[.int .i64 0, .slice none 0 0]) 32 Tryd.underlying23 ji jz0 jz1 jz2 rfl Ar S2.out.length cr xs rfl O5.out (.int .i64 (lv : Int)) (.slice (some ⟨w.heap.size, 0, none⟩) j j) rfl rfl rfl (by unfold maxLen; omega) (by omega) hb5 ?_; intro g6 c6 w6 hown6 hbel6 hgr6 hat6; have K6 := Lib.hid (show Blk w6 b.xn 23 _ from (hgr6.block b.xn (by simp; omega) (fun e => HR5.out _ e.symm rfl)).trans (KN5.out.alloc _)); have k6 := K6.out; rw [b2] at k6; obtain ⟨q60, q61, q62⟩ := k6.one; obtain ⟨T7, W7, F7⟩ := PU.out _ g6 c6 j w6 (by rw [← HXL.out] at hown6 ⊢; exact hown6) hgr6 hat6 (hown6.lt g6 rfl).2; rw [b2] at W7 F7; have lk7 := fin_look (P := Tryd.prog) W7.map HN.out false; rw [b6, show List.lookup n ((n, (S2.out.length : Int)) :: S2.fin) = some (S2.out.length : Int) by simp [List.lookup]] at lk7; simp only [Bool.false_eq_true, if_false] at lk7; have k7 := W7.cf; rw [b1, b6] at k7; obtain ⟨q70, q71, q72⟩ := k7.one; have HW7 := Lib.hid W7; have HF7 := Lib.hid F7; clear W7 F7 k6 k7 hown6 hbel6 hgr6 hat6))
      go_ret
      exact ⟨T7, rfl, HW7.out.wide (fun k hk => .inr hk) (fun k hk => hk.elim (fun h => .inl (.inl h)) .inr), HF.out.trans HF7.out⟩
end Go.Proofs.YthgnjjpkmikokaaDoor
