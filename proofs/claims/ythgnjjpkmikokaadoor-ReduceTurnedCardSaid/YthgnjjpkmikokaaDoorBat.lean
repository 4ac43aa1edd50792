/- Maps with the number of their entries; pairs of numbers as keys. -/
/- Two trees, combined: what the walk over pairs of numbers reckons, and the blocks that it lies in. -/
/- The walk of combine$1, its easy ways. -/
/- A region that draws its order: operations that only read or call, then new variables (blocks that may be made at any time), then a tail in one forced order. -/
import Derived.Test.YthgnjjpkmikokaaDoorBaj
import Derived.Test.YthgnjjpkmikokaaDoorBaa
namespace Go.Proofs.YthgnjjpkmikokaaDoor
open Go.RowKit
open Go.ChangeMaps (setBlock heap_setBlock_same heap_setBlock_other)
open Go.MapKept (Stamped stamped_push stamped_modify stamped_empty stamped_iff)
open Go.Maps (Keyed)

/-- a map of n entries -/
def MapN (P : Program) (w : World) (k : TypeId) (b : Nat) {α β : Type} (ek : α → Value) (ev : β → Value) (A : α → Option β) (n : Nat) : Prop :=
  MapOf P w k b ek ev A ∧ ∃ es clock, w.heap[b]? = some (.map es clock) ∧ es.size = n
section
variable {P : Program} {w w' : World} {k t e : TypeId} {b n : Nat} {α β : Type} {ek : α → Value} {ev : β → Value} {A : α → Option β}
theorem MapN.of_block (h : MapN P w k b ek ev A n) (hb : w'.heap[b]? = w.heap[b]?) : MapN P w' k b ek ev A n := by
  obtain ⟨h1, es, clock, h2, h3⟩ := h
  exact ⟨h1.of_block hb, es, clock, hb.trans h2, h3⟩
theorem MapN.new (P : Program) (w : World) (k : TypeId) (ek : α → Value) (ev : β → Value) : MapN P (w.alloc (.map #[] 0)) k w.heap.size ek ev (fun _ => none) 0 :=
  ⟨MapOf.new P w k ek ev, #[], 0, (MapKept.heap_alloc w _).1, rfl⟩
theorem MapN.len (h : MapN P w k b ek ev A n) (ht : P.underlying t = some (.map k e)) (ty : TypeId) : (Builtin.len_ #[t] ty #[.map (some b)]).run P w = .ok (.int .i64 (n : Int)) w := by
  obtain ⟨_, es, clock, hb, hn⟩ := h
  subst hn
  simp [Builtin.len_, run_underlying ht, MapKept.run_getObj_map hb, goInt, Result.andThen]
theorem MapN.store [DecidableEq α] (h : MapN P w k b ek ev A n) (K : Keyed P k) (ht : P.underlying t = some (.map k e)) {x : α} (v : β) {kl : Lit} (hkey : keyOf P k (ek x) = some kl) (hA : A x = none)
    (hinj : ∀ y u, A y = some u → ek y = ek x → y = x) :
    ∃ w', (Instr.mapUpdate t (.map (some b)) (ek x) (ev v)).run P w = .ok () w' ∧ MapN P w' k b ek ev (fun y => if y = x then some v else A y) (n + 1) ∧ w'.heap.size = w.heap.size ∧ Fr (fun i => i = b) w (fun i => i = b) w' := by
  obtain ⟨⟨es, clock, hb, hs, hk, h4, h5⟩, es', clock', hb', hn⟩ := h
  have ee : es' = es := by
    have := hb'.symm.trans hb
    injection this with this
    injection this with this
  subst ee
  rcases K.find w hkey es'.toList hk with ⟨h1, h2⟩ | ⟨j, e0, h1, h2, h3⟩
  · refine ⟨setBlock w b (.map (es'.push ⟨ek x, ev v, clock⟩) (clock + 1)), ?_, ⟨⟨_, _, heap_setBlock_same hb _, stamped_push hs h2, ?_, ?_, ?_⟩, _, _, heap_setBlock_same hb _, by simp [hn]⟩, by simp [setBlock], ⟨rfl, rfl, rfl, by simp [setBlock], fun i _ hi => heap_setBlock_other hb _ hi, fun _ h => .inl h⟩⟩
    · simp [Instr.mapUpdate, run_underlying ht, MapKept.run_getObj_map hb, K.check w false hkey, h1, MapKept.run_setObj_map _ hb, Result.andThen, setBlock]
    · intro e' he'
      simp only [Array.toList_push, List.mem_append, List.mem_singleton] at he'
      rcases he' with he' | rfl
      · exact hk e' he'
      · exact ⟨kl, hkey⟩
    · intro y u hy
      simp only [Array.toList_push, List.mem_append, List.mem_singleton]
      by_cases e1 : y = x
      · simp only [if_pos e1] at hy
        injection hy with hy
        subst hy e1
        exact ⟨_, .inr rfl, rfl, rfl⟩
      · simp only [if_neg e1] at hy
        obtain ⟨e', he', q⟩ := h4 y u hy
        exact ⟨e', .inl he', q⟩
    · intro e' he'
      simp only [Array.toList_push, List.mem_append, List.mem_singleton] at he'
      rcases he' with he' | rfl
      · obtain ⟨y, u, q1, q2, q3⟩ := h5 e' he'
        refine ⟨y, u, q1, q2, ?_⟩
        have : y ≠ x := fun e1 => h2 e' he' (by rw [q1, e1])
        simp only [if_neg this]
        exact q3
      · exact ⟨x, v, rfl, rfl, by simp⟩
  · have hm0 : e0 ∈ es'.toList := List.mem_of_getElem? h2
    obtain ⟨y, u, q1, q2, q3⟩ := h5 e0 hm0
    have := hinj y u q3 (q1.symm.trans h3)
    subst this
    rw [hA] at q3
    cases q3
end
section
variable {G G' : Nat → Prop} {w w' : World}
theorem Fr.mapN (h : Fr G w G' w') {P : Program} {k : TypeId} {b n : Nat} {α β : Type} {ek : α → Value} {ev : β → Value} {A : α → Option β} (hm : MapN P w k b ek ev A n) (hb : ¬ G b) : MapN P w' k b ek ev A n := hm.of_block (h.block b hm.1.lt hb)
end

/-- a pair of numbers -/
def pairV (p : Int × Int) : Value := .agg #[.int .i32 p.1, .int .i32 p.2]
theorem pairV_inj {a b : Int × Int} (h : pairV a = pairV b) : a = b := by
  obtain ⟨x, y⟩ := a
  obtain ⟨u, v⟩ := b
  simp [pairV] at h
  simp [h.1, h.2]
theorem Tryd.rowPair : (127 : TypeId) < Tryd.prog.types.size := of_decide_eq_true (by kernel_rfl)
theorem Tryd.keyPair : Keyed Tryd.prog 127 := Keyed.of_law (deep_law_laid Tryd.laidOut13 (m := 2) (by omega) Tryd.rowPair (by kernel_rfl) (by rw [Tryd.underlying127]))
theorem Tryd.keyTypePair : Tryd.prog.keyType 127 = true := by kernel_rfl
theorem cellsPair : Tryd.prog.cellsOf 127 = 2 := by kernel_rfl
theorem key_pair {p : Int × Int} (h1 : I32 p.1) (h2 : I32 p.2) : ∃ l, keyOf Tryd.prog 127 (pairV p) = some l := by
  obtain ⟨a, b⟩ := p
  obtain ⟨m, hm⟩ := Tryd.sizeTypes
  unfold keyOf
  simp only [Tryd.underlying127]
  rw [if_pos (by simp [Tryd.keyTypePair, Value.formed, Tryd.underlying127, cellsPair, pairV]), hm]
  unfold Program.keyLits
  simp [Tryd.underlying127, cellsPair, cellsI32, pairV, Value.cells, List.range, List.range.loop, lits_i32 h1, lits_i32 h2]
end Go.Proofs.YthgnjjpkmikokaaDoor
namespace Go.Proofs.YthgnjjpkmikokaaDoor
open Go.RowKit

/-- what has been combined so far -/
structure Cs where
  L : List Ndv
  M : List ((Int × Int) × Int)
def padN (lv : Int) (l : List Int) : Ndv := ⟨lv, l ++ List.replicate (8 - l.length) 0⟩
def combF (sn most : Nat) (vf : Int → Int → Int) : Nat → Int × Int → Cs → Option (Int × Cs)
  | 0, _, _ => none
  | k + 1, p, s =>
    if min p.1 p.2 < (sn : Int) then some (vf p.1 p.2, s) else
    match s.M.lookup p with
    | some i => some (i, s)
    | none => if most < s.M.length then some (0, s) else
      (nodeF (sn : Int) s.L p.1).bind fun x => (nodeF (sn : Int) s.L p.2).bind fun y =>
      (rowF (combF sn most vf k) ((x.r.zip y.r).take sn) s).bind fun (next, s1) =>
      if s1.M.lookup p = none then (addF (sn : Int) s1.L (padN x.lv next)).bind fun (r, L2) => some (r, ⟨L2, (p, r) :: s1.M⟩) else none

/-- the walk's blocks -/
structure CB where
  xf : Nat
  xw : Nat
  xc : Nat
  xm : Nat
  xv : Nat
  mb : Nat
  fb : Nat
  wv : Value
  vv : Value
def CB.cst (b : CB) (k : Nat) : Prop := k = b.xf ∨ k = b.xw ∨ k = b.xc ∨ k = b.xm ∨ k = b.xv
def CB.cb (b : CB) : Array Value := #[.pointer (some ⟨b.xf, 0, none⟩), .pointer (some ⟨b.xw, 0, none⟩), .pointer (some ⟨b.xc, 0, none⟩), .pointer (some ⟨b.xm, 0, none⟩), .pointer (some ⟨b.xv, 0, none⟩)]

/-- what the function of two numbers is good for; dead blocks must stay -/
structure Vfn (vf : Int → Int → Int) (gW : FuncId) (cw : Array Value) (Vs : World → Prop) (dead : Nat → Prop) : Prop where
  keep : ∀ {w w' : World} {H H' : Nat → Prop}, Vs w → Fr H w H' w' → (∀ k, H k → ¬ dead k) → Vs w'
  lt : ∀ {w : World}, Vs w → ∀ k, dead k → k < w.heap.size
  call : ∀ (w : World) (a b : Int), I32 a → I32 b → Vs w → I32 (vf a b) ∧ Calls Tryd.prog gW (#[.int .i32 a, .int .i32 b] ++ cw) w fun e w' => e = .returned (.int .i32 (vf a b)) ∧ Below w.heap.size w w'

/-- the memory of a walk: T holds what it turns -/
structure Cst (sn most : Nat) (Vs : World → Prop) (dead : Nat → Prop) (b : CB) (w : World) (T : Nat → Prop) (S : Cs) : Prop where
  cf : Blk w b.xf 51 #[.pointer (some ⟨b.fb, 0, none⟩)]
  cw : Blk w b.xw 108 #[b.wv]
  cc : Blk w b.xc 126 #[.map (some b.mb)]
  cm : Blk w b.xm 3 #[.int .i64 (most : Int)]
  cv : Blk w b.xv 108 #[b.vv]
  cT : ∀ k, b.cst k → ¬ T k
  dT : ∀ k, dead k → ¬ T k
  lt : ∀ k, T k → k < w.heap.size
  vs : Vs w
  map : MapN Tryd.prog w 127 b.mb pairV (fun x => .int .i32 x) (fun p => S.M.lookup p) S.M.length
  tm : T b.mb
  mi : ∀ e ∈ S.M, I32 e.2
  rest : ∃ G, Fo w b.fb G (sn : Int) S.L ∧ ∀ k, G k → T k ∧ k ≠ b.mb
section
variable {vf : Int → Int → Int} {gW : FuncId} {cw : Array Value} {Vs : World → Prop} {dead : Nat → Prop} {sn most : Nat} {b : CB} {w w' : World} {T H H' : Nat → Prop} {S : Cs}
theorem Cst.clt (h : Cst sn most Vs dead b w T S) : ∀ k, b.cst k → k < w.heap.size := fun k hk => by
  rcases hk with rfl | rfl | rfl | rfl | rfl
  · exact h.cf.lt
  · exact h.cw.lt
  · exact h.cc.lt
  · exact h.cm.lt
  · exact h.cv.lt
/-- what turns other blocks, or makes some -/
theorem Cst.keep (V : Vfn vf gW cw Vs dead) (h : Cst sn most Vs dead b w T S) (hf : Fr H w H' w') (h1 : ∀ k, T k → ¬ H k) (h2 : ∀ k, b.cst k → ¬ H k) (h3 : ∀ k, dead k → ¬ H k) : Cst sn most Vs dead b w' T S := by
  obtain ⟨G, a1, a2⟩ := h.rest
  exact ⟨hf.blk h.cf (h2 _ (.inl rfl)), hf.blk h.cw (h2 _ (.inr (.inl rfl))), hf.blk h.cc (h2 _ (.inr (.inr (.inl rfl)))), hf.blk h.cm (h2 _ (.inr (.inr (.inr (.inl rfl))))), hf.blk h.cv (h2 _ (.inr (.inr (.inr (.inr rfl))))), h.cT, h.dT, fun k hk => Nat.lt_of_lt_of_le (h.lt k hk) hf.size, V.keep h.vs hf (fun k hk hd => h3 k hd hk),
    hf.mapN h.map (h1 _ h.tm), h.tm, h.mi, G, a1.keep hf (fun k hk => h1 k (a2 k hk).1), a2⟩
theorem Cst.below (V : Vfn vf gW cw Vs dead) (h : Cst sn most Vs dead b w T S) (hb : Below w.heap.size w w') : Cst sn most Vs dead b w' T S :=
  h.keep V (Fr.of_below (G := fun _ => False) hb) (fun _ _ h => h) (fun _ _ h => h) (fun _ _ h => h)
/-- stores into new blocks alone -/
theorem Cst.new (V : Vfn vf gW cw Vs dead) (h : Cst sn most Vs dead b w T S) (hf : Fr H w H' w') (hH : ∀ k, H k → k < w.heap.size → False) : Cst sn most Vs dead b w' T S :=
  h.keep V hf (fun k hk hk' => hH k hk' (h.lt k hk)) (fun k hk hk' => hH k hk' (h.clt k hk)) (fun k hk hk' => hH k hk' (V.lt h.vs k hk))
/-- the forest has grown -/
theorem Cst.grow (V : Vfn vf gW cw Vs dead) (h : Cst sn most Vs dead b w T S) : ∃ G, Fo w b.fb G (sn : Int) S.L ∧ ∀ w' G' L', Fo w' b.fb G' (sn : Int) L' → Fr G w G' w' → Cst sn most Vs dead b w' (fun k => T k ∨ G' k) ⟨L', S.M⟩ ∧ Fr T w (fun k => T k ∨ G' k) w' := by
  obtain ⟨G, a1, a2⟩ := h.rest
  refine ⟨G, a1, fun w' G' L' hF hf => ?_⟩
  have hcn : ∀ k, b.cst k → ¬ G k := fun k hk hG => h.cT k hk (a2 k hG).1
  have hdn : ∀ k, dead k → ¬ G k := fun k hk hG => h.dT k hk (a2 k hG).1
  refine ⟨⟨hf.blk h.cf (hcn _ (.inl rfl)), hf.blk h.cw (hcn _ (.inr (.inl rfl))), hf.blk h.cc (hcn _ (.inr (.inr (.inl rfl)))), hf.blk h.cm (hcn _ (.inr (.inr (.inr (.inl rfl))))), hf.blk h.cv (hcn _ (.inr (.inr (.inr (.inr rfl))))), ?_, ?_, ?_, V.keep h.vs hf (fun k hk hd => hdn k hd hk), hf.mapN h.map (fun hG => (a2 _ hG).2 rfl), .inl h.tm, h.mi, G', hF, ?_⟩, ?_⟩
  · intro k hk hk'
    rcases hk' with hk' | hk'
    · exact h.cT k hk hk'
    · rcases hf.new k hk' with q | q
      · exact hcn k hk q
      · have := h.clt k hk; omega
  · intro k hk hk'
    rcases hk' with hk' | hk'
    · exact h.dT k hk hk'
    · rcases hf.new k hk' with q | q
      · exact hdn k hk q
      · have := V.lt h.vs k hk; omega
  · intro k hk
    rcases hk with hk | hk
    · exact Nat.lt_of_lt_of_le (h.lt k hk) hf.size
    · exact hF.st2.2.2.2.2.2.2.1 k hk
  · intro k hk
    refine ⟨.inr hk, fun e => ?_⟩
    rcases hf.new k hk with q | q
    · exact (a2 k q).2 e
    · have := h.lt _ h.tm; omega
  · refine hf.weak (fun k hG => (a2 k hG).1) (fun k hk => hk.elim .inl (fun hG => ?_))
    rcases hf.new k hG with q | q
    · exact .inl (a2 k q).1
    · exact .inr q
/-- a pair is known -/
theorem Cst.put (V : Vfn vf gW cw Vs dead) (h : Cst sn most Vs dead b w T S) {p : Int × Int} {r : Int} (hm : MapN Tryd.prog w' 127 b.mb pairV (fun x => .int .i32 x) (fun y => if y = p then some r else S.M.lookup y) (S.M.length + 1)) (hr : I32 r) (hf : Fr (fun i => i = b.mb) w (fun i => i = b.mb) w') :
    Cst sn most Vs dead b w' T ⟨S.L, (p, r) :: S.M⟩ := by
  obtain ⟨G, a1, a2⟩ := h.rest
  have hcn : ∀ k, b.cst k → ¬ k = b.mb := fun k hk e => h.cT k hk (e ▸ h.tm)
  have hdn : ∀ k, dead k → ¬ k = b.mb := fun k hk e => h.dT k hk (e ▸ h.tm)
  have e : (fun y => List.lookup y ((p, r) :: S.M)) = (fun y => if y = p then some r else S.M.lookup y) := by
    funext y
    by_cases e : y = p
    · simp [List.lookup, e]
    · have : (y == p) = false := by simp [e]
      simp [List.lookup, this, e]
  refine ⟨hf.blk h.cf (hcn _ (.inl rfl)), hf.blk h.cw (hcn _ (.inr (.inl rfl))), hf.blk h.cc (hcn _ (.inr (.inr (.inl rfl)))), hf.blk h.cm (hcn _ (.inr (.inr (.inr (.inl rfl))))), hf.blk h.cv (hcn _ (.inr (.inr (.inr (.inr rfl))))), h.cT, h.dT, fun k hk => Nat.lt_of_lt_of_le (h.lt k hk) hf.size, V.keep h.vs hf (fun k hk hd => hdn k hd hk), ?_, h.tm, ?_, G, a1.keep hf (fun k hk => (a2 k hk).2), a2⟩
  · show MapN _ _ _ _ _ _ (fun y => List.lookup y ((p, r) :: S.M)) ((p, r) :: S.M).length
    rw [e, List.length_cons]
    exact hm
  · intro x hx
    rcases List.mem_cons.1 hx with rfl | hx
    · exact hr
    · exact h.mi x hx
end
end Go.Proofs.YthgnjjpkmikokaaDoor
namespace Go.Proofs.YthgnjjpkmikokaaDoor
open Go.RowKit

theorem run_min2 {P : Program} (w : World) (ts : Array TypeId) (t : TypeId) (k : IntKind) (x y : Int) : (Builtin.min_ ts t #[.int k x, .int k y]).run P w = .ok (.int k (min x y)) w := by
  have e : (if y < x then y else x) = min x y := by
    split <;> omega
  simp [Builtin.min_, Builtin.min2, e]
theorem run_max2 {P : Program} (w : World) (ts : Array TypeId) (t : TypeId) (k : IntKind) (x y : Int) : (Builtin.max_ ts t #[.int k x, .int k y]).run P w = .ok (.int k (max x y)) w := by
  have e : (if y > x then y else x) = max x y := by
    split <;> omega
  simp [Builtin.max_, Builtin.max2, e]
/-- what a visit promises -/
def VcOut (sn most : Nat) (Vs : World → Prop) (dead : Nat → Prop) (b : CB) (w : World) (T : Nat → Prop) (r : Int) (S' : Cs) (e : Ending) (w' : World) : Prop :=
  ∃ T', e = .returned (.int .i32 r) ∧ I32 r ∧ Cst sn most Vs dead b w' T' S' ∧ Fr T w T' w'
theorem com_look {w : World} {mb : Nat} {M : List ((Int × Int) × Int)} (hm : MapN Tryd.prog w 127 mb pairV (fun x => .int .i32 x) (fun p => M.lookup p) M.length) {p : Int × Int} (h1 : I32 p.1) (h2 : I32 p.2) :
    (Instr.lookup 126 (.map (some mb)) (.agg #[.int .i32 p.1, .int .i32 p.2]) true).run Tryd.prog w = .ok (match M.lookup p with | some v => .tuple #[.int .i32 v, .bool true] | none => .tuple #[.int .i32 0, .bool false]) w := by
  obtain ⟨kl, hkl⟩ := key_pair h1 h2
  have := hm.1.look true Tryd.keyPair Tryd.underlying126 (zero_i32 w) hkl (fun y _ _ e => pairV_inj e)
  rw [show (Value.agg #[.int .i32 p.1, .int .i32 p.2]) = pairV p from rfl, this]
  cases M.lookup p <;> rfl
theorem lookup_mem {M : List ((Int × Int) × Int)} {p : Int × Int} {i : Int} (h : M.lookup p = some i) : ∃ e ∈ M, e.2 = i := by
  induction M with
  | nil => cases h
  | cons a M ih =>
    simp only [List.lookup] at h
    split at h
    · injection h with h
      exact ⟨a, by simp, h⟩
    · obtain ⟨e, he, h2⟩ := ih h
      exact ⟨e, by simp [he], h2⟩

section
variable {vf : Int → Int → Int} {gW : FuncId} {cw : Array Value} {Vs : World → Prop} {dead : Nat → Prop} {sn most xf xw xc xm xv mb fb : Nat} {vv : Value} {w : World} {T : Nat → Prop} {S : Cs}
set_option maxRecDepth 100000 in
set_option maxHeartbeats 4000000 in
theorem cv_leaf (V : Vfn vf gW cw Vs dead) (eg : ∀ args w, (callFunc gW args).run Tryd.prog w = .ok (.enter gW args) w) {a c : Int} (ha : I32 a) (hc : I32 c) (hlt : min a c < (sn : Int)) (h : Cst sn most Vs dead ⟨xf, xw, xc, xm, xv, mb, fb, .func (.func gW) #[] cw, vv⟩ w T S) :
    Calls Tryd.prog 86 #[.int .i32 a, .int .i32 c, .pointer (some ⟨xf, 0, none⟩), .pointer (some ⟨xw, 0, none⟩), .pointer (some ⟨xc, 0, none⟩), .pointer (some ⟨xm, 0, none⟩), .pointer (some ⟨xv, 0, none⟩)] w fun e w' => VcOut sn most Vs dead ⟨xf, xw, xc, xm, xv, mb, fb, .func (.func gW) #[] cw, vv⟩ w T (vf a c) S e w' := by
  have H := Lib.hid h
  have VV := Lib.hid V
  obtain ⟨hI, C⟩ := V.call w a c ha hc h.vs
  have CH := Lib.hid C
  have HI := Lib.hid hI
  obtain ⟨f0, f1, f2⟩ := h.cf.one
  obtain ⟨g0, g1, g2⟩ := h.cw.one
  obtain ⟨G, k1, k2⟩ := h.rest
  obtain ⟨s0, s1, _⟩ := k1.st2
  simp only at f0 f1 f2 g0 g1 g2 s0 s1
  have hm : ∀ (w : World) (ts : Array TypeId) (t : TypeId), (Builtin.min_ ts t #[.int .i32 a, .int .i32 c]).run Tryd.prog w = .ok (.int .i32 (min a c)) w := fun w ts t => run_min2 w ts t .i32 a c
  have hmr : -2147483648 ≤ min a c ∧ min a c < 2147483648 := by
    obtain ⟨a1, a2⟩ := ha
    obtain ⟨c1, c2⟩ := hc
    omega
  generalize min a c = m at hm hlt hmr
  have c1 : IntKind.i64.wrap m = m := IntWalk.i64_in _ ⟨by omega, by omega⟩
  have d1 : decide (m < (sn : Int)) = true := by rw [decide_eq_true_iff]; exact hlt
  generalize vf a c = r at CH HI ⊢
  clear h hI C V ha hc k1 k2
  go_enter Tryd.func86, Tryd.ntmps86
  go_wp2_with ((with_reducible refine (CH.out).mono ?_); rintro e w1 ⟨rfl, hb⟩; have B1 := Lib.hid hb; clear hb)
  go_ret
  exact ⟨T, rfl, HI.out, H.out.below VV.out B1.out, Fr.of_below B1.out⟩
set_option maxRecDepth 100000 in
set_option maxHeartbeats 4000000 in
theorem cv_found {a c i : Int} (ha : I32 a) (hc : I32 c) (hlt : ¬ min a c < (sn : Int)) (h : Cst sn most Vs dead ⟨xf, xw, xc, xm, xv, mb, fb, .func (.func gW) #[] cw, vv⟩ w T S) (hf : S.M.lookup (a, c) = some i) :
    Calls Tryd.prog 86 #[.int .i32 a, .int .i32 c, .pointer (some ⟨xf, 0, none⟩), .pointer (some ⟨xw, 0, none⟩), .pointer (some ⟨xc, 0, none⟩), .pointer (some ⟨xm, 0, none⟩), .pointer (some ⟨xv, 0, none⟩)] w fun e w' => VcOut sn most Vs dead ⟨xf, xw, xc, xm, xv, mb, fb, .func (.func gW) #[] cw, vv⟩ w T i S e w' := by
  have H := Lib.hid h
  have HI := Lib.hid (show I32 i from by
    obtain ⟨e, he, h2⟩ := lookup_mem hf
    exact h2 ▸ h.mi e he)
  have lk := com_look h.map (p := (a, c)) ha hc
  rw [hf] at lk
  simp only at lk
  obtain ⟨f0, f1, f2⟩ := h.cf.one
  obtain ⟨g0, g1, g2⟩ := h.cc.one
  obtain ⟨G, k1, k2⟩ := h.rest
  obtain ⟨s0, s1, _⟩ := k1.st2
  simp only at f0 f1 f2 g0 g1 g2 s0 s1
  have hm : ∀ (w : World) (ts : Array TypeId) (t : TypeId), (Builtin.min_ ts t #[.int .i32 a, .int .i32 c]).run Tryd.prog w = .ok (.int .i32 (min a c)) w := fun w ts t => run_min2 w ts t .i32 a c
  have hmr : -2147483648 ≤ min a c ∧ min a c < 2147483648 := by
    obtain ⟨a1, a2⟩ := ha
    obtain ⟨c1, c2⟩ := hc
    omega
  generalize min a c = m at hm hlt hmr
  have c1 : IntKind.i64.wrap m = m := IntWalk.i64_in _ ⟨by omega, by omega⟩
  have d1 : decide (m < (sn : Int)) = false := by rw [decide_eq_false_iff_not]; exact hlt
  clear h ha hc k1 k2 hf
  go_enter Tryd.func86, Tryd.ntmps86
  go_wp2
  go_ret
  exact ⟨T, rfl, HI.out, H.out, Fr.refl _ _⟩
set_option maxRecDepth 100000 in
set_option maxHeartbeats 4000000 in
theorem cv_cut {a c : Int} (ha : I32 a) (hc : I32 c) (hlt : ¬ min a c < (sn : Int)) (h : Cst sn most Vs dead ⟨xf, xw, xc, xm, xv, mb, fb, .func (.func gW) #[] cw, vv⟩ w T S) (hf : S.M.lookup (a, c) = none) (ho : most < S.M.length) :
    Calls Tryd.prog 86 #[.int .i32 a, .int .i32 c, .pointer (some ⟨xf, 0, none⟩), .pointer (some ⟨xw, 0, none⟩), .pointer (some ⟨xc, 0, none⟩), .pointer (some ⟨xm, 0, none⟩), .pointer (some ⟨xv, 0, none⟩)] w fun e w' => VcOut sn most Vs dead ⟨xf, xw, xc, xm, xv, mb, fb, .func (.func gW) #[] cw, vv⟩ w T 0 S e w' := by
  have H := Lib.hid h
  have lk := com_look h.map (p := (a, c)) ha hc
  rw [hf] at lk
  simp only at lk
  have hlen := fun ty => h.map.len Tryd.underlying126 ty
  obtain ⟨f0, f1, f2⟩ := h.cf.one
  obtain ⟨g0, g1, g2⟩ := h.cc.one
  obtain ⟨m0, m1, m2⟩ := h.cm.one
  obtain ⟨G, k1, k2⟩ := h.rest
  obtain ⟨s0, s1, _⟩ := k1.st2
  simp only at f0 f1 f2 g0 g1 g2 s0 s1 m0 m1 m2 hlen
  have hm : ∀ (w : World) (ts : Array TypeId) (t : TypeId), (Builtin.min_ ts t #[.int .i32 a, .int .i32 c]).run Tryd.prog w = .ok (.int .i32 (min a c)) w := fun w ts t => run_min2 w ts t .i32 a c
  have hmr : -2147483648 ≤ min a c ∧ min a c < 2147483648 := by
    obtain ⟨a1, a2⟩ := ha
    obtain ⟨c1, c2⟩ := hc
    omega
  generalize min a c = m at hm hlt hmr
  have c1 : IntKind.i64.wrap m = m := IntWalk.i64_in _ ⟨by omega, by omega⟩
  have d1 : decide (m < (sn : Int)) = false := by rw [decide_eq_false_iff_not]; exact hlt
  have d2 : decide ((most : Int) < (S.M.length : Int)) = true := by rw [decide_eq_true_iff]; omega
  clear h ha hc k1 k2 hf
  go_enter Tryd.func86, Tryd.ntmps86
  go_wp2
  go_ret
  exact ⟨T, rfl, ⟨by omega, by omega⟩, H.out, Fr.refl _ _⟩
end
end Go.Proofs.YthgnjjpkmikokaaDoor
namespace Go.Proofs.YthgnjjpkmikokaaDoor
open Go.RowKit

/-- blocks: where, of which type, with which cells -/
abbrev Blocks := List (Nat × TypeId × Array Value)

section
variable {P : Program} {ops : Array Oper} {md : Region.Mode} {w0 : World}

/-- an operation, run in w, hands back v and turns nothing that is there -/
def GUpon (P : Program) (w : World) (v : Value) : Result Next → Prop
  | .ok (.value u) w' => w' = w ∧ u = v
  | .ok .skip w' => w' = w ∧ v = undef
  | .ok (.enter f args) w' => w' = w ∧ Calls P f args w (fun e w'' => e = .returned v ∧ Below w.heap.size w w'')
  | _ => False
def GDoes (P : Program) (w0 : World) (o : Oper) (a : Act) (v : Value) : Prop := ∀ p : LowW w0.heap.size w0, GUpon P p.w v ((execOp a.eval o).run P p.w)
/-- the walk in the text's order -/
def wpG (P : Program) (ops : Array Oper) (w0 : World) (Q : Act → Prop) : List Oper → Act → Prop
  | [], a => Q a
  | o :: rest, a => if Region.wanted o (yielded ops a.tmps) then ∃ v, GDoes P w0 o a v ∧ wpG P ops w0 Q rest (a.put o.dst v) else wpG P ops w0 Q rest (a.put o.dst undef)
theorem wpG_step {Q : Act → Prop} {a : Act} {o : Oper} {rest : List Oper}
    (h : ∀ K : Act → Prop, (∀ a, wpG P ops w0 Q rest a → K a) → if Region.wanted o (yielded ops a.tmps) then ∃ v, GDoes P w0 o a v ∧ K (a.put o.dst v) else K (a.put o.dst undef)) : wpG P ops w0 Q (o :: rest) a :=
  h _ (fun _ h => h)
theorem wpG_nil {Q : Act → Prop} {a : Act} (h : Q a) : wpG P ops w0 Q [] a := h

/-- operation o leaves v in its slot, whichever world of the class it meets -/
def GY (P : Program) (ops : Array Oper) (w0 : World) (o : Oper) (v : Value) (a : Act) : Prop :=
  (Region.wanted o (yielded ops a.tmps) = true ∧ GDoes P w0 o a v) ∨ (Region.wanted o (yielded ops a.tmps) = false ∧ v = undef)
theorem GY.of_same {o : Oper} {v : Value} {a a' : Act} (hy : GY P ops w0 o v a) (he : execOp a'.eval o = execOp a.eval o) (hw : Region.wanted o (yielded ops a'.tmps) = Region.wanted o (yielded ops a.tmps)) : GY P ops w0 o v a' := by
  unfold GY GDoes at *
  rw [he, hw]
  exact hy
/-- operation o is a new variable: a block of these cells -/
def AY (P : Program) (ops : Array Oper) (o : Oper) (t : TypeId) (cs : Array Value) : Prop :=
  (∀ a : Act, Region.wanted o (yielded ops a.tmps) = true) ∧ ∀ (a : Act) (w : World), (execOp a.eval o).run P w = .ok (.value (.pointer (some ⟨w.heap.size, 0, none⟩))) (w.alloc (.cells cs t))

/-- what is known of the world: old blocks are as they were, the new ones hold what they hold, no two are one -/
structure Wd (w0 : World) (A : Blocks) (w : World) : Prop where
  low : Below w0.heap.size w0 w
  blk : ∀ x ∈ A, Blk w x.1 x.2.1 x.2.2 ∧ w0.heap.size ≤ x.1
  apart : (A.map (·.1)).Nodup
theorem Wd.later {A : Blocks} {w w' : World} (h : Wd w0 A w) (hb : Below w.heap.size w w') : Wd w0 A w' :=
  ⟨h.low.trans (hb.mono h.low.size), fun x hx => ⟨(h.blk x hx).1.below hb (h.blk x hx).1.lt, (h.blk x hx).2⟩, h.apart⟩
theorem Wd.new {A : Blocks} {w : World} (h : Wd w0 A w) (t : TypeId) (cs : Array Value) : Wd w0 ((w.heap.size, t, cs) :: A) (w.alloc (.cells cs t)) := by
  have hb : Below w.heap.size w (w.alloc (.cells cs t)) := (Below.refl _ _).alloc (Nat.le_refl _) _
  refine ⟨(h.later hb).low, fun x hx => ?_, ?_⟩
  · rcases List.mem_cons.1 hx with rfl | hx
    · exact ⟨Blk.new w t cs, h.low.size⟩
    · exact (h.later hb).blk x hx
  · rw [List.map_cons, List.nodup_cons]
    refine ⟨fun hm => ?_, h.apart⟩
    obtain ⟨x, hx, he⟩ := List.mem_map.1 hm
    have := (h.blk x hx).1.lt
    simp only at he
    omega
theorem Wd.perm {A A' : Blocks} {w : World} (h : Wd w0 A' w) (hp : A.Perm A') : Wd w0 A w :=
  ⟨h.low, fun x hx => h.blk x (hp.mem_iff.1 hx), (hp.map _).nodup_iff.2 h.apart⟩

/-- whatever order is picked among the first e operations: those below n read or call, the others are new variables -/
def MixQ (P : Program) (md : Region.Mode) (ops : Array Oper) (w0 : World) (n e : Nat) (L : Array Bool → Blocks → Act → Prop) : Nat → Array Bool → Blocks → Act → Prop
  | 0, done, A, a => L done A a
  | f + 1, done, A, a => Region.ready md ops done ≠ [] ∧ ∀ i ∈ Region.ready md ops done, i < e ∧ ∃ o, ops[i]? = some o ∧
      ((i < n ∧ ∃ v, GY P ops w0 o v a ∧ MixQ P md ops w0 n e L f (done.setIfInBounds i true) A (a.put o.dst v)) ∨
       (n ≤ i ∧ ∃ t cs, AY P ops o t cs ∧ ∀ g, MixQ P md ops w0 n e L f (done.setIfInBounds i true) ((g, t, cs) :: A) (a.put o.dst (.pointer (some ⟨g, 0, none⟩)))))

theorem MixQ.perm {n e : Nat} {L : Array Bool → Blocks → Act → Prop} (hL : ∀ done A A' a, A.Perm A' → L done A a → L done A' a) (f : Nat) :
    ∀ done A A' a, A.Perm A' → MixQ P md ops w0 n e L f done A a → MixQ P md ops w0 n e L f done A' a := by
  induction f with
  | zero => exact hL
  | succ f ih =>
    intro done A A' a hp h
    refine ⟨h.1, fun i hi => ?_⟩
    obtain ⟨hie, o, ho, hc⟩ := h.2 i hi
    refine ⟨hie, o, ho, ?_⟩
    rcases hc with ⟨hin, v, hy, hk⟩ | ⟨hin, t, cs, hy, hk⟩
    · exact .inl ⟨hin, v, hy, ih _ _ _ _ hp hk⟩
    · exact .inr ⟨hin, t, cs, hy, fun g => ih _ _ _ _ (hp.cons _) (hk g)⟩

theorem wpOp_of_GY {i : Nat} {o : Oper} {v : Value} {A : Blocks} {a : Act} {K' : Act → World → Prop} {Q' : Exit → Act → World → Prop} {w : World} (ho : ops[i]? = some o) (hw : Wd w0 A w) (hy : GY P ops w0 o v a)
    (h : ∀ w', Wd w0 A w' → K' (a.put o.dst v) w') : wpOp P ops Q' i K' a w := by
  unfold wpOp
  simp only [ho]
  rcases hy with ⟨hwt, hd⟩ | ⟨hwt, rfl⟩
  · simp only [hwt, if_true]
    refine .inl ?_
    have h3 := hd ⟨w, hw.low⟩
    simp only at h3
    unfold Oper.wp
    generalize (execOp a.eval o).run P w = r at *
    cases r with
    | ok n w' =>
      cases n <;> simp only [GUpon] at h3 <;> simp only [Oper.upon]
      case value u =>
        obtain ⟨e1, e2⟩ := h3
        rw [e1, e2]
        exact h _ hw
      case skip =>
        obtain ⟨e1, e2⟩ := h3
        rw [e1, ← e2]
        exact h _ hw
      case enter f args =>
        obtain ⟨e1, hc⟩ := h3
        rw [e1]
        exact hc.mono fun e w'' ⟨he, hw''⟩ => by subst he; exact h _ (hw.later hw'')
    | halt x w' => simp only [GUpon] at h3
  · simp only [hwt]
    exact h _ hw
theorem wpOp_of_AY {i : Nat} {o : Oper} {t : TypeId} {cs : Array Value} {A : Blocks} {a : Act} {K' : Act → World → Prop} {Q' : Exit → Act → World → Prop} {w : World} (ho : ops[i]? = some o) (hw : Wd w0 A w) (hy : AY P ops o t cs)
    (h : ∀ g w', Wd w0 ((g, t, cs) :: A) w' → K' (a.put o.dst (.pointer (some ⟨g, 0, none⟩))) w') : wpOp P ops Q' i K' a w := by
  unfold wpOp
  simp only [ho, hy.1 a, if_true]
  refine .inl ?_
  unfold Oper.wp
  rw [hy.2 a w]
  simp only [Oper.upon]
  exact h _ _ (hw.new t cs)

theorem MixQ.any {n e g : Nat} {L : Array Bool → Blocks → Act → Prop} {Q' : Exit → Act → World → Prop} (hL : ∀ done A a w, Wd w0 A w → L done A a → wpAny P md ops Q' g done a w) (f : Nat) :
    ∀ done A a w, Wd w0 A w → MixQ P md ops w0 n e L f done A a → wpAny P md ops Q' (f + g) done a w := by
  induction f with
  | zero => intro done A a w hw h; rw [Nat.zero_add]; exact hL _ _ _ _ hw h
  | succ f ih =>
    intro done A a w hw h
    rw [show f + 1 + g = (f + g) + 1 by omega]
    refine ⟨fun h0 => absurd h0 h.1, fun i hi => ?_⟩
    obtain ⟨_, o, ho, hc⟩ := h.2 i hi
    rcases hc with ⟨_, v, hy, hk⟩ | ⟨_, t, cs, hy, hk⟩
    · exact wpOp_of_GY ho hw hy fun w' hw' => ih _ _ _ _ hw' hk
    · exact wpOp_of_AY ho hw hy fun g w' hw' => ih _ _ _ _ hw' (hk g)

theorem GY.put {oi oj : Oper} {v u : Value} {a : Act} (hsi : ∀ cs b, oi.op ≠ .select cs b) (hy : GY P ops w0 oi v a) (hap : oi.apart ops oj = true) : GY P ops w0 oi v (a.put oj.dst u) :=
  hy.of_same (execOp_put oi hsi a oj.dst u (Oper.apart_spec hap).2.2) (wanted_put oi a oj.dst u (Oper.apart_spec hap).2.2)
theorem GY.unput {oi oj : Oper} {v u : Value} {a : Act} (hsj : ∀ cs b, oj.op ≠ .select cs b) (hy : GY P ops w0 oj v (a.put oi.dst u)) (hap : oi.apart ops oj = true) : GY P ops w0 oj v a :=
  hy.of_same (execOp_put oj hsj a oi.dst u (Oper.apart_spec hap).1).symm (wanted_put oj a oi.dst u (Oper.apart_spec hap).1).symm

/-- what may be taken now may be taken first -/
theorem MixQ.first {n e i : Nat} {oi : Oper} {L : Array Bool → Blocks → Act → Prop} (hLp : ∀ done A A' a, A.Perm A' → L done A a → L done A' a) (hi : ops[i]? = some oi) (hsel : Region.noSelect ops = true)
    (hs : Region.sinkB md ops e = true) (hc : Region.chainB md ops e = true) (hn : e < ops.size) (hie : i < e) (hdone : ∀ done A a, L done A a → ∀ j ∈ Region.ready md ops done, e ≤ j) (f : Nat) :
    ∀ (done : Array Bool) (A : Blocks) (a : Act), HeadInv md ops e done →
      (∀ j oj, ops[j]? = some oj → j ≠ i → done.getD j true = false → (∀ e ∈ oj.after, Region.binds md e = true → e.on ≠ i) → oi.apart ops oj = true) →
      i ∈ Region.ready md ops done →
      ((i < n ∧ ∃ v, GY P ops w0 oi v a ∧ MixQ P md ops w0 n e L f (done.setIfInBounds i true) A (a.put oi.dst v)) ∨
       (n ≤ i ∧ (∀ k, k < n → done.getD k false = true) ∧ ∃ t cs, AY P ops oi t cs ∧ ∀ g, MixQ P md ops w0 n e L f (done.setIfInBounds i true) ((g, t, cs) :: A) (a.put oi.dst (.pointer (some ⟨g, 0, none⟩))))) →
      MixQ P md ops w0 n e L (f + 1) done A a := by
  induction f with
  | zero =>
    intro done A a inv _ hr H
    refine ⟨List.ne_nil_of_mem hr, fun j hj => ?_⟩
    have hjn : j < e := Nat.lt_of_not_le fun h => tail_waits hs hc hn inv _ i rfl hie (mem_ready.1 hr).1 j h hj
    refine ⟨hjn, ?_⟩
    by_cases hji : j = i
    · subst hji
      refine ⟨oi, hi, ?_⟩
      rcases H with ⟨h1, v, hy, hk⟩ | ⟨h1, _, t, cs, hy, hk⟩
      · exact .inl ⟨h1, v, hy, hk⟩
      · exact .inr ⟨h1, t, cs, hy, hk⟩
    · rcases H with ⟨h1, v, hy, hk⟩ | ⟨h1, _, t, cs, hy, hk⟩
      · exact absurd (hdone _ _ _ hk j (ready_mono hj hji)) (by omega)
      · exact absurd (hdone _ _ _ (hk 0) j (ready_mono hj hji)) (by omega)
  | succ f ih =>
    intro done A a inv hfree hr H
    refine ⟨List.ne_nil_of_mem hr, fun j hj => ?_⟩
    have hjn : j < e := Nat.lt_of_not_le fun h => tail_waits hs hc hn inv _ i rfl hie (mem_ready.1 hr).1 j h hj
    refine ⟨hjn, ?_⟩
    by_cases hji : j = i
    · subst hji
      refine ⟨oi, hi, ?_⟩
      rcases H with ⟨h1, v, hy, hk⟩ | ⟨h1, _, t, cs, hy, hk⟩
      · exact .inl ⟨h1, v, hy, hk⟩
      · exact .inr ⟨h1, t, cs, hy, hk⟩
    · obtain ⟨hjun, oj, hoj, hall⟩ := mem_ready.1 hj
      have hnot : ∀ e ∈ oj.after, Region.binds md e = true → e.on ≠ i := fun e he hb heq => by
        have h1 := hall e he hb
        rw [heq, getD_both (mem_ready.1 hr).1] at h1
        cases h1
      have hap := hfree j oj hoj hji hjun hnot
      have hfree' : ∀ k ok, ops[k]? = some ok → k ≠ i → (done.setIfInBounds j true).getD k true = false → (∀ e ∈ ok.after, Region.binds md e = true → e.on ≠ i) → oi.apart ops ok = true := fun k ok hk hki hun hno => by
        refine hfree k ok hk hki ?_ hno
        by_cases hjk : j = k
        · subst hjk; exact hjun
        · rw [getD_set_ne true hjk] at hun; exact hun
      have inv' := inv.set hj hjn
      have hr' := ready_mono hr (Ne.symm hji)
      have hsi := fun cs b => Region.noSelect_spec hsel i oi cs b hi
      have hsj := fun cs b => Region.noSelect_spec hsel j oj cs b hoj
      have hpc := fun v u => Act.put_comm a v u (Oper.apart_spec hap).2.1
      refine ⟨oj, hoj, ?_⟩
      rcases H with ⟨h1, v, hy, hk⟩ | ⟨h1, hall', t, cs, hy, hk⟩
      · obtain ⟨_, o', ho', hc'⟩ := hk.2 j (ready_mono hj hji)
        obtain rfl : oj = o' := Option.some.inj (hoj.symm.trans ho')
        rcases hc' with ⟨hjn', u, hyj, hkj⟩ | ⟨hjn', t', cs', hyj, hkj⟩
        · refine .inl ⟨hjn', u, hyj.unput hsj hap, ih _ _ _ inv' hfree' hr' (.inl ⟨h1, v, hy.put hsi hap, ?_⟩)⟩
          rw [Array.setIfInBounds_comm _ _ hji, ← hpc]
          exact hkj
        · refine .inr ⟨hjn', t', cs', hyj, fun g => ih _ _ _ inv' hfree' hr' (.inl ⟨h1, v, hy.put hsi hap, ?_⟩)⟩
          rw [Array.setIfInBounds_comm _ _ hji, ← hpc]
          exact hkj g
      · have hjn' : n ≤ j := Nat.le_of_not_lt fun h => by
          have h2 := hall' j h
          rw [getD_both hjun] at h2
          cases h2
        obtain ⟨_, o', ho', hc'⟩ := (hk 0).2 j (ready_mono hj hji)
        obtain rfl : oj = o' := Option.some.inj (hoj.symm.trans ho')
        rcases hc' with ⟨hjn2, _⟩ | ⟨_, t', cs', hyj, _⟩
        · omega
        · refine .inr ⟨hjn', t', cs', hyj, fun g => ih _ _ _ inv' hfree' hr' (.inr ⟨h1, fun k hk' => ?_, t, cs, hy, fun g' => ?_⟩)⟩
          · exact getD_set_true (hall' k hk')
          · obtain ⟨_, o', ho', hc'⟩ := (hk g').2 j (ready_mono hj hji)
            obtain rfl : oj = o' := Option.some.inj (hoj.symm.trans ho')
            rcases hc' with ⟨hjn2, _⟩ | ⟨_, t2, cs2, hyj2, hkj⟩
            · omega
            · have h3 := (hyj.2 a w0).symm.trans (hyj2.2 a w0)
              have h4 : (w0.alloc (.cells cs' t')).heap[w0.heap.size]? = (w0.alloc (.cells cs2 t2)).heap[w0.heap.size]? := by
                injection h3 with _ h3
                rw [h3]
              have h5 := (Blk.new w0 t' cs').symm.trans (h4.trans (Blk.new w0 t2 cs2))
              injection h5 with h5
              injection h5 with h6 h7
              subst h6 h7
              rw [Array.setIfInBounds_comm _ _ hji, ← hpc]
              exact MixQ.perm hLp _ _ _ _ _ (List.Perm.swap _ _ _) (hkj g)

/-- the new variables in the text's order -/
def wpN (P : Program) (ops : Array Oper) (Q : Blocks → Act → Prop) : List Oper → Blocks → Act → Prop
  | [], A, a => Q A a
  | o :: rest, A, a => ∃ t cs, AY P ops o t cs ∧ ∀ g, wpN P ops Q rest ((g, t, cs) :: A) (a.put o.dst (.pointer (some ⟨g, 0, none⟩)))

theorem MixQ.lexN {n e g : Nat} {Lq : Blocks → Act → Prop} (hLq : ∀ A A' a, A.Perm A' → Lq A a → Lq A' a) (hsel : Region.noSelect ops = true) (hs : Region.sinkB md ops e = true) (hc : Region.chainB md ops e = true) (hn : e < ops.size) :
    ∀ (l : List Oper) (k : Nat) (done : Array Bool) (A : Blocks) (a : Act), n ≤ k → (∀ i, i < k → done.getD i false = true) → (∀ j, j < l.length → l[j]? = ops[k + j]?) → k + l.length = e → HeadInv md ops e done →
    Region.lexHead md ops g l.length k done = true → wpN P ops Lq l A a → MixQ P md ops w0 n e (fun done' A' a' => Region.seqB md ops g e done' = true ∧ Lq A' a') l.length done A a
  | [], k, done, A, a, _, _, _, hk, _, hB, h => by
    obtain rfl : k = e := by simpa using hk
    exact ⟨by simpa [Region.lexHead] using hB, h⟩
  | o :: l, k, done, A, a, hnk, hdn, hl, hk, inv, hB, h => by
    have h0 : ops[k]? = some o := by simpa using (hl 0 (by simp)).symm
    simp only [List.length_cons, Region.lexHead, Bool.and_eq_true] at hB hk
    obtain ⟨⟨hr, hf⟩, hB'⟩ := hB
    have hke : k < e := by omega
    have hr' : k ∈ Region.ready md ops done := by simpa using hr
    have hks : k < done.size := by rw [inv.size]; omega
    obtain ⟨t, cs, hy, hK⟩ := h
    refine MixQ.first (fun _ _ _ _ hp h => ⟨h.1, hLq _ _ _ hp h.2⟩) h0 hsel hs hc hn hke (fun _ _ _ hL => seqB_ready hL.1) l.length done A a inv (Region.free_spec h0 hf) hr' (.inr ⟨hnk, fun i hi => hdn i (by omega), t, cs, hy, fun gg => ?_⟩)
    refine MixQ.lexN hLq hsel hs hc hn l (k + 1) _ _ _ (by omega) (fun i hi => ?_) (fun j hj => by have := hl (j + 1) (by simp; omega); simpa [Nat.add_assoc, Nat.add_comm 1 j] using this) (by omega) (inv.set hr' hke) hB' (hK gg)
    by_cases hik : i = k
    · subst hik; simp [hks]
    · exact getD_set_true (hdn i (by omega))

theorem MixQ.lexG {n e g : Nat} {Lq : Blocks → Act → Prop} (hLq : ∀ A A' a, A.Perm A' → Lq A a → Lq A' a) (hsel : Region.noSelect ops = true) (hs : Region.sinkB md ops e = true) (hc : Region.chainB md ops e = true) (hn : e < ops.size) (l2 : List Oper) :
    ∀ (l : List Oper) (k : Nat) (done : Array Bool) (a : Act), k + l.length = n → (∀ i, i < k → done.getD i false = true) → (∀ j, j < (l ++ l2).length → (l ++ l2)[j]? = ops[k + j]?) → n + l2.length = e → HeadInv md ops e done →
    Region.lexHead md ops g (l ++ l2).length k done = true → wpG P ops w0 (fun a' => wpN P ops Lq l2 [] a') l a → MixQ P md ops w0 n e (fun done' A' a' => Region.seqB md ops g e done' = true ∧ Lq A' a') (l ++ l2).length done [] a
  | [], k, done, a, hkn, hdn, hl, hk, inv, hB, h => by
    have hkn' : k = n := by simpa using hkn
    exact MixQ.lexN hLq hsel hs hc hn l2 k done [] a (by omega) hdn hl (by omega) inv hB h
  | o :: l, k, done, a, hkn, hdn, hl, hk, inv, hB, h => by
    have h0 : ops[k]? = some o := by simpa using (hl 0 (by simp)).symm
    simp only [List.cons_append, List.length_cons, Region.lexHead, Bool.and_eq_true] at hB hkn
    obtain ⟨⟨hr, hf⟩, hB'⟩ := hB
    have hke : k < e := by omega
    have hr' : k ∈ Region.ready md ops done := by simpa using hr
    have hks : k < done.size := by rw [inv.size]; omega
    have hy : ∃ v, GY P ops w0 o v a ∧ wpG P ops w0 (fun a' => wpN P ops Lq l2 [] a') l (a.put o.dst v) := by
      unfold wpG at h
      by_cases hw : Region.wanted o (yielded ops a.tmps) = true
      · simp only [hw, if_true] at h
        obtain ⟨v, h1, h2⟩ := h
        exact ⟨v, .inl ⟨hw, h1⟩, h2⟩
      · simp only [hw] at h
        exact ⟨undef, .inr ⟨by simpa using hw, rfl⟩, h⟩
    obtain ⟨v, hy, hK⟩ := hy
    refine MixQ.first (fun _ _ _ _ hp h => ⟨h.1, hLq _ _ _ hp h.2⟩) h0 hsel hs hc hn hke (fun _ _ _ hL => seqB_ready hL.1) (l ++ l2).length done [] a inv (Region.free_spec h0 hf) hr' (.inl ⟨by omega, v, hy, ?_⟩)
    refine MixQ.lexG hLq hsel hs hc hn l2 l (k + 1) _ _ (by omega) (fun i hi => ?_) (fun j hj => by have := hl (j + 1) (by simp at hj ⊢; omega); simpa [Nat.add_assoc, Nat.add_comm 1 j] using this) hk (inv.set hr' hke) hB' hK
    by_cases hik : i = k
    · subst hik; simp [hks]
    · exact getD_set_true (hdn i (by omega))

/-- THE LAW: n operations that read or call, m new variables, a tail in its one order. -/
theorem wp_region_mix {id : Nat} {Q : Exit → Act → World → Prop} {a : Act} {w : World} {l : List Oper} (n m : Nat) (hm : P.follows .mixedOrders = true) (hB : Region.lexTailB .any l.toArray (n + m) = true)
    (h : wpG P l.toArray w (fun a' => wpN P l.toArray (fun A a'' => ∀ w', Wd w A w' → wpList P l.toArray Q (l.drop (n + m)) a'' w') ((l.drop n).take m) [] a') (l.take n) a) : (Code.region id l.toArray true).wp P Q a w := by
  simp only [Region.lexTailB, Bool.and_eq_true, decide_eq_true_eq] at hB
  obtain ⟨⟨⟨⟨hsel, hn⟩, hs⟩, hc⟩, hlex⟩ := hB
  have hn' : n + m < l.length := by simpa using hn
  have htl : (l.take n).length = n := by simp; omega
  have hml : ((l.drop n).take m).length = m := by simp; omega
  have hsum : (l.take n ++ (l.drop n).take m) = l.take (n + m) := by rw [List.take_add]
  have hsl : (l.take n ++ (l.drop n).take m).length = n + m := by rw [List.length_append, htl, hml]
  have hdl : (l.drop (n + m)).length = l.toArray.size - (n + m) := by simp
  have inv0 : HeadInv .any l.toArray (n + m) (Array.replicate l.toArray.size false) :=
    ⟨by simp, fun j oj _ hl => (by rw [getD_replicate_false] at hl; cases hl), fun t _ ht => getD_in (by simpa using ht) (getD_replicate_false _ _)⟩
  have H := MixQ.lexG (md := .any) (w0 := w) (n := n) (e := n + m) (g := l.toArray.size - (n + m)) (fun A A' a'' hp h w' hw' => h w' (hw'.perm hp)) hsel hs hc hn ((l.drop n).take m) (l.take n) 0 _ a (by omega) (fun i hi => by omega)
    (fun j hj => by
      have hj' : j < n + m := by rw [hsl] at hj; exact hj
      rw [hsum]
      simp [hj']) (by omega) inv0 (by rw [hsl]; exact hlex) h
  refine wp_region_any hm ?_
  have h2 := MixQ.any (Q' := Q) (g := l.toArray.size - (n + m)) (fun done A a' w' hw' hL => by
    have h3 := wpAny_of_seq (md := .any) (Q' := Q) (l.drop (n + m)) (n + m) done a' w' (fun j => by simp [List.getElem?_drop]) (by rw [hdl]; exact hL.1) (hL.2 w' hw')
    rwa [hdl] at h3) _ _ _ _ w.drew (show Wd w [] w.drew from ⟨(Below.refl _ _).drew, fun x hx => (by cases hx), by simp⟩) H
  rw [hsl, show n + m + (l.toArray.size - (n + m)) = l.toArray.size by omega] at h2
  exact h2
end
end Go.Proofs.YthgnjjpkmikokaaDoor
