/- Maps with gates as keys; the walk of fold. -/
/- The walks of fold and share. -/
import Derived.Test.YtnhkgkpjkgifoaaMbd
import Derived.Maps.OwnOps
import Derived.DeepKeys4
namespace Go.Proofs.Ytnhkgkpjkgifoaa
open Go.RowKit
open Go.ChangeMaps (setBlock heap_setBlock_same heap_setBlock_other)
open Go.MapKept (Stamped stamped_push stamped_modify stamped_empty stamped_iff)
open Go.Maps (Keyed)

/-- Block b is a map that holds just what A says, keys and elements laid by ek and ev. -/
def MapOf (P : Program) (w : World) (k : TypeId) (b : Nat) {α β : Type} (ek : α → Value) (ev : β → Value) (A : α → Option β) : Prop :=
  ∃ es clock, w.heap[b]? = some (.map es clock) ∧ Stamped es clock ∧ (∀ e ∈ es.toList, ∃ l, keyOf P k e.key = some l) ∧
    (∀ x v, A x = some v → ∃ e ∈ es.toList, e.key = ek x ∧ e.val = ev v) ∧ (∀ e ∈ es.toList, ∃ x v, e.key = ek x ∧ e.val = ev v ∧ A x = some v)
section
variable {P : Program} {w w' : World} {k t e : TypeId} {b : Nat} {α β : Type} {ek : α → Value} {ev : β → Value} {A : α → Option β}
theorem MapOf.lt (h : MapOf P w k b ek ev A) : b < w.heap.size := by
  obtain ⟨es, clock, hb, _⟩ := h
  exact (Array.getElem?_eq_some_iff.1 hb).1
theorem MapOf.of_block (h : MapOf P w k b ek ev A) (hb : w'.heap[b]? = w.heap[b]?) : MapOf P w' k b ek ev A := by
  obtain ⟨es, clock, h1, h2⟩ := h
  exact ⟨es, clock, hb.trans h1, h2⟩
theorem MapOf.new (P : Program) (w : World) (k : TypeId) (ek : α → Value) (ev : β → Value) : MapOf P (w.alloc (.map #[] 0)) k w.heap.size ek ev (fun _ => none) :=
  ⟨#[], 0, (MapKept.heap_alloc w _).1, stamped_empty 0, by simp, by simp, by simp⟩
theorem MapOf.look [DecidableEq α] (h : MapOf P w k b ek ev A) (c : Bool) (K : Keyed P k) (ht : P.underlying t = some (.map k e)) {z : Value} (hz : (zeroValue e).run P w = .ok z w) {x : α} {kl : Lit} (hkey : keyOf P k (ek x) = some kl)
    (hinj : ∀ y v, A y = some v → ek y = ek x → y = x) :
    (Instr.lookup t (.map (some b)) (ek x) c).run P w = .ok (match A x with | some v => (if c then .tuple #[ev v, .bool true] else ev v) | none => (if c then .tuple #[z, .bool false] else z)) w := by
  obtain ⟨es, clock, hb, hs, hk, h4, h5⟩ := h
  rcases K.find w hkey es.toList hk with ⟨h1, h2⟩ | ⟨j, e0, h1, h2, h3⟩
  · have hA : A x = none := by
      cases hA : A x with
      | none => rfl
      | some v =>
        obtain ⟨e1, he1, hk1, _⟩ := h4 x v hA
        exact absurd hk1 (h2 e1 he1)
    rw [hA]
    simp [Instr.lookup, run_underlying ht, MapKept.run_getObj_map hb, K.check w _ hkey, h1, hz, Result.andThen]
  · have hm0 : e0 ∈ es.toList := List.mem_of_getElem? h2
    obtain ⟨y, v, hy1, hy2, hy3⟩ := h5 e0 hm0
    have hyx := hinj y v hy3 (hy1.symm.trans h3)
    subst hyx
    rw [hy3]
    simp [Instr.lookup, run_underlying ht, MapKept.run_getObj_map hb, K.check w _ hkey, h1, Result.andThen, hy2]
theorem MapOf.store [DecidableEq α] (h : MapOf P w k b ek ev A) (K : Keyed P k) (ht : P.underlying t = some (.map k e)) {x : α} (v : β) {kl : Lit} (hkey : keyOf P k (ek x) = some kl)
    (hinj : ∀ y u, A y = some u → ek y = ek x → y = x) :
    ∃ w', (Instr.mapUpdate t (.map (some b)) (ek x) (ev v)).run P w = .ok () w' ∧ MapOf P w' k b ek ev (fun y => if y = x then some v else A y) ∧ w'.heap.size = w.heap.size ∧ Fr (fun i => i = b) w (fun i => i = b) w' := by
  obtain ⟨es, clock, hb, hs, hk, h4, h5⟩ := h
  rcases K.find w hkey es.toList hk with ⟨h1, h2⟩ | ⟨j, e0, h1, h2, h3⟩
  · refine ⟨setBlock w b (.map (es.push ⟨ek x, ev v, clock⟩) (clock + 1)), ?_, ⟨_, _, heap_setBlock_same hb _, stamped_push hs h2, ?_, ?_, ?_⟩, by simp [setBlock], ⟨rfl, rfl, rfl, by simp [setBlock], fun i _ hi => heap_setBlock_other hb _ hi, fun _ h => .inl h⟩⟩
    · simp [Instr.mapUpdate, run_underlying ht, MapKept.run_getObj_map hb, K.check w false hkey, h1, MapKept.run_setObj_map _ hb, Result.andThen, setBlock]
    · intro e' he'
      simp only [Array.toList_push, List.mem_append, List.mem_singleton] at he'
      rcases he' with he' | rfl
      · exact hk e' he'
      · exact ⟨kl, hkey⟩
    · intro y u hy
      simp only [Array.toList_push, List.mem_append, List.mem_singleton]
      by_cases e1 : y = x
      · simp only [if_pos e1] at hy
        injection hy with hy
        subst hy e1
        exact ⟨_, .inr rfl, rfl, rfl⟩
      · simp only [if_neg e1] at hy
        obtain ⟨e', he', q⟩ := h4 y u hy
        exact ⟨e', .inl he', q⟩
    · intro e' he'
      simp only [Array.toList_push, List.mem_append, List.mem_singleton] at he'
      rcases he' with he' | rfl
      · obtain ⟨y, u, q1, q2, q3⟩ := h5 e' he'
        refine ⟨y, u, q1, q2, ?_⟩
        have : y ≠ x := fun e1 => h2 e' he' (by rw [q1, e1])
        simp only [if_neg this]
        exact q3
      · exact ⟨x, v, rfl, rfl, by simp⟩
  · have hj : es[j]? = some e0 := by simpa using h2
    have hjl : j < es.toList.length := (List.getElem?_eq_some_iff.1 h2).1
    have hkeyf : ∀ e', es[j]? = some e' → ({ e' with key := ek x, val := ev v } : MapEntry).key = e'.key := fun e' he' => by rw [hj] at he'; cases he'; exact h3.symm
    have hlist : (es.modify j (fun e' => { e' with key := ek x, val := ev v })).toList = es.toList.set j { e0 with key := ek x, val := ev v } := by rw [Array.toList_modify, ChangeMaps.modify_eq_set _ _ _ _ h2]
    have hpw : es.toList.Pairwise (fun x y => x.key ≠ y.key) := ((stamped_iff es clock).1 hs).2.2
    have who : ∀ e' ∈ es.toList.set j { e0 with key := ek x, val := ev v }, e' = { e0 with key := ek x, val := ev v } ∨ (e' ∈ es.toList ∧ e'.key ≠ ek x) := by
      intro e' he'
      obtain ⟨i, hi, ex⟩ := List.getElem_of_mem he'
      rw [List.getElem_set] at ex
      split at ex
      · exact Or.inl ex.symm
      · rename_i hne
        have hi' : i < es.toList.length := by simpa using hi
        refine Or.inr ⟨ex ▸ List.getElem_mem hi', ?_⟩
        rw [← h3, ← ex]
        have g0 : es.toList[j] = e0 := by have := List.getElem?_eq_getElem hjl; rw [h2] at this; exact (Option.some.inj this).symm
        rw [show e0.key = es.toList[j].key by rw [g0]]
        rcases Nat.lt_or_gt_of_ne hne with hlt | hlt
        · exact fun q => (List.pairwise_iff_getElem.1 hpw j i hjl hi' hlt) q.symm
        · exact List.pairwise_iff_getElem.1 hpw i j hi' hjl hlt
    refine ⟨setBlock w b (.map (es.modify j (fun e' => { e' with key := ek x, val := ev v })) clock), ?_, ⟨_, _, heap_setBlock_same hb _, stamped_modify hs _ _ (fun _ _ => rfl) (fun e' _ he' => hkeyf e' he'), ?_, ?_, ?_⟩, by simp [setBlock], ⟨rfl, rfl, rfl, by simp [setBlock], fun i _ hi => heap_setBlock_other hb _ hi, fun _ h => .inl h⟩⟩
    · simp [Instr.mapUpdate, run_underlying ht, MapKept.run_getObj_map hb, K.check w false hkey, h1, hj, h3, K.stays w hkey, MapKept.run_setObj_map _ hb, Result.andThen, setBlock]
    · intro e' he'
      rw [hlist] at he'
      rcases who e' he' with rfl | ⟨q, _⟩
      · exact ⟨kl, hkey⟩
      · exact hk e' q
    · intro y u hy
      rw [hlist]
      by_cases e1 : y = x
      · simp only [if_pos e1] at hy
        injection hy with hy
        subst hy e1
        exact ⟨_, List.mem_iff_getElem.2 ⟨j, by simpa using hjl, by simp; rfl⟩, rfl, rfl⟩
      · simp only [if_neg e1] at hy
        obtain ⟨e', he', q1, q2⟩ := h4 y u hy
        refine ⟨e', ?_, q1, q2⟩
        obtain ⟨i, hi, ex⟩ := List.getElem_of_mem he'
        have hne : j ≠ i := by
          intro e2
          subst e2
          rw [List.getElem?_eq_getElem hi, ex] at h2
          injection h2 with h2
          subst h2
          exact e1 (hinj y u hy (q1.symm.trans h3))
        exact List.mem_iff_getElem.2 ⟨i, by simpa using hi, by rw [List.getElem_set_ne hne]; exact ex⟩
    · intro e' he'
      rw [hlist] at he'
      rcases who e' he' with rfl | ⟨q, q'⟩
      · exact ⟨x, v, rfl, rfl, by simp⟩
      · obtain ⟨y, u, q1, q2, q3⟩ := h5 e' q
        refine ⟨y, u, q1, q2, ?_⟩
        have : y ≠ x := fun e1 => q' (by rw [q1, e1])
        simp only [if_neg this]
        exact q3
end

/-- m[k], at the operation -/
theorem wpList_look_of {P : Program} (w : World) {ops : Array Oper} {rest : List Oper} {o : Oper} {a : Act} {Q : Exit → Act → World → Prop} (hg : o.guard = none) (m x : Operand) (t : TypeId) (c : Bool) (hop : o.op = Op.lookup t m x c)
    {v : Value} (mv kv : Value) (hm : a.eval m = mv) (hx : a.eval x = kv) (hrun : (Instr.lookup t mv kv c).run P w = .ok v w) (hK : wpList P ops Q rest (a.put o.dst v) w) : wpList P ops Q (o :: rest) a w := by
  refine wpList_plain hg fun K' hK' => ?_
  unfold Oper.wp
  simp [execOp, hop, hm, hx, hrun, Result.andThen]
  exact hK' _ _ hK
/-- m[k] = v, at the operation -/
theorem wpList_upd_of {P : Program} (w : World) {ops : Array Oper} {rest : List Oper} {o : Oper} {a : Act} {Q : Exit → Act → World → Prop} (hg : o.guard = none) (m x v : Operand) (t : TypeId) (hop : o.op = Op.mapUpdate t m x v)
    {w' : World} (mv kv vv : Value) (hm : a.eval m = mv) (hx : a.eval x = kv) (hv : a.eval v = vv) (hrun : (Instr.mapUpdate t mv kv vv).run P w = .ok () w') (hK : wpList P ops Q rest (a.put o.dst undef) w') : wpList P ops Q (o :: rest) a w := by
  refine wpList_plain hg fun K' hK' => ?_
  unfold Oper.wp
  simp [execOp, hop, hm, hx, hv, hrun, Result.andThen]
  exact hK' _ _ hK

/-- gates as keys, wires as elements -/
def iV (x : Int) : Value := .int .i64 x
theorem gV_inj {a b : C3} (h : gV a = gV b) : a = b := by
  obtain ⟨a1, a2, a3⟩ := a
  obtain ⟨b1, b2, b3⟩ := b
  simp [gV] at h
  obtain ⟨h1, h2, h3⟩ := h
  rw [h1, h2, h3]
theorem laidOutG : laidOutB Try.prog = true := by kernel_rfl
theorem rowGate : (57 : TypeId) < Try.prog.types.size := of_decide_eq_true (by kernel_rfl)
theorem keyGate : Keyed Try.prog 57 := Keyed.of_law (deep_law_laid laidOutG (m := 2) (by omega) rowGate (by kernel_rfl) (by rw [Try.underlying57]))
theorem keyTypeGate : Try.prog.keyType 57 = true := by kernel_rfl
theorem sizeTypesG : ∃ m, Try.prog.types.size = m + 2 := ⟨Try.prog.types.size - 2, by kernel_rfl⟩
theorem cellsGateG : Try.prog.cellsOf 57 = 3 := by kernel_rfl
theorem cellsIntG : Try.prog.cellsOf 3 = 1 := by kernel_rfl
/-- numbers that fit -/
def i64r (x : Int) : Prop := -9223372036854775808 ≤ x ∧ x < 9223372036854775808
theorem key_gate {g : C3} (h1 : i64r g.1) (h2 : i64r g.2.1) (h3 : i64r g.2.2) : ∃ l, keyOf Try.prog 57 (gV g) = some l := by
  obtain ⟨o, a, b⟩ := g
  obtain ⟨m, hm⟩ := sizeTypesG
  have h1 : -9223372036854775808 ≤ o ∧ o < 9223372036854775808 := h1
  have h2 : -9223372036854775808 ≤ a ∧ a < 9223372036854775808 := h2
  have h3 : -9223372036854775808 ≤ b ∧ b < 9223372036854775808 := h3
  have w1 := WalkArith.wf_i64 (n := o) ⟨h1.1, by have := h1.2; omega⟩
  have w2 := WalkArith.wf_i64 (n := a) ⟨h2.1, by have := h2.2; omega⟩
  have w3 := WalkArith.wf_i64 (n := b) ⟨h3.1, by have := h3.2; omega⟩
  have li : ∀ {k : Nat} {x : Int}, (Lit.int .i64 x).wf = true → Try.prog.keyLits (k + 1) 3 [.int .i64 x] = some [.int .i64 x] := fun {k x} hx => by simp [Program.keyLits, Try.underlying3, hx]
  unfold keyOf
  simp only [Try.underlying57]
  rw [if_pos (by simp [keyTypeGate, Value.formed, Try.underlying57, cellsGateG, gV]), hm]
  unfold Program.keyLits
  simp [Try.underlying57, cellsGateG, cellsIntG, gV, Value.cells, li w1, li w2, li w3]
/-- the map of the first gates -/
def GM (w : World) (b : Nat) (s : C3 → Option Int) : Prop := MapOf Try.prog w 57 b gV iV s
theorem info_intZ (w : World) : (zeroValue 3).run Try.prog w = .ok (iV 0) w := by kernel_rfl
theorem GM.look {w : World} {b : Nat} {s : C3 → Option Int} (h : GM w b s) {g : C3} (h1 : i64r g.1) (h2 : i64r g.2.1) (h3 : i64r g.2.2) : (Instr.lookup 71 (.map (some b)) (gV g) true).run Try.prog w = .ok (match s g with | some v => .tuple #[iV v, .bool true] | none => .tuple #[iV 0, .bool false]) w := by
  obtain ⟨l, hl⟩ := key_gate h1 h2 h3
  have := MapOf.look h true keyGate Try.underlying71 (info_intZ w) hl (fun y v _ e => gV_inj e)
  rw [this]
  cases s g <;> rfl
theorem GM.store {w : World} {b : Nat} {s : C3 → Option Int} (h : GM w b s) {g : C3} (v : Int) (h1 : i64r g.1) (h2 : i64r g.2.1) (h3 : i64r g.2.2) : ∃ w', (Instr.mapUpdate 71 (.map (some b)) (gV g) (iV v)).run Try.prog w = .ok () w' ∧ GM w' b (fun y => if y = g then some v else s y) ∧ w'.heap.size = w.heap.size ∧ Fr (fun i => i = b) w (fun i => i = b) w' := by
  obtain ⟨l, hl⟩ := key_gate h1 h2 h3
  exact MapOf.store h keyGate Try.underlying71 v hl (fun y u _ e => gV_inj e)
/-- cleared -/
theorem GM.clear {w : World} {b : Nat} {s : C3 → Option Int} (h : GM w b s) : ∃ w', (∀ ty, (Builtin.clear_ #[71] ty #[.map (some b)]).run Try.prog w = .ok (.tuple #[]) w') ∧ GM w' b (fun _ => none) ∧ Fr (fun i => i = b) w (fun i => i = b) w' := by
  obtain ⟨es, clock, hb, hs, hk, h4, h5⟩ := h
  refine ⟨setBlock w b (.map #[] clock), fun ty => ?_, ⟨#[], clock, heap_setBlock_same hb _, ?_, by simp, by simp, by simp⟩, ⟨rfl, rfl, rfl, by simp [setBlock], fun i _ hi => heap_setBlock_other hb _ hi, fun _ h => .inl h⟩⟩
  · simp [Builtin.clear_, run_underlying Try.underlying71, MapKept.run_getObj_map hb, MapKept.run_setObj_map _ hb, Result.andThen, setBlock]
  · exact (stamped_iff _ _).2 (by simp)
theorem GM.of_fr {w w' : World} {b : Nat} {s : C3 → Option Int} (h : GM w b s) {G G' : Nat → Prop} (hf : Fr G w G' w') (hb : ¬ G b) : GM w' b s := MapOf.of_block h (hf.block b (MapOf.lt h) hb)
/-- a map is no block of the structure -/
theorem GM.ne {wk b0 N : Nat} {gs : List C3} {os ws : List Int} {A O V : Option Addr} {cA cO cV mb : Nat} {w : World} {b : Nat} {s : C3 → Option Int} (h : GM w b s) (hw : WK wk b0 N gs os ws A O V cA cO cV mb w) : ¬ TS4 wk A O V b := fun e => by
  obtain ⟨es, clock, hb, _⟩ := h
  obtain ⟨c, t, f, hc⟩ := hw.cells b e
  rw [hb] at hc
  cases hc
theorem GM.ne_blk {w : World} {b : Nat} {s : C3 → Option Int} (h : GM w b s) {g : Nat} {t : TypeId} {cs : Array Value} (hk : Blk w g t cs) : g ≠ b := fun e => by
  subst e
  obtain ⟨es, clock, hb, _⟩ := h
  rw [show w.heap[g]? = _ from hk] at hb
  cases hb
end Go.Proofs.Ytnhkgkpjkgifoaa
namespace Go.Proofs.Ytnhkgkpjkgifoaa
open Go.RowKit

theorem gtF_app {N : Nat} {ds rest : List C3} {x : Int} (h0 : 0 ≤ x) (hx : x < (N : Int) + (ds.length : Int)) (hN : (N : Int) ≤ x) : gtF (N : Int) (ds ++ rest) x = gtF (N : Int) ds x := by
  unfold gtF
  simp only [List.getD_eq_getElem?_getD]
  rw [List.getElem?_append_left (by omega)]
theorem isF_app {N : Nat} {ds rest : List C3} {x op : Int} (h0 : 0 ≤ x) (hx : x < (N : Int) + (ds.length : Int)) : isF (N : Int) (ds ++ rest) x op = isF (N : Int) ds x op := by
  unfold isF
  by_cases h : (N : Int) ≤ x
  · rw [gtF_app h0 hx h]
  · rw [decide_eq_false h, Bool.false_and, Bool.false_and]
theorem ngF_app {N : Nat} {ds rest : List C3} {x y : Int} (h0 : 0 ≤ x) (hx : x < (N : Int) + (ds.length : Int)) : ngF (N : Int) (ds ++ rest) x y = ngF (N : Int) ds x y := by
  unfold ngF
  rw [isF_app h0 hx]
  by_cases h : (N : Int) ≤ x
  · rw [gtF_app h0 hx h]
  · have : isF (N : Int) ds x 2 = false := by unfold isF; rw [decide_eq_false h, Bool.false_and]
    rw [this, Bool.false_and, Bool.false_and]
theorem fNot_app {N : Nat} {ds rest : List C3} {x : Int} (h0 : 0 ≤ x) (hx : x < (N : Int) + (ds.length : Int)) : fNotG (N : Int) (ds ++ rest) ((N : Int) + (ds.length : Int)) x = fNot (N : Int) ds x := by
  unfold fNotG fNot
  rw [isF_app h0 hx, isF_app h0 hx, isF_app h0 hx]
  by_cases h : (N : Int) ≤ x
  · rw [gtF_app h0 hx h]
  · have : isF (N : Int) ds x 2 = false := by unfold isF; rw [decide_eq_false h, Bool.false_and]
    rw [this]
    simp
theorem fStepG_eq {N : Nat} {ds rest : List C3} {m : C3} (hg : rg m ((N : Int) + (ds.length : Int)) = true) : fStepG (N : Int) (ds ++ rest) ((N : Int) + (ds.length : Int)) m = fStep (N : Int) ds m := by
  obtain ⟨op, a, b⟩ := m
  rcases rg_cases hg with ⟨ho, rfl, rfl⟩ | ⟨rfl, h0, ha, rfl⟩ | ⟨ho, h0, ha, h1, hb⟩
  · rcases ho with rfl | rfl <;> rfl
  · exact fNot_app h0 ha
  · have e : opF (N : Int) (ds ++ rest) a b = opF (N : Int) ds a b := by unfold opF; rw [ngF_app h0 ha, ngF_app h1 hb]
    rcases ho with rfl | rfl | rfl
    · show fPairG (N : Int) (ds ++ rest) ((N : Int) + (ds.length : Int)) (3, a, b) 0 1 = fPair (N : Int) ds (3, a, b) 0 1
      unfold fPairG fPair
      simp only
      rw [isF_app h0 ha, isF_app h1 hb, isF_app h0 ha, isF_app h1 hb, e]
    · show fPairG (N : Int) (ds ++ rest) ((N : Int) + (ds.length : Int)) (4, a, b) 1 0 = fPair (N : Int) ds (4, a, b) 1 0
      unfold fPairG fPair
      simp only
      rw [isF_app h0 ha, isF_app h1 hb, isF_app h0 ha, isF_app h1 hb, e]
    · show fXorG (N : Int) (ds ++ rest) ((N : Int) + (ds.length : Int)) (5, a, b) = fXor (N : Int) ds (5, a, b)
      unfold fXorG fXor
      simp only
      rw [isF_app h0 ha, isF_app h1 hb, isF_app h0 ha, isF_app h1 hb, e, fNot_app h0 ha, fNot_app h1 hb]
section
variable {wk b0 N : Nat} {gs : List C3} {os ws : List Int} {A O V : Option Addr} {cA cO cV mb : Nat} {w : World}
/-- the captured pointer's block is none of the structure's -/
theorem WK.ne_ptr {gl : Nat} {cs : Array Value} (h : WK wk b0 N gs os ws A O V cA cO cV mb w) (hk : Blk w gl 69 cs) : ¬ TS4 wk A O V gl := fun e => by
  rcases e with e | e | e | e
  · subst e
    have q := hk.symm.trans h.blk
    injection q with q
    injection q with _ q
    exact absurd q (by decide)
  · exact own_ob_ne h.g hk (by decide) e
  · exact own_ob_ne h.o hk (by decide) e
  · exact own_ob_ne h.v hk (by decide) e
/-- what the closures need -/
def IWf (gl wk mb : Nat) (_ : Unit) (w : World) : Prop := Blk w gl 69 #[.pointer (some ⟨wk, 0, none⟩)] ∧ ∃ S, GM w mb S
def IWs (gl wk mb : Nat) (s : C3 → Option Int) (w : World) : Prop := Blk w gl 69 #[.pointer (some ⟨wk, 0, none⟩)] ∧ GM w mb s
/-- what fold and share answer -/
def OpOut (wk b0 N : Nat) (gs' : List C3) (os' : List Int) (A O V : Option Addr) (cA cO mb : Nat) (w : World) (e : Ending) (w' : World) : Prop :=
  e = .returned (.tuple #[]) ∧ ∃ ws' V' cV', WK wk b0 N gs' os' ws' A O V' cA cO cV' mb w' ∧ (∃ S, GM w' mb S) ∧ Fr (TS5 wk mb A O V) w (TS5 wk mb A O V') w'
set_option maxRecDepth 100000 in
set_option maxHeartbeats 4000000 in
theorem fold_any {S : C3 → Option Int} (h : WK wk b0 N gs os ws A O V cA cO cV mb w) (hm : GM w mb S) (hc : COk N gs os) (hol : os.length ≤ 1000) :
    Calls Try.prog 52 #[.pointer (some ⟨wk, 0, none⟩)] w fun e w' => OpOut wk b0 N (foldC N gs os).1 (foldC N gs os).2 A O V cA cO mb w e w' := by
  have K1 := Blk.new w 69 #[.pointer (some ⟨wk, 0, none⟩)]
  have B1 := (Below.refl w.heap.size w).alloc (Nat.le_refl _) (.cells #[.pointer (some ⟨wk, 0, none⟩)] 69)
  have PC := Lib.hid (process_any 84 #[.pointer (some ⟨w.heap.size, 0, none⟩)] (enters_of Try.func84 (by kernel_rfl) rfl) (foldR N) (fun _ _ => True) (fold_step N) (IWf w.heap.size wk mb) () trivial (h.later B1) hc hol
    ⟨K1, S, hm.of_fr (G := fun _ => False) (G' := fun _ => False) (Fr.of_below B1) (fun h => h)⟩
    (fun s gs' os' ws' V' cV' w1 w2 G' hw ⟨q1, S', q2⟩ hf => ⟨hf.blk q1 (hw.ne_ptr q1), S', q2.of_fr hf (q2.ne hw)⟩)
    (fun s ds rest ws' V' cV' w1 m hw ⟨q1, S', q2⟩ hl hlen hg => by
      have q := fold1_any hw.rk w.heap.size ((q1.cell 0).trans rfl) m.1 m.2.1 m.2.2 (by
        have : rg m ((N : Int) + (ds.length : Int)) = true := hg
        obtain ⟨op, a, b⟩ := m
        rcases rg_cases this with ⟨ho, rfl, rfl⟩ | ⟨rfl, h0, ha, rfl⟩ | ⟨ho, h0, ha, h1, hb⟩
        · exact rg_of (.inl ⟨ho, rfl, rfl⟩)
        · exact rg_of (.inr (.inl ⟨rfl, h0, by simp; omega, rfl⟩))
        · exact rg_of (.inr (.inr ⟨ho, h0, by simp; omega, h1, by simp; omega⟩))) hc.n hlen
      rw [show ((ws'.length : Nat) : Int) = (N : Int) + (ds.length : Int) by rw [hl]; push_cast; rfl, fStepG_eq hg] at q
      exact q.mono fun e w2 ⟨he, hb⟩ => ⟨he, ⟨q1.below hb q1.lt, S', q2.of_fr (G := fun _ => False) (G' := fun _ => False) (Fr.of_below hb) (fun h => h)⟩, hw.later hb, Fr.of_below hb⟩))
  have HB := Lib.hid B1
  obtain ⟨Q, hQ⟩ : ∃ Q, OpOut wk b0 N (foldC N gs os).1 (foldC N gs os).2 A O V cA cO mb w = Q := ⟨_, rfl⟩
  have HQ := Lib.hid hQ
  rw [hQ]
  have p0 := (K1.cell 0).trans (show (#[_] : Array Value)[0]? = some _ from rfl)
  clear h hm hc B1 hQ K1
  go_enter Try.func52, Try.ntmps52
  go_wp2_with (go_at_call 83; (with_reducible refine (PC.out).mono ?_); rintro e w1 ⟨rfl, V1, cV1, hw1, hi1, hf1⟩; have W1 := Lib.hid hw1; have I1 := Lib.hid hi1; have F1 := Lib.hid hf1; clear hw1 hi1 hf1)
  go_end0
  rw [← HQ.out]
  exact ⟨rfl, _, V1, cV1, W1.out, I1.out.2, (fr5b HB.out).trans F1.out⟩
end
end Go.Proofs.Ytnhkgkpjkgifoaa
