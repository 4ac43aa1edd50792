/- Maps that the call owns, as plain look-up functions. -/
/- The forest: what it holds, and the blocks that it lies in. -/
/- The walks of add and node. -/
/- The walk of node. -/
import Derived.Test.YthgnjjpkmikokaaDoorBag
import Derived.Maps.OwnOps
import Derived.DeepKeys4
import Derived.Deep.RegionHeldLaw
import Derived.Deep.RegionLaw
import Derived.IntWalk
namespace Go.Proofs.YthgnjjpkmikokaaDoor
open Go.RowKit
open Go.ChangeMaps (setBlock heap_setBlock_same heap_setBlock_other)
open Go.MapKept (Stamped stamped_push stamped_modify stamped_empty stamped_iff)
open Go.Maps (Keyed)

/-- only blocks of G were turned, or made; those of G' are of G, or new -/
structure Fr (G : Nat → Prop) (w : World) (G' : Nat → Prop) (w' : World) : Prop where
  os : w'.os = w.os
  tape : w'.tape = w.tape
  output : w'.output = w.output
  size : w.heap.size ≤ w'.heap.size
  block : ∀ k, k < w.heap.size → ¬ G k → w'.heap[k]? = w.heap[k]?
  new : ∀ k, G' k → G k ∨ w.heap.size ≤ k
section
variable {G G' G'' : Nat → Prop} {w w' w'' : World}
theorem Fr.refl (G : Nat → Prop) (w : World) : Fr G w G w := ⟨rfl, rfl, rfl, Nat.le_refl _, fun _ _ _ => rfl, fun _ h => .inl h⟩
theorem Fr.trans (h : Fr G w G' w') (k : Fr G' w' G'' w'') : Fr G w G'' w'' :=
  ⟨k.os.trans h.os, k.tape.trans h.tape, k.output.trans h.output, Nat.le_trans h.size k.size,
   fun i hi hG => (k.block i (Nat.lt_of_lt_of_le hi h.size) (fun h' => by rcases h.new i h' with h1 | h1; exact hG h1; omega)).trans (h.block i hi hG),
   fun i hi => by
    rcases k.new i hi with h1 | h1
    · exact h.new i h1
    · exact .inr (Nat.le_trans h.size h1)⟩
theorem Fr.of_below (h : Below w.heap.size w w') : Fr G w G w' := ⟨h.os, h.tape, h.output, h.size, fun k hk _ => h.block k hk, fun _ h => .inl h⟩
/-- the same, seen from fewer names -/
theorem Fr.weak {H H' : Nat → Prop} (h : Fr G w G' w') (h1 : ∀ k, G k → H k) (h2 : ∀ k, H' k → H k ∨ w.heap.size ≤ k) : Fr H w H' w' :=
  ⟨h.os, h.tape, h.output, h.size, fun k hk hH => h.block k hk (fun hG => hH (h1 k hG)), h2⟩
theorem Fr.below (h : Fr G w G' w') {B : Nat} (hG : ∀ k, G k → B ≤ k) (hB : B ≤ w.heap.size) : Below B w w' :=
  ⟨h.os, h.tape, h.output, h.size, fun k hk => h.block k (by omega) (fun hk' => by have := hG k hk'; omega)⟩
theorem Fr.blk (h : Fr G w G' w') {g : Nat} {t : TypeId} {cs : Array Value} (k : Blk w g t cs) (hg : ¬ G g) : Blk w' g t cs := (h.block g k.lt hg).trans k
theorem Fr.reads (h : Fr G w G' w') {A : Option Addr} {n : Nat} {xs : List Value} (k : Reads w w.heap.size A n xs) (hA : 0 < n → ∀ ad, A = some ad → ¬ G ad.block) : Reads w' w'.heap.size A n xs :=
  ⟨k.1, fun hn => by
    obtain ⟨ad, e, hb, hc⟩ := k.2 hn
    refine ⟨ad, e, Nat.lt_of_lt_of_le hb h.size, fun j u hu => ?_⟩
    rw [← hc j u hu]
    exact World.cell?_of_block (by rw [block_of_add]; exact h.block _ hb (hA hn ad e))⟩
theorem Fr.row (h : Fr G w G' w') {base k : Nat} {e : TypeId} {v : Value} {n : Nat} {xs : List Value} (hr : w.ownsRow base e k v n xs) (hv : ∀ g, v.ownBlock = some g → ¬ G g) : w'.ownsRow base e k v n xs := by
  refine ⟨hr.1, ?_⟩
  rcases hr.2 with hn | ⟨g, cap, cur, rfl, hb', hg, rest⟩
  · exact .inl hn
  · refine .inr ⟨g, cap, cur, rfl, hb', ?_, rest⟩
    rw [h.block g (Array.getElem?_eq_some_iff.1 hg).1 (hv g rfl)]; exact hg
theorem Fr.alloc (G : Nat → Prop) (w : World) (o : Obj) : Fr G w G (w.alloc o) := Fr.of_below ((Below.refl _ _).alloc (Nat.le_refl _) o)
theorem Fr.set_ (w : World) {p : Addr} (u : Value) (hp : G p.block) : Fr G w G (w.setCell p u) :=
  ⟨rfl, rfl, rfl, by simp [World.setCell], fun k _ hk => Below.heap_setCell w p u k (fun e => hk (e ▸ hp)), fun _ h => .inl h⟩
end

/-- Block b is a map that holds just what A says, keys and elements laid by ek and ev. -/
def MapOf (P : Program) (w : World) (k : TypeId) (b : Nat) {α β : Type} (ek : α → Value) (ev : β → Value) (A : α → Option β) : Prop :=
  ∃ es clock, w.heap[b]? = some (.map es clock) ∧ Stamped es clock ∧ (∀ e ∈ es.toList, ∃ l, keyOf P k e.key = some l) ∧
    (∀ x v, A x = some v → ∃ e ∈ es.toList, e.key = ek x ∧ e.val = ev v) ∧ (∀ e ∈ es.toList, ∃ x v, e.key = ek x ∧ e.val = ev v ∧ A x = some v)
section
variable {P : Program} {w w' : World} {k t e : TypeId} {b : Nat} {α β : Type} {ek : α → Value} {ev : β → Value} {A : α → Option β}
theorem MapOf.lt (h : MapOf P w k b ek ev A) : b < w.heap.size := by
  obtain ⟨es, clock, hb, _⟩ := h
  exact (Array.getElem?_eq_some_iff.1 hb).1
theorem MapOf.of_block (h : MapOf P w k b ek ev A) (hb : w'.heap[b]? = w.heap[b]?) : MapOf P w' k b ek ev A := by
  obtain ⟨es, clock, h1, h2⟩ := h
  exact ⟨es, clock, hb.trans h1, h2⟩
theorem MapOf.new (P : Program) (w : World) (k : TypeId) (ek : α → Value) (ev : β → Value) : MapOf P (w.alloc (.map #[] 0)) k w.heap.size ek ev (fun _ => none) :=
  ⟨#[], 0, (MapKept.heap_alloc w _).1, stamped_empty 0, by simp, by simp, by simp⟩
theorem MapOf.look [DecidableEq α] (h : MapOf P w k b ek ev A) (c : Bool) (K : Keyed P k) (ht : P.underlying t = some (.map k e)) {z : Value} (hz : (zeroValue e).run P w = .ok z w) {x : α} {kl : Lit} (hkey : keyOf P k (ek x) = some kl)
    (hinj : ∀ y v, A y = some v → ek y = ek x → y = x) :
    (Instr.lookup t (.map (some b)) (ek x) c).run P w = .ok (match A x with | some v => (if c then .tuple #[ev v, .bool true] else ev v) | none => (if c then .tuple #[z, .bool false] else z)) w := by
  obtain ⟨es, clock, hb, hs, hk, h4, h5⟩ := h
  rcases K.find w hkey es.toList hk with ⟨h1, h2⟩ | ⟨j, e0, h1, h2, h3⟩
  · have hA : A x = none := by
      cases hA : A x with
      | none => rfl
      | some v =>
        obtain ⟨e1, he1, hk1, _⟩ := h4 x v hA
        exact absurd hk1 (h2 e1 he1)
    rw [hA]
    simp [Instr.lookup, run_underlying ht, MapKept.run_getObj_map hb, K.check w _ hkey, h1, hz, Result.andThen]
  · have hm0 : e0 ∈ es.toList := List.mem_of_getElem? h2
    obtain ⟨y, v, hy1, hy2, hy3⟩ := h5 e0 hm0
    have hyx := hinj y v hy3 (hy1.symm.trans h3)
    subst hyx
    rw [hy3]
    simp [Instr.lookup, run_underlying ht, MapKept.run_getObj_map hb, K.check w _ hkey, h1, Result.andThen, hy2]
theorem MapOf.store [DecidableEq α] (h : MapOf P w k b ek ev A) (K : Keyed P k) (ht : P.underlying t = some (.map k e)) {x : α} (v : β) {kl : Lit} (hkey : keyOf P k (ek x) = some kl)
    (hinj : ∀ y u, A y = some u → ek y = ek x → y = x) :
    ∃ w', (Instr.mapUpdate t (.map (some b)) (ek x) (ev v)).run P w = .ok () w' ∧ MapOf P w' k b ek ev (fun y => if y = x then some v else A y) ∧ w'.heap.size = w.heap.size ∧ Fr (fun i => i = b) w (fun i => i = b) w' := by
  obtain ⟨es, clock, hb, hs, hk, h4, h5⟩ := h
  rcases K.find w hkey es.toList hk with ⟨h1, h2⟩ | ⟨j, e0, h1, h2, h3⟩
  · refine ⟨setBlock w b (.map (es.push ⟨ek x, ev v, clock⟩) (clock + 1)), ?_, ⟨_, _, heap_setBlock_same hb _, stamped_push hs h2, ?_, ?_, ?_⟩, by simp [setBlock], ⟨rfl, rfl, rfl, by simp [setBlock], fun i _ hi => heap_setBlock_other hb _ hi, fun _ h => .inl h⟩⟩
    · simp [Instr.mapUpdate, run_underlying ht, MapKept.run_getObj_map hb, K.check w false hkey, h1, MapKept.run_setObj_map _ hb, Result.andThen, setBlock]
    · intro e' he'
      simp only [Array.toList_push, List.mem_append, List.mem_singleton] at he'
      rcases he' with he' | rfl
      · exact hk e' he'
      · exact ⟨kl, hkey⟩
    · intro y u hy
      simp only [Array.toList_push, List.mem_append, List.mem_singleton]
      by_cases e1 : y = x
      · simp only [if_pos e1] at hy
        injection hy with hy
        subst hy e1
        exact ⟨_, .inr rfl, rfl, rfl⟩
      · simp only [if_neg e1] at hy
        obtain ⟨e', he', q⟩ := h4 y u hy
        exact ⟨e', .inl he', q⟩
    · intro e' he'
      simp only [Array.toList_push, List.mem_append, List.mem_singleton] at he'
      rcases he' with he' | rfl
      · obtain ⟨y, u, q1, q2, q3⟩ := h5 e' he'
        refine ⟨y, u, q1, q2, ?_⟩
        have : y ≠ x := fun e1 => h2 e' he' (by rw [q1, e1])
        simp only [if_neg this]
        exact q3
      · exact ⟨x, v, rfl, rfl, by simp⟩
  · have hj : es[j]? = some e0 := by simpa using h2
    have hjl : j < es.toList.length := (List.getElem?_eq_some_iff.1 h2).1
    have hkeyf : ∀ e', es[j]? = some e' → ({ e' with key := ek x, val := ev v } : MapEntry).key = e'.key := fun e' he' => by rw [hj] at he'; cases he'; exact h3.symm
    have hlist : (es.modify j (fun e' => { e' with key := ek x, val := ev v })).toList = es.toList.set j { e0 with key := ek x, val := ev v } := by rw [Array.toList_modify, ChangeMaps.modify_eq_set _ _ _ _ h2]
    have hpw : es.toList.Pairwise (fun x y => x.key ≠ y.key) := ((stamped_iff es clock).1 hs).2.2
    have who : ∀ e' ∈ es.toList.set j { e0 with key := ek x, val := ev v }, e' = { e0 with key := ek x, val := ev v } ∨ (e' ∈ es.toList ∧ e'.key ≠ ek x) := by
      intro e' he'
      obtain ⟨i, hi, ex⟩ := List.getElem_of_mem he'
      rw [List.getElem_set] at ex
      split at ex
      · exact Or.inl ex.symm
      · rename_i hne
        have hi' : i < es.toList.length := by simpa using hi
        refine Or.inr ⟨ex ▸ List.getElem_mem hi', ?_⟩
        rw [← h3, ← ex]
        have g0 : es.toList[j] = e0 := by have := List.getElem?_eq_getElem hjl; rw [h2] at this; exact (Option.some.inj this).symm
        rw [show e0.key = es.toList[j].key by rw [g0]]
        rcases Nat.lt_or_gt_of_ne hne with hlt | hlt
        · exact fun q => (List.pairwise_iff_getElem.1 hpw j i hjl hi' hlt) q.symm
        · exact List.pairwise_iff_getElem.1 hpw i j hi' hjl hlt
    refine ⟨setBlock w b (.map (es.modify j (fun e' => { e' with key := ek x, val := ev v })) clock), ?_, ⟨_, _, heap_setBlock_same hb _, stamped_modify hs _ _ (fun _ _ => rfl) (fun e' _ he' => hkeyf e' he'), ?_, ?_, ?_⟩, by simp [setBlock], ⟨rfl, rfl, rfl, by simp [setBlock], fun i _ hi => heap_setBlock_other hb _ hi, fun _ h => .inl h⟩⟩
    · simp [Instr.mapUpdate, run_underlying ht, MapKept.run_getObj_map hb, K.check w false hkey, h1, hj, h3, K.stays w hkey, MapKept.run_setObj_map _ hb, Result.andThen, setBlock]
    · intro e' he'
      rw [hlist] at he'
      rcases who e' he' with rfl | ⟨q, _⟩
      · exact ⟨kl, hkey⟩
      · exact hk e' q
    · intro y u hy
      rw [hlist]
      by_cases e1 : y = x
      · simp only [if_pos e1] at hy
        injection hy with hy
        subst hy e1
        exact ⟨_, List.mem_iff_getElem.2 ⟨j, by simpa using hjl, by simp; rfl⟩, rfl, rfl⟩
      · simp only [if_neg e1] at hy
        obtain ⟨e', he', q1, q2⟩ := h4 y u hy
        refine ⟨e', ?_, q1, q2⟩
        obtain ⟨i, hi, ex⟩ := List.getElem_of_mem he'
        have hne : j ≠ i := by
          intro e2
          subst e2
          rw [List.getElem?_eq_getElem hi, ex] at h2
          injection h2 with h2
          subst h2
          exact e1 (hinj y u hy (q1.symm.trans h3))
        exact List.mem_iff_getElem.2 ⟨i, by simpa using hi, by rw [List.getElem_set_ne hne]; exact ex⟩
    · intro e' he'
      rw [hlist] at he'
      rcases who e' he' with rfl | ⟨q, q'⟩
      · exact ⟨x, v, rfl, rfl, by simp⟩
      · obtain ⟨y, u, q1, q2, q3⟩ := h5 e' q
        refine ⟨y, u, q1, q2, ?_⟩
        have : y ≠ x := fun e1 => q' (by rw [q1, e1])
        simp only [if_neg this]
        exact q3
end

/-- m[k], at the operation -/
theorem wpList_look_of {P : Program} (w : World) {ops : Array Oper} {rest : List Oper} {o : Oper} {a : Act} {Q : Exit → Act → World → Prop} (hg : o.guard = none) (m x : Operand) (t : TypeId) (c : Bool) (hop : o.op = Op.lookup t m x c)
    {v : Value} (mv kv : Value) (hm : a.eval m = mv) (hx : a.eval x = kv) (hrun : (Instr.lookup t mv kv c).run P w = .ok v w) (hK : wpList P ops Q rest (a.put o.dst v) w) : wpList P ops Q (o :: rest) a w := by
  refine wpList_plain hg fun K' hK' => ?_
  unfold Oper.wp
  simp [execOp, hop, hm, hx, hrun, Result.andThen]
  exact hK' _ _ hK
/-- m[k] = v, at the operation -/
theorem wpList_upd_of {P : Program} (w : World) {ops : Array Oper} {rest : List Oper} {o : Oper} {a : Act} {Q : Exit → Act → World → Prop} (hg : o.guard = none) (m x v : Operand) (t : TypeId) (hop : o.op = Op.mapUpdate t m x v)
    {w' : World} (mv kv vv : Value) (hm : a.eval m = mv) (hx : a.eval x = kv) (hv : a.eval v = vv) (hrun : (Instr.mapUpdate t mv kv vv).run P w = .ok () w') (hK : wpList P ops Q rest (a.put o.dst undef) w') : wpList P ops Q (o :: rest) a w := by
  refine wpList_plain hg fun K' hK' => ?_
  unfold Oper.wp
  simp [execOp, hop, hm, hx, hv, hrun, Result.andThen]
  exact hK' _ _ hK

/-- a node's cells -/
structure Ndv where
  lv : Int
  r : List Int
deriving DecidableEq, Repr
def rowV (r : List Int) : Value := .agg (r.map fun x => .int .i32 x).toArray
def nodC (n : Ndv) : List Value := .int .i64 n.lv :: n.r.map fun x => .int .i32 x
def nodV (n : Ndv) : Value := .agg (nodC n).toArray
theorem map_i32_inj {l m : List Int} (h : (l.map fun x => Value.int .i32 x) = m.map fun x => .int .i32 x) : l = m := by
  induction l generalizing m with
  | nil => cases m with
    | nil => rfl
    | cons b m => simp at h
  | cons a l ih => cases m with
    | nil => simp at h
    | cons b m => simp at h; obtain ⟨h1, h2⟩ := h; rw [h1, ih (by simpa using h2)]
theorem nodV_inj {a b : Ndv} (h : nodV a = nodV b) : a = b := by
  unfold nodV nodC at h
  injection h with h
  have h := congrArg Array.toList h
  simp only at h
  injection h with h1 h2
  injection h1 with _ h1
  have := map_i32_inj h2
  cases a; cases b
  simp_all
theorem i32V_inj {a b : Int} (h : Value.int .i32 a = .int .i32 b) : a = b := by injection h

theorem Tryd.laidOut13 : laidOutB Tryd.prog = true := by kernel_rfl
theorem Tryd.rowNode : (90 : TypeId) < Tryd.prog.types.size := of_decide_eq_true (by kernel_rfl)
theorem Tryd.keyNode : Keyed Tryd.prog 90 := Keyed.of_law (deep_law_laid Tryd.laidOut13 (m := 3) (by omega) Tryd.rowNode (by kernel_rfl) (by rw [Tryd.underlying90]))
theorem Tryd.keyI32 : Keyed Tryd.prog 21 := Maps.int_keyed Tryd.underlying21
/-- a row in range -/
def R8 (r : List Int) : Prop := r.length = 8 ∧ ∀ x ∈ r, -2147483648 ≤ x ∧ x < 2147483648
def Nd8 (n : Ndv) : Prop := -9223372036854775808 ≤ n.lv ∧ n.lv < 9223372036854775808 ∧ R8 n.r
theorem key_i32 {n : Int} (h1 : -2147483648 ≤ n) (h2 : n < 2147483648) : keyOf Tryd.prog 21 (.int .i32 n) = some (.int .i32 n) := Maps.keyOf_int_mk Tryd.underlying21 (WalkArith.wf_i32 ⟨h1, by omega⟩)
theorem Tryd.keyTypeNode : Tryd.prog.keyType 90 = true := by kernel_rfl
theorem Tryd.sizeTypes : ∃ m, Tryd.prog.types.size = m + 2 := ⟨Tryd.prog.types.size - 2, by kernel_rfl⟩
theorem oct {l : List Int} (h : l.length = 8) : ∃ a b c d e f g i, l = [a, b, c, d, e, f, g, i] := by
  match l, h with
  | [a, b, c, d, e, f, g, i], _ => exact ⟨a, b, c, d, e, f, g, i, rfl⟩
theorem cellsNode : Tryd.prog.cellsOf 90 = 9 := by kernel_rfl
theorem cellsRow : Tryd.prog.cellsOf 85 = 8 := by kernel_rfl
theorem cellsI32 : Tryd.prog.cellsOf 21 = 1 := by kernel_rfl
theorem cellsInt : Tryd.prog.cellsOf 3 = 1 := by kernel_rfl
theorem lits_i32 {m : Nat} {a : Int} (h : -2147483648 ≤ a ∧ a < 2147483648) : Tryd.prog.keyLits (m + 1) 21 [.int .i32 a] = some [.int .i32 a] := by
  have w1 := WalkArith.wf_i32 (n := a) ⟨h.1, by omega⟩
  simp [Program.keyLits, Tryd.underlying21, w1]
theorem lits_row {m : Nat} {r : List Int} (h : R8 r) : ∃ l, Tryd.prog.keyLits (m + 2) 85 (r.map fun x => .int .i32 x) = some l := by
  obtain ⟨h3, h4⟩ := h
  obtain ⟨a, b, c, d, e, f, g, i, rfl⟩ := oct h3
  simp only [List.mem_cons, List.not_mem_nil, or_false, forall_eq_or_imp, forall_eq] at h4
  obtain ⟨a1, a2, a3, a4, a5, a6, a7, a8⟩ := h4
  unfold Program.keyLits
  simp only [Tryd.underlying85, cellsRow, cellsI32]
  simp [List.range, List.range.loop, lits_i32 a1, lits_i32 a2, lits_i32 a3, lits_i32 a4, lits_i32 a5, lits_i32 a6, lits_i32 a7, lits_i32 a8]
theorem key_node {n : Ndv} (h : Nd8 n) : ∃ l, keyOf Tryd.prog 90 (nodV n) = some l := by
  obtain ⟨lv, r⟩ := n
  obtain ⟨h1, h2, h3⟩ := h
  simp only at h1 h2 h3
  obtain ⟨m, hm⟩ := Tryd.sizeTypes
  obtain ⟨l, hl⟩ := lits_row (m := m) h3
  have w1 := WalkArith.wf_i64 (n := lv) ⟨h1, by omega⟩
  have hlen : r.length = 8 := h3.1
  unfold keyOf
  simp only [Tryd.underlying90]
  rw [if_pos (by simp [Tryd.keyTypeNode, Value.formed, Tryd.underlying90, cellsNode, nodV, nodC, hlen]), hm]
  unfold Program.keyLits
  have hl2 : List.take 8 (r.map fun x => Value.int .i32 x) = r.map fun x => Value.int .i32 x := List.take_of_length_le (by simp [hlen])
  have hi : Tryd.prog.keyLits (m + 2) 3 [.int .i64 lv] = some [.int .i64 lv] := by simp [Program.keyLits, Tryd.underlying3, w1]
  simp [Tryd.underlying90, cellsNode, cellsRow, cellsInt, nodV, nodC, hlen, Value.cells, hl2, hl, hi]
end Go.Proofs.YthgnjjpkmikokaaDoor
namespace Go.Proofs.YthgnjjpkmikokaaDoor
open Go.RowKit

section
variable {G G' : Nat → Prop} {w w' : World}
theorem Fr.map (h : Fr G w G' w') {P : Program} {k : TypeId} {b : Nat} {α β : Type} {ek : α → Value} {ev : β → Value} {A : α → Option β} (hm : MapOf P w k b ek ev A) (hb : ¬ G b) : MapOf P w' k b ek ev A := hm.of_block (h.block b hm.lt hb)
end

/-- a new node, or the number of one that is there -/
def addF (st : Int) (L : List Ndv) (n : Ndv) : Option (Int × List Ndv) :=
  match L.idxOf? n with
  | some i => some (st + (i : Int), L)
  | none => if st + (L.length : Int) < 2147483647 then some (st + (L.length : Int), L ++ [n]) else none
/-- the node with a number -/
def nodeF (st : Int) (L : List Ndv) (n : Int) : Option Ndv := if st ≤ n then L[(n - st).toNat]? else none
/-- the numbers of the nodes -/
def numF (st : Int) (L : List Ndv) (n : Ndv) : Option Int := (L.idxOf? n).map fun (i : Nat) => st + (i : Int)

theorem idxOf_lt {L : List Ndv} {n : Ndv} {i : Nat} (h : L.idxOf? n = some i) : i < L.length ∧ L[i]? = some n := by
  unfold List.idxOf? at h
  rw [List.findIdx?_eq_some_iff_getElem] at h
  obtain ⟨hi, h1, _⟩ := h
  exact ⟨hi, by rw [List.getElem?_eq_getElem hi]; congr; simpa using h1⟩
theorem idxOf_none {L : List Ndv} {n : Ndv} (h : L.idxOf? n = none) : n ∉ L := by
  unfold List.idxOf? at h
  rw [List.findIdx?_eq_none_iff] at h
  intro hn
  have := h n hn
  simp at this
theorem idxOf_push {L : List Ndv} {n : Ndv} (h : L.idxOf? n = none) (m : Ndv) : (L ++ [n]).idxOf? m = if m = n then some L.length else L.idxOf? m := by
  unfold List.idxOf?
  rw [List.findIdx?_append]
  by_cases e : m = n
  · subst e
    unfold List.idxOf? at h
    rw [h, if_pos rfl]
    simp [List.findIdx?_cons]
  · rw [if_neg e]
    have : (n == m) = false := by simp [Ne.symm e]
    simp [List.findIdx?_cons, this]

/-- the forest's own cells -/
def Fo (w : World) (fb : Nat) (G : Nat → Prop) (st : Int) (L : List Ndv) : Prop :=
  ∃ A c mb, Blk w fb 81 #[.int .i64 st, .slice A L.length c, .map (some mb)] ∧ w.ownsRow 0 90 9 (.slice A L.length c) L.length (L.flatMap nodC) ∧
    MapOf Tryd.prog w 90 mb nodV (fun x => .int .i32 x) (numF st L) ∧ G fb ∧ G mb ∧ (∀ g, (Value.slice A L.length c).ownBlock = some g → G g ∧ g ≠ fb) ∧ (∀ b, G b → b < w.heap.size) ∧
    2 ≤ st ∧ st ≤ 8 ∧ (∀ n ∈ L, Nd8 n) ∧ st + (L.length : Int) ≤ 2147483647
section
variable {w w' : World} {fb : Nat} {G H H' : Nat → Prop} {st : Int} {L : List Ndv}
theorem Fo.keep (h : Fo w fb G st L) (hf : Fr H w H' w') (hd : ∀ b, G b → ¬ H b) : Fo w' fb G st L := by
  obtain ⟨A, c, mb, h1, h2, h3, h4, h5, h6, h7, h8⟩ := h
  exact ⟨A, c, mb, hf.blk h1 (hd _ h4), hf.row h2 (fun g hg => hd _ (h6 g hg).1), hf.map h3 (hd _ h5), h4, h5, h6, fun b hb => Nat.lt_of_lt_of_le (h7 b hb) hf.size, h8⟩
theorem Fo.below (h : Fo w fb G st L) (hb : Below w.heap.size w w') : Fo w' fb G st L := h.keep (Fr.of_below (G := fun _ => False) hb) (fun _ _ h => h)
theorem Fo.more (h : Fo w fb G st L) (h1 : ∀ b, G b → H b) (h2 : ∀ b, H b → b < w.heap.size) : Fo w fb H st L := by
  obtain ⟨A, c, mb, a1, a2, a3, a4, a5, a6, a7, a8⟩ := h
  exact ⟨A, c, mb, a1, a2, a3, h1 _ a4, h1 _ a5, fun g hg => ⟨h1 _ (a6 g hg).1, (a6 g hg).2⟩, h2, a8⟩
end
theorem nodC_len {n : Ndv} (h : R8 n.r) : (nodC n).length = 9 := by simp [nodC, h.1]
theorem flat_at {L : List Ndv} (h : ∀ n ∈ L, Nd8 n) {i : Nat} {n : Ndv} (hi : L[i]? = some n) {j : Nat} (hj : j < 9) : (L.flatMap nodC)[i * 9 + j]? = (nodC n)[j]? := by
  induction L generalizing i with
  | nil => simp at hi
  | cons a L ih =>
    have ha : (nodC a).length = 9 := nodC_len (h a (by simp)).2.2
    rw [List.flatMap_cons]
    cases i with
    | zero =>
      simp at hi
      subst hi
      rw [List.getElem?_append_left (by omega)]
      congr 1; omega
    | succ i =>
      rw [List.getElem?_append_right (by omega), ha, show (i + 1) * 9 + j - 9 = i * 9 + j by omega]
      exact ih (fun n hn => h n (by simp [hn])) (by simpa using hi)
end Go.Proofs.YthgnjjpkmikokaaDoor
namespace Go.Proofs.YthgnjjpkmikokaaDoor
open Go.RowKit

theorem Tryd.info_nod : (Tryd.prog.info? 90).map (fun i => (i.zero, i.size, i.bytes)) = some (some (.agg #[.int .i64 0, .int .i32 0, .int .i32 0, .int .i32 0, .int .i32 0, .int .i32 0, .int .i32 0, .int .i32 0, .int .i32 0]), 9, 40) := by kernel_rfl
theorem nodV_eight (lv a b c d e f g i : Int) : nodV ⟨lv, [a, b, c, d, e, f, g, i]⟩ = .agg #[.int .i64 lv, .int .i32 a, .int .i32 b, .int .i32 c, .int .i32 d, .int .i32 e, .int .i32 f, .int .i32 g, .int .i32 i] := rfl
theorem zero_i32 (w : World) : (zeroValue 21).run Tryd.prog w = .ok (.int .i32 0) w := by kernel_rfl
theorem Fo.look {w : World} {fb : Nat} {G : Nat → Prop} {st : Int} {L : List Ndv} {A : Option Addr} {c mb : Nat} (hm : MapOf Tryd.prog w 90 mb nodV (fun x => .int .i32 x) (numF st L)) {n : Ndv} (hn : Nd8 n) :
    (Instr.lookup 78 (.map (some mb)) (nodV n) true).run Tryd.prog w = .ok (match numF st L n with | some v => .tuple #[.int .i32 v, .bool true] | none => .tuple #[.int .i32 0, .bool false]) w := by
  obtain ⟨l, hl⟩ := key_node hn
  rw [hm.look true Tryd.keyNode Tryd.underlying78 (zero_i32 w) hl (fun y _ _ e => nodV_inj e)]
  cases numF st L n <;> rfl
set_option maxRecDepth 100000 in
set_option maxHeartbeats 4000000 in
theorem add_found {w : World} {fb : Nat} {G : Nat → Prop} {st : Int} {L : List Ndv} {n : Ndv} {r : Int} (h : Fo w fb G st L) (hn : Nd8 n) (ha : numF st L n = some r) :
    Calls Tryd.prog 59 #[.pointer (some ⟨fb, 0, none⟩), nodV n] w fun e w' => e = .returned (.int .i32 r) ∧ Below w.heap.size w w' := by
  obtain ⟨A, c, mb, h1, h2, h3, h4, h5, h6, h7, h8, h9, h10, h11⟩ := h
  obtain ⟨lv, rr⟩ := n
  obtain ⟨x1, x2, x3, x4, x5, x6, x7, x8, rfl⟩ := oct hn.2.2.1
  have B1 := Lib.hid ((Below.refl w.heap.size w).alloc (Nat.le_refl _) (.cells #[.int .i64 lv, .int .i32 x1, .int .i32 x2, .int .i32 x3, .int .i32 x4, .int .i32 x5, .int .i32 x6, .int .i32 x7, .int .i32 x8] 90))
  have lk := Fo.look (A := A) (c := c) (fb := fb) (G := G) (w := (w.alloc (.cells #[.int .i64 lv, .int .i32 x1, .int .i32 x2, .int .i32 x3, .int .i32 x4, .int .i32 x5, .int .i32 x6, .int .i32 x7, .int .i32 x8] 90)).drew) (h3.of_block (B1.out.block mb h3.lt)) hn
  rw [ha, nodV_eight] at lk
  simp only at lk
  obtain ⟨k0, k1, k2, k3⟩ := (h1.alloc (.cells #[.int .i64 lv, .int .i32 x1, .int .i32 x2, .int .i32 x3, .int .i32 x4, .int .i32 x5, .int .i32 x6, .int .i32 x7, .int .i32 x8] 90)).three
  rw [nodV_eight]
  clear h1 h2 h3 h6 h7 h8 h9 h10 h11 h4 h5 hn ha
  go_enter Tryd.func59, Tryd.ntmps59
  go_wp2
  go_region
  go_wp2
  go_ret
  exact ⟨rfl, B1.out.drew⟩
theorem Blk.nine {w : World} {g : Nat} {t : TypeId} {a b c d e f x y z : Value} (h : Blk w g t #[a, b, c, d, e, f, x, y, z]) : w.cell? ⟨g, 0, none⟩ = some a ∧ w.cell? ⟨g, 1, none⟩ = some b ∧ w.cell? ⟨g, 2, none⟩ = some c ∧ w.cell? ⟨g, 3, none⟩ = some d ∧ w.cell? ⟨g, 4, none⟩ = some e ∧ w.cell? ⟨g, 5, none⟩ = some f ∧ w.cell? ⟨g, 6, none⟩ = some x ∧ w.cell? ⟨g, 7, none⟩ = some y ∧ w.cell? ⟨g, 8, none⟩ = some z :=
  ⟨by rw [h.cell]; rfl, by rw [h.cell]; rfl, by rw [h.cell]; rfl, by rw [h.cell]; rfl, by rw [h.cell]; rfl, by rw [h.cell]; rfl, by rw [h.cell]; rfl, by rw [h.cell]; rfl, by rw [h.cell]; rfl⟩
theorem fo_grow {w w4 w7 : World} {fb mb g7 d7 c : Nat} {A : Option Addr} {G : Nat → Prop} {st : Int} {L : List Ndv} {n : Ndv} {o : Obj}
    (HB4 : Fr (fun i => i = mb) w (fun i => i = mb) w4) (K4 : Blk w4 fb 81 #[.int .i64 st, .slice A L.length c, .map (some mb)])
    (HM4 : MapOf Tryd.prog w4 90 mb nodV (fun x => .int .i32 x) (fun y => if y = n then some (st + (L.length : Int)) else numF st L y)) (H4 : G fb) (H5 : G mb)
    (HR : ∀ g, (Value.slice A L.length c).ownBlock = some g → G g ∧ g ≠ fb) (HRM : ∀ g, (Value.slice A L.length c).ownBlock = some g → g ≠ mb) (HG : ∀ b, G b → b < w.heap.size) (h8 : 2 ≤ st) (h9 : st ≤ 8) (HL : ∀ m ∈ L, Nd8 m) (HN : Nd8 n) (ha : L.idxOf? n = none)
    (hlt : st + (L.length : Int) < 2147483647) (hown7 : w7.ownsRow 0 90 9 (.slice (some ⟨g7, 0, none⟩) (L.length + 1) d7) (L.length + 1) (L.flatMap nodC ++ nodC n))
    (hgr7 : (w4.alloc o).grownBy w7 (Value.slice A L.length c).ownBlock) (hat7 : (Value.slice A L.length c).ownBlock = some g7 ∨ g7 = w4.heap.size + 1) (hlt7 : g7 < w7.heap.size) :
    ∃ G', Fo (w7.setCell ⟨fb, 1, none⟩ (.slice (some ⟨g7, 0, none⟩) (L.length + 1) d7)) fb G' st (L ++ [n]) ∧ Fr G w G' (w7.setCell ⟨fb, 1, none⟩ (.slice (some ⟨g7, 0, none⟩) (L.length + 1) d7)) := by
  have hs4 := HB4.size
  have hs7 := hgr7.size
  simp only [World.size_alloc] at hs7
  have hfl := HG fb H4
  have hgne : g7 ≠ fb ∧ g7 ≠ mb := by
    rcases hat7 with e | e
    · exact ⟨(HR _ e).2, HRM _ e⟩
    · have := HG mb H5
      exact ⟨by omega, by omega⟩
  have F1 : Fr G w G w4 := HB4.weak (fun k e => e ▸ H5) (fun k h => .inl h)
  have F2 : Fr G w G (w4.alloc o) := F1.trans (Fr.alloc G w4 o)
  have F3 : Fr G w (fun b => G b ∨ b = g7) w7 := F2.trans ⟨hgr7.os, hgr7.tape, hgr7.output, hgr7.size, fun k hk hG => hgr7.block k hk (fun e => hG (HR k e.symm).1), fun k hk => by
    rcases hk with hk | hk
    · exact .inl hk
    · subst hk
      rcases hat7 with e | e
      · exact .inl (HR _ e).1
      · exact .inr (by simp; omega)⟩
  have F4 := F3.trans (Fr.set_ (G := fun b => G b ∨ b = g7) w7 (p := ⟨fb, 1, none⟩) (.slice (some ⟨g7, 0, none⟩) (L.length + 1) d7) (.inl H4))
  have hsz : (w7.setCell ⟨fb, 1, none⟩ (.slice (some ⟨g7, 0, none⟩) (L.length + 1) d7)).heap.size = w7.heap.size := by simp [World.setCell]
  refine ⟨_, ⟨some ⟨g7, 0, none⟩, d7, mb, ?_, ?_, ?_, .inl H4, .inl H5, ?_, ?_, h8, h9, ?_, ?_⟩, F4⟩
  · have : Blk w7 fb _ _ := (hgr7.block fb (by simp; omega) (fun e => (HR fb e.symm).2 rfl)).trans (K4.alloc o)
    have := this.set_ 1 (.slice (some ⟨g7, 0, none⟩) (L.length + 1) d7)
    simpa using this
  · have := own_set hown7 (p := ⟨fb, 1, none⟩) (by simp [Value.ownBlock]; exact hgne.1) (.slice (some ⟨g7, 0, none⟩) (L.length + 1) d7)
    simpa using this
  · have hm7 : MapOf Tryd.prog (w7.setCell ⟨fb, 1, none⟩ (.slice (some ⟨g7, 0, none⟩) (L.length + 1) d7)) 90 mb nodV (fun x => .int .i32 x) (fun y => if y = n then some (st + (L.length : Int)) else numF st L y) := by
      refine HM4.of_block ?_
      have hfm : mb ≠ fb := fun e => by
        subst e
        obtain ⟨es, clock, hb, _⟩ := HM4
        rw [K4] at hb
        cases hb
      rw [Below.heap_setCell _ _ _ _ hfm, hgr7.block mb (by have := HG mb H5; simp; omega) (fun e => HRM mb e.symm rfl), Below.heap_alloc _ _ _ (by have := HG mb H5; omega)]
    have e : (numF st (L ++ [n])) = (fun y => if y = n then some (st + (L.length : Int)) else numF st L y) := by
      funext y
      simp only [numF, idxOf_push ha]
      by_cases hy : y = n <;> simp [hy]
    rw [e]
    exact hm7
  · intro g hg
    have : g7 = g := by simpa [Value.ownBlock] using hg
    subst this
    exact ⟨.inr rfl, hgne.1⟩
  · intro b hb
    rw [hsz]
    rcases hb with hb | hb
    · have := HG b hb; omega
    · omega
  · intro m hm
    rcases List.mem_append.1 hm with hm | hm
    · exact HL m hm
    · simp at hm; subst hm; exact HN
  · simp; omega
set_option maxRecDepth 100000 in
set_option maxHeartbeats 4000000 in
theorem add_new {w : World} {fb : Nat} {G : Nat → Prop} {st : Int} {L : List Ndv} {n : Ndv} (h : Fo w fb G st L) (hn : Nd8 n) (ha : L.idxOf? n = none) (hst : st + (L.length : Int) < 2147483647) :
    Calls Tryd.prog 59 #[.pointer (some ⟨fb, 0, none⟩), nodV n] w fun e w' => ∃ G', e = .returned (.int .i32 (st + (L.length : Int))) ∧ Fo w' fb G' st (L ++ [n]) ∧ Fr G w G' w' := by
  obtain ⟨i0, hi, hz0, hz1, hz2⟩ := info_parts Tryd.info_nod
  obtain ⟨A, c, mb, h1, h2, h3, h4, h5, h6, h7, h8, h9, h10, h11⟩ := h
  obtain ⟨kl, hkl⟩ := key_node hn
  obtain ⟨lv, rr⟩ := n
  obtain ⟨x1, x2, x3, x4, x5, x6, x7, x8, rfl⟩ := oct hn.2.2.1
  have HA := Lib.hid ha
  have HN := Lib.hid hn
  have HL := Lib.hid h10
  have B1 := Lib.hid ((Below.refl w.heap.size w).alloc (Nat.le_refl _) (.cells #[.int .i64 lv, .int .i32 x1, .int .i32 x2, .int .i32 x3, .int .i32 x4, .int .i32 x5, .int .i32 x6, .int .i32 x7, .int .i32 x8] 90))
  have lk := Fo.look (A := A) (c := c) (fb := fb) (G := G) (w := (w.alloc (.cells #[.int .i64 lv, .int .i32 x1, .int .i32 x2, .int .i32 x3, .int .i32 x4, .int .i32 x5, .int .i32 x6, .int .i32 x7, .int .i32 x8] 90)).drew) (h3.of_block (B1.out.block mb h3.lt)) hn
  have hnum : numF st L ⟨lv, [x1, x2, x3, x4, x5, x6, x7, x8]⟩ = none := by simp [numF, ha]
  rw [hnum, nodV_eight] at lk
  simp only at lk
  obtain ⟨w4, hr4, hm4, hs4, hf4⟩ := MapOf.store (P := Tryd.prog) (w := (w.alloc (.cells #[.int .i64 lv, .int .i32 x1, .int .i32 x2, .int .i32 x3, .int .i32 x4, .int .i32 x5, .int .i32 x6, .int .i32 x7, .int .i32 x8] 90)).drew.drew.drew) (h3.of_block (B1.out.block mb h3.lt)) Tryd.keyNode Tryd.underlying78 (st + (L.length : Int)) hkl (fun y _ _ e => nodV_inj e)
  rw [nodV_eight] at hr4
  have K1 := h1.alloc (.cells #[.int .i64 lv, .int .i32 x1, .int .i32 x2, .int .i32 x3, .int .i32 x4, .int .i32 x5, .int .i32 x6, .int .i32 x7, .int .i32 x8] 90)
  obtain ⟨k0, k1, k2, k3⟩ := K1.three
  have HM4 := Lib.hid hm4
  have hmlt := h3.lt
  have hflt := h1.lt
  have hfm : fb ≠ mb := fun e => by
    subst e
    obtain ⟨es, clock, hb, _⟩ := h3
    rw [h1] at hb
    cases hb
  have K4 := Lib.hid (show Blk w4 fb 81 _ from hf4.blk K1 hfm)
  have X4 := Lib.hid (show Blk w4 w.heap.size 90 #[.int .i64 lv, .int .i32 x1, .int .i32 x2, .int .i32 x3, .int .i32 x4, .int .i32 x5, .int .i32 x6, .int .i32 x7, .int .i32 x8] from hf4.blk (Blk.new w _ _) (show ¬ (w.heap.size = mb) by omega))
  have hsz4 : w4.heap.size = w.heap.size + 1 := by rw [hs4]; simp [World.drew]
  have HB4 := Lib.hid ((Fr.of_below (G := fun i => i = mb) B1.out).trans (show Fr (fun i => i = mb) (w.alloc (.cells #[.int .i64 lv, .int .i32 x1, .int .i32 x2, .int .i32 x3, .int .i32 x4, .int .i32 x5, .int .i32 x6, .int .i32 x7, .int .i32 x8] 90)) (fun i => i = mb) w4 from ⟨hf4.os, hf4.tape, hf4.output, hf4.size, hf4.block, hf4.new⟩))
  have hrow : ∀ g, (Value.slice A L.length c).ownBlock = some g → g ≠ mb := fun g hg e => by
    rcases h2.2 with ⟨q, _⟩ | ⟨g', cap, cur, q, _, hgg, _⟩
    · rw [q] at hg; cases hg
    · rw [q] at hg
      have : g' = g := by simpa [Value.ownBlock] using hg
      subst this
      subst e
      obtain ⟨es, clock, hb, _⟩ := h3
      rw [hgg] at hb
      cases hb
  have O4 := Lib.hid (HB4.out.row h2 (fun g hg => hrow g hg))
  have HR := Lib.hid h6
  have HRM := Lib.hid hrow
  have HG := Lib.hid h7
  have H5 := Lib.hid h5
  have H4 := Lib.hid h4
  have h63 : L.length + 1 ≤ maxLen := by unfold maxLen; omega
  have c1 : IntKind.i32.wrap (st + (L.length : Int)) = st + (L.length : Int) := IntWalk.i32_in _ ⟨by omega, by omega⟩
  rw [nodV_eight]
  clear h1 h2 h3 h6 h7 h4 h5 hn ha hkl h10 hm4 hrow hnum B1 K1 hf4 hs4
  go_enter Tryd.func59, Tryd.ntmps59
  go_wp2
  go_region
  go_wp2
  go_region
  go_wp2
  go_region
  go_wp2
  obtain ⟨f0, f1, f2, f3⟩ := K4.out.three
  have n9 := X4.out.nine
  obtain ⟨y0, y1, y2, y3, y4, y5, y6, y7, y8⟩ := n9
  clear lk hr4 k0 k1 k2 k3
  have hnb := Lib.hid (show (w4.alloc (.cells #[.int .i64 lv, .int .i32 x1, .int .i32 x2, .int .i32 x3, .int .i32 x4, .int .i32 x5, .int .i32 x6, .int .i32 x7, .int .i32 x8] 90)).heap[w.heap.size + 1]? = some (.cells #[.int .i64 lv, .int .i32 x1, .int .i32 x2, .int .i32 x3, .int .i32 x4, .int .i32 x5, .int .i32 x6, .int .i32 x7, .int .i32 x8] 90 (0, 0)) from hsz4 ▸ heap_alloc_new w4 _)
  have SK := Lib.hid (show ∀ w7, (w4.alloc (.cells #[.int .i64 lv, .int .i32 x1, .int .i32 x2, .int .i32 x3, .int .i32 x4, .int .i32 x5, .int .i32 x6, .int .i32 x7, .int .i32 x8] 90)).grownBy w7 (Value.slice A L.length c).ownBlock → Blk w7 fb 81 _ from fun w7 hg => 
    (hg.block fb (by simp; omega) (fun e => by have := (HR.out fb e.symm).2; exact this rfl)).trans (K4.out.alloc _))
  have f1a := (K4.out.alloc (.cells #[.int .i64 lv, .int .i32 x1, .int .i32 x2, .int .i32 x3, .int .i32 x4, .int .i32 x5, .int .i32 x6, .int .i32 x7, .int .i32 x8] 90)).three.2.1
  go_region_law (first
    | (refine step_append_lies _ (by rfl) _ _ _ (by rfl) 0 90 i0 _ 9 40 Tryd.underlying79 hi hz0 hz1 hz2 rfl (by decide) (.slice A L.length c) L.length (L.flatMap nodC) (by rfl) (O4.out.alloc _) ⟨w.heap.size + 1, 0, none⟩ 1 1 (nodC ⟨lv, [x1, x2, x3, x4, x5, x6, x7, x8]⟩) (by rfl) (by rfl) (World.news_of_block (cs := #[.int .i64 lv, .int .i32 x1, .int .i32 x2, .int .i32 x3, .int .i32 x4, .int .i32 x5, .int .i32 x6, .int .i32 x7, .int .i32 x8]) (t := 90) (fr := (0, 0)) hnb.out) (by simp [nodC, Value.oneCell']) (by omega) h63 (by omega) (by simp) (w.heap.size + 2) (by first | (simp; done) | (simp; omega)) ?_; intro g7 d7 w7 hown7 hgrow7 hat7 hlt7; have hgr7 : (w4.alloc (.cells #[.int .i64 lv, .int .i32 x1, .int .i32 x2, .int .i32 x3, .int .i32 x4, .int .i32 x5, .int .i32 x6, .int .i32 x7, .int .i32 x8] 90)).grownBy w7 (Value.slice A L.length c).ownBlock := ⟨hgrow7.os, hgrow7.tape, hgrow7.output, hgrow7.size, hgrow7.block⟩; have K7 := Lib.hid (SK.out w7 hgr7); have z7 := K7.out.frozen 1; obtain ⟨y70, y71, y72, y73⟩ := K7.out.three; clear hgrow7)
    | fail)
  all_goals
    have hat8 : (Value.slice A L.length c).ownBlock = some g7 ∨ g7 = w4.heap.size + 1 := by rw [hsz4]; exact hat7
    clear hat7 hsz4
    obtain ⟨G', hF, hR⟩ := fo_grow HB4.out K4.out HM4.out H4.out H5.out HR.out HRM.out HG.out h8 h9 HL.out HN.out HA.out hst hown7 hgr7 hat8 hlt7
    have HF := Lib.hid hF
    have HFR := Lib.hid hR
    clear hF hR hown7 hgr7 hat8 hlt7 K7 z7 y70 y71 y72 y73
    generalize w7.setCell ⟨fb, 1, none⟩ (.slice (some ⟨g7, 0, none⟩) (L.length + 1) d7) = w8 at HF HFR ⊢
    go_wp2
    go_ret
    exact ⟨G', rfl, HF.out, HFR.out⟩
/-- add, as the model has it -/
theorem add_any {w : World} {fb : Nat} {G : Nat → Prop} {st : Int} {L L' : List Ndv} {n : Ndv} {r : Int} (h : Fo w fb G st L) (hn : Nd8 n) (ha : addF st L n = some (r, L')) :
    Calls Tryd.prog 59 #[.pointer (some ⟨fb, 0, none⟩), nodV n] w fun e w' => ∃ G', e = .returned (.int .i32 r) ∧ Fo w' fb G' st L' ∧ Fr G w G' w' := by
  unfold addF at ha
  cases hx : L.idxOf? n with
  | some i =>
    rw [hx] at ha
    simp only [Option.some.injEq, Prod.mk.injEq] at ha
    obtain ⟨h1, h2⟩ := ha
    subst h1 h2
    refine (add_found (r := st + (i : Int)) h hn (by simp [numF, hx])).mono fun e w' ⟨h1, h2⟩ => ?_
    exact ⟨G, h1, h.below h2, Fr.of_below h2⟩
  | none =>
    rw [hx] at ha
    simp only at ha
    split at ha
    · next hlt =>
      simp only [Option.some.injEq, Prod.mk.injEq] at ha
      obtain ⟨h1, h2⟩ := ha
      subst h1 h2
      exact add_new h hn hx hlt
    · cases ha
end Go.Proofs.YthgnjjpkmikokaaDoor
namespace Go.Proofs.YthgnjjpkmikokaaDoor
open Go.RowKit

/-- a node's cells, at its place in the row -/
theorem Fo.nodeAt {w : World} {fb : Nat} {G : Nat → Prop} {st : Int} {L : List Ndv} {k : Int} {n : Ndv} (h : Fo w fb G st L) (hk : nodeF st L k = some n) :
    ∃ (i g c mb : Nat), k = st + (i : Int) ∧ i < L.length ∧ L[i]? = some n ∧ Nd8 n ∧ g < w.heap.size ∧ Blk w fb 81 #[.int .i64 st, .slice (some ⟨g, 0, none⟩) L.length c, .map (some mb)] ∧ (∀ j, j < 9 → w.cell? ⟨g, i * 9 + j, none⟩ = (nodC n)[j]?) := by
  obtain ⟨A, c, mb, h1, h2, h3, h4, h5, h6, h7, h8, h9, h10, h11⟩ := h
  unfold nodeF at hk
  split at hk
  · next hs =>
    have hi : (k - st).toNat < L.length := by
      rcases Nat.lt_or_ge (k - st).toNat L.length with q | q
      · exact q
      · rw [List.getElem?_eq_none q] at hk; cases hk
    have hn : Nd8 n := h10 n (List.mem_of_getElem? hk)
    obtain ⟨g, cap, hv, _, hg⟩ := h2.form (by omega)
    injection hv with hv1 hv2 hv3
    subst hv1 hv3
    refine ⟨(k - st).toNat, g, c, mb, by omega, hi, hk, hn, hg, h1, fun j hj => ?_⟩
    rw [← flat_at h10 hk hj]
    refine h2.cellAt ((k - st).toNat * 9 + j) ?_
    omega
  · cases hk
set_option maxRecDepth 100000 in
set_option maxHeartbeats 4000000 in
theorem node_any {w : World} {fb : Nat} {G : Nat → Prop} {st : Int} {L : List Ndv} {k : Int} {n : Ndv} (h : Fo w fb G st L) (hk : nodeF st L k = some n) :
    Calls Tryd.prog 65 #[.pointer (some ⟨fb, 0, none⟩), .int .i32 k] w fun e w' => e = .returned (nodV n) ∧ Below w.heap.size w w' := by
  obtain ⟨i, g, c, mb, hki, hi, hLi, hn, hg, hB, hc⟩ := h.nodeAt hk
  have hst : 2 ≤ st ∧ st ≤ 8 ∧ st + (L.length : Int) ≤ 2147483647 := by
    obtain ⟨A, c, mb, h1, h2, h3, h4, h5, h6, h7, h8, h9, h10, h11⟩ := h
    exact ⟨h8, h9, h11⟩
  clear h hk hLi
  subst hki
  obtain ⟨s1, s2, s3⟩ := hst
  obtain ⟨lv, rr⟩ := n
  obtain ⟨x1, x2, x3, x4, x5, x6, x7, x8, rfl⟩ := oct hn.2.2.1
  have hc2 : ∀ j, j < 9 → (w.alloc (.cells #[.int .i64 0, .int .i32 0, .int .i32 0, .int .i32 0, .int .i32 0, .int .i32 0, .int .i32 0, .int .i32 0, .int .i32 0] 90)).cell? ⟨g, i * 9 + j, none⟩ = (nodC ⟨lv, [x1, x2, x3, x4, x5, x6, x7, x8]⟩)[j]? := fun j hj => (World.cell?_alloc_lt w _ _ hg).trans (hc j hj)
  have c0 := hc2 0 (by omega)
  have c1 := hc2 1 (by omega)
  have c2 := hc2 2 (by omega)
  have c3 := hc2 3 (by omega)
  have c4 := hc2 4 (by omega)
  have c5 := hc2 5 (by omega)
  have c6 := hc2 6 (by omega)
  have c7 := hc2 7 (by omega)
  have c8 := hc2 8 (by omega)
  rw [Nat.add_zero] at c0
  simp only [nodC, List.map_cons, List.map_nil, List.getElem?_cons_zero, List.getElem?_cons_succ] at c0 c1 c2 c3 c4 c5 c6 c7 c8
  obtain ⟨k0, k1, k2, k3⟩ := (hB.alloc (.cells #[.int .i64 0, .int .i32 0, .int .i32 0, .int .i32 0, .int .i32 0, .int .i32 0, .int .i32 0, .int .i32 0, .int .i32 0] 90)).three
  have hix : (st + (i : Int) - st).toNat = i := by omega
  rw [nodV_eight]
  clear hc hc2 hB hn
  go_enter Tryd.func65, Tryd.ntmps65
  go_wp2
  go_region
  obtain ⟨y0, y1, y2, y3, y4, y5, y6, y7, y8⟩ := (Blk.new w 90 #[.int .i64 lv, .int .i32 x1, .int .i32 x2, .int .i32 x3, .int .i32 x4, .int .i32 x5, .int .i32 x6, .int .i32 x7, .int .i32 x8]).nine
  go_wp2
  exact bodyPost_ret (v := .agg #[.int .i64 lv, .int .i32 x1, .int .i32 x2, .int .i32 x3, .int .i32 x4, .int .i32 x5, .int .i32 x6, .int .i32 x7, .int .i32 x8]) (by simp [results, Tryd.results65, go_sem, y0, y1, y2, y3, y4, y5, y6, y7, y8]) rfl ⟨rfl, ((Below.refl w.heap.size w).alloc (Nat.le_refl _) _).drew⟩
end Go.Proofs.YthgnjjpkmikokaaDoor
