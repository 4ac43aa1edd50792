/- Maps that the call owns, as plain look-up functions. -/
/- The forest: what it holds, and the blocks that it lies in. -/
import Derived.Test.YtjekpmkghpjamaaGreatDoorMab
import Derived.Test.YtjekpmkghpjamaaGreatDoorMad
import Derived.Test.YtjekpmkghpjamaaGreatDoorMaa
import Derived.Test.YtjekpmkghpjamaaGreatDoorMac
import Derived.Below
import Derived.BigQuiet
import Derived.Deep.AppendLies
import Derived.Deep.CutRange
import Derived.Deep.Draws
import Derived.Deep.QuietTactic
import Derived.DeepKeys4
import Derived.IntWalk
import Derived.Laws.OwnMore
import Derived.Laws.Rows
import Derived.Lib.Hide
import Derived.LoopN
import Derived.Maps.OwnOps
import Derived.OwnWalk
import Derived.Sort.Statements
import Derived.StillTail
import Derived.StillTailTactics
import Derived.Test.YtjekpmkghpjamaaGreatDoorRows
import Derived.WalkKit
namespace Go.Proofs.YtjekpmkghpjamaaGreatDoor
open Go.RowKit
open Go.ChangeMaps (setBlock heap_setBlock_same heap_setBlock_other)
open Go.MapKept (Stamped stamped_push stamped_modify stamped_empty stamped_iff)
open Go.Maps (Keyed)
/-- only blocks of G were turned, or made; those of G' are of G, or new -/
structure Fr (G : Nat → Prop) (w : World) (G' : Nat → Prop) (w' : World) : Prop where
  os : w'.os = w.os
  tape : w'.tape = w.tape
  output : w'.output = w.output
  size : w.heap.size ≤ w'.heap.size
  block : ∀ k, k < w.heap.size → ¬ G k → w'.heap[k]? = w.heap[k]?
  new : ∀ k, G' k → G k ∨ w.heap.size ≤ k
section
variable {G G' G'' : Nat → Prop} {w w' w'' : World}
theorem Fr.refl (G : Nat → Prop) (w : World) : Fr G w G w := ⟨rfl, rfl, rfl, Nat.le_refl _, fun _ _ _ => rfl, fun _ h => .inl h⟩
theorem Fr.trans (h : Fr G w G' w') (k : Fr G' w' G'' w'') : Fr G w G'' w'' :=
  ⟨k.os.trans h.os, k.tape.trans h.tape, k.output.trans h.output, Nat.le_trans h.size k.size,
   fun i hi hG => (k.block i (Nat.lt_of_lt_of_le hi h.size) (fun h' => by rcases h.new i h' with h1 | h1; exact hG h1; omega)).trans (h.block i hi hG),
   fun i hi => by
    rcases k.new i hi with h1 | h1
    · exact h.new i h1
    · exact .inr (Nat.le_trans h.size h1)⟩
theorem Fr.of_below (h : Below w.heap.size w w') : Fr G w G w' := ⟨h.os, h.tape, h.output, h.size, fun k hk _ => h.block k hk, fun _ h => .inl h⟩
/-- the same, seen from fewer names -/
theorem Fr.weak {H H' : Nat → Prop} (h : Fr G w G' w') (h1 : ∀ k, G k → H k) (h2 : ∀ k, H' k → H k ∨ w.heap.size ≤ k) : Fr H w H' w' :=
  ⟨h.os, h.tape, h.output, h.size, fun k hk hH => h.block k hk (fun hG => hH (h1 k hG)), h2⟩
theorem Fr.below (h : Fr G w G' w') {B : Nat} (hG : ∀ k, G k → B ≤ k) (hB : B ≤ w.heap.size) : Below B w w' :=
  ⟨h.os, h.tape, h.output, h.size, fun k hk => h.block k (by omega) (fun hk' => by have := hG k hk'; omega)⟩
theorem Fr.blk (h : Fr G w G' w') {g : Nat} {t : TypeId} {cs : Array Value} (k : Blk w g t cs) (hg : ¬ G g) : Blk w' g t cs := (h.block g k.lt hg).trans k
theorem Fr.reads (h : Fr G w G' w') {A : Option Addr} {n : Nat} {xs : List Value} (k : Reads w w.heap.size A n xs) (hA : 0 < n → ∀ ad, A = some ad → ¬ G ad.block) : Reads w' w'.heap.size A n xs :=
  ⟨k.1, fun hn => by
    obtain ⟨ad, e, hb, hc⟩ := k.2 hn
    refine ⟨ad, e, Nat.lt_of_lt_of_le hb h.size, fun j u hu => ?_⟩
    rw [← hc j u hu]
    exact World.cell?_of_block (by rw [block_of_add]; exact h.block _ hb (hA hn ad e))⟩
theorem Fr.row (h : Fr G w G' w') {base k : Nat} {e : TypeId} {v : Value} {n : Nat} {xs : List Value} (hr : w.ownsRow base e k v n xs) (hv : ∀ g, v.ownBlock = some g → ¬ G g) : w'.ownsRow base e k v n xs := by
  refine ⟨hr.1, ?_⟩
  rcases hr.2 with hn | ⟨g, cap, cur, rfl, hb', hg, rest⟩
  · exact .inl hn
  · refine .inr ⟨g, cap, cur, rfl, hb', ?_, rest⟩
    rw [h.block g (Array.getElem?_eq_some_iff.1 hg).1 (hv g rfl)]; exact hg
theorem Fr.alloc (G : Nat → Prop) (w : World) (o : Obj) : Fr G w G (w.alloc o) := Fr.of_below ((Below.refl _ _).alloc (Nat.le_refl _) o)
theorem Fr.set_ (w : World) {p : Addr} (u : Value) (hp : G p.block) : Fr G w G (w.setCell p u) :=
  ⟨rfl, rfl, rfl, by simp [World.setCell], fun k _ hk => Below.heap_setCell w p u k (fun e => hk (e ▸ hp)), fun _ h => .inl h⟩
end
/-- Block b is a map that holds just what A says, keys and elements laid by ek and ev. -/
def MapOf (P : Program) (w : World) (k : TypeId) (b : Nat) {α β : Type} (ek : α → Value) (ev : β → Value) (A : α → Option β) : Prop :=
  ∃ es clock, w.heap[b]? = some (.map es clock) ∧ Stamped es clock ∧ (∀ e ∈ es.toList, ∃ l, keyOf P k e.key = some l) ∧
    (∀ x v, A x = some v → ∃ e ∈ es.toList, e.key = ek x ∧ e.val = ev v) ∧ (∀ e ∈ es.toList, ∃ x v, e.key = ek x ∧ e.val = ev v ∧ A x = some v)
section
variable {P : Program} {w w' : World} {k t e : TypeId} {b : Nat} {α β : Type} {ek : α → Value} {ev : β → Value} {A : α → Option β}
theorem MapOf.lt (h : MapOf P w k b ek ev A) : b < w.heap.size := by
  obtain ⟨es, clock, hb, _⟩ := h
  exact (Array.getElem?_eq_some_iff.1 hb).1
theorem MapOf.of_block (h : MapOf P w k b ek ev A) (hb : w'.heap[b]? = w.heap[b]?) : MapOf P w' k b ek ev A := by
  obtain ⟨es, clock, h1, h2⟩ := h
  exact ⟨es, clock, hb.trans h1, h2⟩
theorem MapOf.new (P : Program) (w : World) (k : TypeId) (ek : α → Value) (ev : β → Value) : MapOf P (w.alloc (.map #[] 0)) k w.heap.size ek ev (fun _ => none) :=
  ⟨#[], 0, (MapKept.heap_alloc w _).1, stamped_empty 0, by simp, by simp, by simp⟩
theorem MapOf.look [DecidableEq α] (h : MapOf P w k b ek ev A) (c : Bool) (K : Keyed P k) (ht : P.underlying t = some (.map k e)) {z : Value} (hz : (zeroValue e).run P w = .ok z w) {x : α} {kl : Lit} (hkey : keyOf P k (ek x) = some kl)
    (hinj : ∀ y v, A y = some v → ek y = ek x → y = x) :
    (Instr.lookup t (.map (some b)) (ek x) c).run P w = .ok (match A x with | some v => (if c then .tuple #[ev v, .bool true] else ev v) | none => (if c then .tuple #[z, .bool false] else z)) w := by
  obtain ⟨es, clock, hb, hs, hk, h4, h5⟩ := h
  rcases K.find w hkey es.toList hk with ⟨h1, h2⟩ | ⟨j, e0, h1, h2, h3⟩
  · have hA : A x = none := by
      cases hA : A x with
      | none => rfl
      | some v =>
        obtain ⟨e1, he1, hk1, _⟩ := h4 x v hA
        exact absurd hk1 (h2 e1 he1)
    rw [hA]
    simp [Instr.lookup, run_underlying ht, MapKept.run_getObj_map hb, K.check w _ hkey, h1, hz, Result.andThen]
  · have hm0 : e0 ∈ es.toList := List.mem_of_getElem? h2
    obtain ⟨y, v, hy1, hy2, hy3⟩ := h5 e0 hm0
    have hyx := hinj y v hy3 (hy1.symm.trans h3)
    subst hyx
    rw [hy3]
    simp [Instr.lookup, run_underlying ht, MapKept.run_getObj_map hb, K.check w _ hkey, h1, Result.andThen, hy2]
theorem MapOf.store [DecidableEq α] (h : MapOf P w k b ek ev A) (K : Keyed P k) (ht : P.underlying t = some (.map k e)) {x : α} (v : β) {kl : Lit} (hkey : keyOf P k (ek x) = some kl)
    (hinj : ∀ y u, A y = some u → ek y = ek x → y = x) :
    ∃ w', (Instr.mapUpdate t (.map (some b)) (ek x) (ev v)).run P w = .ok () w' ∧ MapOf P w' k b ek ev (fun y => if y = x then some v else A y) ∧ w'.heap.size = w.heap.size ∧ Fr (fun i => i = b) w (fun i => i = b) w' := by
  obtain ⟨es, clock, hb, hs, hk, h4, h5⟩ := h
  rcases K.find w hkey es.toList hk with ⟨h1, h2⟩ | ⟨j, e0, h1, h2, h3⟩
  · refine ⟨setBlock w b (.map (es.push ⟨ek x, ev v, clock⟩) (clock + 1)), ?_, ⟨_, _, heap_setBlock_same hb _, stamped_push hs h2, ?_, ?_, ?_⟩, by simp [setBlock], ⟨rfl, rfl, rfl, by simp [setBlock], fun i _ hi => heap_setBlock_other hb _ hi, fun _ h => .inl h⟩⟩
    · simp [Instr.mapUpdate, run_underlying ht, MapKept.run_getObj_map hb, K.check w false hkey, h1, MapKept.run_setObj_map _ hb, Result.andThen, setBlock]
    · intro e' he'
      simp only [Array.toList_push, List.mem_append, List.mem_singleton] at he'
      rcases he' with he' | rfl
      · exact hk e' he'
      · exact ⟨kl, hkey⟩
    · intro y u hy
      simp only [Array.toList_push, List.mem_append, List.mem_singleton]
      by_cases e1 : y = x
      · simp only [if_pos e1] at hy
        injection hy with hy
        subst hy e1
        exact ⟨_, .inr rfl, rfl, rfl⟩
      · simp only [if_neg e1] at hy
        obtain ⟨e', he', q⟩ := h4 y u hy
        exact ⟨e', .inl he', q⟩
    · intro e' he'
      simp only [Array.toList_push, List.mem_append, List.mem_singleton] at he'
      rcases he' with he' | rfl
      · obtain ⟨y, u, q1, q2, q3⟩ := h5 e' he'
        refine ⟨y, u, q1, q2, ?_⟩
        have : y ≠ x := fun e1 => h2 e' he' (by rw [q1, e1])
        simp only [if_neg this]
        exact q3
      · exact ⟨x, v, rfl, rfl, by simp⟩
  · have hj : es[j]? = some e0 := by simpa using h2
    have hjl : j < es.toList.length := (List.getElem?_eq_some_iff.1 h2).1
    have hkeyf : ∀ e', es[j]? = some e' → ({ e' with key := ek x, val := ev v } : MapEntry).key = e'.key := fun e' he' => by rw [hj] at he'; cases he'; exact h3.symm
    have hlist : (es.modify j (fun e' => { e' with key := ek x, val := ev v })).toList = es.toList.set j { e0 with key := ek x, val := ev v } := by rw [Array.toList_modify, ChangeMaps.modify_eq_set _ _ _ _ h2]
    have hpw : es.toList.Pairwise (fun x y => x.key ≠ y.key) := ((stamped_iff es clock).1 hs).2.2
    have who : ∀ e' ∈ es.toList.set j { e0 with key := ek x, val := ev v }, e' = { e0 with key := ek x, val := ev v } ∨ (e' ∈ es.toList ∧ e'.key ≠ ek x) := by
      intro e' he'
      obtain ⟨i, hi, ex⟩ := List.getElem_of_mem he'
      rw [List.getElem_set] at ex
      split at ex
      · exact Or.inl ex.symm
      · rename_i hne
        have hi' : i < es.toList.length := by simpa using hi
        refine Or.inr ⟨ex ▸ List.getElem_mem hi', ?_⟩
        rw [← h3, ← ex]
        have g0 : es.toList[j] = e0 := by have := List.getElem?_eq_getElem hjl; rw [h2] at this; exact (Option.some.inj this).symm
        rw [show e0.key = es.toList[j].key by rw [g0]]
        rcases Nat.lt_or_gt_of_ne hne with hlt | hlt
        · exact fun q => (List.pairwise_iff_getElem.1 hpw j i hjl hi' hlt) q.symm
        · exact List.pairwise_iff_getElem.1 hpw i j hi' hjl hlt
    refine ⟨setBlock w b (.map (es.modify j (fun e' => { e' with key := ek x, val := ev v })) clock), ?_, ⟨_, _, heap_setBlock_same hb _, stamped_modify hs _ _ (fun _ _ => rfl) (fun e' _ he' => hkeyf e' he'), ?_, ?_, ?_⟩, by simp [setBlock], ⟨rfl, rfl, rfl, by simp [setBlock], fun i _ hi => heap_setBlock_other hb _ hi, fun _ h => .inl h⟩⟩
    · simp [Instr.mapUpdate, run_underlying ht, MapKept.run_getObj_map hb, K.check w false hkey, h1, hj, h3, K.stays w hkey, MapKept.run_setObj_map _ hb, Result.andThen, setBlock]
    · intro e' he'
      rw [hlist] at he'
      rcases who e' he' with rfl | ⟨q, _⟩
      · exact ⟨kl, hkey⟩
      · exact hk e' q
    · intro y u hy
      rw [hlist]
      by_cases e1 : y = x
      · simp only [if_pos e1] at hy
        injection hy with hy
        subst hy e1
        exact ⟨_, List.mem_iff_getElem.2 ⟨j, by simpa using hjl, by simp; rfl⟩, rfl, rfl⟩
      · simp only [if_neg e1] at hy
        obtain ⟨e', he', q1, q2⟩ := h4 y u hy
        refine ⟨e', ?_, q1, q2⟩
        obtain ⟨i, hi, ex⟩ := List.getElem_of_mem he'
        have hne : j ≠ i := by
          intro e2
          subst e2
          rw [List.getElem?_eq_getElem hi, ex] at h2
          injection h2 with h2
          subst h2
          exact e1 (hinj y u hy (q1.symm.trans h3))
        exact List.mem_iff_getElem.2 ⟨i, by simpa using hi, by rw [List.getElem_set_ne hne]; exact ex⟩
    · intro e' he'
      rw [hlist] at he'
      rcases who e' he' with rfl | ⟨q, q'⟩
      · exact ⟨x, v, rfl, rfl, by simp⟩
      · obtain ⟨y, u, q1, q2, q3⟩ := h5 e' q
        refine ⟨y, u, q1, q2, ?_⟩
        have : y ≠ x := fun e1 => q' (by rw [q1, e1])
        simp only [if_neg this]
        exact q3
end
/-- a node's cells -/
structure Ndv where
  lv : Int
  r : List Int
deriving DecidableEq, Repr
def rowV (r : List Int) : Value := .agg (r.map fun x => .int .i32 x).toArray
def nodC (n : Ndv) : List Value := .int .i64 n.lv :: n.r.map fun x => .int .i32 x
def nodV (n : Ndv) : Value := .agg (nodC n).toArray
theorem map_i32_inj {l m : List Int} (h : (l.map fun x => Value.int .i32 x) = m.map fun x => .int .i32 x) : l = m := by
  induction l generalizing m with
  | nil => cases m with
    | nil => rfl
    | cons b m => simp at h
  | cons a l ih => cases m with
    | nil => simp at h
    | cons b m => simp at h; obtain ⟨h1, h2⟩ := h; rw [h1, ih (by simpa using h2)]
theorem nodV_inj {a b : Ndv} (h : nodV a = nodV b) : a = b := by
  unfold nodV nodC at h
  injection h with h
  have h := congrArg Array.toList h
  simp only at h
  injection h with h1 h2
  injection h1 with _ h1
  have := map_i32_inj h2
  cases a; cases b
  simp_all
theorem i32V_inj {a b : Int} (h : Value.int .i32 a = .int .i32 b) : a = b := by injection h

theorem Tryz.laidOut13 : laidOutB Tryz.prog = true := by kernel_rfl
theorem Tryz.rowNode : (155 : TypeId) < Tryz.prog.types.size := of_decide_eq_true (by kernel_rfl)
theorem Tryz.keyNode : Keyed Tryz.prog 155 := Keyed.of_law (deep_law_laid Tryz.laidOut13 (m := 3) (by omega) Tryz.rowNode (by kernel_rfl) (by rw [Tryz.underlying155]))
theorem Tryz.keyI32 : Keyed Tryz.prog 21 := Maps.int_keyed Tryz.underlying21
/-- a row in range -/
def R8 (r : List Int) : Prop := r.length = 8 ∧ ∀ x ∈ r, -2147483648 ≤ x ∧ x < 2147483648
def Nd8 (n : Ndv) : Prop := -9223372036854775808 ≤ n.lv ∧ n.lv < 9223372036854775808 ∧ R8 n.r
theorem key_i32 {n : Int} (h1 : -2147483648 ≤ n) (h2 : n < 2147483648) : keyOf Tryz.prog 21 (.int .i32 n) = some (.int .i32 n) := Maps.keyOf_int_mk Tryz.underlying21 (WalkArith.wf_i32 ⟨h1, by omega⟩)
theorem Tryz.keyTypeNode : Tryz.prog.keyType 155 = true := by kernel_rfl
theorem Tryz.sizeTypes : ∃ m, Tryz.prog.types.size = m + 2 := ⟨Tryz.prog.types.size - 2, by kernel_rfl⟩
theorem oct {l : List Int} (h : l.length = 8) : ∃ a b c d e f g i, l = [a, b, c, d, e, f, g, i] := by
  match l, h with
  | [a, b, c, d, e, f, g, i], _ => exact ⟨a, b, c, d, e, f, g, i, rfl⟩
theorem cellsNode : Tryz.prog.cellsOf 155 = 9 := by kernel_rfl
theorem cellsRow : Tryz.prog.cellsOf 150 = 8 := by kernel_rfl
theorem cellsI32 : Tryz.prog.cellsOf 21 = 1 := by kernel_rfl
theorem cellsInt : Tryz.prog.cellsOf 3 = 1 := by kernel_rfl
theorem lits_i32 {m : Nat} {a : Int} (h : -2147483648 ≤ a ∧ a < 2147483648) : Tryz.prog.keyLits (m + 1) 21 [.int .i32 a] = some [.int .i32 a] := by
  have w1 := WalkArith.wf_i32 (n := a) ⟨h.1, by omega⟩
  simp [Program.keyLits, Tryz.underlying21, w1]
theorem lits_row {m : Nat} {r : List Int} (h : R8 r) : ∃ l, Tryz.prog.keyLits (m + 2) 150 (r.map fun x => .int .i32 x) = some l := by
  obtain ⟨h3, h4⟩ := h
  obtain ⟨a, b, c, d, e, f, g, i, rfl⟩ := oct h3
  simp only [List.mem_cons, List.not_mem_nil, or_false, forall_eq_or_imp, forall_eq] at h4
  obtain ⟨a1, a2, a3, a4, a5, a6, a7, a8⟩ := h4
  unfold Program.keyLits
  simp only [Tryz.underlying150, cellsRow, cellsI32]
  simp [List.range, List.range.loop, lits_i32 a1, lits_i32 a2, lits_i32 a3, lits_i32 a4, lits_i32 a5, lits_i32 a6, lits_i32 a7, lits_i32 a8]
theorem key_node {n : Ndv} (h : Nd8 n) : ∃ l, keyOf Tryz.prog 155 (nodV n) = some l := by
  obtain ⟨lv, r⟩ := n
  obtain ⟨h1, h2, h3⟩ := h
  simp only at h1 h2 h3
  obtain ⟨m, hm⟩ := Tryz.sizeTypes
  obtain ⟨l, hl⟩ := lits_row (m := m) h3
  have w1 := WalkArith.wf_i64 (n := lv) ⟨h1, by omega⟩
  have hlen : r.length = 8 := h3.1
  unfold keyOf
  simp only [Tryz.underlying155]
  rw [if_pos (by simp [Tryz.keyTypeNode, Value.formed, Tryz.underlying155, cellsNode, nodV, nodC, hlen]), hm]
  unfold Program.keyLits
  have hl2 : List.take 8 (r.map fun x => Value.int .i32 x) = r.map fun x => Value.int .i32 x := List.take_of_length_le (by simp [hlen])
  have hi : Tryz.prog.keyLits (m + 2) 3 [.int .i64 lv] = some [.int .i64 lv] := by simp [Program.keyLits, Tryz.underlying3, w1]
  simp [Tryz.underlying155, cellsNode, cellsRow, cellsInt, nodV, nodC, hlen, Value.cells, hl2, hl, hi]
end Go.Proofs.YtjekpmkghpjamaaGreatDoor
namespace Go.Proofs.YtjekpmkghpjamaaGreatDoor
open Go.RowKit
section
variable {G G' : Nat → Prop} {w w' : World}
theorem Fr.map (h : Fr G w G' w') {P : Program} {k : TypeId} {b : Nat} {α β : Type} {ek : α → Value} {ev : β → Value} {A : α → Option β} (hm : MapOf P w k b ek ev A) (hb : ¬ G b) : MapOf P w' k b ek ev A := hm.of_block (h.block b hm.lt hb)
end
/-- a new node, or the number of one that is there -/
def addF (st : Int) (L : List Ndv) (n : Ndv) : Option (Int × List Ndv) :=
  match L.idxOf? n with
  | some i => some (st + (i : Int), L)
  | none => if st + (L.length : Int) < 2147483647 then some (st + (L.length : Int), L ++ [n]) else none
/-- the node with a number -/
def nodeF (st : Int) (L : List Ndv) (n : Int) : Option Ndv := if st ≤ n then L[(n - st).toNat]? else none
/-- the numbers of the nodes -/
def numF (st : Int) (L : List Ndv) (n : Ndv) : Option Int := (L.idxOf? n).map fun (i : Nat) => st + (i : Int)

theorem idxOf_lt {L : List Ndv} {n : Ndv} {i : Nat} (h : L.idxOf? n = some i) : i < L.length ∧ L[i]? = some n := by
  unfold List.idxOf? at h
  rw [List.findIdx?_eq_some_iff_getElem] at h
  obtain ⟨hi, h1, _⟩ := h
  exact ⟨hi, by rw [List.getElem?_eq_getElem hi]; congr; simpa using h1⟩
theorem idxOf_none {L : List Ndv} {n : Ndv} (h : L.idxOf? n = none) : n ∉ L := by
  unfold List.idxOf? at h
  rw [List.findIdx?_eq_none_iff] at h
  intro hn
  have := h n hn
  simp at this
theorem idxOf_push {L : List Ndv} {n : Ndv} (h : L.idxOf? n = none) (m : Ndv) : (L ++ [n]).idxOf? m = if m = n then some L.length else L.idxOf? m := by
  unfold List.idxOf?
  rw [List.findIdx?_append]
  by_cases e : m = n
  · subst e
    unfold List.idxOf? at h
    rw [h, if_pos rfl]
    simp [List.findIdx?_cons]
  · rw [if_neg e]
    have : (n == m) = false := by simp [Ne.symm e]
    simp [List.findIdx?_cons, this]

/-- the forest's own cells -/
def Fo (w : World) (fb : Nat) (G : Nat → Prop) (st : Int) (L : List Ndv) : Prop :=
  ∃ A c mb, Blk w fb 146 #[.int .i64 st, .slice A L.length c, .map (some mb)] ∧ w.ownsRow 0 155 9 (.slice A L.length c) L.length (L.flatMap nodC) ∧
    MapOf Tryz.prog w 155 mb nodV (fun x => .int .i32 x) (numF st L) ∧ G fb ∧ G mb ∧ (∀ g, (Value.slice A L.length c).ownBlock = some g → G g ∧ g ≠ fb) ∧ (∀ b, G b → b < w.heap.size) ∧
    2 ≤ st ∧ st ≤ 8 ∧ (∀ n ∈ L, Nd8 n) ∧ st + (L.length : Int) ≤ 2147483647
section
variable {w w' : World} {fb : Nat} {G H H' : Nat → Prop} {st : Int} {L : List Ndv}
theorem Fo.keep (h : Fo w fb G st L) (hf : Fr H w H' w') (hd : ∀ b, G b → ¬ H b) : Fo w' fb G st L := by
  obtain ⟨A, c, mb, h1, h2, h3, h4, h5, h6, h7, h8⟩ := h
  exact ⟨A, c, mb, hf.blk h1 (hd _ h4), hf.row h2 (fun g hg => hd _ (h6 g hg).1), hf.map h3 (hd _ h5), h4, h5, h6, fun b hb => Nat.lt_of_lt_of_le (h7 b hb) hf.size, h8⟩
theorem Fo.below (h : Fo w fb G st L) (hb : Below w.heap.size w w') : Fo w' fb G st L := h.keep (Fr.of_below (G := fun _ => False) hb) (fun _ _ h => h)
theorem Fo.more (h : Fo w fb G st L) (h1 : ∀ b, G b → H b) (h2 : ∀ b, H b → b < w.heap.size) : Fo w fb H st L := by
  obtain ⟨A, c, mb, a1, a2, a3, a4, a5, a6, a7, a8⟩ := h
  exact ⟨A, c, mb, a1, a2, a3, h1 _ a4, h1 _ a5, fun g hg => ⟨h1 _ (a6 g hg).1, (a6 g hg).2⟩, h2, a8⟩
end
theorem nodC_len {n : Ndv} (h : R8 n.r) : (nodC n).length = 9 := by simp [nodC, h.1]
theorem flat_at {L : List Ndv} (h : ∀ n ∈ L, Nd8 n) {i : Nat} {n : Ndv} (hi : L[i]? = some n) {j : Nat} (hj : j < 9) : (L.flatMap nodC)[i * 9 + j]? = (nodC n)[j]? := by
  induction L generalizing i with
  | nil => simp at hi
  | cons a L ih =>
    have ha : (nodC a).length = 9 := nodC_len (h a (by simp)).2.2
    rw [List.flatMap_cons]
    cases i with
    | zero =>
      simp at hi
      subst hi
      rw [List.getElem?_append_left (by omega)]
      congr 1; omega
    | succ i =>
      rw [List.getElem?_append_right (by omega), ha, show (i + 1) * 9 + j - 9 = i * 9 + j by omega]
      exact ih (fun n hn => h n (by simp [hn])) (by simpa using hi)
end Go.Proofs.YtjekpmkghpjamaaGreatDoor
