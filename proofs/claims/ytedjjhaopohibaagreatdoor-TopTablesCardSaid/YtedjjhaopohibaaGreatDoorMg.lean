/- Rows that the call owns: appends, and a list of nodes that grows beside a struct that holds it. -/
/- A list of nodes that grows in a struct. -/
/- Maps that the call owns, as plain look-up functions. -/
/- The walk of inputs: how many inputs a table has. -/
/- The bodies of the library's generic functions on lists of numbers lie in this program as the library's own contracts ask: facts that the kernel compares, and nothing else. -/
import Derived.Test.YtedjjhaopohibaaGreatDoorMc
import Derived.Test.YtedjjhaopohibaaGreatDoorMd
import Derived.Test.YtedjjhaopohibaaGreatDoorMb
import Derived.Deep.AppendLies
import Derived.Maps.OwnOps
import Derived.DeepKeys4
import Derived.Test.YtedjjhaopohibaaGreatDoorMa
import Derived.Shelf.SlIterI.Sorted
import Derived.Shelf.Spec.SlicesInsert
import Derived.Shelf.Slices.Delete
namespace Go.Proofs.YtedjjhaopohibaaGreatDoor
open Go.RowKit

theorem Tryz.info_node : (Tryz.prog.info? 81).map (fun i => (i.zero, i.size, i.bytes)) = some (some (.agg #[.int .i64 0, .slice none 0 0]), 2, 32) := by kernel_rfl
/-- append of one value onto a row of the call's own, and where the new row lies -/
theorem wpList_append1L {P : Program} {w : World} {ops : Array Oper} {rest : List Oper} {o : Oper} {a : Act} {Q : Exit → Act → World → Prop} (hgd : o.guard = none) (s x : Operand) (t : TypeId)
    (ho : o.op = .call { callee := .builtin .append, args := #[s, x], argTypes := #[t, t] })
    (base : Nat) (e : TypeId) (i : TypeInfo) (z : Value) (bytes : Nat) (ht : P.underlying t = some (.slice e)) (hi : P.info? e = some i) (hz : i.zero = some z)
    (hsize : i.size = 1) (hby : i.bytes = bytes) (hzs : z.cells.size = 1)
    (A : Option Addr) (n c : Nat) (xs : List Value) (hs : a.eval s = .slice A n c) (hown : w.ownsRow base e 1 (.slice A n c) n xs) (u : Value)
    (hx : a.eval x = .slice (some ⟨w.heap.size, 0, none⟩) 1 1) (h1 : u.oneCell' = true) (h63 : n + 1 ≤ maxLen) (hbytes : (n + 1) * bytes ≤ 140737488355328) (hbase : base ≤ w.heap.size)
    (h : ∀ g' c' w', w'.ownsRow base e 1 (.slice (some ⟨g', 0, none⟩) (n + 1) c') (n + 1) (xs ++ [u]) → Below base w w' → (w.alloc (.cells #[u] e)).grownBy w' (Value.slice A n c).ownBlock → ((Value.slice A n c).ownBlock = some g' ∨ g' = w.heap.size + 1) → wpList P ops Q rest (a.put o.dst (.slice (some ⟨g', 0, none⟩) (n + 1) c')) w') :
    wpList P ops Q (o :: rest) a (w.alloc (.cells #[u] e)) := by
  refine wpList_append_lies _ hgd s x t ho base e i z 1 bytes ht hi hz hsize hby hzs (by decide) _ n xs hs (hown.alloc _) ⟨w.heap.size, 0, none⟩ 1 1 [u] hx rfl ?_ ?_ (by decide) h63 hbytes (by simp; omega) (w.heap.size + 1) (by simp) ?_
  · intro j v hj
    match j, hj with
    | 0, hj => simp at hj; subst hj; simp [Addr.add]
  · intro v hv; simp at hv; subst hv; exact h1
  · intro g' c' w' hown' hg hat _
    refine h g' c' w' hown' (Below.grown ((Below.refl base w).alloc hbase _) hg (by simp; omega) ?_) hg hat
    intro k hk
    exact (hown.lt k hk).1
/-- append of one struct of two cells onto a row of the call's own, and where the new row lies -/
theorem wpList_append2L {P : Program} {w : World} {ops : Array Oper} {rest : List Oper} {o : Oper} {a : Act} {Q : Exit → Act → World → Prop} (hgd : o.guard = none) (s x : Operand) (t : TypeId)
    (ho : o.op = .call { callee := .builtin .append, args := #[s, x], argTypes := #[t, t] })
    (base : Nat) (e : TypeId) (i : TypeInfo) (z : Value) (bytes : Nat) (ht : P.underlying t = some (.slice e)) (hi : P.info? e = some i) (hz : i.zero = some z)
    (hsize : i.size = 2) (hby : i.bytes = bytes) (hzs : z.cells.size = 2)
    (A : Option Addr) (n c : Nat) (xs : List Value) (hs : a.eval s = .slice A n c) (hown : w.ownsRow base e 2 (.slice A n c) n xs) (u v : Value)
    (hx : a.eval x = .slice (some ⟨w.heap.size, 0, none⟩) 1 1) (h1 : u.oneCell' = true) (h2 : v.oneCell' = true) (h63 : n + 1 ≤ maxLen) (hbytes : (n + 1) * bytes ≤ 140737488355328) (hbase : base ≤ w.heap.size)
    (h : ∀ g' c' w', w'.ownsRow base e 2 (.slice (some ⟨g', 0, none⟩) (n + 1) c') (n + 1) (xs ++ [u, v]) → Below base w w' → (w.alloc (.cells #[u, v] e)).grownBy w' (Value.slice A n c).ownBlock → ((Value.slice A n c).ownBlock = some g' ∨ g' = w.heap.size + 1) → wpList P ops Q rest (a.put o.dst (.slice (some ⟨g', 0, none⟩) (n + 1) c')) w') :
    wpList P ops Q (o :: rest) a (w.alloc (.cells #[u, v] e)) := by
  refine wpList_append_lies _ hgd s x t ho base e i z 2 bytes ht hi hz hsize hby hzs (by decide) _ n xs hs (hown.alloc _) ⟨w.heap.size, 0, none⟩ 1 1 [u, v] hx rfl ?_ ?_ (by decide) h63 hbytes (by simp; omega) (w.heap.size + 1) (by simp) ?_
  · intro j y hj
    match j, hj with
    | 0, hj => simp at hj; subst hj; simp [Addr.add]
    | 1, hj => simp at hj; subst hj; simp [Addr.add]
  · intro y hy; simp at hy; rcases hy with rfl | rfl <;> assumption
  · intro g' c' w' hown' hg hat _
    refine h g' c' w' hown' (Below.grown ((Below.refl base w).alloc hbase _) hg (by simp; omega) ?_) hg hat
    intro k hk
    exact (hown.lt k hk).1
/-- what the call owns stays owned behind a store elsewhere -/
theorem own_set {w : World} {base k : Nat} {e : TypeId} {v : Value} {n : Nat} {xs : List Value} {p : Addr} (h : w.ownsRow base e k v n xs) (hp : v.ownBlock ≠ some p.block) (u : Value) : (w.setCell p u).ownsRow base e k v n xs := by
  refine ⟨h.1, ?_⟩
  rcases h.2 with hn | ⟨g, cap, cur, rfl, hb', hg, rest⟩
  · exact .inl hn
  · refine .inr ⟨g, cap, cur, rfl, hb', ?_, rest⟩
    have hne : g ≠ p.block := fun e => hp (by rw [e]; rfl)
    rw [Below.heap_setCell w p u g hne]; exact hg
/-- the cells xs are j nodes, whose elements lie in blocks other than G -/
def Inn (w : World) (G : Nat → Prop) (xs : List Value) (j : Nat) (lv : Nat → Int) (nx : Nat → List Int) : Prop :=
  ∀ k, k < j → ∃ A' c', xs[k * 2]? = some (.int .i64 (lv k)) ∧ xs[k * 2 + 1]? = some (.slice A' (nx k).length c') ∧ Reads w w.heap.size A' (nx k).length (il (nx k)) ∧ (0 < (nx k).length → ∀ ad, A' = some ad → ¬ G ad.block)
section
variable {w w' : World} {G G' : Nat → Prop} {xs : List Value} {j : Nat} {lv : Nat → Int} {nx : Nat → List Int}
theorem Inn.below (h : Inn w G xs j lv nx) (hb : Below w.heap.size w w') : Inn w' G xs j lv nx := fun k hk => by
  obtain ⟨A', c', h1, h2, h3, h4⟩ := h k hk
  exact ⟨A', c', h1, h2, h3.later hb, h4⟩
/-- behind what turns blocks of G alone -/
theorem Inn.far (h : Inn w G xs j lv nx) (hs : w.heap.size ≤ w'.heap.size) (hb : ∀ b, b < w.heap.size → ¬ G b → w'.heap[b]? = w.heap[b]?) (hG : ∀ b, b < w.heap.size → G' b → G b) : Inn w' G' xs j lv nx := fun k hk => by
  obtain ⟨A', c', h1, h2, h3, h4⟩ := h k hk
  refine ⟨A', c', h1, h2, ⟨h3.1, fun hn => ?_⟩, ?_⟩
  · obtain ⟨ad, e, hlt, hc⟩ := h3.2 hn
    refine ⟨ad, e, Nat.lt_of_lt_of_le hlt hs, fun i u hu => ?_⟩
    rw [← hc i u hu]
    exact World.cell?_of_block (by rw [block_of_add]; exact hb _ hlt (h4 hn ad e))
  · intro hn ad e hg
    obtain ⟨ad', e', hlt, _⟩ := h3.2 hn
    rw [e] at e'
    injection e' with e'
    subst e'
    exact h4 hn ad e (hG _ hlt hg)
theorem Inn.push (h : Inn w G xs j lv nx) (hl : xs.length = j * 2) {A : Option Addr} {c : Nat} (hr : Reads w w.heap.size A (nx j).length (il (nx j))) (hA : 0 < (nx j).length → ∀ ad, A = some ad → ¬ G ad.block) : Inn w G (xs ++ [.int .i64 (lv j), .slice A (nx j).length c]) (j + 1) lv nx := fun k hk => by
  by_cases e : k < j
  · obtain ⟨A', c', h1, h2, h3, h4⟩ := h k e
    exact ⟨A', c', by rw [List.getElem?_append_left (by omega)]; exact h1, by rw [List.getElem?_append_left (by omega)]; exact h2, h3, h4⟩
  · obtain rfl : k = j := by omega
    exact ⟨A, c, by rw [List.getElem?_append_right (by omega), hl]; simp, by rw [List.getElem?_append_right (by omega), hl]; simp, hr, hA⟩
theorem NR.of_own {base g c : Nat} {e : TypeId} (h : w.ownsRow base e 2 (.slice (some ⟨g, 0, none⟩) j c) j xs) (hi : Inn w G xs j lv nx) : NR w w.heap.size (some ⟨g, 0, none⟩) j lv nx := fun hj => by
  refine ⟨g, 0, rfl, (h.lt g rfl).2, fun k hk => ?_⟩
  have hl := h.1
  obtain ⟨A', c', h1, h2, h3, _⟩ := hi k hk
  refine ⟨A', c', ?_, ?_, h3⟩
  · rw [Nat.zero_add, h.cellAt (k * 2) (by omega), h1]
  · rw [Nat.zero_add, h.cellAt (k * 2 + 1) (by omega), h2]
end
end Go.Proofs.YtedjjhaopohibaaGreatDoor
namespace Go.Proofs.YtedjjhaopohibaaGreatDoor
open Go.RowKit

theorem Blk.three6 {w : World} {g : Nat} {t : TypeId} {a b c : Value} (h : Blk w g t #[a, b, c]) : w.cell? ⟨g, 0, none⟩ = some a ∧ w.cell? ⟨g, 1, none⟩ = some b ∧ w.cell? ⟨g, 2, none⟩ = some c ∧ w.frozen? ⟨g, 0, none⟩ = false ∧ w.frozen? ⟨g, 1, none⟩ = false ∧ w.frozen? ⟨g, 2, none⟩ = false ∧ g < w.heap.size :=
  ⟨by rw [h.cell]; rfl, by rw [h.cell]; rfl, by rw [h.cell]; rfl, h.frozen 0, h.frozen 1, h.frozen 2, h.lt⟩
/-- the cells of a make of states -/
def zs (S : Nat) : Array Value := (il (List.replicate S 0)).toArray
theorem mk_zs {S : Nat} (h1 : 2 ≤ S) (h2 : S ≤ 8) (w : World) : (Instr.makeSlice 27 (.int .i64 (S : Int)) (.int .i64 (S : Int))).run Tryz.prog w = .ok (.slice (some ⟨w.heap.size, 0, none⟩) S S) (w.alloc (.cells (zs S) 3)) := by
  obtain rfl | rfl | rfl | rfl | rfl | rfl | rfl : S = 2 ∨ S = 3 ∨ S = 4 ∨ S = 5 ∨ S = 6 ∨ S = 7 ∨ S = 8 := by omega
  all_goals kernel_rfl
theorem three_blks (w : World) (c1 c2 c3 : Array Value) (t1 t2 t3 : TypeId) :
    Blk (((w.alloc (.cells c1 t1)).alloc (.cells c2 t2)).alloc (.cells c3 t3)) w.heap.size t1 c1 ∧ Blk (((w.alloc (.cells c1 t1)).alloc (.cells c2 t2)).alloc (.cells c3 t3)) (w.heap.size + 1) t2 c2 ∧ Blk (((w.alloc (.cells c1 t1)).alloc (.cells c2 t2)).alloc (.cells c3 t3)) (w.heap.size + 1 + 1) t3 c3 ∧ Below w.heap.size w (((w.alloc (.cells c1 t1)).alloc (.cells c2 t2)).alloc (.cells c3 t3)) := by
  have k2 := Blk.new (w.alloc (.cells c1 t1)) t2 c2
  have k3 := Blk.new ((w.alloc (.cells c1 t1)).alloc (.cells c2 t2)) t3 c3
  simp only [World.size_alloc] at k2 k3
  exact ⟨((Blk.new w t1 c1).alloc _).alloc _, k2.alloc _, k3, (((Below.refl _ _).alloc (Nat.le_refl _) _).alloc (by simp) _).alloc (by simp; omega) _⟩
theorem il_take_succ {l : List Int} {s : Nat} (h : s < l.length) : il (l.take s) ++ [.int .i64 (ig l s)] = il (l.take (s + 1)) := by
  rw [← il_add, List.take_succ_eq_append_getElem h]
  simp [ig, h]
end Go.Proofs.YtedjjhaopohibaaGreatDoor
namespace Go.Proofs.YtedjjhaopohibaaGreatDoor
open Go.RowKit
open Go.ChangeMaps (setBlock heap_setBlock_same heap_setBlock_other)
open Go.MapKept (Stamped stamped_push stamped_modify stamped_empty stamped_iff)
open Go.Maps (Keyed)

/-- only blocks of G were turned, or made; those of G' are of G, or new -/
structure Fr (G : Nat → Prop) (w : World) (G' : Nat → Prop) (w' : World) : Prop where
  os : w'.os = w.os
  tape : w'.tape = w.tape
  output : w'.output = w.output
  size : w.heap.size ≤ w'.heap.size
  block : ∀ k, k < w.heap.size → ¬ G k → w'.heap[k]? = w.heap[k]?
  new : ∀ k, G' k → G k ∨ w.heap.size ≤ k
section
variable {G G' G'' : Nat → Prop} {w w' w'' : World}
theorem Fr.refl (G : Nat → Prop) (w : World) : Fr G w G w := ⟨rfl, rfl, rfl, Nat.le_refl _, fun _ _ _ => rfl, fun _ h => .inl h⟩
theorem Fr.trans (h : Fr G w G' w') (k : Fr G' w' G'' w'') : Fr G w G'' w'' :=
  ⟨k.os.trans h.os, k.tape.trans h.tape, k.output.trans h.output, Nat.le_trans h.size k.size,
   fun i hi hG => (k.block i (Nat.lt_of_lt_of_le hi h.size) (fun h' => by rcases h.new i h' with h1 | h1; exact hG h1; omega)).trans (h.block i hi hG),
   fun i hi => by
    rcases k.new i hi with h1 | h1
    · exact h.new i h1
    · exact .inr (Nat.le_trans h.size h1)⟩
theorem Fr.of_below (h : Below w.heap.size w w') : Fr G w G w' := ⟨h.os, h.tape, h.output, h.size, fun k hk _ => h.block k hk, fun _ h => .inl h⟩
/-- the same, seen from fewer names -/
theorem Fr.weak {H H' : Nat → Prop} (h : Fr G w G' w') (h1 : ∀ k, G k → H k) (h2 : ∀ k, H' k → H k ∨ w.heap.size ≤ k) : Fr H w H' w' :=
  ⟨h.os, h.tape, h.output, h.size, fun k hk hH => h.block k hk (fun hG => hH (h1 k hG)), h2⟩
theorem Fr.below (h : Fr G w G' w') {B : Nat} (hG : ∀ k, G k → B ≤ k) (hB : B ≤ w.heap.size) : Below B w w' :=
  ⟨h.os, h.tape, h.output, h.size, fun k hk => h.block k (by omega) (fun hk' => by have := hG k hk'; omega)⟩
theorem Fr.blk (h : Fr G w G' w') {g : Nat} {t : TypeId} {cs : Array Value} (k : Blk w g t cs) (hg : ¬ G g) : Blk w' g t cs := (h.block g k.lt hg).trans k
theorem Fr.reads (h : Fr G w G' w') {A : Option Addr} {n : Nat} {xs : List Value} (k : Reads w w.heap.size A n xs) (hA : 0 < n → ∀ ad, A = some ad → ¬ G ad.block) : Reads w' w'.heap.size A n xs :=
  ⟨k.1, fun hn => by
    obtain ⟨ad, e, hb, hc⟩ := k.2 hn
    refine ⟨ad, e, Nat.lt_of_lt_of_le hb h.size, fun j u hu => ?_⟩
    rw [← hc j u hu]
    exact World.cell?_of_block (by rw [block_of_add]; exact h.block _ hb (hA hn ad e))⟩
theorem Fr.row (h : Fr G w G' w') {base k : Nat} {e : TypeId} {v : Value} {n : Nat} {xs : List Value} (hr : w.ownsRow base e k v n xs) (hv : ∀ g, v.ownBlock = some g → ¬ G g) : w'.ownsRow base e k v n xs := by
  refine ⟨hr.1, ?_⟩
  rcases hr.2 with hn | ⟨g, cap, cur, rfl, hb', hg, rest⟩
  · exact .inl hn
  · refine .inr ⟨g, cap, cur, rfl, hb', ?_, rest⟩
    rw [h.block g (Array.getElem?_eq_some_iff.1 hg).1 (hv g rfl)]; exact hg
theorem Fr.alloc (G : Nat → Prop) (w : World) (o : Obj) : Fr G w G (w.alloc o) := Fr.of_below ((Below.refl _ _).alloc (Nat.le_refl _) o)
theorem Fr.set_ (w : World) {p : Addr} (u : Value) (hp : G p.block) : Fr G w G (w.setCell p u) :=
  ⟨rfl, rfl, rfl, by simp [World.setCell], fun k _ hk => Below.heap_setCell w p u k (fun e => hk (e ▸ hp)), fun _ h => .inl h⟩
end

/-- Block b is a map that holds just what A says, keys and elements laid by ek and ev. -/
def MapOf (P : Program) (w : World) (k : TypeId) (b : Nat) {α β : Type} (ek : α → Value) (ev : β → Value) (A : α → Option β) : Prop :=
  ∃ es clock, w.heap[b]? = some (.map es clock) ∧ Stamped es clock ∧ (∀ e ∈ es.toList, ∃ l, keyOf P k e.key = some l) ∧
    (∀ x v, A x = some v → ∃ e ∈ es.toList, e.key = ek x ∧ e.val = ev v) ∧ (∀ e ∈ es.toList, ∃ x v, e.key = ek x ∧ e.val = ev v ∧ A x = some v)
section
variable {P : Program} {w w' : World} {k t e : TypeId} {b : Nat} {α β : Type} {ek : α → Value} {ev : β → Value} {A : α → Option β}
theorem MapOf.lt (h : MapOf P w k b ek ev A) : b < w.heap.size := by
  obtain ⟨es, clock, hb, _⟩ := h
  exact (Array.getElem?_eq_some_iff.1 hb).1
theorem MapOf.of_block (h : MapOf P w k b ek ev A) (hb : w'.heap[b]? = w.heap[b]?) : MapOf P w' k b ek ev A := by
  obtain ⟨es, clock, h1, h2⟩ := h
  exact ⟨es, clock, hb.trans h1, h2⟩
theorem MapOf.new (P : Program) (w : World) (k : TypeId) (ek : α → Value) (ev : β → Value) : MapOf P (w.alloc (.map #[] 0)) k w.heap.size ek ev (fun _ => none) :=
  ⟨#[], 0, (MapKept.heap_alloc w _).1, stamped_empty 0, by simp, by simp, by simp⟩
theorem MapOf.look [DecidableEq α] (h : MapOf P w k b ek ev A) (c : Bool) (K : Keyed P k) (ht : P.underlying t = some (.map k e)) {z : Value} (hz : (zeroValue e).run P w = .ok z w) {x : α} {kl : Lit} (hkey : keyOf P k (ek x) = some kl)
    (hinj : ∀ y v, A y = some v → ek y = ek x → y = x) :
    (Instr.lookup t (.map (some b)) (ek x) c).run P w = .ok (match A x with | some v => (if c then .tuple #[ev v, .bool true] else ev v) | none => (if c then .tuple #[z, .bool false] else z)) w := by
  obtain ⟨es, clock, hb, hs, hk, h4, h5⟩ := h
  rcases K.find w hkey es.toList hk with ⟨h1, h2⟩ | ⟨j, e0, h1, h2, h3⟩
  · have hA : A x = none := by
      cases hA : A x with
      | none => rfl
      | some v =>
        obtain ⟨e1, he1, hk1, _⟩ := h4 x v hA
        exact absurd hk1 (h2 e1 he1)
    rw [hA]
    simp [Instr.lookup, run_underlying ht, MapKept.run_getObj_map hb, K.check w _ hkey, h1, hz, Result.andThen]
  · have hm0 : e0 ∈ es.toList := List.mem_of_getElem? h2
    obtain ⟨y, v, hy1, hy2, hy3⟩ := h5 e0 hm0
    have hyx := hinj y v hy3 (hy1.symm.trans h3)
    subst hyx
    rw [hy3]
    simp [Instr.lookup, run_underlying ht, MapKept.run_getObj_map hb, K.check w _ hkey, h1, Result.andThen, hy2]
theorem MapOf.store [DecidableEq α] (h : MapOf P w k b ek ev A) (K : Keyed P k) (ht : P.underlying t = some (.map k e)) {x : α} (v : β) {kl : Lit} (hkey : keyOf P k (ek x) = some kl)
    (hinj : ∀ y u, A y = some u → ek y = ek x → y = x) :
    ∃ w', (Instr.mapUpdate t (.map (some b)) (ek x) (ev v)).run P w = .ok () w' ∧ MapOf P w' k b ek ev (fun y => if y = x then some v else A y) ∧ w'.heap.size = w.heap.size ∧ Fr (fun i => i = b) w (fun i => i = b) w' := by
  obtain ⟨es, clock, hb, hs, hk, h4, h5⟩ := h
  rcases K.find w hkey es.toList hk with ⟨h1, h2⟩ | ⟨j, e0, h1, h2, h3⟩
  · refine ⟨setBlock w b (.map (es.push ⟨ek x, ev v, clock⟩) (clock + 1)), ?_, ⟨_, _, heap_setBlock_same hb _, stamped_push hs h2, ?_, ?_, ?_⟩, by simp [setBlock], ⟨rfl, rfl, rfl, by simp [setBlock], fun i _ hi => heap_setBlock_other hb _ hi, fun _ h => .inl h⟩⟩
    · simp [Instr.mapUpdate, run_underlying ht, MapKept.run_getObj_map hb, K.check w false hkey, h1, MapKept.run_setObj_map _ hb, Result.andThen, setBlock]
    · intro e' he'
      simp only [Array.toList_push, List.mem_append, List.mem_singleton] at he'
      rcases he' with he' | rfl
      · exact hk e' he'
      · exact ⟨kl, hkey⟩
    · intro y u hy
      simp only [Array.toList_push, List.mem_append, List.mem_singleton]
      by_cases e1 : y = x
      · simp only [if_pos e1] at hy
        injection hy with hy
        subst hy e1
        exact ⟨_, .inr rfl, rfl, rfl⟩
      · simp only [if_neg e1] at hy
        obtain ⟨e', he', q⟩ := h4 y u hy
        exact ⟨e', .inl he', q⟩
    · intro e' he'
      simp only [Array.toList_push, List.mem_append, List.mem_singleton] at he'
      rcases he' with he' | rfl
      · obtain ⟨y, u, q1, q2, q3⟩ := h5 e' he'
        refine ⟨y, u, q1, q2, ?_⟩
        have : y ≠ x := fun e1 => h2 e' he' (by rw [q1, e1])
        simp only [if_neg this]
        exact q3
      · exact ⟨x, v, rfl, rfl, by simp⟩
  · have hj : es[j]? = some e0 := by simpa using h2
    have hjl : j < es.toList.length := (List.getElem?_eq_some_iff.1 h2).1
    have hkeyf : ∀ e', es[j]? = some e' → ({ e' with key := ek x, val := ev v } : MapEntry).key = e'.key := fun e' he' => by rw [hj] at he'; cases he'; exact h3.symm
    have hlist : (es.modify j (fun e' => { e' with key := ek x, val := ev v })).toList = es.toList.set j { e0 with key := ek x, val := ev v } := by rw [Array.toList_modify, ChangeMaps.modify_eq_set _ _ _ _ h2]
    have hpw : es.toList.Pairwise (fun x y => x.key ≠ y.key) := ((stamped_iff es clock).1 hs).2.2
    have who : ∀ e' ∈ es.toList.set j { e0 with key := ek x, val := ev v }, e' = { e0 with key := ek x, val := ev v } ∨ (e' ∈ es.toList ∧ e'.key ≠ ek x) := by
      intro e' he'
      obtain ⟨i, hi, ex⟩ := List.getElem_of_mem he'
      rw [List.getElem_set] at ex
      split at ex
      · exact Or.inl ex.symm
      · rename_i hne
        have hi' : i < es.toList.length := by simpa using hi
        refine Or.inr ⟨ex ▸ List.getElem_mem hi', ?_⟩
        rw [← h3, ← ex]
        have g0 : es.toList[j] = e0 := by have := List.getElem?_eq_getElem hjl; rw [h2] at this; exact (Option.some.inj this).symm
        rw [show e0.key = es.toList[j].key by rw [g0]]
        rcases Nat.lt_or_gt_of_ne hne with hlt | hlt
        · exact fun q => (List.pairwise_iff_getElem.1 hpw j i hjl hi' hlt) q.symm
        · exact List.pairwise_iff_getElem.1 hpw i j hi' hjl hlt
    refine ⟨setBlock w b (.map (es.modify j (fun e' => { e' with key := ek x, val := ev v })) clock), ?_, ⟨_, _, heap_setBlock_same hb _, stamped_modify hs _ _ (fun _ _ => rfl) (fun e' _ he' => hkeyf e' he'), ?_, ?_, ?_⟩, by simp [setBlock], ⟨rfl, rfl, rfl, by simp [setBlock], fun i _ hi => heap_setBlock_other hb _ hi, fun _ h => .inl h⟩⟩
    · simp [Instr.mapUpdate, run_underlying ht, MapKept.run_getObj_map hb, K.check w false hkey, h1, hj, h3, K.stays w hkey, MapKept.run_setObj_map _ hb, Result.andThen, setBlock]
    · intro e' he'
      rw [hlist] at he'
      rcases who e' he' with rfl | ⟨q, _⟩
      · exact ⟨kl, hkey⟩
      · exact hk e' q
    · intro y u hy
      rw [hlist]
      by_cases e1 : y = x
      · simp only [if_pos e1] at hy
        injection hy with hy
        subst hy e1
        exact ⟨_, List.mem_iff_getElem.2 ⟨j, by simpa using hjl, by simp; rfl⟩, rfl, rfl⟩
      · simp only [if_neg e1] at hy
        obtain ⟨e', he', q1, q2⟩ := h4 y u hy
        refine ⟨e', ?_, q1, q2⟩
        obtain ⟨i, hi, ex⟩ := List.getElem_of_mem he'
        have hne : j ≠ i := by
          intro e2
          subst e2
          rw [List.getElem?_eq_getElem hi, ex] at h2
          injection h2 with h2
          subst h2
          exact e1 (hinj y u hy (q1.symm.trans h3))
        exact List.mem_iff_getElem.2 ⟨i, by simpa using hi, by rw [List.getElem_set_ne hne]; exact ex⟩
    · intro e' he'
      rw [hlist] at he'
      rcases who e' he' with rfl | ⟨q, q'⟩
      · exact ⟨x, v, rfl, rfl, by simp⟩
      · obtain ⟨y, u, q1, q2, q3⟩ := h5 e' q
        refine ⟨y, u, q1, q2, ?_⟩
        have : y ≠ x := fun e1 => q' (by rw [q1, e1])
        simp only [if_neg this]
        exact q3
end

/-- m[k], at the operation -/
theorem wpList_look_of {P : Program} (w : World) {ops : Array Oper} {rest : List Oper} {o : Oper} {a : Act} {Q : Exit → Act → World → Prop} (hg : o.guard = none) (m x : Operand) (t : TypeId) (c : Bool) (hop : o.op = Op.lookup t m x c)
    {v : Value} (mv kv : Value) (hm : a.eval m = mv) (hx : a.eval x = kv) (hrun : (Instr.lookup t mv kv c).run P w = .ok v w) (hK : wpList P ops Q rest (a.put o.dst v) w) : wpList P ops Q (o :: rest) a w := by
  refine wpList_plain hg fun K' hK' => ?_
  unfold Oper.wp
  simp [execOp, hop, hm, hx, hrun, Result.andThen]
  exact hK' _ _ hK
/-- m[k] = v, at the operation -/
theorem wpList_upd_of {P : Program} (w : World) {ops : Array Oper} {rest : List Oper} {o : Oper} {a : Act} {Q : Exit → Act → World → Prop} (hg : o.guard = none) (m x v : Operand) (t : TypeId) (hop : o.op = Op.mapUpdate t m x v)
    {w' : World} (mv kv vv : Value) (hm : a.eval m = mv) (hx : a.eval x = kv) (hv : a.eval v = vv) (hrun : (Instr.mapUpdate t mv kv vv).run P w = .ok () w') (hK : wpList P ops Q rest (a.put o.dst undef) w') : wpList P ops Q (o :: rest) a w := by
  refine wpList_plain hg fun K' hK' => ?_
  unfold Oper.wp
  simp [execOp, hop, hm, hx, hv, hrun, Result.andThen]
  exact hK' _ _ hK

end Go.Proofs.YtedjjhaopohibaaGreatDoor
namespace Go.Proofs.YtedjjhaopohibaaGreatDoor
open Go.RowKit

theorem pow_step {S j n : Nat} (hS : 2 ≤ S) (hj : j < n) (h : 65536 < S ^ (j + 1)) : 65536 < S ^ n :=
  Nat.lt_of_lt_of_le h (Nat.pow_le_pow_right (by omega) hj)
/-- a table's cells -/
def tb (st sy : Int) (AH : Option Addr) (n cH : Nat) (AV : Option Addr) (nv cV : Nat) (AR : Option Addr) (nr cR : Nat) : Array Value := #[.int .i64 st, .int .i64 sy, .slice AH n cH, .slice AV nv cV, .slice AR nr cR]
set_option maxRecDepth 100000 in
set_option maxHeartbeats 1000000 in
theorem inputs_yes (S : Nat) (sy : Int) (AH : Option Addr) (n cH : Nat) (AV : Option Addr) (nv cV : Nat) (AR : Option Addr) (nr cR : Nat) (w : World) (hS : 2 ≤ S) (hS8 : S ≤ 8) (hn : n ≤ 1000) (hsm : S ^ n ≤ 65536) :
    Calls Tryz.prog 29 #[.agg #[.int .i64 (S : Int), .int .i64 sy, .slice AH n cH, .slice AV nv cV, .slice AR nr cR]] w fun e w' => e = .returned (.tuple #[.int .i64 ((S ^ n : Nat) : Int), .bool true]) ∧ Below w.heap.size w w' := by
  have K0 := Blk.new w 26 #[.int .i64 (S : Int), .int .i64 sy, .slice AH n cH, .slice AV nv cV, .slice AR nr cR]
  have B0 := (Below.refl w.heap.size w).alloc (Nat.le_refl _) (.cells #[.int .i64 (S : Int), .int .i64 sy, .slice AH n cH, .slice AV nv cV, .slice AR nr cR] 26)
  have HS := Lib.hid hsm
  clear hsm
  go_enter Tryz.func29, Tryz.ntmps29
  go_wp2_with fail
  generalize w.alloc (.cells #[.int .i64 (S : Int), .int .i64 sy, .slice AH n cH, .slice AV nv cV, .slice AR nr cR] 26) = w0 at K0 B0 ⊢
  obtain ⟨t0, t1, t2, t3, t4, t5⟩ := K0.five
  have B0 := Lib.hid B0
  clear K0
  go_wp2
  go_loop [4, 8] (fun pv iv => ∃ (j p : Nat), j ≤ n ∧ pv = .int .i64 (p : Int) ∧ iv = .int .i64 (j : Int) ∧ Hid (p = S ^ j)) (fun _ iv => n - (intOf iv).toNat)
  case atStart => exact ⟨0, 1, Nat.zero_le _, rfl, rfl, Lib.hid (by simp)⟩
  case round =>
    obtain ⟨j, p, hj, rfl, rfl, hp⟩ := hrel
    by_cases hlt : j < n
    · have hle : p * S ≤ 65536 := by
        rw [hp.out, ← Nat.pow_succ]
        exact Nat.le_trans (Nat.pow_le_pow_right (by omega) hlt) HS.out
      have HQ := Lib.hid (show p * S = S ^ (j + 1) by rw [hp.out, ← Nat.pow_succ])
      obtain ⟨q, hq⟩ : ∃ q, q = p * S := ⟨_, rfl⟩
      have HQ2 := Lib.hid hq
      have e1 : IntKind.i64.wrap ((p : Int) * (S : Int)) = (q : Int) := by
        rw [show (p : Int) * (S : Int) = (q : Int) by rw [hq]; simp]
        exact IntWalk.i64_in _ ⟨by omega, by omega⟩
      have e2 : decide (65536 < (q : Int)) = false := by rw [decide_eq_false_iff_not]; omega
      clear hle hq
      go_wp2
      go_round
      case rel => exact ⟨j + 1, q, by omega, rfl, by go_num, Lib.hid (by rw [HQ2.out]; exact HQ.out)⟩
      case measure => simp [intOf]; omega
    · obtain rfl : j = n := by omega
      go_wp2
      go_ret2
      exact ⟨by rw [hp.out]; rfl, B0.out⟩
set_option maxRecDepth 100000 in
set_option maxHeartbeats 1000000 in
theorem inputs_no (S : Nat) (sy : Int) (AH : Option Addr) (n cH : Nat) (AV : Option Addr) (nv cV : Nat) (AR : Option Addr) (nr cR : Nat) (w : World) (hS : 2 ≤ S) (hS8 : S ≤ 8) (hn : n ≤ 1000) (hsm : ¬ S ^ n ≤ 65536) :
    Calls Tryz.prog 29 #[.agg #[.int .i64 (S : Int), .int .i64 sy, .slice AH n cH, .slice AV nv cV, .slice AR nr cR]] w fun e w' => e = .returned (.tuple #[.int .i64 0, .bool false]) ∧ Below w.heap.size w w' := by
  have K0 := Blk.new w 26 #[.int .i64 (S : Int), .int .i64 sy, .slice AH n cH, .slice AV nv cV, .slice AR nr cR]
  have B0 := (Below.refl w.heap.size w).alloc (Nat.le_refl _) (.cells #[.int .i64 (S : Int), .int .i64 sy, .slice AH n cH, .slice AV nv cV, .slice AR nr cR] 26)
  have HS := Lib.hid hsm
  clear hsm
  go_enter Tryz.func29, Tryz.ntmps29
  go_wp2_with fail
  generalize w.alloc (.cells #[.int .i64 (S : Int), .int .i64 sy, .slice AH n cH, .slice AV nv cV, .slice AR nr cR] 26) = w0 at K0 B0 ⊢
  obtain ⟨t0, t1, t2, t3, t4, t5⟩ := K0.five
  have B0 := Lib.hid B0
  clear K0
  go_wp2
  go_loop [4, 8] (fun pv iv => ∃ (j p : Nat), j ≤ n ∧ p ≤ 65536 ∧ pv = .int .i64 (p : Int) ∧ iv = .int .i64 (j : Int) ∧ Hid (p = S ^ j)) (fun _ iv => n - (intOf iv).toNat)
  case atStart => exact ⟨0, 1, Nat.zero_le _, by omega, rfl, rfl, Lib.hid (by simp)⟩
  case round =>
    obtain ⟨j, p, hj, hp5, rfl, rfl, hp⟩ := hrel
    by_cases hlt : j < n
    · have HQ := Lib.hid (show p * S = S ^ (j + 1) by rw [hp.out, ← Nat.pow_succ])
      have hle8 : p * S ≤ 524288 := Nat.le_trans (Nat.mul_le_mul_left p hS8) (by omega)
      obtain ⟨q, hq⟩ : ∃ q, q = p * S := ⟨_, rfl⟩
      have HQ2 := Lib.hid hq
      have e1 : IntKind.i64.wrap ((p : Int) * (S : Int)) = (q : Int) := by
        rw [show (p : Int) * (S : Int) = (q : Int) by rw [hq]; simp]
        exact IntWalk.i64_in _ ⟨by omega, by omega⟩
      by_cases hle : q ≤ 65536
      · have e2 : decide (65536 < (q : Int)) = false := by rw [decide_eq_false_iff_not]; omega
        clear hq hle8
        go_wp2
        go_round
        case rel => exact ⟨j + 1, q, by omega, hle, rfl, by go_num, Lib.hid (by rw [HQ2.out]; exact HQ.out)⟩
        case measure => simp [intOf]; omega
      · have e2 : decide (65536 < (q : Int)) = true := by rw [decide_eq_true_iff]; omega
        clear hq hle8
        go_wp2
        go_ret2
        exact ⟨rfl, B0.out⟩
    · obtain rfl : j = n := by omega
      exact absurd (by rw [← hp.out]; exact hp5) HS.out
end Go.Proofs.YtedjjhaopohibaaGreatDoor
namespace Go.Proofs.YtedjjhaopohibaaGreatDoor
open Go.Shelf

def rZ : Go.Shelf.Ren := ⟨fun | 0 => 0 | 1 => 1 | 2 => 2 | 6 => 69 | 8 => 81 | 9 => 72 | 11 => 91 | 12 => 83 | 13 => 84 | 14 => 92 | 15 => 93 | 16 => 94 | 17 => 95 | 18 => 96 | 19 => 97 | 20 => 98 | 21 => 99 | 22 => 100 | 23 => 101 | 24 => 102 | 25 => 105 | 26 => 106 | 27 => 107 | 28 => 108 | 29 => 109 | 30 => 78 | 31 => 119 | 32 => 124 | 33 => 125 | 34 => 126 | 35 => 127 | 36 => 128 | 37 => 129 | 38 => 130 | 39 => 131 | 40 => 132 | 41 => 133 | 42 => 134 | 43 => 135 | 44 => 136 | 45 => 137 | 46 => 138 | 47 => 140 | _ => 0, fun | 0 => 0 | 1 => 1 | 2 => 2 | 3 => 3 | 4 => 4 | 5 => 5 | 6 => 6 | 7 => 7 | 8 => 8 | 9 => 9 | 10 => 10 | 11 => 11 | 12 => 12 | 13 => 13 | 14 => 14 | 15 => 15 | 16 => 16 | 17 => 17 | 18 => 18 | 19 => 19 | 20 => 20 | 21 => 21 | 24 => 27 | 25 => 119 | 26 => 3 | 27 => 120 | 28 => 121 | 32 => 124 | 33 => 55 | 34 => 137 | 35 => 131 | 36 => 132 | 37 => 126 | 38 => 138 | 39 => 139 | 40 => 140 | 41 => 141 | 42 => 142 | 43 => 54 | 44 => 143 | 45 => 48 | 46 => 144 | 47 => 145 | 48 => 146 | 49 => 147 | 50 => 148 | 51 => 150 | 52 => 151 | 53 => 152 | 54 => 153 | 55 => 154 | 56 => 155 | 57 => 161 | 58 => 162 | 59 => 163 | 60 => 167 | 61 => 168 | 62 => 169 | 63 => 170 | 64 => 171 | 65 => 172 | 66 => 173 | 67 => 174 | 68 => 175 | 69 => 176 | 70 => 177 | 71 => 178 | 72 => 179 | 73 => 180 | 74 => 181 | 75 => 182 | _ => 0, fun n => n⟩
theorem layCollect : SlLaysZI.n8 Tryz.prog rZ := {
  mixed := by kernel_rfl
  f8 := ⟨"slices.Collect[int]", by decide, Tryz.func81.trans (congrArg some (by kernel_rfl))⟩
  f11 := ⟨"slices.AppendSeq[[]int,int]", by decide, Tryz.func91.trans (congrArg some (by kernel_rfl))⟩
  t0 := Tryz.underlying0
  a0 := Tryz.isAgg0
  z0 := Tryz.sizeOf0
  v0 := Tryz.zeroValue0
  t24 := Tryz.underlying27
  a24 := Tryz.isAgg27
  z24 := Tryz.sizeOf27
  v24 := Tryz.zeroValue27
  t26 := Tryz.underlying3
  a26 := Tryz.isAgg3
  z26 := Tryz.sizeOf3
  v26 := Tryz.zeroValue3
  t28 := Tryz.underlying121
  a28 := Tryz.isAgg121
  z28 := Tryz.sizeOf121
  v28 := Tryz.zeroValue121
  i26 := by kernel_rfl
}
theorem laySorted : SlLaysZI.n6 Tryz.prog rZ := {
  mixed := by kernel_rfl
  f6 := ⟨"slices.Sorted[int]", by decide, Tryz.func69.trans (congrArg some (by kernel_rfl))⟩
  f8 := ⟨"slices.Collect[int]", by decide, Tryz.func81.trans (congrArg some (by kernel_rfl))⟩
  f11 := ⟨"slices.AppendSeq[[]int,int]", by decide, Tryz.func91.trans (congrArg some (by kernel_rfl))⟩
  t0 := Tryz.underlying0
  a0 := Tryz.isAgg0
  z0 := Tryz.sizeOf0
  v0 := Tryz.zeroValue0
  t24 := Tryz.underlying27
  a24 := Tryz.isAgg27
  z24 := Tryz.sizeOf27
  v24 := Tryz.zeroValue27
  t26 := Tryz.underlying3
  a26 := Tryz.isAgg3
  z26 := Tryz.sizeOf3
  v26 := Tryz.zeroValue3
  t28 := Tryz.underlying121
  a28 := Tryz.isAgg121
  z28 := Tryz.sizeOf121
  v28 := Tryz.zeroValue121
  i26 := by kernel_rfl
}
def r2 : Go.Shelf.Ren := ⟨fun | 0 => 0 | 1 => 1 | 2 => 2 | 15 => 44 | 21 => 73 | 23 => 71 | 27 => 85 | 28 => 86 | 31 => 98 | 35 => 103 | 37 => 78 | 39 => 110 | 40 => 124 | 41 => 125 | 42 => 126 | 43 => 127 | 44 => 128 | 45 => 129 | 46 => 130 | 47 => 131 | 48 => 132 | 49 => 133 | 50 => 134 | 51 => 135 | 52 => 136 | 53 => 137 | 54 => 138 | 55 => 140 | _ => 0, fun | 0 => 0 | 1 => 1 | 2 => 2 | 3 => 3 | 4 => 4 | 5 => 5 | 6 => 6 | 7 => 7 | 8 => 8 | 9 => 9 | 10 => 10 | 11 => 11 | 12 => 12 | 13 => 13 | 14 => 14 | 15 => 15 | 16 => 16 | 17 => 17 | 18 => 18 | 19 => 19 | 20 => 20 | 21 => 21 | 22 => 27 | 23 => 86 | 28 => 125 | 29 => 123 | 33 => 48 | 36 => 133 | 37 => 134 | 40 => 126 | 41 => 54 | 42 => 55 | 45 => 124 | 46 => 167 | 47 => 168 | 48 => 169 | 49 => 170 | 50 => 171 | 51 => 172 | 52 => 173 | 53 => 146 | 54 => 174 | 55 => 175 | 56 => 176 | 57 => 177 | 58 => 178 | 59 => 179 | 60 => 180 | 61 => 181 | 62 => 182 | _ => 0, fun n => n⟩
theorem layDelete : Lays2.n23 Tryz.prog r2 := {
  mixed := by kernel_rfl
  f23 := Tryz.func71.trans (congrArg some (by kernel_rfl))
  t0 := Tryz.underlying0
  a0 := Tryz.isAgg0
  z0 := Tryz.sizeOf0
  v0 := Tryz.zeroValue0
  t3 := Tryz.underlying3
  a3 := Tryz.isAgg3
  z3 := Tryz.sizeOf3
  v3 := Tryz.zeroValue3
  t4 := Tryz.underlying4
  a4 := Tryz.isAgg4
  z4 := Tryz.sizeOf4
  v4 := Tryz.zeroValue4
  t22 := Tryz.underlying27
  a22 := Tryz.isAgg27
  z22 := Tryz.sizeOf27
  v22 := Tryz.zeroValue27
  i3 := by kernel_rfl
}
theorem layInsert : Lays2.n21 Tryz.prog r2 := {
  mixed := by kernel_rfl
  f21 := Tryz.func73.trans (congrArg some (by kernel_rfl))
  f27 := Tryz.func85.trans (congrArg some (by kernel_rfl))
  f28 := Tryz.func86.trans (congrArg some (by kernel_rfl))
  f35 := Tryz.func103.trans (congrArg some (by kernel_rfl))
  f39 := Tryz.func110.trans (congrArg some (by kernel_rfl))
  t0 := Tryz.underlying0
  a0 := Tryz.isAgg0
  z0 := Tryz.sizeOf0
  v0 := Tryz.zeroValue0
  t3 := Tryz.underlying3
  a3 := Tryz.isAgg3
  z3 := Tryz.sizeOf3
  v3 := Tryz.zeroValue3
  t4 := Tryz.underlying4
  a4 := Tryz.isAgg4
  z4 := Tryz.sizeOf4
  v4 := Tryz.zeroValue4
  t22 := Tryz.underlying27
  a22 := Tryz.isAgg27
  z22 := Tryz.sizeOf27
  v22 := Tryz.zeroValue27
  i3 := by kernel_rfl
}
end Go.Proofs.YtedjjhaopohibaaGreatDoor
