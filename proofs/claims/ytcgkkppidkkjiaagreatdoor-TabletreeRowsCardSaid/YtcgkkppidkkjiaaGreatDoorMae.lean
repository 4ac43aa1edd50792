/- Rows that the call owns: appends, and a list of nodes that grows beside a struct that holds it. -/
/- Maps that the call owns, as plain look-up functions. -/
/- Numbers and their digits. -/
/- The walk of Points: the positions of a valid box of at most 5000 positions, row by row. -/
import Derived.Test.YtcgkkppidkkjiaaGreatDoorMad
import Derived.Test.YtcgkkppidkkjiaaGreatDoorMaa
import Derived.Test.YtcgkkppidkkjiaaGreatDoorMab
import Derived.Test.YtcgkkppidkkjiaaGreatDoorMac
import Derived.Below
import Derived.BigQuiet
import Derived.Deep.AppendLies
import Derived.Deep.CutRange
import Derived.Deep.Draws
import Derived.Deep.QuietTactic
import Derived.IntWalk
import Derived.Laws.BitsLemmas
import Derived.Laws.OwnMore
import Derived.Laws.Rows
import Derived.Lib.Hide
import Derived.Lib.SliceRun
import Derived.LoopN
import Derived.OwnWalk
import Derived.Shelf.SlLaysF0
import Derived.Sort.Grow
import Derived.Sort.Statements
import Derived.StillTail
import Derived.StillTailTactics
import Derived.Test.YtcgkkppidkkjiaaGreatDoorRows
import Derived.WalkKit
import Derived.DeepKeys4
import Derived.Maps.OwnOps
namespace Go.Proofs.YtcgkkppidkkjiaaGreatDoor
open Go.RowKit
theorem Tryz.info_node : (Tryz.prog.info? 66).map (fun i => (i.zero, i.size, i.bytes)) = some (some (.agg #[.int .i64 0, .slice none 0 0]), 2, 32) := by kernel_rfl
/-- append of one struct of two cells onto a row of the call's own, and where the new row lies -/
theorem wpList_append2L {P : Program} {w : World} {ops : Array Oper} {rest : List Oper} {o : Oper} {a : Act} {Q : Exit → Act → World → Prop} (hgd : o.guard = none) (s x : Operand) (t : TypeId)
    (ho : o.op = .call { callee := .builtin .append, args := #[s, x], argTypes := #[t, t] })
    (base : Nat) (e : TypeId) (i : TypeInfo) (z : Value) (bytes : Nat) (ht : P.underlying t = some (.slice e)) (hi : P.info? e = some i) (hz : i.zero = some z)
    (hsize : i.size = 2) (hby : i.bytes = bytes) (hzs : z.cells.size = 2)
    (A : Option Addr) (n c : Nat) (xs : List Value) (hs : a.eval s = .slice A n c) (hown : w.ownsRow base e 2 (.slice A n c) n xs) (u v : Value)
    (hx : a.eval x = .slice (some ⟨w.heap.size, 0, none⟩) 1 1) (h1 : u.oneCell' = true) (h2 : v.oneCell' = true) (h63 : n + 1 ≤ maxLen) (hbytes : (n + 1) * bytes ≤ 140737488355328) (hbase : base ≤ w.heap.size)
    (h : ∀ g' c' w', w'.ownsRow base e 2 (.slice (some ⟨g', 0, none⟩) (n + 1) c') (n + 1) (xs ++ [u, v]) → Below base w w' → (w.alloc (.cells #[u, v] e)).grownBy w' (Value.slice A n c).ownBlock → ((Value.slice A n c).ownBlock = some g' ∨ g' = w.heap.size + 1) → wpList P ops Q rest (a.put o.dst (.slice (some ⟨g', 0, none⟩) (n + 1) c')) w') :
    wpList P ops Q (o :: rest) a (w.alloc (.cells #[u, v] e)) := by
  refine wpList_append_lies _ hgd s x t ho base e i z 2 bytes ht hi hz hsize hby hzs (by decide) _ n xs hs (hown.alloc _) ⟨w.heap.size, 0, none⟩ 1 1 [u, v] hx rfl ?_ ?_ (by decide) h63 hbytes (by simp; omega) (w.heap.size + 1) (by simp) ?_
  · intro j y hj
    match j, hj with
    | 0, hj => simp at hj; subst hj; simp [Addr.add]
    | 1, hj => simp at hj; subst hj; simp [Addr.add]
  · intro y hy; simp at hy; rcases hy with rfl | rfl <;> assumption
  · intro g' c' w' hown' hg hat _
    refine h g' c' w' hown' (Below.grown ((Below.refl base w).alloc hbase _) hg (by simp; omega) ?_) hg hat
    intro k hk
    exact (hown.lt k hk).1
/-- what the call owns stays owned behind a store elsewhere -/
theorem own_set {w : World} {base k : Nat} {e : TypeId} {v : Value} {n : Nat} {xs : List Value} {p : Addr} (h : w.ownsRow base e k v n xs) (hp : v.ownBlock ≠ some p.block) (u : Value) : (w.setCell p u).ownsRow base e k v n xs := by
  refine ⟨h.1, ?_⟩
  rcases h.2 with hn | ⟨g, cap, cur, rfl, hb', hg, rest⟩
  · exact .inl hn
  · refine .inr ⟨g, cap, cur, rfl, hb', ?_, rest⟩
    have hne : g ≠ p.block := fun e => hp (by rw [e]; rfl)
    rw [Below.heap_setCell w p u g hne]; exact hg
/-- the cells xs are j nodes, whose elements lie in blocks other than G -/
def Inn (w : World) (G : Nat → Prop) (xs : List Value) (j : Nat) (lv : Nat → Int) (nx : Nat → List Int) : Prop :=
  ∀ k, k < j → ∃ A' c', xs[k * 2]? = some (.int .i64 (lv k)) ∧ xs[k * 2 + 1]? = some (.slice A' (nx k).length c') ∧ Reads w w.heap.size A' (nx k).length (il (nx k)) ∧ (0 < (nx k).length → ∀ ad, A' = some ad → ¬ G ad.block)
section
variable {w w' : World} {G G' : Nat → Prop} {xs : List Value} {j : Nat} {lv : Nat → Int} {nx : Nat → List Int}
theorem Inn.below (h : Inn w G xs j lv nx) (hb : Below w.heap.size w w') : Inn w' G xs j lv nx := fun k hk => by
  obtain ⟨A', c', h1, h2, h3, h4⟩ := h k hk
  exact ⟨A', c', h1, h2, h3.later hb, h4⟩
/-- behind what turns blocks of G alone -/
theorem Inn.far (h : Inn w G xs j lv nx) (hs : w.heap.size ≤ w'.heap.size) (hb : ∀ b, b < w.heap.size → ¬ G b → w'.heap[b]? = w.heap[b]?) (hG : ∀ b, b < w.heap.size → G' b → G b) : Inn w' G' xs j lv nx := fun k hk => by
  obtain ⟨A', c', h1, h2, h3, h4⟩ := h k hk
  refine ⟨A', c', h1, h2, ⟨h3.1, fun hn => ?_⟩, ?_⟩
  · obtain ⟨ad, e, hlt, hc⟩ := h3.2 hn
    refine ⟨ad, e, Nat.lt_of_lt_of_le hlt hs, fun i u hu => ?_⟩
    rw [← hc i u hu]
    exact World.cell?_of_block (by rw [block_of_add]; exact hb _ hlt (h4 hn ad e))
  · intro hn ad e hg
    obtain ⟨ad', e', hlt, _⟩ := h3.2 hn
    rw [e] at e'
    injection e' with e'
    subst e'
    exact h4 hn ad e (hG _ hlt hg)
theorem Inn.push (h : Inn w G xs j lv nx) (hl : xs.length = j * 2) {A : Option Addr} {c : Nat} (hr : Reads w w.heap.size A (nx j).length (il (nx j))) (hA : 0 < (nx j).length → ∀ ad, A = some ad → ¬ G ad.block) : Inn w G (xs ++ [.int .i64 (lv j), .slice A (nx j).length c]) (j + 1) lv nx := fun k hk => by
  by_cases e : k < j
  · obtain ⟨A', c', h1, h2, h3, h4⟩ := h k e
    exact ⟨A', c', by rw [List.getElem?_append_left (by omega)]; exact h1, by rw [List.getElem?_append_left (by omega)]; exact h2, h3, h4⟩
  · obtain rfl : k = j := by omega
    exact ⟨A, c, by rw [List.getElem?_append_right (by omega), hl]; simp, by rw [List.getElem?_append_right (by omega), hl]; simp, hr, hA⟩
theorem NR.of_own {base g c : Nat} {e : TypeId} (h : w.ownsRow base e 2 (.slice (some ⟨g, 0, none⟩) j c) j xs) (hi : Inn w G xs j lv nx) : NR w w.heap.size (some ⟨g, 0, none⟩) j lv nx := fun hj => by
  refine ⟨g, 0, rfl, (h.lt g rfl).2, fun k hk => ?_⟩
  have hl := h.1
  obtain ⟨A', c', h1, h2, h3, _⟩ := hi k hk
  refine ⟨A', c', ?_, ?_, h3⟩
  · rw [Nat.zero_add, h.cellAt (k * 2) (by omega), h1]
  · rw [Nat.zero_add, h.cellAt (k * 2 + 1) (by omega), h2]
end
end Go.Proofs.YtcgkkppidkkjiaaGreatDoor
namespace Go.Proofs.YtcgkkppidkkjiaaGreatDoor
open Go.RowKit
open Go.ChangeMaps (setBlock heap_setBlock_same heap_setBlock_other)
open Go.MapKept (Stamped stamped_push stamped_modify stamped_empty stamped_iff)
open Go.Maps (Keyed)
/-- only blocks of G were turned, or made; those of G' are of G, or new -/
structure Fr (G : Nat → Prop) (w : World) (G' : Nat → Prop) (w' : World) : Prop where
  os : w'.os = w.os
  tape : w'.tape = w.tape
  output : w'.output = w.output
  size : w.heap.size ≤ w'.heap.size
  block : ∀ k, k < w.heap.size → ¬ G k → w'.heap[k]? = w.heap[k]?
  new : ∀ k, G' k → G k ∨ w.heap.size ≤ k
section
variable {G G' G'' : Nat → Prop} {w w' w'' : World}
theorem Fr.refl (G : Nat → Prop) (w : World) : Fr G w G w := ⟨rfl, rfl, rfl, Nat.le_refl _, fun _ _ _ => rfl, fun _ h => .inl h⟩
theorem Fr.trans (h : Fr G w G' w') (k : Fr G' w' G'' w'') : Fr G w G'' w'' :=
  ⟨k.os.trans h.os, k.tape.trans h.tape, k.output.trans h.output, Nat.le_trans h.size k.size,
   fun i hi hG => (k.block i (Nat.lt_of_lt_of_le hi h.size) (fun h' => by rcases h.new i h' with h1 | h1; exact hG h1; omega)).trans (h.block i hi hG),
   fun i hi => by
    rcases k.new i hi with h1 | h1
    · exact h.new i h1
    · exact .inr (Nat.le_trans h.size h1)⟩
theorem Fr.of_below (h : Below w.heap.size w w') : Fr G w G w' := ⟨h.os, h.tape, h.output, h.size, fun k hk _ => h.block k hk, fun _ h => .inl h⟩
/-- the same, seen from fewer names -/
theorem Fr.weak {H H' : Nat → Prop} (h : Fr G w G' w') (h1 : ∀ k, G k → H k) (h2 : ∀ k, H' k → H k ∨ w.heap.size ≤ k) : Fr H w H' w' :=
  ⟨h.os, h.tape, h.output, h.size, fun k hk hH => h.block k hk (fun hG => hH (h1 k hG)), h2⟩
theorem Fr.below (h : Fr G w G' w') {B : Nat} (hG : ∀ k, G k → B ≤ k) (hB : B ≤ w.heap.size) : Below B w w' :=
  ⟨h.os, h.tape, h.output, h.size, fun k hk => h.block k (by omega) (fun hk' => by have := hG k hk'; omega)⟩
theorem Fr.blk (h : Fr G w G' w') {g : Nat} {t : TypeId} {cs : Array Value} (k : Blk w g t cs) (hg : ¬ G g) : Blk w' g t cs := (h.block g k.lt hg).trans k
theorem Fr.row (h : Fr G w G' w') {base k : Nat} {e : TypeId} {v : Value} {n : Nat} {xs : List Value} (hr : w.ownsRow base e k v n xs) (hv : ∀ g, v.ownBlock = some g → ¬ G g) : w'.ownsRow base e k v n xs := by
  refine ⟨hr.1, ?_⟩
  rcases hr.2 with hn | ⟨g, cap, cur, rfl, hb', hg, rest⟩
  · exact .inl hn
  · refine .inr ⟨g, cap, cur, rfl, hb', ?_, rest⟩
    rw [h.block g (Array.getElem?_eq_some_iff.1 hg).1 (hv g rfl)]; exact hg
theorem Fr.alloc (G : Nat → Prop) (w : World) (o : Obj) : Fr G w G (w.alloc o) := Fr.of_below ((Below.refl _ _).alloc (Nat.le_refl _) o)
theorem Fr.set_ (w : World) {p : Addr} (u : Value) (hp : G p.block) : Fr G w G (w.setCell p u) :=
  ⟨rfl, rfl, rfl, by simp [World.setCell], fun k _ hk => Below.heap_setCell w p u k (fun e => hk (e ▸ hp)), fun _ h => .inl h⟩
end
/-- Block b is a map that holds just what A says, keys and elements laid by ek and ev. -/
def MapOf (P : Program) (w : World) (k : TypeId) (b : Nat) {α β : Type} (ek : α → Value) (ev : β → Value) (A : α → Option β) : Prop :=
  ∃ es clock, w.heap[b]? = some (.map es clock) ∧ Stamped es clock ∧ (∀ e ∈ es.toList, ∃ l, keyOf P k e.key = some l) ∧
    (∀ x v, A x = some v → ∃ e ∈ es.toList, e.key = ek x ∧ e.val = ev v) ∧ (∀ e ∈ es.toList, ∃ x v, e.key = ek x ∧ e.val = ev v ∧ A x = some v)
section
variable {P : Program} {w w' : World} {k t e : TypeId} {b : Nat} {α β : Type} {ek : α → Value} {ev : β → Value} {A : α → Option β}
theorem MapOf.lt (h : MapOf P w k b ek ev A) : b < w.heap.size := by
  obtain ⟨es, clock, hb, _⟩ := h
  exact (Array.getElem?_eq_some_iff.1 hb).1
theorem MapOf.of_block (h : MapOf P w k b ek ev A) (hb : w'.heap[b]? = w.heap[b]?) : MapOf P w' k b ek ev A := by
  obtain ⟨es, clock, h1, h2⟩ := h
  exact ⟨es, clock, hb.trans h1, h2⟩
theorem MapOf.new (P : Program) (w : World) (k : TypeId) (ek : α → Value) (ev : β → Value) : MapOf P (w.alloc (.map #[] 0)) k w.heap.size ek ev (fun _ => none) :=
  ⟨#[], 0, (MapKept.heap_alloc w _).1, stamped_empty 0, by simp, by simp, by simp⟩
theorem MapOf.look [DecidableEq α] (h : MapOf P w k b ek ev A) (c : Bool) (K : Keyed P k) (ht : P.underlying t = some (.map k e)) {z : Value} (hz : (zeroValue e).run P w = .ok z w) {x : α} {kl : Lit} (hkey : keyOf P k (ek x) = some kl)
    (hinj : ∀ y v, A y = some v → ek y = ek x → y = x) :
    (Instr.lookup t (.map (some b)) (ek x) c).run P w = .ok (match A x with | some v => (if c then .tuple #[ev v, .bool true] else ev v) | none => (if c then .tuple #[z, .bool false] else z)) w := by
  obtain ⟨es, clock, hb, hs, hk, h4, h5⟩ := h
  rcases K.find w hkey es.toList hk with ⟨h1, h2⟩ | ⟨j, e0, h1, h2, h3⟩
  · have hA : A x = none := by
      cases hA : A x with
      | none => rfl
      | some v =>
        obtain ⟨e1, he1, hk1, _⟩ := h4 x v hA
        exact absurd hk1 (h2 e1 he1)
    rw [hA]
    simp [Instr.lookup, run_underlying ht, MapKept.run_getObj_map hb, K.check w _ hkey, h1, hz, Result.andThen]
  · have hm0 : e0 ∈ es.toList := List.mem_of_getElem? h2
    obtain ⟨y, v, hy1, hy2, hy3⟩ := h5 e0 hm0
    have hyx := hinj y v hy3 (hy1.symm.trans h3)
    subst hyx
    rw [hy3]
    simp [Instr.lookup, run_underlying ht, MapKept.run_getObj_map hb, K.check w _ hkey, h1, Result.andThen, hy2]
theorem MapOf.store [DecidableEq α] (h : MapOf P w k b ek ev A) (K : Keyed P k) (ht : P.underlying t = some (.map k e)) {x : α} (v : β) {kl : Lit} (hkey : keyOf P k (ek x) = some kl)
    (hinj : ∀ y u, A y = some u → ek y = ek x → y = x) :
    ∃ w', (Instr.mapUpdate t (.map (some b)) (ek x) (ev v)).run P w = .ok () w' ∧ MapOf P w' k b ek ev (fun y => if y = x then some v else A y) ∧ w'.heap.size = w.heap.size ∧ Fr (fun i => i = b) w (fun i => i = b) w' := by
  obtain ⟨es, clock, hb, hs, hk, h4, h5⟩ := h
  rcases K.find w hkey es.toList hk with ⟨h1, h2⟩ | ⟨j, e0, h1, h2, h3⟩
  · refine ⟨setBlock w b (.map (es.push ⟨ek x, ev v, clock⟩) (clock + 1)), ?_, ⟨_, _, heap_setBlock_same hb _, stamped_push hs h2, ?_, ?_, ?_⟩, by simp [setBlock], ⟨rfl, rfl, rfl, by simp [setBlock], fun i _ hi => heap_setBlock_other hb _ hi, fun _ h => .inl h⟩⟩
    · simp [Instr.mapUpdate, run_underlying ht, MapKept.run_getObj_map hb, K.check w false hkey, h1, MapKept.run_setObj_map _ hb, Result.andThen, setBlock]
    · intro e' he'
      simp only [Array.toList_push, List.mem_append, List.mem_singleton] at he'
      rcases he' with he' | rfl
      · exact hk e' he'
      · exact ⟨kl, hkey⟩
    · intro y u hy
      simp only [Array.toList_push, List.mem_append, List.mem_singleton]
      by_cases e1 : y = x
      · simp only [if_pos e1] at hy
        injection hy with hy
        subst hy e1
        exact ⟨_, .inr rfl, rfl, rfl⟩
      · simp only [if_neg e1] at hy
        obtain ⟨e', he', q⟩ := h4 y u hy
        exact ⟨e', .inl he', q⟩
    · intro e' he'
      simp only [Array.toList_push, List.mem_append, List.mem_singleton] at he'
      rcases he' with he' | rfl
      · obtain ⟨y, u, q1, q2, q3⟩ := h5 e' he'
        refine ⟨y, u, q1, q2, ?_⟩
        have : y ≠ x := fun e1 => h2 e' he' (by rw [q1, e1])
        simp only [if_neg this]
        exact q3
      · exact ⟨x, v, rfl, rfl, by simp⟩
  · have hj : es[j]? = some e0 := by simpa using h2
    have hjl : j < es.toList.length := (List.getElem?_eq_some_iff.1 h2).1
    have hkeyf : ∀ e', es[j]? = some e' → ({ e' with key := ek x, val := ev v } : MapEntry).key = e'.key := fun e' he' => by rw [hj] at he'; cases he'; exact h3.symm
    have hlist : (es.modify j (fun e' => { e' with key := ek x, val := ev v })).toList = es.toList.set j { e0 with key := ek x, val := ev v } := by rw [Array.toList_modify, ChangeMaps.modify_eq_set _ _ _ _ h2]
    have hpw : es.toList.Pairwise (fun x y => x.key ≠ y.key) := ((stamped_iff es clock).1 hs).2.2
    have who : ∀ e' ∈ es.toList.set j { e0 with key := ek x, val := ev v }, e' = { e0 with key := ek x, val := ev v } ∨ (e' ∈ es.toList ∧ e'.key ≠ ek x) := by
      intro e' he'
      obtain ⟨i, hi, ex⟩ := List.getElem_of_mem he'
      rw [List.getElem_set] at ex
      split at ex
      · exact Or.inl ex.symm
      · rename_i hne
        have hi' : i < es.toList.length := by simpa using hi
        refine Or.inr ⟨ex ▸ List.getElem_mem hi', ?_⟩
        rw [← h3, ← ex]
        have g0 : es.toList[j] = e0 := by have := List.getElem?_eq_getElem hjl; rw [h2] at this; exact (Option.some.inj this).symm
        rw [show e0.key = es.toList[j].key by rw [g0]]
        rcases Nat.lt_or_gt_of_ne hne with hlt | hlt
        · exact fun q => (List.pairwise_iff_getElem.1 hpw j i hjl hi' hlt) q.symm
        · exact List.pairwise_iff_getElem.1 hpw i j hi' hjl hlt
    refine ⟨setBlock w b (.map (es.modify j (fun e' => { e' with key := ek x, val := ev v })) clock), ?_, ⟨_, _, heap_setBlock_same hb _, stamped_modify hs _ _ (fun _ _ => rfl) (fun e' _ he' => hkeyf e' he'), ?_, ?_, ?_⟩, by simp [setBlock], ⟨rfl, rfl, rfl, by simp [setBlock], fun i _ hi => heap_setBlock_other hb _ hi, fun _ h => .inl h⟩⟩
    · simp [Instr.mapUpdate, run_underlying ht, MapKept.run_getObj_map hb, K.check w false hkey, h1, hj, h3, K.stays w hkey, MapKept.run_setObj_map _ hb, Result.andThen, setBlock]
    · intro e' he'
      rw [hlist] at he'
      rcases who e' he' with rfl | ⟨q, _⟩
      · exact ⟨kl, hkey⟩
      · exact hk e' q
    · intro y u hy
      rw [hlist]
      by_cases e1 : y = x
      · simp only [if_pos e1] at hy
        injection hy with hy
        subst hy e1
        exact ⟨_, List.mem_iff_getElem.2 ⟨j, by simpa using hjl, by simp; rfl⟩, rfl, rfl⟩
      · simp only [if_neg e1] at hy
        obtain ⟨e', he', q1, q2⟩ := h4 y u hy
        refine ⟨e', ?_, q1, q2⟩
        obtain ⟨i, hi, ex⟩ := List.getElem_of_mem he'
        have hne : j ≠ i := by
          intro e2
          subst e2
          rw [List.getElem?_eq_getElem hi, ex] at h2
          injection h2 with h2
          subst h2
          exact e1 (hinj y u hy (q1.symm.trans h3))
        exact List.mem_iff_getElem.2 ⟨i, by simpa using hi, by rw [List.getElem_set_ne hne]; exact ex⟩
    · intro e' he'
      rw [hlist] at he'
      rcases who e' he' with rfl | ⟨q, q'⟩
      · exact ⟨x, v, rfl, rfl, by simp⟩
      · obtain ⟨y, u, q1, q2, q3⟩ := h5 e' q
        refine ⟨y, u, q1, q2, ?_⟩
        have : y ≠ x := fun e1 => q' (by rw [q1, e1])
        simp only [if_neg this]
        exact q3
end
end Go.Proofs.YtcgkkppidkkjiaaGreatDoor
namespace Go.Proofs.YtcgkkppidkkjiaaGreatDoor
open Go.RowKit
/-- the number of a list of states -/
def nm (S : Nat) : List Int → Nat
  | [] => 0
  | x :: p => x.toNat * S ^ p.length + nm S p
/-- the last j digits of a number -/
def dg (S : Nat) : Nat → Nat → List Int
  | 0, _ => []
  | j + 1, k => ((k / S ^ j % S : Nat) : Int) :: dg S j k
theorem dg_len (S j k : Nat) : (dg S j k).length = j := by
  induction j with
  | zero => rfl
  | succ j ih => simp [dg, ih]
theorem nm_dg (S j k : Nat) : nm S (dg S j k) = k % S ^ j := by
  induction j with
  | zero => simp [dg, nm, Nat.mod_one]
  | succ j ih =>
    rw [dg, nm, ih, dg_len, Int.toNat_natCast, Nat.pow_succ, Nat.mod_mul, Nat.mul_comm]
    omega
/-- all are states, as a plain statement -/
def Sts (S : Nat) (l : List Int) : Prop := ∀ x ∈ l, 0 ≤ x ∧ x < (S : Int)
theorem sts_als {S : Nat} {l : List Int} : Sts S l ↔ als S l = true := by
  rw [als_iff]
  constructor
  · intro h i hi
    exact h _ (ig_mem hi)
  · intro h x hx
    obtain ⟨i, hi, rfl⟩ := mem_ig hx
    exact h i hi
theorem sts_dg {S : Nat} (hS : 0 < S) (j k : Nat) : Sts S (dg S j k) := by
  induction j with
  | zero => intro x hx; simp [dg] at hx
  | succ j ih =>
    intro x hx
    simp only [dg, List.mem_cons] at hx
    rcases hx with rfl | hx
    · have := Nat.mod_lt (k / S ^ j) hS
      omega
    · exact ih x hx
theorem nm_lt {S : Nat} {l : List Int} (h : Sts S l) : nm S l < S ^ l.length := by
  induction l with
  | nil => simp [nm]
  | cons x p ih =>
    have h1 := h x (by simp)
    have h2 := ih (fun y hy => h y (by simp [hy]))
    have h3 : x.toNat + 1 ≤ S := by omega
    have h4 := Nat.mul_le_mul_right (S ^ p.length) h3
    rw [Nat.add_mul, Nat.one_mul] at h4
    simp only [nm, List.length_cons, Nat.pow_succ]
    rw [Nat.mul_comm (S ^ p.length) S]
    omega
theorem dg_mod {S : Nat} (hS : 0 < S) (j i a k : Nat) (hij : j ≤ i) : dg S j (a * S ^ i + k) = dg S j k := by
  induction j with
  | zero => rfl
  | succ j ih =>
    rw [dg, dg, ih (by omega)]
    congr 2
    have e : a * S ^ i = S ^ j * (S * (a * S ^ (i - (j + 1)))) := by
      have : i = j + 1 + (i - (j + 1)) := by omega
      conv => lhs; rw [this, Nat.pow_add, Nat.pow_succ]
      simp [Nat.mul_comm, Nat.mul_left_comm, Nat.mul_assoc]
    rw [e, Nat.mul_add_div (Nat.pow_pos hS), Nat.mul_add_mod]
theorem dg_nm {S : Nat} (hS : 0 < S) {l : List Int} (h : Sts S l) : dg S l.length (nm S l) = l := by
  induction l with
  | nil => rfl
  | cons x p ih =>
    have h1 := h x (by simp)
    have h2 : Sts S p := fun y hy => h y (by simp [hy])
    have h3 := nm_lt h2
    simp only [List.length_cons, dg, nm]
    rw [dg_mod hS _ _ _ _ (Nat.le_refl _), ih h2, Nat.mul_comm, Nat.mul_add_div (Nat.pow_pos hS), Nat.div_eq_of_lt h3, Nat.add_zero, Nat.mod_eq_of_lt (by omega)]
    congr 1
    omega
theorem nm_app (S : Nat) (l : List Int) (x : Int) : nm S (l ++ [x]) = nm S l * S + x.toNat := by
  induction l with
  | nil => simp [nm]
  | cons y l ih =>
    simp only [List.cons_append, nm, ih, List.length_append, List.length_singleton, Nat.pow_succ, Nat.add_mul, Nat.mul_assoc]
    omega
theorem nm_take {S : Nat} {l : List Int} {j : Nat} (hj : j < l.length) : nm S (l.take (j + 1)) = nm S (l.take j) * S + (ig l j).toNat := by
  have e : ig l j = l[j] := by simp [ig, hj]
  rw [List.take_succ_eq_append_getElem hj, nm_app, e]
end Go.Proofs.YtcgkkppidkkjiaaGreatDoor
namespace Go.Proofs.YtcgkkppidkkjiaaGreatDoor
open Go.RowKit
theorem Tryz.info_point : (Tryz.prog.info? 58).map (fun i => (i.zero, i.size, i.bytes)) = some (some (.agg #[.int .i64 0, .int .i64 0]), 2, 16) := by kernel_rfl

/-- append of one value of two cells within the capacity of a row of the call's own -/
theorem wpList_fit2 {P : Program} {w : World} {ops : Array Oper} {rest : List Oper} {o : Oper} {a : Act} {Q : Exit → Act → World → Prop} (hgd : o.guard = none) (s x : Operand) (t : TypeId)
    (ho : o.op = .call { callee := .builtin .append, args := #[s, x], argTypes := #[t, t] })
    (base : Nat) (e : TypeId) (i : TypeInfo) (ht : P.underlying t = some (.slice e)) (hi : P.info? e = some i) (hsize : i.size = 2)
    (g k cap : Nat) (xs : List Value) (hs : a.eval s = .slice (some ⟨g, 0, none⟩) k cap) (hown : w.ownsRow base e 2 (.slice (some ⟨g, 0, none⟩) k cap) k xs) (u v : Value)
    (hx : a.eval x = .slice (some ⟨w.heap.size, 0, none⟩) 1 1) (h1 : u.oneCell' = true) (h2 : v.oneCell' = true) (hk : k + 1 ≤ cap) (hbase : base ≤ w.heap.size)
    (h : ∀ w', w'.ownsRow base e 2 (.slice (some ⟨g, 0, none⟩) (k + 1) cap) (k + 1) (xs ++ [u, v]) → Below base w w' → wpList P ops Q rest (a.put o.dst (.slice (some ⟨g, 0, none⟩) (k + 1) cap)) w') :
    wpList P ops Q (o :: rest) a (w.alloc (.cells #[u, v] e)) := by
  refine wpList_append_fits _ hgd s x t ho base e i 2 ht hi hsize g k cap xs hs (hown.alloc _) ⟨w.heap.size, 0, none⟩ 1 1 [u, v] hx rfl ?_ ?_ hk ?_
  · intro j z hj
    match j, hj with
    | 0, hj => simp at hj; subst hj; simp [Addr.add]
    | 1, hj => simp at hj; subst hj; simp [Addr.add]
  · intro z hz; simp at hz; rcases hz with rfl | rfl <;> assumption
  · intro w' hown' hg
    exact h w' hown' (Below.grown ((Below.refl base w).alloc hbase _) hg (by simp; omega) (fun k hk => by obtain rfl := Option.some.inj hk; exact (hown.lt g rfl).1))

end Go.Proofs.YtcgkkppidkkjiaaGreatDoor
