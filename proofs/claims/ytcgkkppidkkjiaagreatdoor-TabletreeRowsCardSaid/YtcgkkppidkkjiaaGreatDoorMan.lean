/- Maps that the call owns, as plain look-up functions. -/
/- What permuted computes, and its bounds. -/
/- Append of one value onto a row of the call's own: the row ahead of it stays a row. -/
import Derived.Test.YtcgkkppidkkjiaaGreatDoorMaa
import Derived.Test.YtcgkkppidkkjiaaGreatDoorMaf
import Derived.Test.YtcgkkppidkkjiaaGreatDoorMaj
import Derived.Test.YtcgkkppidkkjiaaGreatDoorMac
import Derived.Below
import Derived.BigQuiet
import Derived.Deep.AppendLies
import Derived.Deep.CutRange
import Derived.Deep.Draws
import Derived.Deep.QuietTactic
import Derived.DeepKeys4
import Derived.IntWalk
import Derived.Laws.BitsLemmas
import Derived.Laws.OwnMore
import Derived.Laws.Rows
import Derived.Lib.Hide
import Derived.Lib.SliceRun
import Derived.LoopN
import Derived.Maps.OwnOps
import Derived.OwnWalk
import Derived.Shelf.SlLaysF0
import Derived.Sort.Grow
import Derived.Sort.Statements
import Derived.StillTail
import Derived.StillTailTactics
import Derived.Test.YtcgkkppidkkjiaaGreatDoorRows
import Derived.WalkKit
import Derived.Test.YtcgkkppidkkjiaaGreatDoorMal
import Derived.Test.YtcgkkppidkkjiaaGreatDoorMab
import Derived.Test.YtcgkkppidkkjiaaGreatDoorMam
import Derived.Test.YtcgkkppidkkjiaaGreatDoorMai
import Derived.DeepKeys
namespace Go.Proofs.YtcgkkppidkkjiaaGreatDoor
open Go.RowKit
open Go.ChangeMaps (setBlock heap_setBlock_same heap_setBlock_other)
open Go.MapKept (Stamped stamped_push stamped_modify stamped_empty stamped_iff)
open Go.Maps (Keyed)
/-- only blocks of G were turned, or made; those of G' are of G, or new -/
structure Fr (G : Nat → Prop) (w : World) (G' : Nat → Prop) (w' : World) : Prop where
  os : w'.os = w.os
  tape : w'.tape = w.tape
  output : w'.output = w.output
  size : w.heap.size ≤ w'.heap.size
  block : ∀ k, k < w.heap.size → ¬ G k → w'.heap[k]? = w.heap[k]?
  new : ∀ k, G' k → G k ∨ w.heap.size ≤ k
section
variable {G G' G'' : Nat → Prop} {w w' w'' : World}
theorem Fr.refl (G : Nat → Prop) (w : World) : Fr G w G w := ⟨rfl, rfl, rfl, Nat.le_refl _, fun _ _ _ => rfl, fun _ h => .inl h⟩
theorem Fr.trans (h : Fr G w G' w') (k : Fr G' w' G'' w'') : Fr G w G'' w'' :=
  ⟨k.os.trans h.os, k.tape.trans h.tape, k.output.trans h.output, Nat.le_trans h.size k.size,
   fun i hi hG => (k.block i (Nat.lt_of_lt_of_le hi h.size) (fun h' => by rcases h.new i h' with h1 | h1; exact hG h1; omega)).trans (h.block i hi hG),
   fun i hi => by
    rcases k.new i hi with h1 | h1
    · exact h.new i h1
    · exact .inr (Nat.le_trans h.size h1)⟩
theorem Fr.of_below (h : Below w.heap.size w w') : Fr G w G w' := ⟨h.os, h.tape, h.output, h.size, fun k hk _ => h.block k hk, fun _ h => .inl h⟩
/-- the same, seen from fewer names -/
theorem Fr.weak {H H' : Nat → Prop} (h : Fr G w G' w') (h1 : ∀ k, G k → H k) (h2 : ∀ k, H' k → H k ∨ w.heap.size ≤ k) : Fr H w H' w' :=
  ⟨h.os, h.tape, h.output, h.size, fun k hk hH => h.block k hk (fun hG => hH (h1 k hG)), h2⟩
theorem Fr.below (h : Fr G w G' w') {B : Nat} (hG : ∀ k, G k → B ≤ k) (hB : B ≤ w.heap.size) : Below B w w' :=
  ⟨h.os, h.tape, h.output, h.size, fun k hk => h.block k (by omega) (fun hk' => by have := hG k hk'; omega)⟩
theorem Fr.blk (h : Fr G w G' w') {g : Nat} {t : TypeId} {cs : Array Value} (k : Blk w g t cs) (hg : ¬ G g) : Blk w' g t cs := (h.block g k.lt hg).trans k
theorem Fr.row (h : Fr G w G' w') {base k : Nat} {e : TypeId} {v : Value} {n : Nat} {xs : List Value} (hr : w.ownsRow base e k v n xs) (hv : ∀ g, v.ownBlock = some g → ¬ G g) : w'.ownsRow base e k v n xs := by
  refine ⟨hr.1, ?_⟩
  rcases hr.2 with hn | ⟨g, cap, cur, rfl, hb', hg, rest⟩
  · exact .inl hn
  · refine .inr ⟨g, cap, cur, rfl, hb', ?_, rest⟩
    rw [h.block g (Array.getElem?_eq_some_iff.1 hg).1 (hv g rfl)]; exact hg
theorem Fr.alloc (G : Nat → Prop) (w : World) (o : Obj) : Fr G w G (w.alloc o) := Fr.of_below ((Below.refl _ _).alloc (Nat.le_refl _) o)
theorem Fr.set_ (w : World) {p : Addr} (u : Value) (hp : G p.block) : Fr G w G (w.setCell p u) :=
  ⟨rfl, rfl, rfl, by simp [World.setCell], fun k _ hk => Below.heap_setCell w p u k (fun e => hk (e ▸ hp)), fun _ h => .inl h⟩
end
/-- Block b is a map that holds just what A says, keys and elements laid by ek and ev. -/
def MapOf (P : Program) (w : World) (k : TypeId) (b : Nat) {α β : Type} (ek : α → Value) (ev : β → Value) (A : α → Option β) : Prop :=
  ∃ es clock, w.heap[b]? = some (.map es clock) ∧ Stamped es clock ∧ (∀ e ∈ es.toList, ∃ l, keyOf P k e.key = some l) ∧
    (∀ x v, A x = some v → ∃ e ∈ es.toList, e.key = ek x ∧ e.val = ev v) ∧ (∀ e ∈ es.toList, ∃ x v, e.key = ek x ∧ e.val = ev v ∧ A x = some v)
section
variable {P : Program} {w w' : World} {k t e : TypeId} {b : Nat} {α β : Type} {ek : α → Value} {ev : β → Value} {A : α → Option β}
theorem MapOf.lt (h : MapOf P w k b ek ev A) : b < w.heap.size := by
  obtain ⟨es, clock, hb, _⟩ := h
  exact (Array.getElem?_eq_some_iff.1 hb).1
theorem MapOf.of_block (h : MapOf P w k b ek ev A) (hb : w'.heap[b]? = w.heap[b]?) : MapOf P w' k b ek ev A := by
  obtain ⟨es, clock, h1, h2⟩ := h
  exact ⟨es, clock, hb.trans h1, h2⟩
theorem MapOf.new (P : Program) (w : World) (k : TypeId) (ek : α → Value) (ev : β → Value) : MapOf P (w.alloc (.map #[] 0)) k w.heap.size ek ev (fun _ => none) :=
  ⟨#[], 0, (MapKept.heap_alloc w _).1, stamped_empty 0, by simp, by simp, by simp⟩
theorem MapOf.look [DecidableEq α] (h : MapOf P w k b ek ev A) (c : Bool) (K : Keyed P k) (ht : P.underlying t = some (.map k e)) {z : Value} (hz : (zeroValue e).run P w = .ok z w) {x : α} {kl : Lit} (hkey : keyOf P k (ek x) = some kl)
    (hinj : ∀ y v, A y = some v → ek y = ek x → y = x) :
    (Instr.lookup t (.map (some b)) (ek x) c).run P w = .ok (match A x with | some v => (if c then .tuple #[ev v, .bool true] else ev v) | none => (if c then .tuple #[z, .bool false] else z)) w := by
  obtain ⟨es, clock, hb, hs, hk, h4, h5⟩ := h
  rcases K.find w hkey es.toList hk with ⟨h1, h2⟩ | ⟨j, e0, h1, h2, h3⟩
  · have hA : A x = none := by
      cases hA : A x with
      | none => rfl
      | some v =>
        obtain ⟨e1, he1, hk1, _⟩ := h4 x v hA
        exact absurd hk1 (h2 e1 he1)
    rw [hA]
    simp [Instr.lookup, run_underlying ht, MapKept.run_getObj_map hb, K.check w _ hkey, h1, hz, Result.andThen]
  · have hm0 : e0 ∈ es.toList := List.mem_of_getElem? h2
    obtain ⟨y, v, hy1, hy2, hy3⟩ := h5 e0 hm0
    have hyx := hinj y v hy3 (hy1.symm.trans h3)
    subst hyx
    rw [hy3]
    simp [Instr.lookup, run_underlying ht, MapKept.run_getObj_map hb, K.check w _ hkey, h1, Result.andThen, hy2]
theorem MapOf.store [DecidableEq α] (h : MapOf P w k b ek ev A) (K : Keyed P k) (ht : P.underlying t = some (.map k e)) {x : α} (v : β) {kl : Lit} (hkey : keyOf P k (ek x) = some kl)
    (hinj : ∀ y u, A y = some u → ek y = ek x → y = x) :
    ∃ w', (Instr.mapUpdate t (.map (some b)) (ek x) (ev v)).run P w = .ok () w' ∧ MapOf P w' k b ek ev (fun y => if y = x then some v else A y) ∧ w'.heap.size = w.heap.size ∧ Fr (fun i => i = b) w (fun i => i = b) w' := by
  obtain ⟨es, clock, hb, hs, hk, h4, h5⟩ := h
  rcases K.find w hkey es.toList hk with ⟨h1, h2⟩ | ⟨j, e0, h1, h2, h3⟩
  · refine ⟨setBlock w b (.map (es.push ⟨ek x, ev v, clock⟩) (clock + 1)), ?_, ⟨_, _, heap_setBlock_same hb _, stamped_push hs h2, ?_, ?_, ?_⟩, by simp [setBlock], ⟨rfl, rfl, rfl, by simp [setBlock], fun i _ hi => heap_setBlock_other hb _ hi, fun _ h => .inl h⟩⟩
    · simp [Instr.mapUpdate, run_underlying ht, MapKept.run_getObj_map hb, K.check w false hkey, h1, MapKept.run_setObj_map _ hb, Result.andThen, setBlock]
    · intro e' he'
      simp only [Array.toList_push, List.mem_append, List.mem_singleton] at he'
      rcases he' with he' | rfl
      · exact hk e' he'
      · exact ⟨kl, hkey⟩
    · intro y u hy
      simp only [Array.toList_push, List.mem_append, List.mem_singleton]
      by_cases e1 : y = x
      · simp only [if_pos e1] at hy
        injection hy with hy
        subst hy e1
        exact ⟨_, .inr rfl, rfl, rfl⟩
      · simp only [if_neg e1] at hy
        obtain ⟨e', he', q⟩ := h4 y u hy
        exact ⟨e', .inl he', q⟩
    · intro e' he'
      simp only [Array.toList_push, List.mem_append, List.mem_singleton] at he'
      rcases he' with he' | rfl
      · obtain ⟨y, u, q1, q2, q3⟩ := h5 e' he'
        refine ⟨y, u, q1, q2, ?_⟩
        have : y ≠ x := fun e1 => h2 e' he' (by rw [q1, e1])
        simp only [if_neg this]
        exact q3
      · exact ⟨x, v, rfl, rfl, by simp⟩
  · have hj : es[j]? = some e0 := by simpa using h2
    have hjl : j < es.toList.length := (List.getElem?_eq_some_iff.1 h2).1
    have hkeyf : ∀ e', es[j]? = some e' → ({ e' with key := ek x, val := ev v } : MapEntry).key = e'.key := fun e' he' => by rw [hj] at he'; cases he'; exact h3.symm
    have hlist : (es.modify j (fun e' => { e' with key := ek x, val := ev v })).toList = es.toList.set j { e0 with key := ek x, val := ev v } := by rw [Array.toList_modify, ChangeMaps.modify_eq_set _ _ _ _ h2]
    have hpw : es.toList.Pairwise (fun x y => x.key ≠ y.key) := ((stamped_iff es clock).1 hs).2.2
    have who : ∀ e' ∈ es.toList.set j { e0 with key := ek x, val := ev v }, e' = { e0 with key := ek x, val := ev v } ∨ (e' ∈ es.toList ∧ e'.key ≠ ek x) := by
      intro e' he'
      obtain ⟨i, hi, ex⟩ := List.getElem_of_mem he'
      rw [List.getElem_set] at ex
      split at ex
      · exact Or.inl ex.symm
      · rename_i hne
        have hi' : i < es.toList.length := by simpa using hi
        refine Or.inr ⟨ex ▸ List.getElem_mem hi', ?_⟩
        rw [← h3, ← ex]
        have g0 : es.toList[j] = e0 := by have := List.getElem?_eq_getElem hjl; rw [h2] at this; exact (Option.some.inj this).symm
        rw [show e0.key = es.toList[j].key by rw [g0]]
        rcases Nat.lt_or_gt_of_ne hne with hlt | hlt
        · exact fun q => (List.pairwise_iff_getElem.1 hpw j i hjl hi' hlt) q.symm
        · exact List.pairwise_iff_getElem.1 hpw i j hi' hjl hlt
    refine ⟨setBlock w b (.map (es.modify j (fun e' => { e' with key := ek x, val := ev v })) clock), ?_, ⟨_, _, heap_setBlock_same hb _, stamped_modify hs _ _ (fun _ _ => rfl) (fun e' _ he' => hkeyf e' he'), ?_, ?_, ?_⟩, by simp [setBlock], ⟨rfl, rfl, rfl, by simp [setBlock], fun i _ hi => heap_setBlock_other hb _ hi, fun _ h => .inl h⟩⟩
    · simp [Instr.mapUpdate, run_underlying ht, MapKept.run_getObj_map hb, K.check w false hkey, h1, hj, h3, K.stays w hkey, MapKept.run_setObj_map _ hb, Result.andThen, setBlock]
    · intro e' he'
      rw [hlist] at he'
      rcases who e' he' with rfl | ⟨q, _⟩
      · exact ⟨kl, hkey⟩
      · exact hk e' q
    · intro y u hy
      rw [hlist]
      by_cases e1 : y = x
      · simp only [if_pos e1] at hy
        injection hy with hy
        subst hy e1
        exact ⟨_, List.mem_iff_getElem.2 ⟨j, by simpa using hjl, by simp; rfl⟩, rfl, rfl⟩
      · simp only [if_neg e1] at hy
        obtain ⟨e', he', q1, q2⟩ := h4 y u hy
        refine ⟨e', ?_, q1, q2⟩
        obtain ⟨i, hi, ex⟩ := List.getElem_of_mem he'
        have hne : j ≠ i := by
          intro e2
          subst e2
          rw [List.getElem?_eq_getElem hi, ex] at h2
          injection h2 with h2
          subst h2
          exact e1 (hinj y u hy (q1.symm.trans h3))
        exact List.mem_iff_getElem.2 ⟨i, by simpa using hi, by rw [List.getElem_set_ne hne]; exact ex⟩
    · intro e' he'
      rw [hlist] at he'
      rcases who e' he' with rfl | ⟨q, q'⟩
      · exact ⟨x, v, rfl, rfl, by simp⟩
      · obtain ⟨y, u, q1, q2, q3⟩ := h5 e' q
        refine ⟨y, u, q1, q2, ?_⟩
        have : y ≠ x := fun e1 => q' (by rw [q1, e1])
        simp only [if_neg this]
        exact q3
end
end Go.Proofs.YtcgkkppidkkjiaaGreatDoor
namespace Go.Proofs.YtcgkkppidkkjiaaGreatDoor
open Go.RowKit
theorem Below.alloc' {w0 w : World} (h : Below w0.heap.size w0 w) (o : Obj) : Below w0.heap.size w0 (w.alloc o) := h.alloc h.size o
theorem Below.drew' {B : Nat} {w0 w : World} (h : Below B w0 w) : Below B w0 w.drew := h.drew
/-- the tally of the first j states -/
def cl8 (li : List Int) (j : Nat) : List Int := [cnt li 0 j, cnt li 1 j, cnt li 2 j, cnt li 3 j, cnt li 4 j, cnt li 5 j, cnt li 6 j, cnt li 7 j]
theorem cl8_at (li : List Int) (j s : Nat) (hs : s < 8) : ig (cl8 li j) s = cnt li (s : Int) j := by
  match s, hs with
  | 0, _ | 1, _ | 2, _ | 3, _ | 4, _ | 5, _ | 6, _ | 7, _ => rfl
theorem cl8_set (li : List Int) (j s : Nat) (hs : s < 8) (h : ig li j = (s : Int)) : (cl8 li j).set s (cnt li (s : Int) j + 1) = cl8 li (j + 1) := by
  match s, hs with
  | 0, _ | 1, _ | 2, _ | 3, _ | 4, _ | 5, _ | 6, _ | 7, _ => simp [cl8, cnt, h]
theorem cl8_tk (li : List Int) (j : Nat) (hj : j ≤ 200) : Tk (cl8 li j) := ⟨rfl, fun i hi => by
  rw [cl8_at li j i hi]
  have := cnt_bd li (i : Int) j
  omega⟩
/-- what is left behind element j -/
def ps (v : Nat → List Int) (l : List Int) (o ce sc : Int) (r : List (List Int)) (j : Nat) : List (List Int) :=
  if ig l j = o ∨ ix l (ig l j) < (j : Int) then r else wo (cnt l (ig l j) l.length) r (ch v l (ig l j) ce sc) r.length
def pf (v : Nat → List Int) (l : List Int) (o ce sc : Int) (a : List Int) : Nat → List (List Int)
  | 0 => [a]
  | j + 1 => ps v l o ce sc (pf v l o ce sc a j) j
/-- a state of the new state's choices serves -/
def pg (v : Nat → List Int) (l : List Int) (o ce sc : Int) (r : List (List Int)) (k : Nat) : Bool := decide (wo (cnt l o l.length) r [ig (ch v l o ce sc) k] r.length ≠ [])
def pm (v : Nat → List Int) (l : List Int) (o ce sc : Int) (a : List Int) : Int × Bool :=
  if pf v l o ce sc a l.length = [] then (0, false)
  else if 0 ≤ fx (pg v l o ce sc (pf v l o ce sc a l.length)) (ch v l o ce sc).length then (ig (ch v l o ce sc) (fx (pg v l o ce sc (pf v l o ce sc a l.length)) (ch v l o ce sc).length).toNat, true)
  else (0, false)
theorem ps_nil (v : Nat → List Int) (l : List Int) (o ce sc : Int) (j : Nat) : ps v l o ce sc [] j = [] := by
  unfold ps
  split <;> rfl
theorem pf_nil {v : Nat → List Int} {l : List Int} {o ce sc : Int} {a : List Int} {j k : Nat} (hjk : j ≤ k) (h : pf v l o ce sc a j = []) : pf v l o ce sc a k = [] := by
  induction k with
  | zero => rw [show j = 0 by omega] at h; exact h
  | succ k ih =>
    by_cases e : j = k + 1
    · rw [← e]; exact h
    · rw [pf, ih (by omega)]; exact ps_nil ..
/-- the variables' states -/
def Vd (v : Nat → List Int) (nv : Nat) (st : Int) : Prop := ∀ k, k < nv → (v k).length ≤ 8 ∧ ∀ x, x ∈ v k → 0 ≤ x ∧ x < st
theorem ups_ge {l : List Int} (h : ups l = true) (h0 : ∀ i, i < l.length → 0 ≤ ig l i) (i : Nat) (hi : i < l.length) : (i : Int) ≤ ig l i := by
  induction i with
  | zero => exact h0 0 hi
  | succ i ih =>
    have h1 := ih (by omega)
    have h2 := (ups_iff l).1 h (i + 1) hi (by omega)
    rw [show i + 1 - 1 = i by omega] at h2
    omega
theorem vd_of {v : Nat → List Int} {nv : Nat} {st : Int} (hs : st ≤ 8) (h : ∀ k, k < nv → vv st (v k) = true) : Vd v nv st := by
  intro k hk
  have := h k hk
  simp only [vv, Bool.and_eq_true, als_iff] at this
  obtain ⟨⟨_, h1⟩, h2⟩ := this
  refine ⟨?_, fun x hx => ?_⟩
  · rcases Nat.lt_or_ge 8 (v k).length with h3 | h3
    · have := ups_ge h2 (fun i hi => (h1 i hi).1) 8 h3
      have := h1 8 h3
      omega
    · exact h3
  · obtain ⟨j, hj, rfl⟩ := mem_ig hx
    exact h1 j hj
section
variable {v : Nat → List Int} {nv : Nat} {st : Int}
theorem ch0_bd (hv : Vd v nv st) (hs : st ≤ 8) {e : Int} (h1 : -(nv : Int) ≤ e) (h2 : e < st) : (ch0 v e).length ≤ 8 ∧ ∀ x, x ∈ ch0 v e → 0 ≤ x ∧ x < st := by
  unfold ch0
  split
  · exact hv _ (by omega)
  · exact ⟨by simp, fun x hx => by rw [List.mem_singleton] at hx; omega⟩
theorem ch_bd (hv : Vd v nv st) (hs : st ≤ 8) (l : List Int) (ce sc : Int) {e : Int} (h1 : -(nv : Int) ≤ e) (h2 : e < st) : (ch v l e ce sc).length ≤ 8 ∧ ∀ x, x ∈ ch v l e ce sc → 0 ≤ x ∧ x < st := by
  have hb := ch0_bd hv hs h1 h2
  unfold ch
  split
  · exact hb
  · split
    · split
      · rename_i hm
        exact ⟨by simp, fun x hx => by rw [List.mem_singleton] at hx; rw [hx]; exact hb.2 _ hm⟩
      · exact ⟨by simp, fun x hx => by cases hx⟩
    · exact hb
theorem ch_ig (hv : Vd v nv st) (hs : st ≤ 8) (l : List Int) (ce sc : Int) {e : Int} (h1 : -(nv : Int) ≤ e) (h2 : e < st) (k : Nat) (hk : k < (ch v l e ce sc).length) : 0 ≤ ig (ch v l e ce sc) k ∧ ig (ch v l e ce sc) k < 8 := by
  have := (ch_bd hv hs l ce sc h1 h2).2 _ (ig_mem hk)
  omega
theorem pf_len (hv : Vd v nv st) (hs : st ≤ 8) (l : List Int) (o ce sc : Int) (a : List Int) (he : ∀ i, i < l.length → -(nv : Int) ≤ ig l i ∧ ig l i < st) (j : Nat) (hj : j ≤ l.length) : (pf v l o ce sc a j).length ≤ 8 ^ j := by
  induction j with
  | zero => simp [pf]
  | succ j ih =>
    have h1 := ih (by omega)
    have h2 := he j (by omega)
    have h3 := (ch_bd hv hs l ce sc h2.1 h2.2).1
    rw [pf, ps]
    split
    · rw [Nat.pow_succ]; omega
    · have h4 := wo_len (cnt l (ig l j) l.length) (pf v l o ce sc a j) (ch v l (ig l j) ce sc) (pf v l o ce sc a j).length
      have h5 : (pf v l o ce sc a j).length * (ch v l (ig l j) ce sc).length ≤ 8 ^ j * 8 := Nat.mul_le_mul h1 h3
      rw [Nat.pow_succ]
      omega
theorem pf_tk (hv : Vd v nv st) (hs : st ≤ 8) (l : List Int) (o ce sc : Int) {a : List Int} (ha : Tk a) (he : ∀ i, i < l.length → -(nv : Int) ≤ ig l i ∧ ig l i < st) (j : Nat) (hj : j ≤ l.length) : ∀ y, y ∈ pf v l o ce sc a j → Tk y := by
  induction j with
  | zero => intro y hy; rw [pf, List.mem_singleton] at hy; rw [hy]; exact ha
  | succ j ih =>
    have h1 := ih (by omega)
    have h2 := he j (by omega)
    rw [pf, ps]
    split
    · exact h1
    · refine wo_tk h1 (cnt_bd ..).1 (fun k hk => ?_) _ (Nat.le_refl _)
      have := ch_ig hv hs l ce sc h2.1 h2.2 k hk
      omega
end
theorem pm_nil {v : Nat → List Int} {l : List Int} {o ce sc : Int} {a : List Int} {j : Nat} (hj : j ≤ l.length) (h : pf v l o ce sc a j = []) : pm v l o ce sc a = (0, false) := by
  rw [pm, if_pos (pf_nil hj h)]
theorem pm_some {v : Nat → List Int} {l : List Int} {o ce sc : Int} {a : List Int} {r : List (List Int)} {k : Nat} (hr : r = pf v l o ce sc a l.length) (h0 : r ≠ []) (hk : k < (ch v l o ce sc).length) (hb : ∀ i, i < k → pg v l o ce sc r i = false) (h : pg v l o ce sc r k = true) : pm v l o ce sc a = (ig (ch v l o ce sc) k, true) := by
  rw [pm, ← hr, if_neg h0, fx_some hk hb h, if_pos (by omega)]
  rfl
theorem pm_none {v : Nat → List Int} {l : List Int} {o ce sc : Int} {a : List Int} {r : List (List Int)} (hr : r = pf v l o ce sc a l.length) (h0 : r ≠ []) (hb : ∀ i, i < (ch v l o ce sc).length → pg v l o ce sc r i = false) : pm v l o ce sc a = (0, false) := by
  rw [pm, ← hr, if_neg h0, fx_none hb]
  rfl
theorem pow_bd {n j : Nat} (h : n ≤ 8 ^ j) (hj : j ≤ 9) : n ≤ 134217728 := by
  have := Nat.pow_le_pow_right (n := 8) (by decide) hj
  omega
theorem pow_bd8 {n j : Nat} (h : n ≤ 8 ^ j) (hj : j ≤ 8) : n ≤ 16777216 := by
  have := Nat.pow_le_pow_right (n := 8) (by decide) hj
  omega
end Go.Proofs.YtcgkkppidkkjiaaGreatDoor
namespace Go.Proofs.YtcgkkppidkkjiaaGreatDoor
open Go.RowKit

/-- append of one value, and what the row ahead of it is behind it -/
theorem run_append_kept {P : Program} (w : World) (t ty : TypeId) (base : Nat) (e : TypeId) (i : TypeInfo) (z : Value) (bytes : Nat) (ht : P.underlying t = some (.slice e)) (hi : P.info? e = some i) (hz : i.zero = some z)
    (hsize : i.size = 1) (hby : i.bytes = bytes) (hzs : z.cells.size = 1)
    (A : Option Addr) (n c : Nat) (xs : List Value) (hown : w.ownsRow base e 1 (.slice A n c) n xs)
    (ad : Addr) (c2 : Nat) (u : Value) (hu : w.cell? ad = some u) (h1 : u.oneCell' = true)
    (h63 : n + 1 ≤ maxLen) (hbytes : (n + 1) * bytes ≤ 140737488355328) (hbase : base ≤ w.heap.size) :
    ∃ g cap w', (Builtin.append_ #[t, t] ty #[.slice A n c, .slice (some ad) 1 c2]).run P w = .ok (.slice (some ⟨g, 0, none⟩) (n + 1) cap) w' ∧
      w'.ownsRow base e 1 (.slice (some ⟨g, 0, none⟩) (n + 1) cap) (n + 1) (xs ++ [u]) ∧ w.grownBy w' (Value.slice A n c).ownBlock ∧ ((Value.slice A n c).ownBlock = some g ∨ g = w.heap.size) ∧ g < w'.heap.size ∧ w'.ownsRow base e 1 (.slice A n c) n xs := by
  have hcell : ∀ j v, ([u] : List Value)[j]? = some v → w.cell? (ad.add j) = some v := by
    intro j v hj
    match j, hj with
    | 0, hj => simp at hj; subst hj; simpa [Addr.add] using hu
  have hone : ∀ v ∈ ([u] : List Value), v.oneCell' = true := by
    intro v hv; simp at hv; subst hv; exact h1
  obtain ⟨g, cap, w', hr, h2, h3, h4, h5⟩ := run_append_lies (P := P) w t ty base e i z 1 bytes ht hi hz hsize hby hzs (by decide) (.slice A n c) n xs hown ad 1 c2 [u] (by simp) hcell hone (by decide) h63 hbytes hbase w.heap.size rfl
  refine ⟨g, cap, w', hr, h2, h3, h4, h5, ?_⟩
  rcases hown.2 with ⟨hv, hn⟩ | ⟨g0, cap0, cur, hv, hbg, hg, hnc, hcm, hcs, htake⟩
  · rw [hv]
    subst hn
    have hx : xs = [] := List.eq_nil_of_length_eq_zero (by simpa using hown.1)
    subst hx
    exact World.ownsRow_nil _ _ _ _
  · have hlen := hown.1
    injection hv with e1 e2 e3
    subst e1 e3
    by_cases hroom : n + 1 ≤ c
    · have hr2 := run_append_room (P := P) w t ty e i ht hi g0 n c cur hg ad 1 c2 [u] (by simp [hsize]) hcell hone hroom (by rw [hsize]; simp; omega)
      rw [hr] at hr2
      injection hr2 with _ hw
      subst hw
      refine ⟨hlen, .inr ⟨g0, c, _, rfl, hbg, setRow_heap w g0 cur _ e _ hg, hnc, hcm, ?_, ?_⟩⟩
      · simp only [List.size_toArray, List.length_append, List.length_take, List.length_drop, Array.length_toList, List.length_cons, List.length_nil, hsize]
        omega
      · rw [hsize, htake, ← hlen, List.append_assoc]
        exact List.take_left
    · have holds : ∀ j v, xs[j]? = some v → w.cell? ((⟨g0, 0, none⟩ : Addr).add j) = some v := hown.cells (g := g0) rfl
      have hb2 : Builtin.nextslicecap (n + 1) c * i.bytes ≤ 281474976710656 := by
        have := nextslicecap_le (need := n + 1) (old := c) (by omega)
        rw [hby]
        calc Builtin.nextslicecap (n + 1) c * bytes ≤ 2 * (n + 1) * bytes := Nat.mul_le_mul_right _ this
          _ = 2 * ((n + 1) * bytes) := by rw [Nat.mul_assoc]
          _ ≤ 281474976710656 := by omega
      have hr2 := run_append_grow (P := P) w t ty e i z ht hi hz ⟨g0, 0, none⟩ n c xs (by rw [hsize]; exact hlen) holds ad 1 c2 [u] (by simp [hsize]) hcell (by omega) (by unfold maxLen at h63; omega) hb2
      rw [hr] at hr2
      injection hr2 with _ hw
      subst hw
      refine ⟨hlen, .inr ⟨g0, c, cur, rfl, hbg, ?_, hnc, hcm, hcs, htake⟩⟩
      exact (Below.heap_alloc w.drew _ g0 (Array.getElem?_eq_some_iff.1 hg).1).trans hg
/-- at a step of a region that draws -/
theorem step_append_kept {P : Program} {w : World} {ops : Array Oper} {o : Oper} {a : Act} {K : Act → World → Prop} {Q : Exit → Act → World → Prop} {E : Prop} (hgd : o.guard = none) (s x : Operand) (t : TypeId)
    (ho : o.op = .call { callee := .builtin .append, args := #[s, x], argTypes := #[t, t] })
    (base : Nat) (e : TypeId) (i : TypeInfo) (z : Value) (bytes : Nat) (ht : P.underlying t = some (.slice e)) (hi : P.info? e = some i) (hz : i.zero = some z)
    (hsize : i.size = 1) (hby : i.bytes = bytes) (hzs : z.cells.size = 1)
    (A : Option Addr) (n c : Nat) (xs : List Value) (hs : a.eval s = .slice A n c) (hown : w.ownsRow base e 1 (.slice A n c) n xs)
    (ad : Addr) (c2 : Nat) (u : Value) (hx : a.eval x = .slice (some ad) 1 c2) (hu : w.cell? ad = some u) (h1 : u.oneCell' = true)
    (h63 : n + 1 ≤ maxLen) (hbytes : (n + 1) * bytes ≤ 140737488355328) (hbase : base ≤ w.heap.size)
    (h : ∀ g cap w', w'.ownsRow base e 1 (.slice (some ⟨g, 0, none⟩) (n + 1) cap) (n + 1) (xs ++ [u]) → w.grownBy w' (Value.slice A n c).ownBlock → ((Value.slice A n c).ownBlock = some g ∨ g = w.heap.size) → g < w'.heap.size → w'.ownsRow base e 1 (.slice A n c) n xs → K (a.put o.dst (.slice (some ⟨g, 0, none⟩) (n + 1) cap)) w') :
    if Region.wanted o (yielded ops a.tmps) = true then Oper.wp P o a w K Q else E := by
  have hw : Region.wanted o (yielded ops a.tmps) = true := by simp [Region.wanted, hgd]
  rw [if_pos hw]
  obtain ⟨g, cap, w', hr, h2, h3, h4, h5, h6⟩ := run_append_kept (P := P) w t o.type base e i z bytes ht hi hz hsize hby hzs A n c xs hown ad c2 u hu h1 h63 hbytes hbase
  unfold Oper.wp execOp
  simp only [ho, resolve, invoke, builtin, Sem.run_bind, Sem.run_pure, Result.andThen_ok, List.map_toArray, List.map_cons, List.map_nil, hs, hx, hr]
  exact h g cap w' h2 h3 h4 h5 h6
/-- the block of a row -/
def ob (A : Option Addr) (b : Nat) : Prop := (Value.slice A 0 0).ownBlock = some b
/-- two rows in one block have one capacity -/
theorem own_cap {w : World} {base base' n n' c c' k : Nat} {e e' : TypeId} {A A' : Option Addr} {xs ys : List Value} (h : w.ownsRow base e 1 (.slice A n c) n xs) (h' : w.ownsRow base' e' 1 (.slice A' n' c') n' ys) (ha : ob A k) (ha' : ob A' k) : c = c' := by
  rcases h.2 with ⟨hv, _⟩ | ⟨g, cap, cur, hv, _, hg, _, _, hs, _⟩
  · injection hv with e1; subst e1; cases ha
  · rcases h'.2 with ⟨hv', _⟩ | ⟨g', cap', cur', hv', _, hg', _, _, hs', _⟩
    · injection hv' with e1; subst e1; cases ha'
    · injection hv with e1 _ e3
      injection hv' with e1' _ e3'
      subst e1 e1' e3 e3'
      have q1 : g = k := by simpa [ob, Value.ownBlock] using ha
      have q2 : g' = k := by simpa [ob, Value.ownBlock] using ha'
      subst q1 q2
      rw [hg] at hg'
      injection hg' with hg'
      injection hg' with q
      subst q
      omega
/-- the shorter row in the block of a longer one -/
theorem own_take2 {w : World} {base g : Nat} {e : TypeId} {n c k : Nat} {xs : List Value} (h : w.ownsRow base e 1 (.slice (some ⟨g, 0, none⟩) n c) n xs) (hk : k ≤ n) : w.ownsRow base e 1 (.slice (some ⟨g, 0, none⟩) k c) k (xs.take k) := by
  rcases h.2 with ⟨hv, _⟩ | ⟨g', cap', cur, hv, hbg, hg, hnc, hcm, hcs, htake⟩
  · cases hv
  · injection hv with e1 _ e3
    injection e1 with e1
    injection e1 with e1
    subst e1 e3
    refine ⟨by rw [List.length_take, h.1]; omega, .inr ⟨g, c, cur, rfl, hbg, hg, by omega, hcm, hcs, ?_⟩⟩
    rw [← htake, List.take_take]
    congr 1
    omega
/-- a row behind what turned its block as a longer row, or another block -/
theorem own_back {w w' : World} {base n c c1 : Nat} {e : TypeId} {A A1 : Option Addr} {xs : List Value} {u : Value} (h : w.ownsRow base e 1 (.slice A n c) n xs) (h1 : w.ownsRow base e 1 (.slice A1 (n + 1) c1) (n + 1) (xs ++ [u])) (hf : Fr (ob A1) w (ob A1) w') (h2 : w'.ownsRow base e 1 (.slice A1 (n + 1) c1) (n + 1) (xs ++ [u])) : w'.ownsRow base e 1 (.slice A n c) n xs := by
  by_cases hq : ∃ k, ob A k ∧ ob A1 k
  · obtain ⟨k, q1, q2⟩ := hq
    have hc := own_cap h h1 q1 q2
    subst hc
    have hlen := h.1
    rcases h.2 with ⟨hv, _⟩ | ⟨g, cap, cur, hv, _⟩
    · injection hv with e1; subst e1; cases q1
    · injection hv with e1 _ e3
      subst e1 e3
      rcases h1.2 with ⟨hv', _⟩ | ⟨g', cap', cur', hv', _⟩
      · injection hv' with e1; subst e1; cases q2
      · injection hv' with e1' _ e3'
        subst e1' e3'
        have r1 : g = k := by simpa [ob, Value.ownBlock] using q1
        have r2 : g' = k := by simpa [ob, Value.ownBlock] using q2
        subst r1 r2
        have := own_take2 h2 (show n ≤ n + 1 by omega)
        rwa [show (xs ++ [u]).take n = xs by rw [show n = xs.length by omega]; exact List.take_left] at this
  · refine hf.row h (fun g hg hG => hq ⟨g, ?_, hG⟩)
    cases A with
    | none => cases hg
    | some ad => exact hg
end Go.Proofs.YtcgkkppidkkjiaaGreatDoor
