/- Maps that the call owns, as plain look-up functions. -/
/- The memory of the walk that makes the nodes of a table's tree. -/
/- The forest: what it holds, and the blocks that it lies in. -/
/- Plain mathematics: what is planted means what the tree means; Turn, back, and Reduce. -/
/- The walk of nodesOf$1: what a visit promises, and its easy ways. -/
import Derived.Test.YtcgkkppidkkjiaaGreatDoorMaa
import Derived.Test.YtcgkkppidkkjiaaGreatDoorMaf
import Derived.Test.YtcgkkppidkkjiaaGreatDoorMan
import Derived.Below
import Derived.BigQuiet
import Derived.Deep.AppendLies
import Derived.Deep.CutRange
import Derived.Deep.Draws
import Derived.Deep.QuietTactic
import Derived.DeepKeys4
import Derived.IntWalk
import Derived.Laws.OwnMore
import Derived.Laws.Rows
import Derived.Lib.Hide
import Derived.LoopN
import Derived.Maps.OwnOps
import Derived.OwnWalk
import Derived.Sort.Statements
import Derived.StillTail
import Derived.StillTailTactics
import Derived.Test.YtcgkkppidkkjiaaGreatDoorRows
import Derived.WalkKit
import Derived.Test.YtcgkkppidkkjiaaGreatDoorMab
import Derived.Test.YtcgkkppidkkjiaaGreatDoorMaj
import Derived.Test.YtcgkkppidkkjiaaGreatDoorMac
import Derived.Test.YtcgkkppidkkjiaaGreatDoorMak
import Derived.Laws.BitsLemmas
import Derived.Lib.SliceRun
import Derived.Shelf.SlLaysF0
import Derived.Sort.Grow
import Derived.Carry
import Derived.Deep.RegionHeldLaw
import Derived.Deep.RegionLaw
import Derived.Laws.MakeOwn
import Derived.Shelf.Abstract
import Derived.StringKeys
namespace Go.Proofs.YtcgkkppidkkjiaaGreatDoor
open Go.RowKit
open Go.ChangeMaps (setBlock heap_setBlock_same heap_setBlock_other)
open Go.MapKept (Stamped stamped_push stamped_modify stamped_empty stamped_iff)
open Go.Maps (Keyed)
section
variable {G G' G'' : Nat → Prop} {w w' w'' : World}
end
section
variable {P : Program} {w w' : World} {k t e : TypeId} {b : Nat} {α β : Type} {ek : α → Value} {ev : β → Value} {A : α → Option β}
end
/-- a node's cells -/
structure Ndv where
  lv : Int
  r : List Int
deriving DecidableEq, Repr
def rowV (r : List Int) : Value := .agg (r.map fun x => .int .i32 x).toArray
def nodC (n : Ndv) : List Value := .int .i64 n.lv :: n.r.map fun x => .int .i32 x
def nodV (n : Ndv) : Value := .agg (nodC n).toArray
theorem map_i32_inj {l m : List Int} (h : (l.map fun x => Value.int .i32 x) = m.map fun x => .int .i32 x) : l = m := by
  induction l generalizing m with
  | nil => cases m with
    | nil => rfl
    | cons b m => simp at h
  | cons a l ih => cases m with
    | nil => simp at h
    | cons b m => simp at h; obtain ⟨h1, h2⟩ := h; rw [h1, ih (by simpa using h2)]
theorem nodV_inj {a b : Ndv} (h : nodV a = nodV b) : a = b := by
  unfold nodV nodC at h
  injection h with h
  have h := congrArg Array.toList h
  simp only at h
  injection h with h1 h2
  injection h1 with _ h1
  have := map_i32_inj h2
  cases a; cases b
  simp_all
theorem i32V_inj {a b : Int} (h : Value.int .i32 a = .int .i32 b) : a = b := by injection h

theorem Tryz.laidOut13 : laidOutB Tryz.prog = true := by kernel_rfl
theorem Tryz.rowNode : (134 : TypeId) < Tryz.prog.types.size := of_decide_eq_true (by kernel_rfl)
theorem Tryz.keyNode : Keyed Tryz.prog 134 := Keyed.of_law (deep_law_laid Tryz.laidOut13 (m := 3) (by omega) Tryz.rowNode (by kernel_rfl) (by rw [Tryz.underlying134]))
theorem Tryz.keyI32 : Keyed Tryz.prog 21 := Maps.int_keyed Tryz.underlying21
/-- a row in range -/
def R8 (r : List Int) : Prop := r.length = 8 ∧ ∀ x ∈ r, -2147483648 ≤ x ∧ x < 2147483648
def Nd8 (n : Ndv) : Prop := -9223372036854775808 ≤ n.lv ∧ n.lv < 9223372036854775808 ∧ R8 n.r
theorem key_i32 {n : Int} (h1 : -2147483648 ≤ n) (h2 : n < 2147483648) : keyOf Tryz.prog 21 (.int .i32 n) = some (.int .i32 n) := Maps.keyOf_int_mk Tryz.underlying21 (WalkArith.wf_i32 ⟨h1, by omega⟩)
theorem Tryz.keyTypeNode : Tryz.prog.keyType 134 = true := by kernel_rfl
theorem Tryz.sizeTypes : ∃ m, Tryz.prog.types.size = m + 2 := ⟨Tryz.prog.types.size - 2, by kernel_rfl⟩
theorem oct {l : List Int} (h : l.length = 8) : ∃ a b c d e f g i, l = [a, b, c, d, e, f, g, i] := by
  match l, h with
  | [a, b, c, d, e, f, g, i], _ => exact ⟨a, b, c, d, e, f, g, i, rfl⟩
theorem cellsNode : Tryz.prog.cellsOf 134 = 9 := by kernel_rfl
theorem cellsRow : Tryz.prog.cellsOf 132 = 8 := by kernel_rfl
theorem cellsI32 : Tryz.prog.cellsOf 21 = 1 := by kernel_rfl
theorem cellsInt : Tryz.prog.cellsOf 3 = 1 := by kernel_rfl
theorem lits_i32 {m : Nat} {a : Int} (h : -2147483648 ≤ a ∧ a < 2147483648) : Tryz.prog.keyLits (m + 1) 21 [.int .i32 a] = some [.int .i32 a] := by
  have w1 := WalkArith.wf_i32 (n := a) ⟨h.1, by omega⟩
  simp [Program.keyLits, Tryz.underlying21, w1]
theorem lits_row {m : Nat} {r : List Int} (h : R8 r) : ∃ l, Tryz.prog.keyLits (m + 2) 132 (r.map fun x => .int .i32 x) = some l := by
  obtain ⟨h3, h4⟩ := h
  obtain ⟨a, b, c, d, e, f, g, i, rfl⟩ := oct h3
  simp only [List.mem_cons, List.not_mem_nil, or_false, forall_eq_or_imp, forall_eq] at h4
  obtain ⟨a1, a2, a3, a4, a5, a6, a7, a8⟩ := h4
  unfold Program.keyLits
  simp only [Tryz.underlying132, cellsRow, cellsI32]
  simp [List.range, List.range.loop, lits_i32 a1, lits_i32 a2, lits_i32 a3, lits_i32 a4, lits_i32 a5, lits_i32 a6, lits_i32 a7, lits_i32 a8]
theorem key_node {n : Ndv} (h : Nd8 n) : ∃ l, keyOf Tryz.prog 134 (nodV n) = some l := by
  obtain ⟨lv, r⟩ := n
  obtain ⟨h1, h2, h3⟩ := h
  simp only at h1 h2 h3
  obtain ⟨m, hm⟩ := Tryz.sizeTypes
  obtain ⟨l, hl⟩ := lits_row (m := m) h3
  have w1 := WalkArith.wf_i64 (n := lv) ⟨h1, by omega⟩
  have hlen : r.length = 8 := h3.1
  unfold keyOf
  simp only [Tryz.underlying134]
  rw [if_pos (by simp [Tryz.keyTypeNode, Value.formed, Tryz.underlying134, cellsNode, nodV, nodC, hlen]), hm]
  unfold Program.keyLits
  have hl2 : List.take 8 (r.map fun x => Value.int .i32 x) = r.map fun x => Value.int .i32 x := List.take_of_length_le (by simp [hlen])
  have hi : Tryz.prog.keyLits (m + 2) 3 [.int .i64 lv] = some [.int .i64 lv] := by simp [Program.keyLits, Tryz.underlying3, w1]
  simp [Tryz.underlying134, cellsNode, cellsRow, cellsInt, nodV, nodC, hlen, Value.cells, hl2, hl, hi]
end Go.Proofs.YtcgkkppidkkjiaaGreatDoor
namespace Go.Proofs.YtcgkkppidkkjiaaGreatDoor
open Go.RowKit
open Go.Maps (Keyed)
theorem Blk.one {w : World} {g : Nat} {t : TypeId} {a : Value} (h : Blk w g t #[a]) : w.cell? ⟨g, 0, none⟩ = some a ∧ w.frozen? ⟨g, 0, none⟩ = false ∧ g < w.heap.size := ⟨by rw [h.cell]; rfl, h.frozen 0, h.lt⟩
theorem Fr.set_new {G G' : Nat → Prop} {w w' : World} (h : Fr G w G' w') {p : Addr} (hp : w.heap.size ≤ p.block) (u : Value) : Fr G w G' (w'.setCell p u) :=
  ⟨h.os, h.tape, h.output, by have := h.size; simpa [World.setCell] using this, fun k hk hG => (Below.heap_setCell w' p u k (by omega)).trans (h.block k hk hG), h.new⟩
theorem Fr.map {P : Program} {G G' : Nat → Prop} {w w' : World} (h : Fr G w G' w') {k : TypeId} {b : Nat} {α β : Type} {ek : α → Value} {ev : β → Value} {A : α → Option β} (m : MapOf P w k b ek ev A) (hb : ¬ G b) : MapOf P w' k b ek ev A := m.of_block (h.block b m.lt hb)
theorem zs_step {ys : List Int} {sn : Nat} (h : ys.length < sn) (y : Int) : ((il (ys ++ List.replicate (sn - ys.length) 0)).toArray).setIfInBounds ys.length (.int .i64 y) = (il ((ys ++ [y]) ++ List.replicate (sn - (ys ++ [y]).length) 0)).toArray := by
  obtain ⟨k, hk⟩ : ∃ k, sn - ys.length = k + 1 := ⟨sn - ys.length - 1, by omega⟩
  have hk2 : sn - (ys ++ [y]).length = k := by simp; omega
  rw [hk, hk2, List.replicate_succ]
  simp [il]
theorem Inn.congr {w : World} {G : Nat → Prop} {xs : List Value} {j : Nat} {lv lv' : Nat → Int} {nx nx' : Nat → List Int} (h : Inn w G xs j lv nx) (h1 : ∀ k, k < j → lv' k = lv k ∧ nx' k = nx k) : Inn w G xs j lv' nx' := fun k hk => by
  obtain ⟨e1, e2⟩ := h1 k hk
  rw [e1, e2]
  exact h k hk
theorem Inn.sub {w : World} {G G' : Nat → Prop} {xs : List Value} {j : Nat} {lv : Nat → Int} {nx : Nat → List Int} (h : Inn w G xs j lv nx) (hG : ∀ k, k < w.heap.size → G' k → G k) : Inn w G' xs j lv nx :=
  h.far (Nat.le_refl _) (fun _ _ _ => rfl) hG
theorem Tryz.keyStr : Keyed Tryz.prog 9 := Maps.string_keyed Tryz.underlying9
/-- the memory of the walk: T holds what it turns, U what its nodes' elements don't lie in -/
structure Wst (S xm xs xv xn mb bs : Nat) (vv : Value) (w : World) (T U : Nat → Prop) (out : List (Int × List Int)) (M : ByteArray → Option Int) : Prop where
  cm : Blk w xm 114 #[.map (some mb)]
  cs : Blk w xs 3 #[.int .i64 (S : Int)]
  cv : Blk w xv 115 #[vv]
  cT : ¬ T xm ∧ ¬ T xs ∧ ¬ T xv
  tU : ∀ k, T k → U k
  uL : ∀ k, U k → k < w.heap.size
  bL : bs ≤ w.heap.size
  map : MapOf Tryz.prog w 9 mb Value.string (fun x => .int .i64 x) M
  tm : T mb
  tn : T xn
  rest : ∃ A c ys, Blk w xn 30 #[.slice A out.length c] ∧ w.ownsRow bs 66 2 (.slice A out.length c) out.length ys ∧
    (∀ g, (Value.slice A out.length c).ownBlock = some g → T g ∧ g ≠ xn ∧ g ≠ mb) ∧ Inn w U ys out.length (lvO out) (nxO out)
section
variable {S xm xs xv xn mb bs : Nat} {vv : Value} {w w' : World} {T U H H' : Nat → Prop} {out : List (Int × List Int)} {M : ByteArray → Option Int}
theorem Wst.wide {U' : Nat → Prop} (h : Wst S xm xs xv xn mb bs vv w T U out M) (h1 : ∀ k, T k → U' k) (h2 : ∀ k, U' k → U k) : Wst S xm xs xv xn mb bs vv w T U' out M := by
  obtain ⟨A, c, ys, a3, a4, a5, a6⟩ := h.rest
  exact ⟨h.cm, h.cs, h.cv, h.cT, h1, fun k hk => h.uL k (h2 k hk), h.bL, h.map, h.tm, h.tn, A, c, ys, a3, a4, a5, a6.sub fun k _ hk => h2 k hk⟩
theorem Wst.here (h : Wst S xm xs xv xn mb bs vv w T U out M) : Wst S xm xs xv xn mb bs vv w T (fun k => U k ∨ T k) out M := h.wide (fun k hk => .inr hk) (fun k hk => hk.elim id (h.tU k))
/-- what turns other blocks, or makes some -/
theorem Wst.keep (h : Wst S xm xs xv xn mb bs vv w T U out M) (hf : Fr H w H' w') (h1 : ∀ k, T k → ¬ H k) (h2 : ¬ H xm ∧ ¬ H xs ∧ ¬ H xv) (h3 : ∀ k, H k → U k) (U' : Nat → Prop) (h4 : ∀ k, U k → U' k) (h5 : ∀ k, U' k → U k ∨ w.heap.size ≤ k) (h6 : ∀ k, U' k → k < w'.heap.size) : Wst S xm xs xv xn mb bs vv w' T U' out M := by
  obtain ⟨A, c, ys, a3, a4, a5, a6⟩ := h.rest
  refine ⟨hf.blk h.cm h2.1, hf.blk h.cs h2.2.1, hf.blk h.cv h2.2.2, h.cT, fun k hk => h4 k (h.tU k hk), h6, Nat.le_trans h.bL hf.size, hf.map h.map (h1 _ h.tm), h.tm, h.tn,
    A, c, ys, hf.blk a3 (h1 _ h.tn), hf.row a4 (fun g hg => h1 g (a5 g hg).1), a5, ?_⟩
  refine (a6.far hf.size (fun k hk hU => hf.block k hk (fun hh => hU (h3 k hh))) (fun k hk hk' => ?_))
  rcases h5 k hk' with h | h
  · exact h
  · omega
theorem Wst.below (h : Wst S xm xs xv xn mb bs vv w T U out M) (hb : Below w.heap.size w w') : Wst S xm xs xv xn mb bs vv w' T U out M :=
  h.keep (Fr.of_below (G := fun _ => False) hb) (fun _ _ h => h) ⟨id, id, id⟩ (fun _ h => h.elim) U (fun _ h => h) (fun _ h => .inl h) (fun k hk => Nat.lt_of_lt_of_le (h.uL k hk) hb.size)
/-- a node is finished -/
theorem Wst.push (h : Wst S xm xs xv xn mb bs vv w T U out M) {U' : Nat → Prop} (h1 : ∀ k, T k → U' k) (h2 : ∀ k, U' k → U k) {l : Int} {X : List Int} {gz : Nat} (hX : Reads w w.heap.size (some ⟨gz, 0, none⟩) X.length (il X)) (hz : ¬ U' gz) (hzl : gz < w.heap.size) {w5 : World} {M' : ByteArray → Option Int}
    (hm5 : MapOf Tryz.prog w5 9 mb Value.string (fun x => .int .i64 x) M') (hf5 : Fr (fun i => i = mb) w (fun i => i = mb) w5) (hs5 : w5.heap.size = w.heap.size)
    {A : Option Addr} {c : Nat} (hA : Blk w xn 30 #[.slice A out.length c]) :
    ∃ ys, w5.ownsRow bs 66 2 (.slice A out.length c) out.length ys ∧ ∀ (o : Obj) (g7 d7 c2 : Nat) (w7 : World), w7.ownsRow bs 66 2 (.slice (some ⟨g7, 0, none⟩) (out.length + 1) d7) (out.length + 1) (ys ++ [.int .i64 l, .slice (some ⟨gz, 0, none⟩) X.length c2]) →
      (w5.alloc o).grownBy w7 (Value.slice A out.length c).ownBlock → ((Value.slice A out.length c).ownBlock = some g7 ∨ g7 = w5.heap.size + 1) → g7 < w7.heap.size →
      ∃ T', Wst S xm xs xv xn mb bs vv (w7.setCell ⟨xn, 0, none⟩ (.slice (some ⟨g7, 0, none⟩) (out.length + 1) d7)) T' (fun k => U' k ∨ T' k) (out ++ [(l, X)]) M' ∧ Fr T w T' (w7.setCell ⟨xn, 0, none⟩ (.slice (some ⟨g7, 0, none⟩) (out.length + 1) d7)) := by
  obtain ⟨A', c', ys, a3, a4, a5, a6⟩ := h.rest
  have e : A' = A ∧ c' = c := by
    have := hA.symm.trans a3
    injection this with this
    injection this with this
    simp at this
    exact ⟨this.1.symm, this.2.symm⟩
  obtain ⟨rfl, rfl⟩ := e
  have hT : ∀ k, T k → k < w.heap.size := fun k hk => h.uL k (h.tU k hk)
  have r5 := hf5.row a4 (fun g hg => (a5 g hg).2.2)
  refine ⟨ys, r5, fun o g7 d7 c2 w7 hown7 hgr7 hat7 hlt7 => ?_⟩
  have hs7 := hgr7.size
  simp only [World.size_alloc] at hs7
  have F1 : Fr T w T w5 := hf5.weak (fun k e => e ▸ h.tm) (fun k h => .inl h)
  have F2 : Fr T w T (w5.alloc o) := F1.trans (Fr.alloc T w5 o)
  have F3 : Fr T w (fun k => T k ∨ k = g7) w7 := F2.trans ⟨hgr7.os, hgr7.tape, hgr7.output, hgr7.size, fun k hk hG => hgr7.block k hk (fun e => hG (a5 k e.symm).1), fun k hk => by
    rcases hk with hk | hk
    · exact .inl hk
    · subst hk
      rcases hat7 with e | e
      · exact .inl (a5 _ e).1
      · exact .inr (by simp; omega)⟩
  have F4 := F3.trans (Fr.set_ (G := fun k => T k ∨ k = g7) w7 (p := ⟨xn, 0, none⟩) (.slice (some ⟨g7, 0, none⟩) (out.length + 1) d7) (.inl h.tn))
  have hsz : (w7.setCell ⟨xn, 0, none⟩ (.slice (some ⟨g7, 0, none⟩) (out.length + 1) d7)).heap.size = w7.heap.size := by simp [World.setCell]
  have hg7 : g7 ≠ xn ∧ g7 ≠ mb := by
    rcases hat7 with e | e
    · exact (a5 _ e).2
    · have q1 := hT _ h.tn
      have q2 := hT _ h.tm
      exact ⟨by omega, by omega⟩
  have hcl : ∀ k, k = xm ∨ k = xs ∨ k = xv → k < w.heap.size := fun k hk => by
    rcases hk with rfl | rfl | rfl
    · exact h.cm.lt
    · exact h.cs.lt
    · exact h.cv.lt
  have hmn : mb ≠ xn := fun e => by
    obtain ⟨es, clock, hb, _⟩ := h.map
    rw [e, a3] at hb
    cases hb
  have H := h.cT
  have hgT : T g7 ∨ w.heap.size ≤ g7 := by
    rcases hat7 with e | e
    · exact .inl (a5 _ e).1
    · exact .inr (by omega)
  have hnt : ∀ k, k = xm ∨ k = xs ∨ k = xv → ¬ T k → ¬ (T k ∨ k = g7) := fun k hk hT' h' => by
    rcases h' with h' | rfl
    · exact hT' h'
    · rcases hgT with q | q
      · exact hT' q
      · have := hcl k hk; omega
  refine ⟨fun k => T k ∨ k = g7, ⟨F4.blk h.cm H.1, F4.blk h.cs H.2.1, F4.blk h.cv H.2.2, ⟨hnt _ (.inl rfl) H.1, hnt _ (.inr (.inl rfl)) H.2.1, hnt _ (.inr (.inr rfl)) H.2.2⟩, fun k hk => .inr hk, ?_, Nat.le_trans h.bL F4.size, ?_, .inl h.tm, .inl h.tn, some ⟨g7, 0, none⟩, d7, ys ++ [.int .i64 l, .slice (some ⟨gz, 0, none⟩) X.length c2], ?_, ?_, ?_, ?_⟩, F4⟩
  · intro k hk
    rw [hsz]
    rcases hk with hk | hk | rfl
    · have := h.uL k (h2 k hk); omega
    · have := hT k hk; omega
    · exact hlt7
  · refine hm5.of_block ?_
    have q2 := hT _ h.tm
    rw [Below.heap_setCell _ _ _ _ hmn, hgr7.block mb (by simp; omega) (fun e => (a5 _ e.symm).2.2 rfl), Below.heap_alloc _ _ _ (by omega)]
  · have hb : Blk w7 xn _ _ := (hgr7.block xn (by have := hT _ h.tn; simp; omega) (fun e => (a5 _ e.symm).2.1 rfl)).trans ((hf5.blk a3 (Ne.symm hmn)).alloc o)
    have := hb.set_ 0 (.slice (some ⟨g7, 0, none⟩) (out.length + 1) d7)
    simpa using this
  · have := own_set hown7 (p := ⟨xn, 0, none⟩) (by simp [Value.ownBlock]; exact hg7.1) (.slice (some ⟨g7, 0, none⟩) (out.length + 1) d7)
    simpa using this
  · intro g hg
    have : g7 = g := by simpa [Value.ownBlock] using hg
    subst this
    exact ⟨.inr rfl, hg7⟩
  · have hi := a6.sub (fun k _ hk => h2 k hk)
    have hl := a4.1
    have hi2 : Inn w U' (ys ++ [.int .i64 (lvO (out ++ [(l, X)]) out.length), .slice (some ⟨gz, 0, none⟩) (nxO (out ++ [(l, X)]) out.length).length c2]) (out.length + 1) (lvO (out ++ [(l, X)])) (nxO (out ++ [(l, X)])) := by
      refine (hi.congr (fun k hk => ⟨lvO_app hk, nxO_app hk⟩)).push hl ?_ ?_
      · rw [nxO_new]; exact hX
      · intro _ ad e
        injection e with e
        subst e
        exact hz
    rw [lvO_new, nxO_new] at hi2
    have hlen : (out ++ [(l, X)]).length = out.length + 1 := by simp
    rw [hlen]
    refine hi2.far (by rw [hsz]; omega) (fun k hk hU => F4.block k hk (fun hT' => hU (h1 k hT'))) ?_
    intro k hk hk'
    rcases hk' with hk' | hk' | rfl
    · exact hk'
    · exact h1 k hk'
    · rcases hgT with q | q
      · exact h1 _ q
      · omega
end
end Go.Proofs.YtcgkkppidkkjiaaGreatDoor
namespace Go.Proofs.YtcgkkppidkkjiaaGreatDoor
open Go.RowKit
section
variable {G G' : Nat → Prop} {w w' : World}
end
/-- a new node, or the number of one that is there -/
def addF (st : Int) (L : List Ndv) (n : Ndv) : Option (Int × List Ndv) :=
  match L.idxOf? n with
  | some i => some (st + (i : Int), L)
  | none => if st + (L.length : Int) < 2147483647 then some (st + (L.length : Int), L ++ [n]) else none
/-- the node with a number -/
def nodeF (st : Int) (L : List Ndv) (n : Int) : Option Ndv := if st ≤ n then L[(n - st).toNat]? else none
/-- the numbers of the nodes -/
def numF (st : Int) (L : List Ndv) (n : Ndv) : Option Int := (L.idxOf? n).map fun (i : Nat) => st + (i : Int)

theorem idxOf_lt {L : List Ndv} {n : Ndv} {i : Nat} (h : L.idxOf? n = some i) : i < L.length ∧ L[i]? = some n := by
  unfold List.idxOf? at h
  rw [List.findIdx?_eq_some_iff_getElem] at h
  obtain ⟨hi, h1, _⟩ := h
  exact ⟨hi, by rw [List.getElem?_eq_getElem hi]; congr; simpa using h1⟩
theorem idxOf_push {L : List Ndv} {n : Ndv} (h : L.idxOf? n = none) (m : Ndv) : (L ++ [n]).idxOf? m = if m = n then some L.length else L.idxOf? m := by
  unfold List.idxOf?
  rw [List.findIdx?_append]
  by_cases e : m = n
  · subst e
    unfold List.idxOf? at h
    rw [h, if_pos rfl]
    simp [List.findIdx?_cons]
  · rw [if_neg e]
    have : (n == m) = false := by simp [Ne.symm e]
    simp [List.findIdx?_cons, this]

/-- the forest's own cells -/
def Fo (w : World) (fb : Nat) (G : Nat → Prop) (st : Int) (L : List Ndv) : Prop :=
  ∃ A c mb, Blk w fb 129 #[.int .i64 st, .slice A L.length c, .map (some mb)] ∧ w.ownsRow 0 134 9 (.slice A L.length c) L.length (L.flatMap nodC) ∧
    MapOf Tryz.prog w 134 mb nodV (fun x => .int .i32 x) (numF st L) ∧ G fb ∧ G mb ∧ (∀ g, (Value.slice A L.length c).ownBlock = some g → G g ∧ g ≠ fb) ∧ (∀ b, G b → b < w.heap.size) ∧
    2 ≤ st ∧ st ≤ 8 ∧ (∀ n ∈ L, Nd8 n) ∧ st + (L.length : Int) ≤ 2147483647
section
variable {w w' : World} {fb : Nat} {G H H' : Nat → Prop} {st : Int} {L : List Ndv}
theorem Fo.keep (h : Fo w fb G st L) (hf : Fr H w H' w') (hd : ∀ b, G b → ¬ H b) : Fo w' fb G st L := by
  obtain ⟨A, c, mb, h1, h2, h3, h4, h5, h6, h7, h8⟩ := h
  exact ⟨A, c, mb, hf.blk h1 (hd _ h4), hf.row h2 (fun g hg => hd _ (h6 g hg).1), hf.map h3 (hd _ h5), h4, h5, h6, fun b hb => Nat.lt_of_lt_of_le (h7 b hb) hf.size, h8⟩
theorem Fo.below (h : Fo w fb G st L) (hb : Below w.heap.size w w') : Fo w' fb G st L := h.keep (Fr.of_below (G := fun _ => False) hb) (fun _ _ h => h)
end
theorem nodC_len {n : Ndv} (h : R8 n.r) : (nodC n).length = 9 := by simp [nodC, h.1]
theorem flat_at {L : List Ndv} (h : ∀ n ∈ L, Nd8 n) {i : Nat} {n : Ndv} (hi : L[i]? = some n) {j : Nat} (hj : j < 9) : (L.flatMap nodC)[i * 9 + j]? = (nodC n)[j]? := by
  induction L generalizing i with
  | nil => simp at hi
  | cons a L ih =>
    have ha : (nodC a).length = 9 := nodC_len (h a (by simp)).2.2
    rw [List.flatMap_cons]
    cases i with
    | zero =>
      simp at hi
      subst hi
      rw [List.getElem?_append_left (by omega)]
      congr 1; omega
    | succ i =>
      rw [List.getElem?_append_right (by omega), ha, show (i + 1) * 9 + j - 9 = i * 9 + j by omega]
      exact ih (fun n hn => h n (by simp [hn])) (by simpa using hi)
end Go.Proofs.YtcgkkppidkkjiaaGreatDoor
namespace Go.Proofs.YtcgkkppidkkjiaaGreatDoor
open Go.RowKit
/-- a tree of finished nodes -/
def trOR (sn n : Nat) (f : Nat → P2) (out : List (Int × List Int)) : Tr := ⟨(sn : Int), n, f, out.length, lvO out, nxO out⟩
end Go.Proofs.YtcgkkppidkkjiaaGreatDoor
namespace Go.Proofs.YtcgkkppidkkjiaaGreatDoor
open Go.RowKit
/-- a byte of a text -/
def byt (r : ByteArray) (k : Nat) : Int := ((r.data[k]?.getD 0).toNat : Int)
theorem byt_get (r : ByteArray) (k : Nat) (h : k < r.size) : ((r[k]'h).toNat : Int) = byt r k := by
  unfold byt
  have h' : k < r.data.size := h
  rw [Array.getElem?_eq_getElem h']
  rfl
theorem byt_ext (r : ByteArray) {a b k : Nat} (hb : b ≤ r.size) (hk : a + k < b) : byt (r.extract a b) k = byt r (a + k) := by
  unfold byt
  have hb' : b ≤ r.data.size := hb
  rw [ByteArray.data_extract, Array.getElem?_extract]
  rw [if_pos (by omega)]
theorem ext_size (r : ByteArray) {a b : Nat} (hb : b ≤ r.size) : (r.extract a b).size = b - a := by
  rw [ByteArray.size_extract]; omega
/-- the texts that were met -/
def MOK (S L : Nat) (out : List (Int × List Int)) (M : ByteArray → Option Int) : Prop := ∀ x k, M x = some k → ∃ l, 1 ≤ l ∧ x.size = S ^ l ∧ Mn S out l (fun p => byt x (nm S p)) k
theorem MOK.pre {S L : Nat} {a b : List (Int × List Int)} {M : ByteArray → Option Int} (h : MOK S L a M) (hb : Gd S L b) (hp : Pre a b) (hga : Gd S L a) : MOK S L b M := fun x k hx => by
  obtain ⟨l, h1, h2, h3⟩ := h x k hx
  exact ⟨l, h1, h2, h3.pre hb hp hga⟩
theorem Mn.congr {S : Nat} {out : List (Int × List Int)} {l : Nat} {f g : List Int → Int} {r : Int} (h : Mn S out l f r) (e : ∀ p, p.length = l → Sts S p → f p = g p) : Mn S out l g r := ⟨h.1, fun p hp hs => (h.2 p hp hs).trans (e p hp hs)⟩
theorem Pre.refl (a : List (Int × List Int)) : Pre a a := ⟨[], by simp⟩
theorem Pre.trans {a b c : List (Int × List Int)} (h : Pre a b) (k : Pre b c) : Pre a c := by
  obtain ⟨x, rfl⟩ := h
  obtain ⟨y, rfl⟩ := k
  exact ⟨x ++ y, by simp⟩
theorem Pre.push (a : List (Int × List Int)) (e : Int × List Int) : Pre a (a ++ [e]) := ⟨[e], rfl⟩
theorem pow_inj {S a b : Nat} (hS : 2 ≤ S) (h : S ^ a = S ^ b) : a = b := by
  rcases Nat.lt_trichotomy a b with q | q | q
  · have := Nat.pow_lt_pow_right (show 1 < S by omega) q; omega
  · exact q
  · have := Nat.pow_lt_pow_right (show 1 < S by omega) q; omega
/-- what a visit promises -/
def VisOut (S L xm xs xv xn mb bs : Nat) (vv : Value) (w : World) (T U : Nat → Prop) (out : List (Int × List Int)) (l : Nat) (rest : ByteArray) (e : Ending) (w' : World) : Prop :=
  ∃ T' out' M' r, e = .returned (.int .i64 r) ∧ Wst S xm xs xv xn mb bs vv w' T' (fun k => U k ∨ T' k) out' M' ∧ Fr T w T' w' ∧ Gd S L out' ∧ Pre out out' ∧ MOK S L out' M' ∧ Mn S out' l (fun p => byt rest (nm S p)) r ∧ out'.length + 1 ≤ out.length + 2 * S ^ l
theorem zero_int (w : World) : (zeroValue 3).run Tryz.prog w = .ok (.int .i64 0) w := by kernel_rfl
theorem strV_inj {a b : ByteArray} (h : Value.string a = .string b) : a = b := by injection h
theorem key_str {s : ByteArray} (h : s.size ≤ 1000000) : keyOf Tryz.prog 9 (.string s) = some (.string s.data.toList) := WideMaps.keyOf_string_mk Tryz.underlying9 (by unfold maxLen; omega)
theorem str_look {w : World} {mb : Nat} {M : ByteArray → Option Int} (hm : MapOf Tryz.prog w 9 mb Value.string (fun x => .int .i64 x) M) {s : ByteArray} (hs : s.size ≤ 1000000) (c : Bool) :
    (Instr.lookup 114 (.map (some mb)) (.string s) c).run Tryz.prog w = .ok (match M s with | some v => (if c then .tuple #[.int .i64 v, .bool true] else .int .i64 v) | none => (if c then .tuple #[.int .i64 0, .bool false] else .int .i64 0)) w := by
  rw [hm.look c Tryz.keyStr Tryz.underlying114 (zero_int w) (key_str hs) (fun y _ _ e => strV_inj e)]
  cases M s <;> rfl
section
variable {S L xm xs xv xn mb bs : Nat} {vv : Value} {w : World} {T U : Nat → Prop} {out : List (Int × List Int)} {M : ByteArray → Option Int}
set_option maxRecDepth 100000 in
theorem vis_zero {rest : ByteArray} (hS : 1 ≤ S) (hz : rest.size = 1) (hb : byt rest 0 < S) (h : Wst S xm xs xv xn mb bs vv w T U out M) (hg : Gd S L out) (hm : MOK S L out M) :
    Calls Tryz.prog 70 #[.int .i64 0, .string rest, .pointer (some ⟨xm, 0, none⟩), .pointer (some ⟨xs, 0, none⟩), .pointer (some ⟨xv, 0, none⟩), .pointer (some ⟨xn, 0, none⟩)] w (VisOut S L xm xs xv xn mb bs vv w T U out 0 rest) := by
  have H := Lib.hid h
  have HG := Lib.hid hg
  have HM := Lib.hid hm
  have hb0 : ∀ h : 0 < rest.size, (((rest[0]'h).toNat : Nat) : Int) = byt rest 0 := fun h => byt_get rest 0 h
  have hb00 : 0 ≤ byt rest 0 := by unfold byt; omega
  have hb1 : byt rest 0 < 256 := by
    unfold byt
    have := (rest.data[0]?.getD 0).toNat_lt
    omega
  obtain ⟨z, hzz⟩ : ∃ z : Nat, byt rest 0 = (z : Int) := ⟨(byt rest 0).toNat, by omega⟩
  have hb2 : ∀ h : 0 < rest.size, (rest[0]'h).toNat = z := fun h => by have := hb0 h; omega
  have HZ := Lib.hid hzz
  have HB := Lib.hid hb
  have hzI : (z : Int) < 256 := by omega
  have hsz : 0 < rest.size := by omega
  have hszI : (rest.size : Int) = 1 := by omega
  clear h hg hm hb hb0 hb1 hb00 hzz
  go_enter Tryz.func70, Tryz.ntmps70
  go_wp2
  go_ret
  have h1 := HZ.out
  have h2 := HB.out
  exact ⟨T, out, M, (z : Int), rfl, H.out.here, Fr.refl _ _, HG.out, Pre.refl _, HM.out, ⟨⟨by omega, fun _ => by omega, fun h => absurd h (by omega)⟩, fun p hp _ => by
    have : p = [] := List.length_eq_zero_iff.1 hp
    subst this
    rw [← h1]
    rfl⟩, by simp⟩
set_option maxRecDepth 100000 in
theorem vis_found {rest : ByteArray} {l : Nat} {i : Int} (hS : 2 ≤ S) (hl : 1 ≤ l) (hl2 : l ≤ 1000) (hz : rest.size = S ^ l) (hz2 : S ^ l ≤ 65536) (h : Wst S xm xs xv xn mb bs vv w T U out M) (hg : Gd S L out) (hm : MOK S L out M) (hf : M rest = some i) :
    Calls Tryz.prog 70 #[.int .i64 (l : Int), .string rest, .pointer (some ⟨xm, 0, none⟩), .pointer (some ⟨xs, 0, none⟩), .pointer (some ⟨xv, 0, none⟩), .pointer (some ⟨xn, 0, none⟩)] w (VisOut S L xm xs xv xn mb bs vv w T U out l rest) := by
  have H := Lib.hid h
  have HG := Lib.hid hg
  have HM := Lib.hid hm
  have lk := str_look h.map (s := rest) (by omega) true
  rw [hf] at lk
  simp only [if_true] at lk
  obtain ⟨k0, k1, k2⟩ := h.cm.one
  have HI := Lib.hid (show Mn S out l (fun p => byt rest (nm S p)) i by
    obtain ⟨l', h1, h2, h3⟩ := hm _ _ hf
    obtain rfl : l' = l := pow_inj hS (by rw [← h2, hz])
    exact h3)
  have HC := Lib.hid (show out.length + 1 ≤ out.length + 2 * S ^ l by have := Nat.pow_pos (n := l) (show 0 < S by omega); omega)
  clear h hg hm hf hz hz2
  go_enter Tryz.func70, Tryz.ntmps70
  go_wp2
  go_ret
  exact ⟨T, out, M, i, rfl, H.out.here, Fr.refl _ _, HG.out, Pre.refl _, HM.out, HI.out, HC.out⟩
end
end Go.Proofs.YtcgkkppidkkjiaaGreatDoor
