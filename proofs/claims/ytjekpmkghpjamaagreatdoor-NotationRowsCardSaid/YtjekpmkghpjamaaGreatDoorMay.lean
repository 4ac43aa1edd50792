/- The keys of totaltree's maps: nodes of two elements, and pairs of numbers. -/
/- The memory of the walk that makes the tree of an elementary rule. -/
import Derived.Test.YtjekpmkghpjamaaGreatDoorMae
import Derived.Test.YtjekpmkghpjamaaGreatDoorMah
import Derived.Below
import Derived.BigQuiet
import Derived.Deep.AppendLies
import Derived.Deep.CutRange
import Derived.Deep.Draws
import Derived.Deep.QuietTactic
import Derived.DeepKeys4
import Derived.DeepKeys5
import Derived.IntWalk
import Derived.Laws.BitsLemmas
import Derived.Laws.OwnMore
import Derived.Laws.Rows
import Derived.Lib.Hide
import Derived.Lib.SliceRun
import Derived.LoopN
import Derived.Maps.OwnOps
import Derived.OwnWalk
import Derived.Shelf.SlLaysF0
import Derived.Sort.Grow
import Derived.Sort.Statements
import Derived.StillTail
import Derived.StillTailTactics
import Derived.StringKeys
import Derived.Test.YtjekpmkghpjamaaGreatDoorRows
import Derived.WalkKit
import Derived.Test.YtjekpmkghpjamaaGreatDoorMax
import Derived.Test.YtjekpmkghpjamaaGreatDoorMaw
import Derived.Test.YtjekpmkghpjamaaGreatDoorMaa
import Derived.Test.YtjekpmkghpjamaaGreatDoorMab
import Derived.Test.YtjekpmkghpjamaaGreatDoorMad
import Derived.Test.YtjekpmkghpjamaaGreatDoorMac
namespace Go.Proofs.YtjekpmkghpjamaaGreatDoor
open Go.RowKit
open Go.Maps (Keyed)
/-- a node's cells: level, two elements, zeros -/
def nod2 (x : Int × Int × Int) : Array Value := #[.int .i64 x.1, .int .i64 x.2.1, .int .i64 x.2.2, .int .i64 0, .int .i64 0, .int .i64 0, .int .i64 0, .int .i64 0, .int .i64 0]
def nodV2 (x : Int × Int × Int) : Value := .agg (nod2 x)
theorem nodV2_inj {a b : Int × Int × Int} (h : nodV2 a = nodV2 b) : a = b := by
  obtain ⟨a1, a2, a3⟩ := a
  obtain ⟨b1, b2, b3⟩ := b
  simp [nodV2, nod2] at h
  obtain ⟨rfl, rfl, rfl⟩ := h
  rfl
/-- a pair's cells -/
def parV (x : Int × Int) : Value := .agg #[.int .i64 x.1, .int .i64 x.2]
theorem parV_inj {a b : Int × Int} (h : parV a = parV b) : a = b := by
  obtain ⟨a1, a2⟩ := a
  obtain ⟨b1, b2⟩ := b
  simp [parV] at h
  obtain ⟨rfl, rfl⟩ := h
  rfl
theorem Tryz.rowNodeE : (167 : TypeId) < Tryz.prog.types.size := of_decide_eq_true (by kernel_rfl)
theorem Tryz.keyNodeE : Keyed Tryz.prog 167 := Keyed.of_law (deep_law_laid Tryz.laidOut13 (m := 3) (by omega) Tryz.rowNodeE (by kernel_rfl) (by rw [Tryz.underlying167]))
theorem Tryz.rowPair : (171 : TypeId) < Tryz.prog.types.size := of_decide_eq_true (by kernel_rfl)
theorem Tryz.keyPair : Keyed Tryz.prog 171 := Keyed.of_law (deep_law_laid Tryz.laidOut13 (m := 3) (by omega) Tryz.rowPair (by kernel_rfl) (by rw [Tryz.underlying171]))
theorem Tryz.keyTypeNodeE : Tryz.prog.keyType 167 = true := by kernel_rfl
theorem Tryz.keyTypePair : Tryz.prog.keyType 171 = true := by kernel_rfl
theorem cellsNodeE : Tryz.prog.cellsOf 167 = 9 := by kernel_rfl
theorem cellsEight : Tryz.prog.cellsOf 32 = 8 := by kernel_rfl
theorem cellsPair : Tryz.prog.cellsOf 171 = 2 := by kernel_rfl
theorem cellsInt9 : Tryz.prog.cellsOf 3 = 1 := by kernel_rfl
/-- an int's range -/
def R64 (x : Int) : Prop := -9223372036854775808 ≤ x ∧ x < 9223372036854775808
theorem lits_i64 {m : Nat} {a : Int} (h : R64 a) : Tryz.prog.keyLits (m + 1) 3 [.int .i64 a] = some [.int .i64 a] := by
  have w1 := WalkArith.wf_i64 (n := a) ⟨h.1, by have := h.2; omega⟩
  simp [Program.keyLits, Tryz.underlying3, w1]
theorem r64_0 : R64 0 := ⟨by decide, by decide⟩
theorem lits_eight {m : Nat} {a b : Int} (ha : R64 a) (hb : R64 b) : ∃ l, Tryz.prog.keyLits (m + 2) 32 [.int .i64 a, .int .i64 b, .int .i64 0, .int .i64 0, .int .i64 0, .int .i64 0, .int .i64 0, .int .i64 0] = some l := by
  unfold Program.keyLits
  simp only [Tryz.underlying32, cellsEight, cellsInt9]
  simp [List.range, List.range.loop, lits_i64 ha, lits_i64 hb, lits_i64 r64_0]
theorem key_nodeE {x : Int × Int × Int} (h1 : R64 x.1) (h2 : R64 x.2.1) (h3 : R64 x.2.2) : ∃ l, keyOf Tryz.prog 167 (nodV2 x) = some l := by
  obtain ⟨lv, a, b⟩ := x
  simp only at h1 h2 h3
  obtain ⟨m, hm⟩ := Tryz.sizeTypes
  obtain ⟨l, hl⟩ := lits_eight (m := m) h2 h3
  unfold keyOf
  simp only [Tryz.underlying167]
  rw [if_pos (by simp [Tryz.keyTypeNodeE, Value.formed, Tryz.underlying167, cellsNodeE, nodV2, nod2]), hm]
  unfold Program.keyLits
  have hi : Tryz.prog.keyLits (m + 2) 3 [.int .i64 lv] = some [.int .i64 lv] := lits_i64 h1
  simp [Tryz.underlying167, cellsNodeE, cellsEight, cellsInt9, nodV2, nod2, Value.cells, hl, hi]
theorem key_pair {x : Int × Int} (h1 : R64 x.1) (h2 : R64 x.2) : ∃ l, keyOf Tryz.prog 171 (parV x) = some l := by
  obtain ⟨a, b⟩ := x
  simp only at h1 h2
  obtain ⟨m, hm⟩ := Tryz.sizeTypes
  unfold keyOf
  simp only [Tryz.underlying171]
  rw [if_pos (by simp [Tryz.keyTypePair, Value.formed, Tryz.underlying171, cellsPair, parV]), hm]
  unfold Program.keyLits
  simp [Tryz.underlying171, cellsPair, cellsInt9, parV, Value.cells, List.range, List.range.loop, lits_i64 h1, lits_i64 h2]
theorem node_look {w : World} {mb : Nat} {M : Int × Int × Int → Option Int} (hm : MapOf Tryz.prog w 167 mb nodV2 (fun x => .int .i64 x) M) {x : Int × Int × Int} (h1 : R64 x.1) (h2 : R64 x.2.1) (h3 : R64 x.2.2) :
    (Instr.lookup 165 (.map (some mb)) (nodV2 x) true).run Tryz.prog w = .ok (match M x with | some v => .tuple #[.int .i64 v, .bool true] | none => .tuple #[.int .i64 0, .bool false]) w := by
  obtain ⟨l, hl⟩ := key_nodeE h1 h2 h3
  rw [hm.look true Tryz.keyNodeE Tryz.underlying165 (zero_int w) hl (fun y _ _ e => nodV2_inj e)]
  cases M x <;> rfl
theorem pair_look {w : World} {mb : Nat} {M : Int × Int → Option Int} (hm : MapOf Tryz.prog w 171 mb parV (fun x => .int .i64 x) M) {x : Int × Int} (h1 : R64 x.1) (h2 : R64 x.2) :
    (Instr.lookup 170 (.map (some mb)) (parV x) true).run Tryz.prog w = .ok (match M x with | some v => .tuple #[.int .i64 v, .bool true] | none => .tuple #[.int .i64 0, .bool false]) w := by
  obtain ⟨l, hl⟩ := key_pair h1 h2
  rw [hm.look true Tryz.keyPair Tryz.underlying170 (zero_int w) hl (fun y _ _ e => parV_inj e)]
  cases M x <;> rfl
end Go.Proofs.YtjekpmkghpjamaaGreatDoor
namespace Go.Proofs.YtjekpmkghpjamaaGreatDoor
open Go.RowKit
/-- eight new states -/
def b8 (f : Nat → Int) : Array Value := #[.int .i64 (f 0), .int .i64 (f 1), .int .i64 (f 2), .int .i64 (f 3), .int .i64 (f 4), .int .i64 (f 5), .int .i64 (f 6), .int .i64 (f 7)]
def Bits8 (f : Nat → Int) : Prop := ∀ k, k < 8 → 0 ≤ f k ∧ f k < 2
/-- the blocks of the walk, and the new states -/
structure EP where
  xN : Nat
  xo : Nat
  xS : Nat
  xF : Nat
  xM : Nat
  xR : Nat
  xL : Nat
  xA : Nat
  xV : Nat
  gr : Nat
  g8 : Nat
  mN : Nat
  mV : Nat
  bs : Nat
  AH : Option Addr
  cH : Nat
  AI : Option Addr
  cI : Nat
  rb : Nat → Int
def EP.K (p : EP) (k : Nat) : Prop := k = p.xN ∨ k = p.xS ∨ k = p.xF ∨ k = p.xM ∨ k = p.xR ∨ k = p.xL ∨ k = p.xA ∨ k = p.xV ∨ k = p.gr ∨ k = p.g8
def fnVisit (p : EP) : Value := .func (.func 119) #[] #[.pointer (some ⟨p.xR, 0, none⟩), .pointer (some ⟨p.xV, 0, none⟩), .pointer (some ⟨p.xS, 0, none⟩), .pointer (some ⟨p.xF, 0, none⟩), .pointer (some ⟨p.xM, 0, none⟩), .pointer (some ⟨p.xL, 0, none⟩), .pointer (some ⟨p.xA, 0, none⟩)]
def fnAdd (p : EP) : Value := .func (.func 117) #[] #[.pointer (some ⟨p.xN, 0, none⟩), .pointer (some ⟨p.xo, 0, none⟩), .pointer (some ⟨p.xS, 0, none⟩)]
def fnAmount (p : EP) : Value := .func (.func 82) #[] #[.pointer (some ⟨p.gr, 0, none⟩)]
def fnResult (p : EP) : Value := .func (.func 83) #[] #[.pointer (some ⟨p.g8, 0, none⟩)]
/-- what the walk never turns -/
structure EC (p : EP) (w : World) : Prop where
  cN : Blk w p.xN 165 #[.map (some p.mN)]
  cS : Blk w p.xS 3 #[.int .i64 2]
  cF : Blk w p.xF 114 #[fnVisit p]
  cM : Blk w p.xM 114 #[fnAmount p]
  cR : Blk w p.xR 117 #[fnResult p]
  cL : Blk w p.xL 22 #[.slice p.AH 3 p.cH]
  cA : Blk w p.xA 169 #[fnAdd p]
  cV : Blk w p.xV 170 #[.map (some p.mV)]
  cG : Blk w p.gr 22 #[.slice p.AH 3 p.cH]
  c8 : Blk w p.g8 32 (b8 p.rb)
  hb : Bits8 p.rb
theorem EC.keep {p : EP} {w w' : World} {H H' : Nat → Prop} (h : EC p w) (hf : Fr H w H' w') (hk : ∀ k, p.K k → ¬ H k) : EC p w' :=
  ⟨hf.blk h.cN (hk _ (.inl rfl)), hf.blk h.cS (hk _ (.inr (.inl rfl))), hf.blk h.cF (hk _ (.inr (.inr (.inl rfl)))), hf.blk h.cM (hk _ (.inr (.inr (.inr (.inl rfl))))), hf.blk h.cR (hk _ (.inr (.inr (.inr (.inr (.inl rfl)))))),
   hf.blk h.cL (hk _ (.inr (.inr (.inr (.inr (.inr (.inl rfl))))))), hf.blk h.cA (hk _ (.inr (.inr (.inr (.inr (.inr (.inr (.inl rfl)))))))), hf.blk h.cV (hk _ (.inr (.inr (.inr (.inr (.inr (.inr (.inr (.inl rfl))))))))), hf.blk h.cG (hk _ (.inr (.inr (.inr (.inr (.inr (.inr (.inr (.inr (.inl rfl)))))))))), hf.blk h.c8 (hk _ (.inr (.inr (.inr (.inr (.inr (.inr (.inr (.inr (.inr rfl)))))))))), h.hb⟩
theorem EC.lt {p : EP} {w : World} (h : EC p w) : ∀ k, p.K k → k < w.heap.size := fun k hk => by
  rcases hk with rfl | rfl | rfl | rfl | rfl | rfl | rfl | rfl | rfl | rfl
  · exact h.cN.lt
  · exact h.cS.lt
  · exact h.cF.lt
  · exact h.cM.lt
  · exact h.cR.lt
  · exact h.cL.lt
  · exact h.cA.lt
  · exact h.cV.lt
  · exact h.cG.lt
  · exact h.c8.lt
/-- the memory of the walk: T holds what it turns, U what its nodes' elements don't lie in -/
structure Tst (p : EP) (w : World) (T U : Nat → Prop) (out : List (Int × List Int)) (N : Int × Int × Int → Option Int) (M : Int × Int → Option Int) : Prop where
  c : EC p w
  cT : ∀ k, p.K k → ¬ T k
  tU : ∀ k, T k → U k
  uL : ∀ k, U k → k < w.heap.size
  bL : p.bs ≤ w.heap.size
  mpN : MapOf Tryz.prog w 167 p.mN nodV2 (fun x => .int .i64 x) N
  mpV : MapOf Tryz.prog w 171 p.mV parV (fun x => .int .i64 x) M
  tN : T p.mN
  tV : T p.mV
  tO : T p.xo
  nv : p.mN ≠ p.mV
  rest : ∃ A c ys, Blk w p.xo 25 #[.int .i64 2, .slice p.AI 3 p.cI, .slice A out.length c] ∧ w.ownsRow p.bs 101 2 (.slice A out.length c) out.length ys ∧
    (∀ g, (Value.slice A out.length c).ownBlock = some g → T g ∧ g ≠ p.xo ∧ g ≠ p.mN ∧ g ≠ p.mV) ∧ Inn w U ys out.length (lvO out) (nxO out)
section
variable {p : EP} {w w' : World} {T U H H' : Nat → Prop} {out : List (Int × List Int)} {N : Int × Int × Int → Option Int} {M : Int × Int → Option Int}
theorem Tst.wide {U' : Nat → Prop} (h : Tst p w T U out N M) (h1 : ∀ k, T k → U' k) (h2 : ∀ k, U' k → U k) : Tst p w T U' out N M := by
  obtain ⟨A, c, ys, a3, a4, a5, a6⟩ := h.rest
  exact ⟨h.c, h.cT, h1, fun k hk => h.uL k (h2 k hk), h.bL, h.mpN, h.mpV, h.tN, h.tV, h.tO, h.nv, A, c, ys, a3, a4, a5, a6.sub fun k _ hk => h2 k hk⟩
theorem Tst.here (h : Tst p w T U out N M) : Tst p w T (fun k => U k ∨ T k) out N M := h.wide (fun k hk => .inr hk) (fun k hk => hk.elim id (h.tU k))
/-- what turns other blocks, or makes some -/
theorem Tst.keep (h : Tst p w T U out N M) (hf : Fr H w H' w') (h1 : ∀ k, T k → ¬ H k) (h2 : ∀ k, p.K k → ¬ H k) (h3 : ∀ k, H k → U k) (U' : Nat → Prop) (h4 : ∀ k, U k → U' k) (h5 : ∀ k, U' k → U k ∨ w.heap.size ≤ k) (h6 : ∀ k, U' k → k < w'.heap.size) : Tst p w' T U' out N M := by
  obtain ⟨A, c, ys, a3, a4, a5, a6⟩ := h.rest
  refine ⟨h.c.keep hf h2, h.cT, fun k hk => h4 k (h.tU k hk), h6, Nat.le_trans h.bL hf.size, hf.map h.mpN (h1 _ h.tN), hf.map h.mpV (h1 _ h.tV), h.tN, h.tV, h.tO, h.nv,
    A, c, ys, hf.blk a3 (h1 _ h.tO), hf.row a4 (fun g hg => h1 g (a5 g hg).1), a5, ?_⟩
  refine (a6.far hf.size (fun k hk hU => hf.block k hk (fun hh => hU (h3 k hh))) (fun k hk hk' => ?_))
  rcases h5 k hk' with h | h
  · exact h
  · omega
theorem Tst.below (h : Tst p w T U out N M) (hb : Below w.heap.size w w') : Tst p w' T U out N M :=
  h.keep (Fr.of_below (G := fun _ => False) hb) (fun _ _ h => h) (fun _ _ h => h) (fun _ h => h.elim) U (fun _ h => h) (fun _ h => .inl h) (fun k hk => Nat.lt_of_lt_of_le (h.uL k hk) hb.size)
/-- the map of pairs is turned -/
theorem Tst.setV (h : Tst p w T U out N M) {M' : Int × Int → Option Int} (hm : MapOf Tryz.prog w' 171 p.mV parV (fun x => .int .i64 x) M') (hf : Fr (fun i => i = p.mV) w (fun i => i = p.mV) w') (hs : w'.heap.size = w.heap.size) : Tst p w' T U out N M' := by
  obtain ⟨A, c, ys, a3, a4, a5, a6⟩ := h.rest
  have hn : ∀ k, p.K k → ¬ (k = p.mV) := fun k hk e => h.cT k hk (e ▸ h.tV)
  have ho : p.xo ≠ p.mV := fun e => by
    obtain ⟨es, clock, hb, _⟩ := h.mpV
    rw [← e, a3] at hb
    cases hb
  exact ⟨h.c.keep hf hn, h.cT, h.tU, fun k hk => by rw [hs]; exact h.uL k hk, Nat.le_trans h.bL hf.size, hf.map h.mpN h.nv, hm, h.tN, h.tV, h.tO, h.nv,
    A, c, ys, hf.blk a3 ho, hf.row a4 (fun g hg => (a5 g hg).2.2.2), a5, a6.far hf.size (fun k hk hU => hf.block k hk (fun e => hU (e ▸ h.tU _ h.tV))) (fun _ _ h => h)⟩
/-- a node is finished -/
theorem Tst.push (h : Tst p w T U out N M) {U' : Nat → Prop} (h1 : ∀ k, T k → U' k) (h2 : ∀ k, U' k → U k) {l : Int} {X : List Int} {w5 : World} {N' : Int × Int × Int → Option Int}
    (hm5 : MapOf Tryz.prog w5 167 p.mN nodV2 (fun x => .int .i64 x) N') (hf5 : Fr (fun i => i = p.mN) w (fun i => i = p.mN) w5)
    {A : Option Addr} {c : Nat} (hA : Blk w p.xo 25 #[.int .i64 2, .slice p.AI 3 p.cI, .slice A out.length c]) :
    ∃ ys, w5.ownsRow p.bs 101 2 (.slice A out.length c) out.length ys ∧ ∀ (gz : Nat) (w6 w6' : World) (g7 d7 c2 : Nat) (w7 : World), w.heap.size ≤ gz → Below w5.heap.size w5 w6 → Below w6.heap.size w6 w6' → gz < w6.heap.size → Reads w6 w6.heap.size (some ⟨gz, 0, none⟩) X.length (il X) → w7.ownsRow p.bs 101 2 (.slice (some ⟨g7, 0, none⟩) (out.length + 1) d7) (out.length + 1) (ys ++ [.int .i64 l, .slice (some ⟨gz, 0, none⟩) X.length c2]) →
      w6'.grownBy w7 (Value.slice A out.length c).ownBlock → ((Value.slice A out.length c).ownBlock = some g7 ∨ w6'.heap.size ≤ g7) → g7 < w7.heap.size →
      ∃ T', Tst p (w7.setCell ⟨p.xo, 2, none⟩ (.slice (some ⟨g7, 0, none⟩) (out.length + 1) d7)) T' (fun k => U' k ∨ T' k) (out ++ [(l, X)]) N' M ∧ Fr T w T' (w7.setCell ⟨p.xo, 2, none⟩ (.slice (some ⟨g7, 0, none⟩) (out.length + 1) d7)) := by
  obtain ⟨A', c', ys, a3, a4, a5, a6⟩ := h.rest
  have e : A' = A ∧ c' = c := by
    have := hA.symm.trans a3
    injection this with this
    injection this with this
    simp at this
    exact ⟨this.1.symm, this.2.symm⟩
  obtain ⟨rfl, rfl⟩ := e
  have hT : ∀ k, T k → k < w.heap.size := fun k hk => h.uL k (h.tU k hk)
  have r5 := hf5.row a4 (fun g hg => (a5 g hg).2.2.1)
  refine ⟨ys, r5, fun gz w6 w6' g7 d7 c2 w7 hz hb6 hb6' hzl hX hown7 hgr7 hat7 hlt7 => ?_⟩
  have hs5 := hf5.size
  have hs6 := hb6.size
  have hs6' := hb6'.size
  have hs7 := hgr7.size
  have F1 : Fr T w T w5 := hf5.weak (fun k e => e ▸ h.tN) (fun k h => .inl h)
  have F2 : Fr T w T w6 := F1.trans (Fr.of_below hb6)
  have F2' : Fr T w T w6' := F2.trans (Fr.of_below hb6')
  have F3 : Fr T w (fun k => T k ∨ k = g7) w7 := F2'.trans ⟨hgr7.os, hgr7.tape, hgr7.output, hgr7.size, fun k hk hG => hgr7.block k hk (fun e => hG (a5 k e.symm).1), fun k hk => by
    rcases hk with hk | hk
    · exact .inl hk
    · subst hk
      rcases hat7 with e | e
      · exact .inl (a5 _ e).1
      · exact .inr e⟩
  have F4 := F3.trans (Fr.set_ (G := fun k => T k ∨ k = g7) w7 (p := ⟨p.xo, 2, none⟩) (.slice (some ⟨g7, 0, none⟩) (out.length + 1) d7) (.inl h.tO))
  have hsz : (w7.setCell ⟨p.xo, 2, none⟩ (.slice (some ⟨g7, 0, none⟩) (out.length + 1) d7)).heap.size = w7.heap.size := by simp [World.setCell]
  have q1 := hT _ h.tO
  have q2 := hT _ h.tN
  have q3 := hT _ h.tV
  have hg7 : g7 ≠ p.xo ∧ g7 ≠ p.mN ∧ g7 ≠ p.mV := by
    rcases hat7 with e | e
    · exact (a5 _ e).2
    · exact ⟨by omega, by omega, by omega⟩
  have hno : p.mN ≠ p.xo := fun e => by
    obtain ⟨es, clock, hb, _⟩ := h.mpN
    rw [e, a3] at hb
    cases hb
  have hvo : p.mV ≠ p.xo := fun e => by
    obtain ⟨es, clock, hb, _⟩ := h.mpV
    rw [e, a3] at hb
    cases hb
  have hgT : T g7 ∨ w6'.heap.size ≤ g7 := by
    rcases hat7 with e | e
    · exact .inl (a5 _ e).1
    · exact .inr e
  refine ⟨fun k => T k ∨ k = g7, ⟨h.c.keep F4 h.cT, ?_, fun k hk => .inr hk, ?_, Nat.le_trans h.bL F4.size, ?_, ?_, .inl h.tN, .inl h.tV, .inl h.tO, h.nv, some ⟨g7, 0, none⟩, d7, ys ++ [.int .i64 l, .slice (some ⟨gz, 0, none⟩) X.length c2], ?_, ?_, ?_, ?_⟩, F4⟩
  · intro k hk hk'
    rcases hk' with hk' | rfl
    · exact h.cT k hk hk'
    · rcases hgT with q | q
      · exact h.cT k hk q
      · have := h.c.lt k hk; omega
  · intro k hk
    rw [hsz]
    rcases hk with hk | hk | rfl
    · have := h.uL k (h2 k hk); omega
    · have := hT k hk; omega
    · exact hlt7
  · refine hm5.of_block ?_
    rw [Below.heap_setCell _ _ _ _ hno, hgr7.block p.mN (by omega) (fun e => (a5 _ e.symm).2.2.1 rfl), hb6'.block p.mN (by omega), hb6.block p.mN (by omega)]
  · refine h.mpV.of_block ?_
    rw [Below.heap_setCell _ _ _ _ hvo, hgr7.block p.mV (by omega) (fun e => (a5 _ e.symm).2.2.2 rfl), hb6'.block p.mV (by omega), hb6.block p.mV (by omega), hf5.block p.mV q3 (fun e => h.nv e.symm)]
  · have hb5 := hf5.blk a3 (Ne.symm hno)
    have hb7 : Blk w7 p.xo 25 _ := (hgr7.block p.xo (by omega) (fun e => (a5 _ e.symm).2.1 rfl)).trans ((hb6'.block p.xo (by omega)).trans ((hb6.block p.xo (by omega)).trans hb5))
    have := hb7.set_ 2 (.slice (some ⟨g7, 0, none⟩) (out.length + 1) d7)
    simpa using this
  · have := own_set hown7 (p := ⟨p.xo, 2, none⟩) (by simp [Value.ownBlock]; exact hg7.1) (.slice (some ⟨g7, 0, none⟩) (out.length + 1) d7)
    simpa using this
  · intro g hg
    have : g7 = g := by simpa [Value.ownBlock] using hg
    subst this
    exact ⟨.inr rfl, hg7⟩
  · have hi6 : Inn w6 U' ys out.length (lvO out) (nxO out) := (a6.sub (fun k _ hk => h2 k hk)).far (by omega) (fun b hb hU => F2.block b hb (fun hT' => hU (h1 b hT'))) (fun _ _ hU => hU)
    have hl := a4.1
    have hi2 : Inn w6 U' (ys ++ [.int .i64 (lvO (out ++ [(l, X)]) out.length), .slice (some ⟨gz, 0, none⟩) (nxO (out ++ [(l, X)]) out.length).length c2]) (out.length + 1) (lvO (out ++ [(l, X)])) (nxO (out ++ [(l, X)])) := by
      refine (hi6.congr (fun k hk => ⟨lvO_app hk, nxO_app hk⟩)).push hl ?_ ?_
      · rw [nxO_new]; exact hX
      · intro _ ad e hU
        injection e with e
        subst e
        have := h.uL _ (h2 _ hU)
        simp only at this
        omega
    rw [lvO_new, nxO_new] at hi2
    have hlen : (out ++ [(l, X)]).length = out.length + 1 := by simp
    rw [hlen]
    refine hi2.far (by rw [hsz]; omega) (fun k hk hU => ?_) ?_
    · rw [Below.heap_setCell _ _ _ _ (fun e => hU (by have := h1 _ h.tO; rw [e]; exact this)), hgr7.block k (by omega) (fun e => hU (h1 _ (a5 _ e.symm).1)), hb6'.block k hk]
    · intro k hk hk'
      rcases hk' with hk' | hk' | rfl
      · exact hk'
      · exact h1 k hk'
      · rcases hgT with q | q
        · exact h1 _ q
        · omega
end
end Go.Proofs.YtjekpmkghpjamaaGreatDoor
