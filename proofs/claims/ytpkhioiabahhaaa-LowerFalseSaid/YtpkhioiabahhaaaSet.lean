/- The lowering's other cells: what a store into one of them leaves. -/
import Derived.Test.YtpkhioiabahhaaaCi2
namespace Go.Proofs.Ytpkhioiabahhaaa
open Go.RowKit

section
variable {lb base : Nat} {I : Int} {O : Oc} {w : World} {A : Option Addr} {gs : List C3}
theorem GSt.rowSet (h : GSt lb base I O w A gs) (hlb : lb < base) {t : TypeId} {k n : Nat} {v : Value} {xs : List Value} (hr : w.ownsRow base t k v n xs) (i : Nat) (u : Value) : (w.setCell ⟨lb, i, none⟩ u).ownsRow base t k v n xs :=
  own_set hr (fun e => by have := (hr.lt _ e).1; simp at this; omega) u
theorem GSt.setf (h : GSt lb base I O w A gs) (hlb : lb < base) (v : Value) : GSt lb base I { O with f := v } (w.setCell ⟨lb, 7, none⟩ v) A gs := by
  obtain ⟨c, hk, ho⟩ := h
  exact ⟨c, by have := hk.set_ 7 v; simpa [lwc] using this, own_set ho (fun e => by have := (ho.lt _ e).1; simp at this; omega) v⟩
theorem GSt.setg (h : GSt lb base I O w A gs) (hlb : lb < base) (v : Value) : GSt lb base I { O with g := v } (w.setCell ⟨lb, 8, none⟩ v) A gs := by
  obtain ⟨c, hk, ho⟩ := h
  exact ⟨c, by have := hk.set_ 8 v; simpa [lwc] using this, own_set ho (fun e => by have := (ho.lt _ e).1; simp at this; omega) v⟩
theorem GSt.seth (h : GSt lb base I O w A gs) (hlb : lb < base) (v : Value) : GSt lb base I { O with h := v } (w.setCell ⟨lb, 9, none⟩ v) A gs := by
  obtain ⟨c, hk, ho⟩ := h
  exact ⟨c, by have := hk.set_ 9 v; simpa [lwc] using this, own_set ho (fun e => by have := (ho.lt _ e).1; simp at this; omega) v⟩
theorem GSt.seta (h : GSt lb base I O w A gs) (hlb : lb < base) (v : Value) : GSt lb base I { O with a := v } (w.setCell ⟨lb, 2, none⟩ v) A gs := by
  obtain ⟨c, hk, ho⟩ := h
  exact ⟨c, by have := hk.set_ 2 v; simpa [lwc] using this, own_set ho (fun e => by have := (ho.lt _ e).1; simp at this; omega) v⟩
end
/-- the gates of the first loop, and their wires -/
def g1L (j : Nat) : List C3 := (List.range j).map fun (i : Nat) => ((2 : Int), (i : Int), (0 : Int))
def n1L (N j : Nat) : List Int := (List.range j).map fun (i : Nat) => (N : Int) + (i : Int)
theorem g1L_len (j : Nat) : (g1L j).length = j := by simp [g1L]
theorem g1L_add (j : Nat) : g1L (j + 1) = g1L j ++ [(2, (j : Int), 0)] := by simp [g1L, List.range_succ]
theorem n1L_add (N j : Nat) : il (n1L N (j + 1)) = il (n1L N j) ++ [.int .i64 ((N : Int) + (j : Int))] := by simp [n1L, il, List.range_succ]
/-- the wires and the gates of the tests of i positions -/
def tsF (I : Int) (nots : List Int) (b st : Nat) : Nat → List C3 → List (List Int) × List C3
  | 0, gs => ([], gs)
  | i + 1, gs => ((tsF I nots b st i gs).1 ++ [(coF (fun s g => teF I nots b i s g) st (tsF I nots b st i gs).2).1], (coF (fun s g => teF I nots b i s g) st (tsF I nots b st i gs).2).2)
/-- rows of wires as values -/
def rv (st : Nat) (bl : List Nat) : List Value := bl.map fun g => .slice (some ⟨g, 0, none⟩) st st
/-- the second loop's state -/
structure tsB (lb : Nat) (w2 : World) (N n b st cH cN : Nat) (AH AN : Option Addr) (AO : Option Addr) (cO W0 i : Nat) (AG : Option Addr) (cG : Nat) (A : Option Addr) (bl : List Nat) (m : Nat) (gs : List C3) (w : World) : Prop where
  gates : (tsF (N : Int) (n1L N N) b st i (g1L N)).2 = gs
  st_ : GSt lb (lb + 1) (N : Int) ⟨.slice none 0 0, .int .i64 (st : Int), .slice AH n cH, .slice AN m cN, .int .i64 (b : Int), .slice AO N cO, .slice AG i cG, .slice none 0 0⟩ w A gs
  nots : w.ownsRow (lb + 1) 3 1 (.slice AO N cO) N (il (n1L N N))
  tests : w.ownsRow (lb + 1) 32 1 (.slice AG i cG) i (rv st bl)
  rows : ∀ p, p < i → Blk w (bl.getD p 0) 3 (il ((tsF (N : Int) (n1L N N) b st i (g1L N)).1.getD p [])).toArray ∧ W0 ≤ bl.getD p 0
  low : Below lb w2 w
  size : W0 ≤ w.heap.size
end Go.Proofs.Ytpkhioiabahhaaa
