/- Rule trees as values: what a list of nodes and a tree read as; valid trees. -/
import Derived.Test.YtaicehkphokacaaMad
import Derived.Test.YtaicehkphokacaaMae
import Derived.Test.YtaicehkphokacaaMaa
import Derived.Test.YtaicehkphokacaaMag
import Derived.Test.YtaicehkphokacaaMab
import Derived.Below
import Derived.BigQuiet
import Derived.Deep.AppendLies
import Derived.Deep.CutRange
import Derived.Deep.Draws
import Derived.Deep.QuietTactic
import Derived.IntWalk
import Derived.Laws.OwnMore
import Derived.Laws.Rows
import Derived.Lib.Hide
import Derived.LoopN
import Derived.OwnWalk
import Derived.StillTail
import Derived.StillTailTactics
import Derived.Test.YtaicehkphokacaaRows
import Derived.WalkKit
namespace Go.Proofs.Ytaicehkphokacaa
open Go.RowKit
/-- a list of nodes -/
def NR (w : World) (B : Nat) (A : Option Addr) (m : Nat) (lv : Nat → Int) (nx : Nat → List Int) : Prop :=
  0 < m → ∃ g o, A = some ⟨g, o, none⟩ ∧ g < B ∧ ∀ k, k < m → ∃ A' c', w.cell? ⟨g, o + k * 2, none⟩ = some (.int .i64 (lv k)) ∧ w.cell? ⟨g, o + k * 2 + 1, none⟩ = some (.slice A' (nx k).length c') ∧ Reads w B A' (nx k).length (il (nx k))
section
variable {w w' : World} {B B' m : Nat} {A : Option Addr} {lv : Nat → Int} {nx : Nat → List Int}
theorem NR.below (h : NR w B A m lv nx) (hb : Below B w w') : NR w' B A m lv nx := fun hn => by
  obtain ⟨g, o, e, hg, hc⟩ := h hn
  exact ⟨g, o, e, hg, fun k hk => by
    obtain ⟨A', c', h1, h2, h3⟩ := hc k hk
    exact ⟨A', c', (hb.cell (p := ⟨g, _, none⟩) hg).trans h1, (hb.cell (p := ⟨g, _, none⟩) hg).trans h2, h3.below hb⟩⟩
theorem NR.more (h : NR w B A m lv nx) (hB : B ≤ B') : NR w B' A m lv nx := fun hn => by
  obtain ⟨g, o, e, hg, hc⟩ := h hn
  exact ⟨g, o, e, Nat.lt_of_lt_of_le hg hB, fun k hk => by
    obtain ⟨A', c', h1, h2, h3⟩ := hc k hk
    exact ⟨A', c', h1, h2, h3.more hB⟩⟩
theorem NR.later (h : NR w w.heap.size A m lv nx) (hb : Below w.heap.size w w') : NR w' w'.heap.size A m lv nx := (h.below hb).more hb.size
end
/-- a rule tree -/
structure Tr where
  st : Int
  n : Nat
  f : Nat → P2
  m : Nat
  lv : Nat → Int
  nx : Nat → List Int
/-- what its lists read as -/
def TS (w : World) (AH AN : Option Addr) (T : Tr) : Prop := QReads w w.heap.size AH T.n T.f ∧ NR w w.heap.size AN T.m T.lv T.nx
theorem TS.later {w w' : World} {AH AN : Option Addr} {T : Tr} (h : TS w AH AN T) (hb : Below w.heap.size w w') : TS w' AH AN T := ⟨h.1.later hb, h.2.later hb⟩

/-- an element of a node with the index i and the level l -/
def El (st : Int) (lv : Nat → Int) (i : Nat) (l k : Int) : Prop := 0 ≤ k ∧ (l = 1 → k < st) ∧ (1 < l → k < (i : Int) ∧ lv k.toNat = l - 1)
/-- a node with the index i -/
def Nd (st : Int) (n : Nat) (lv : Nat → Int) (i : Nat) (l : Int) (e : List Int) : Prop := 1 ≤ l ∧ l ≤ (n : Int) ∧ (e.length : Int) = st ∧ ∀ s, s < e.length → El st lv i l (ig e s)
/-- a valid tree -/
structure Rt (T : Tr) : Prop where
  s1 : 2 ≤ T.st
  s2 : T.st ≤ 8
  hd : Hd T.f T.n
  m1 : 1 ≤ T.m
  m2 : T.m ≤ 4096
  nd : ∀ i, i < T.m → Nd T.st T.n T.lv i (T.lv i) (T.nx i)
  top : T.lv (T.m - 1) = (T.n : Int)
/-- a small tree -/
def Sm (T : Tr) : Prop := T.n ≤ 40 ∧ T.m ≤ 400 ∧ ∀ k, k < T.m → (T.nx k).length ≤ 20
/-- a bool came back; if it is true, S -/
def BoolThat (S : Prop) (w : World) (e : Ending) (w' : World) : Prop := ∃ q, e = .returned (.bool q) ∧ (q = true → S) ∧ Below w.heap.size w w'
theorem Blk.three {w : World} {g : Nat} {t : TypeId} {a b c : Value} (h : Blk w g t #[a, b, c]) : w.cell? ⟨g, 0, none⟩ = some a ∧ w.cell? ⟨g, 1, none⟩ = some b ∧ w.cell? ⟨g, 2, none⟩ = some c ∧ g < w.heap.size :=
  ⟨by rw [h.cell]; rfl, by rw [h.cell]; rfl, by rw [h.cell]; rfl, h.lt⟩

/-- a state -/
def sta (s n : Int) : Bool := decide (0 ≤ n) && decide (n < s)
theorem sta_iff (s n : Int) : sta s n = true ↔ 0 ≤ n ∧ n < s := by simp [sta]
theorem isState_any (s n : Int) (w : World) : Calls Try.prog 68 #[.int .i64 s, .int .i64 n] w fun e w' => e = .returned (.bool (sta s n)) ∧ w = w' := by
  by_cases h : 0 ≤ n
  · rw [sta, decide_eq_true h]
    go_enter Try.func68, Try.ntmps68
    go_wp2
    go_ret
    exact ⟨ret_bool (by simp), rfl⟩
  · rw [sta, decide_eq_false h]
    go_enter Try.func68, Try.ntmps68
    go_wp2
    go_ret
    exact ⟨rfl, rfl⟩
/-- all are states -/
def als (s : Int) (l : List Int) : Bool := (List.range l.length).all fun i => sta s (ig l i)
theorem als_iff (s : Int) (l : List Int) : als s l = true ↔ ∀ i, i < l.length → 0 ≤ ig l i ∧ ig l i < s := by
  simp only [als, List.all_eq_true, List.mem_range, sta_iff]
end Go.Proofs.Ytaicehkphokacaa
