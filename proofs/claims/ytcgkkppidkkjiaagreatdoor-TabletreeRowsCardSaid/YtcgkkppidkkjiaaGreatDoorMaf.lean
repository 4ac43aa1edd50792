/- The walks of point.Compare, said so: it draws, it lays blocks, and it turns nothing else. -/
/- Rule trees as values: what a list of nodes and a tree read as; valid trees. -/
/- The walks of follow and Eval at valid trees. -/
/- What the numbers of a list of nodes mean. -/
import Derived.Test.YtcgkkppidkkjiaaGreatDoorMaa
import Derived.Test.YtcgkkppidkkjiaaGreatDoorMab
import Derived.Below
import Derived.BigQuiet
import Derived.Deep.AppendLies
import Derived.Deep.Draws
import Derived.Deep.QuietTactic
import Derived.IntWalk
import Derived.Laws.OwnMore
import Derived.Laws.Rows
import Derived.Lib.Hide
import Derived.LoopN
import Derived.OwnWalk
import Derived.Shelf.SlLaysF0
import Derived.Sort.Grow
import Derived.StillTail
import Derived.StillTailTactics
import Derived.Test.YtcgkkppidkkjiaaGreatDoorRows
import Derived.WalkKit
import Derived.Test.YtcgkkppidkkjiaaGreatDoorMac
import Derived.Deep.CutRange
import Derived.Sort.Statements
namespace Go.Proofs.YtcgkkppidkkjiaaGreatDoor
open Go.RowKit
/-- w' is w some draws later, with some blocks laid behind it -/
def Grown (w w' : World) : Prop := ∃ q os, w' = Go.Sort.grow (w.drewN q) os
section
variable {w w1 w2 : World}
theorem Grown.refl (w : World) : Grown w w := ⟨0, #[], by rw [Go.Sort.grow_empty]; rfl⟩
theorem Grown.trans (h : Grown w w1) (h' : Grown w1 w2) : Grown w w2 := by
  obtain ⟨q, os, rfl⟩ := h
  obtain ⟨q', os', rfl⟩ := h'
  exact ⟨q + q', os ++ os', by show Go.Sort.grow (Go.Sort.grow ((w.drewN q).drewN q') os) os' = _; rw [Go.Sort.grow_grow, World.drewN_drewN]⟩
theorem Grown.alloc (h : Grown w w1) (o : Obj) : Grown w (w1.alloc o) := h.trans ⟨0, #[o], by rw [Go.Sort.alloc_eq_grow]; rfl⟩
theorem Grown.drew (h : Grown w w1) : Grown w w1.drew := h.trans ⟨1, #[], by rw [Go.Sort.grow_empty]; rfl⟩
theorem Grown.below (h : Grown w w1) : Below w.heap.size w w1 := by
  obtain ⟨q, os, rfl⟩ := h
  refine ⟨rfl, rfl, rfl, ?_, fun g hg => ?_⟩
  · rw [Go.Sort.size_grow]; exact Nat.le_add_right _ _
  · show ((w.drewN q).heap ++ os)[g]? = _
    rw [Array.getElem?_append_left (by exact hg)]
    rfl
end
/-- a world some draws and blocks behind w0 -/
structure GrW (w0 : World) where
  w : World
  grown : Grown w0 w
instance (w0 : World) : Inhabited (GrW w0) := ⟨⟨w0, Grown.refl w0⟩⟩
theorem GrW.of_call {P : Program} {w0 : World} (p : GrW w0) {f : FuncId} {args : Array Value} {v : Value} (h : Calls P f args p.w fun e w' => e = .returned v ∧ Grown p.w w') :
    Calls P f args p.w fun e w'' => e = .returned v ∧ ∃ q : GrW w0, w'' = q.w :=
  h.mono fun _ w' ⟨he, hb⟩ => ⟨he, ⟨w', p.grown.trans hb⟩, rfl⟩
theorem GrW.cell {w0 : World} {a : Addr} {v : Value} (hb : a.block < w0.heap.size) (h : w0.cell? a = some v) (p : GrW w0) : p.w.cell? a = some v := (p.grown.below.cell hb).trans h
theorem wp_region_grow_tail {P : Program} {id : Nat} {Q : Exit → Act → World → Prop} {a : Act} {w : World} {l : List Oper} (w0 : World) (n : Nat) (hm : P.follows .mixedOrders = true) (hB : Region.lexTailB .any l.toArray n = true) (h0 : Grown w0 w)
    (h : wpQuiet P l.toArray (fun w' => ∃ p : GrW w0, w' = p.w) (fun a' => ∀ w', (∃ p : GrW w0, w' = p.w) → wpList P l.toArray Q (l.drop n) a' w') (l.take n) a) : (Code.region id l.toArray true).wp P Q a w :=
  wp_region_quiet_tail (fun w' => ∃ p : GrW w0, w' = p.w) n hm hB ⟨⟨w.drew, h0.drew⟩, rfl⟩ h
theorem grown_quiet {P : Program} {f : FuncId} {args : Array Value} {w : World} {v : Value} (h : Calls P f args w fun e w' => e = .returned v ∧ w = w') : Calls P f args w fun e w' => e = .returned v ∧ Grown w w' :=
  h.mono fun _ _ ⟨he, hw⟩ => ⟨he, hw ▸ Grown.refl _⟩

set_option maxHeartbeats 1000000 in
theorem pcompare_grow (x y u v : Int) (w : World) :
    Calls Tryz.prog 65 #[.agg #[.int .i64 x, .int .i64 y], .agg #[.int .i64 u, .int .i64 v]] w fun e w' => e = .returned (.int .i64 (or2 (sg y v) (sg x u))) ∧ Grown w w' := by
  have K1 := (Blk.new w 58 #[.int .i64 x, .int .i64 y]).alloc (.cells #[.int .i64 u, .int .i64 v] 58)
  have K2 := Blk.new (w.alloc (.cells #[.int .i64 x, .int .i64 y] 58)) 58 #[.int .i64 u, .int .i64 v]
  rw [show (w.alloc (.cells #[.int .i64 x, .int .i64 y] 58)).heap.size = w.heap.size + 1 by simp] at K2
  have B2 : Grown w ((w.alloc (.cells #[.int .i64 x, .int .i64 y] 58)).alloc (.cells #[.int .i64 u, .int .i64 v] 58)) := ((Grown.refl _).alloc _).alloc _
  have C1 := Lib.hid cmp_any
  go_enter Tryz.func65, Tryz.ntmps65
  go_wp2_with fail
  generalize (w.alloc (.cells #[.int .i64 x, .int .i64 y] 58)).alloc (.cells #[.int .i64 u, .int .i64 v] 58) = w0 at K1 K2 B2 ⊢
  have k10 := fun p : GrW w0 => (K1.below p.grown.below K1.lt).two.1
  have k11 := fun p : GrW w0 => (K1.below p.grown.below K1.lt).two.2.1
  have k20 := fun p : GrW w0 => (K2.below p.grown.below K2.lt).two.1
  have k21 := fun p : GrW w0 => (K2.below p.grown.below K2.lt).two.2.1
  have B2 := Lib.hid B2
  clear K1 K2
  refine wp_region_grow_tail w0 10 (by kernel_rfl) (by kernel_rfl) (Grown.refl _) ?_
  simp only [List.take_succ_cons, List.take_zero, List.drop_succ_cons, List.drop_zero]
  repeat (quiet_step (first | (go_at_call 91; with_reducible exact GrW.of_call _ (grown_quiet (C1.out _ _ _)))))
  refine wpQuiet_nil ?_
  rintro w' ⟨p, rfl⟩
  have PB := Lib.hid p.grown
  clear k10 k11 k20 k21
  generalize p.w = w1 at PB ⊢
  go_wp2_with (go_at_call 90; refine (or_any _ _ _ 3 _ (Blk.new _ _ _)).mono ?_; rintro e w2 ⟨rfl, rfl⟩)
  go_ret
  exact ⟨rfl, (B2.out.trans PB.out).alloc _⟩

end Go.Proofs.YtcgkkppidkkjiaaGreatDoor
namespace Go.Proofs.YtcgkkppidkkjiaaGreatDoor
open Go.Shelf
def sortRen : Go.Shelf.Ren := ⟨fun | 14 => 138 | 20 => 140 | 21 => 141 | 22 => 142 | 23 => 143 | 24 => 144 | 25 => 145 | 26 => 146 | 27 => 147 | 46 => 148 | 47 => 133 | 48 => 134 | 49 => 149 | 50 => 150 | 57 => 151 | 15 => 104 | 28 => 125 | 29 => 126 | n => n, fun | 24 => 58 | 22 => 22 | 3 => 3 | 25 => 109 | 4 => 4 | 0 => 0 | 46 => 168 | 45 => 167 | 50 => 55 | 66 => 178 | 39 => 157 | 55 => 175 | 70 => 182 | 76 => 185 | 77 => 186 | 53 => 173 | 5 => 5 | 9 => 9 | n => n, fun n => n⟩
theorem sortLays : SlLaysF0.n14 Tryz.prog sortRen := {
  mixed := by kernel_rfl
  f14 := ⟨Tryz.f138.name, by decide, Tryz.func138.trans (congrArg some (by kernel_rfl))⟩
  f15 := Tryz.func104.trans (congrArg some (by kernel_rfl))
  f20 := ⟨Tryz.f140.name, by decide, Tryz.func140.trans (congrArg some (by kernel_rfl))⟩
  f21 := ⟨Tryz.f141.name, by decide, Tryz.func141.trans (congrArg some (by kernel_rfl))⟩
  f22 := ⟨Tryz.f142.name, by decide, Tryz.func142.trans (congrArg some (by kernel_rfl))⟩
  f23 := ⟨Tryz.f143.name, by decide, Tryz.func143.trans (congrArg some (by kernel_rfl))⟩
  f24 := ⟨Tryz.f144.name, by decide, Tryz.func144.trans (congrArg some (by kernel_rfl))⟩
  f25 := ⟨Tryz.f145.name, by decide, Tryz.func145.trans (congrArg some (by kernel_rfl))⟩
  f26 := ⟨Tryz.f146.name, by decide, Tryz.func146.trans (congrArg some (by kernel_rfl))⟩
  f27 := ⟨Tryz.f147.name, by decide, Tryz.func147.trans (congrArg some (by kernel_rfl))⟩
  f28 := Tryz.func125.trans (congrArg some (by kernel_rfl))
  f29 := Tryz.func126.trans (congrArg some (by kernel_rfl))
  f46 := ⟨Tryz.f148.name, by decide, Tryz.func148.trans (congrArg some (by kernel_rfl))⟩
  f47 := Tryz.func133.trans (congrArg some (by kernel_rfl))
  f48 := Tryz.func134.trans (congrArg some (by kernel_rfl))
  f49 := ⟨Tryz.f149.name, by decide, Tryz.func149.trans (congrArg some (by kernel_rfl))⟩
  f50 := ⟨Tryz.f150.name, by decide, Tryz.func150.trans (congrArg some (by kernel_rfl))⟩
  f57 := ⟨Tryz.f151.name, by decide, Tryz.func151.trans (congrArg some (by kernel_rfl))⟩
  t0 := Tryz.underlying0
  a0 := Tryz.isAgg0
  z0 := Tryz.sizeOf0
  v0 := Tryz.zeroValue0
  t3 := Tryz.underlying3
  a3 := Tryz.isAgg3
  z3 := Tryz.sizeOf3
  v3 := Tryz.zeroValue3
  t4 := Tryz.underlying4
  a4 := Tryz.isAgg4
  z4 := Tryz.sizeOf4
  v4 := Tryz.zeroValue4
  t5 := Tryz.underlying5
  a5 := Tryz.isAgg5
  z5 := Tryz.sizeOf5
  v5 := Tryz.zeroValue5
  t9 := Tryz.underlying9
  a9 := Tryz.isAgg9
  z9 := Tryz.sizeOf9
  v9 := Tryz.zeroValue9
  t22 := Tryz.underlying22
  a22 := Tryz.isAgg22
  z22 := Tryz.sizeOf22
  v22 := Tryz.zeroValue22
  t25 := Tryz.underlying109
  a25 := Tryz.isAgg109
  z25 := Tryz.sizeOf109
  v25 := Tryz.zeroValue109
  t39 := Tryz.underlying157
  a39 := Tryz.isAgg157
  z39 := Tryz.sizeOf157
  v39 := Tryz.zeroValue157
  t45 := Tryz.underlying167
  a45 := Tryz.isAgg167
  z45 := Tryz.sizeOf167
  v45 := Tryz.zeroValue167
  t46 := Tryz.underlying168
  a46 := Tryz.isAgg168
  z46 := Tryz.sizeOf168
  v46 := Tryz.zeroValue168
  t50 := Tryz.underlying55
  a50 := Tryz.isAgg55
  z50 := Tryz.sizeOf55
  v50 := Tryz.zeroValue55
  t53 := Tryz.underlying173
  a53 := Tryz.isAgg173
  z53 := Tryz.sizeOf173
  v53 := Tryz.zeroValue173
  t55 := Tryz.underlying175
  a55 := Tryz.isAgg175
  z55 := Tryz.sizeOf175
  v55 := Tryz.zeroValue175
  t66 := Tryz.underlying178
  a66 := Tryz.isAgg178
  z66 := Tryz.sizeOf178
  v66 := Tryz.zeroValue178
  t70 := Tryz.underlying182
  a70 := Tryz.isAgg182
  z70 := Tryz.sizeOf182
  v70 := Tryz.zeroValue182
  t76 := Tryz.underlying185
  a76 := Tryz.isAgg185
  z76 := Tryz.sizeOf185
  v76 := Tryz.zeroValue185
  t77 := Tryz.underlying186
  a77 := Tryz.isAgg186
  z77 := Tryz.sizeOf186
  v77 := Tryz.zeroValue186 }
end Go.Proofs.YtcgkkppidkkjiaaGreatDoor
namespace Go.Proofs.YtcgkkppidkkjiaaGreatDoor
open Go.RowKit
/-- a list of nodes -/
def NR (w : World) (B : Nat) (A : Option Addr) (m : Nat) (lv : Nat → Int) (nx : Nat → List Int) : Prop :=
  0 < m → ∃ g o, A = some ⟨g, o, none⟩ ∧ g < B ∧ ∀ k, k < m → ∃ A' c', w.cell? ⟨g, o + k * 2, none⟩ = some (.int .i64 (lv k)) ∧ w.cell? ⟨g, o + k * 2 + 1, none⟩ = some (.slice A' (nx k).length c') ∧ Reads w B A' (nx k).length (il (nx k))
section
variable {w w' : World} {B B' m : Nat} {A : Option Addr} {lv : Nat → Int} {nx : Nat → List Int}
theorem NR.below (h : NR w B A m lv nx) (hb : Below B w w') : NR w' B A m lv nx := fun hn => by
  obtain ⟨g, o, e, hg, hc⟩ := h hn
  exact ⟨g, o, e, hg, fun k hk => by
    obtain ⟨A', c', h1, h2, h3⟩ := hc k hk
    exact ⟨A', c', (hb.cell (p := ⟨g, _, none⟩) hg).trans h1, (hb.cell (p := ⟨g, _, none⟩) hg).trans h2, h3.below hb⟩⟩
theorem NR.more (h : NR w B A m lv nx) (hB : B ≤ B') : NR w B' A m lv nx := fun hn => by
  obtain ⟨g, o, e, hg, hc⟩ := h hn
  exact ⟨g, o, e, Nat.lt_of_lt_of_le hg hB, fun k hk => by
    obtain ⟨A', c', h1, h2, h3⟩ := hc k hk
    exact ⟨A', c', h1, h2, h3.more hB⟩⟩
theorem NR.later (h : NR w w.heap.size A m lv nx) (hb : Below w.heap.size w w') : NR w' w'.heap.size A m lv nx := (h.below hb).more hb.size
end
/-- a rule tree -/
structure Tr where
  st : Int
  n : Nat
  f : Nat → P2
  m : Nat
  lv : Nat → Int
  nx : Nat → List Int
/-- what its lists read as -/
def TS (w : World) (AH AN : Option Addr) (T : Tr) : Prop := QReads w w.heap.size AH T.n T.f ∧ NR w w.heap.size AN T.m T.lv T.nx
theorem TS.later {w w' : World} {AH AN : Option Addr} {T : Tr} (h : TS w AH AN T) (hb : Below w.heap.size w w') : TS w' AH AN T := ⟨h.1.later hb, h.2.later hb⟩

/-- an element of a node with the index i and the level l -/
def El (st : Int) (lv : Nat → Int) (i : Nat) (l k : Int) : Prop := 0 ≤ k ∧ (l = 1 → k < st) ∧ (1 < l → k < (i : Int) ∧ lv k.toNat = l - 1)
/-- a node with the index i -/
def Nd (st : Int) (n : Nat) (lv : Nat → Int) (i : Nat) (l : Int) (e : List Int) : Prop := 1 ≤ l ∧ l ≤ (n : Int) ∧ (e.length : Int) = st ∧ ∀ s, s < e.length → El st lv i l (ig e s)
/-- a valid tree -/
structure Rtt (T : Tr) : Prop where
  s1 : 2 ≤ T.st
  s2 : T.st ≤ 8
  hd : Hd T.f T.n
  m1 : 1 ≤ T.m
  m2 : T.m ≤ 4096
  nd : ∀ i, i < T.m → Nd T.st T.n T.lv i (T.lv i) (T.nx i)
  top : T.lv (T.m - 1) = (T.n : Int)
theorem Blk.three {w : World} {g : Nat} {t : TypeId} {a b c : Value} (h : Blk w g t #[a, b, c]) : w.cell? ⟨g, 0, none⟩ = some a ∧ w.cell? ⟨g, 1, none⟩ = some b ∧ w.cell? ⟨g, 2, none⟩ = some c ∧ g < w.heap.size :=
  ⟨by rw [h.cell]; rfl, by rw [h.cell]; rfl, by rw [h.cell]; rfl, h.lt⟩

end Go.Proofs.YtcgkkppidkkjiaaGreatDoor
namespace Go.Proofs.YtcgkkppidkkjiaaGreatDoor
open Go.RowKit
/-- the value to which states lead from an index -/
def fo (nx : Nat → List Int) : Int → List Int → Int
  | k, [] => k
  | k, s :: r => fo nx (ig (nx k.toNat) s.toNat) r
theorem fo_step (nx : Nat → List Int) (k : Int) {l : List Int} {j : Nat} (hj : j < l.length) : fo nx k (l.drop j) = fo nx (ig (nx k.toNat) (ig l j).toNat) (l.drop (j + 1)) := by
  rw [List.drop_eq_getElem_cons hj, fo]
  congr 1
  simp [ig, hj]

section
variable (AH : Option Addr) (cH : Nat) (AN : Option Addr) (cN : Nat) (T : Tr) (AI : Option Addr) (cI : Nat) (l : List Int) (w : World)
/-- what Eval answers, where V is the value to which the states lead -/
def ev (st : Int) (n : Nat) (l : List Int) (V : Int) : Int × Int := if l.length = n then (if als st l = true then (V, 0) else (0, 10)) else (0, 2)
end
end Go.Proofs.YtcgkkppidkkjiaaGreatDoor
namespace Go.Proofs.YtcgkkppidkkjiaaGreatDoor
open Go.RowKit
/-- level, elements of a node by its index -/
def lvO (out : List (Int × List Int)) (k : Nat) : Int := (out.getD k (0, [])).1
def nxO (out : List (Int × List Int)) (k : Nat) : List Int := (out.getD k (0, [])).2
theorem lvO_app {out : List (Int × List Int)} {e : Int × List Int} {k : Nat} (h : k < out.length) : lvO (out ++ [e]) k = lvO out k := by
  simp [lvO, List.getD_eq_getElem?_getD, List.getElem?_append_left h]
theorem nxO_app {out : List (Int × List Int)} {e : Int × List Int} {k : Nat} (h : k < out.length) : nxO (out ++ [e]) k = nxO out k := by
  simp [nxO, List.getD_eq_getElem?_getD, List.getElem?_append_left h]
theorem lvO_new (out : List (Int × List Int)) (e : Int × List Int) : lvO (out ++ [e]) out.length = e.1 := by simp [lvO]
theorem nxO_new (out : List (Int × List Int)) (e : Int × List Int) : nxO (out ++ [e]) out.length = e.2 := by simp [nxO]
/-- valid nodes -/
def Gd (S L : Nat) (out : List (Int × List Int)) : Prop := ∀ i, i < out.length → Nd (S : Int) L (lvO out) i (lvO out i) (nxO out i)
/-- a number of a level -/
def Lvl (S : Nat) (out : List (Int × List Int)) (l : Nat) (r : Int) : Prop := 0 ≤ r ∧ (l = 0 → r < S) ∧ (0 < l → r < out.length ∧ lvO out r.toNat = l)
/-- a number of a level that leads to what a function says -/
def Mn (S : Nat) (out : List (Int × List Int)) (l : Nat) (f : List Int → Int) (r : Int) : Prop := Lvl S out l r ∧ ∀ p, p.length = l → Sts S p → fo (nxO out) r p = f p
theorem Lvl.app {S : Nat} {out : List (Int × List Int)} {e : Int × List Int} {l : Nat} {r : Int} (h : Lvl S out l r) : Lvl S (out ++ [e]) l r :=
  ⟨h.1, h.2.1, fun h0 => by
    have h1 := h.1
    obtain ⟨h2, h3⟩ := h.2.2 h0
    refine ⟨by rw [List.length_append, List.length_singleton]; omega, ?_⟩
    rw [lvO_app (by omega)]; exact h3⟩
/-- the element of a node is of the level below -/
theorem Lvl.down {S L : Nat} {out : List (Int × List Int)} {l : Nat} {r : Int} (hg : Gd S L out) (h : Lvl S out (l + 1) r) {s : Int} (h0 : 0 ≤ s) (h1 : s < S) : Lvl S out l (ig (nxO out r.toNat) s.toNat) := by
  have hr := h.1
  obtain ⟨h2, h3⟩ := h.2.2 (by omega)
  obtain ⟨n1, n2, n3, n4⟩ := hg r.toNat (by omega)
  obtain ⟨e1, e2, e3⟩ := n4 s.toNat (by omega)
  rw [h3] at e2 e3
  refine ⟨e1, fun hl => e2 (by omega), fun hl => ?_⟩
  obtain ⟨e4, e5⟩ := e3 (by omega)
  exact ⟨by omega, by rw [e5]; omega⟩
theorem fo_app {S L : Nat} {out : List (Int × List Int)} {e : Int × List Int} (hg : Gd S L out) : ∀ (p : List Int) (r : Int), Lvl S out p.length r → Sts S p → fo (nxO (out ++ [e])) r p = fo (nxO out) r p
  | [], _, _, _ => rfl
  | s :: q, r, h, hs => by
    have hr := h.1
    obtain ⟨h2, h3⟩ := h.2.2 (by simp)
    have hs1 := hs s (by simp)
    rw [fo, fo, nxO_app (by omega)]
    exact fo_app hg q _ (Lvl.down hg h hs1.1 hs1.2) (fun x hx => hs x (by simp [hx]))
theorem Mn.app {S L : Nat} {out : List (Int × List Int)} {e : Int × List Int} {l : Nat} {f : List Int → Int} {r : Int} (hg : Gd S L out) (h : Mn S out l f r) : Mn S (out ++ [e]) l f r :=
  ⟨h.1.app, fun p hp hs => by rw [fo_app hg p r (by rw [hp]; exact h.1) hs]; exact h.2 p hp hs⟩
theorem Gd.push {S L l : Nat} {out : List (Int × List Int)} {ys : List Int} (hg : Gd S L out) (hl : l + 1 ≤ L) (hy : ys.length = S) (h : ∀ s, s < S → Lvl S out l (ig ys s)) : Gd S L (out ++ [(((l + 1 : Nat) : Int), ys)]) := by
  intro i hi
  rw [List.length_append, List.length_singleton] at hi
  by_cases hlt : i < out.length
  · obtain ⟨n1, n2, n3, n4⟩ := hg i hlt
    rw [lvO_app hlt, nxO_app hlt]
    refine ⟨n1, n2, n3, fun s hs => ?_⟩
    obtain ⟨e1, e2, e3⟩ := n4 s hs
    refine ⟨e1, e2, fun h1 => ?_⟩
    obtain ⟨e4, e5⟩ := e3 h1
    exact ⟨e4, by rw [lvO_app (by omega)]; exact e5⟩
  · obtain rfl : i = out.length := by omega
    rw [lvO_new, nxO_new]
    refine ⟨by simp only; omega, by simp only; omega, by simp only; omega, fun s hs => ?_⟩
    simp only at hs ⊢
    obtain ⟨e1, e2, e3⟩ := h s (by omega)
    refine ⟨e1, fun h1 => e2 (by omega), fun h1 => ?_⟩
    obtain ⟨e4, e5⟩ := e3 (by omega)
    exact ⟨e4, by rw [lvO_app (by omega), e5]; omega⟩
theorem Mn.push {S L l : Nat} {out : List (Int × List Int)} {ys : List Int} {f : List Int → Int} (hg : Gd S L out) (hl : l + 1 ≤ L) (hy : ys.length = S) (h : ∀ s, s < S → Mn S out l (fun p => f ((s : Int) :: p)) (ig ys s)) :
    Mn S (out ++ [(((l + 1 : Nat) : Int), ys)]) (l + 1) f (out.length : Int) := by
  refine ⟨⟨by omega, by omega, fun _ => ⟨by rw [List.length_append, List.length_singleton]; omega, by rw [Int.toNat_natCast, lvO_new]⟩⟩, fun p hp hs => ?_⟩
  cases p with
  | nil => simp at hp
  | cons s q =>
    have hs1 := hs s (by simp)
    obtain ⟨n, rfl⟩ : ∃ n : Nat, s = (n : Int) := ⟨s.toNat, by omega⟩
    rw [fo, Int.toNat_natCast, nxO_new, Int.toNat_natCast]
    have hn : n < S := by omega
    have hq : q.length = l := by simpa using hp
    have hsq : Sts S q := fun x hx => hs x (by simp [hx])
    rw [fo_app hg q _ (by rw [hq]; exact (h n hn).1) hsq]
    exact (h n hn).2 q hq hsq
/-- one list of nodes is the beginning of another -/
def Pre (a b : List (Int × List Int)) : Prop := ∃ c, b = a ++ c
theorem Mn.pre {S L : Nat} {a b : List (Int × List Int)} {l : Nat} {f : List Int → Int} {r : Int} (hb : Gd S L b) (hp : Pre a b) (hga : Gd S L a) (h : Mn S a l f r) : Mn S b l f r := by
  obtain ⟨c, rfl⟩ := hp
  induction c generalizing a with
  | nil => simpa using h
  | cons e c ih =>
    have e1 : a ++ e :: c = (a ++ [e]) ++ c := by simp
    rw [e1] at hb ⊢
    refine ih (a := a ++ [e]) ?_ (h.app hga) hb
    intro i hi
    have hi2 : i < (a ++ [e] ++ c).length := by rw [List.length_append]; omega
    obtain ⟨n1, n2, n3, n4⟩ := hb i hi2
    have e2 : ∀ k, k < (a ++ [e]).length → lvO (a ++ [e] ++ c) k = lvO (a ++ [e]) k ∧ nxO (a ++ [e] ++ c) k = nxO (a ++ [e]) k := fun k hk => by
      simp only [lvO, nxO, List.getD_eq_getElem?_getD, List.getElem?_append_left hk, and_self]
    rw [(e2 i hi).1] at n1 n2 n4
    rw [(e2 i hi).2] at n3 n4
    refine ⟨n1, n2, n3, fun s hs => ?_⟩
    obtain ⟨q1, q2, q3⟩ := n4 s hs
    refine ⟨q1, q2, fun h1 => ?_⟩
    obtain ⟨q4, q5⟩ := q3 h1
    exact ⟨q4, by rw [← (e2 _ (by omega)).1]; exact q5⟩
end Go.Proofs.YtcgkkppidkkjiaaGreatDoor
