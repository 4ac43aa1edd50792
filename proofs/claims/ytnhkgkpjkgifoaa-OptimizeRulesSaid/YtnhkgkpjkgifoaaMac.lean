/- The walk of hood.Right on any list. -/
/- A list of nodes that grows in a struct. -/
/- Rows that the call owns: appends, and a list of nodes that grows beside a struct that holds it. -/
/- Rule trees as values: what a list of nodes and a tree read as; valid trees. -/
/- The walks of possible, rightNode and Right at valid trees. -/
/- Arrays by value: the law of an index; tables of ten answers. -/
import Derived.Test.YtnhkgkpjkgifoaaMab
import Derived.Below
import Derived.BigQuiet
import Derived.Deep.AppendLies
import Derived.Deep.Draws
import Derived.Deep.QuietTactic
import Derived.IntWalk
import Derived.Laws.OwnMore
import Derived.Laws.Rows
import Derived.Lib.Hide
import Derived.LoopN
import Derived.OwnWalk
import Derived.StillTail
import Derived.StillTailTactics
import Derived.Test.YtnhkgkpjkgifoaaRows
import Derived.WalkKit
import Derived.Test.YtnhkgkpjkgifoaaMaa
import Derived.Deep.CutRange
import Derived.Shelf.Abstract
namespace Go.Proofs.Ytnhkgkpjkgifoaa
open Go.RowKit
/-- an offset -/
def ofs (p : P2) : Prop := -2 ≤ p.1 ∧ p.1 ≤ 2 ∧ -2 ≤ p.2 ∧ p.2 ≤ 2
instance (p : P2) : Decidable (ofs p) := by unfold ofs; exact inferInstance
end Go.Proofs.Ytnhkgkpjkgifoaa
namespace Go.Proofs.Ytnhkgkpjkgifoaa
open Go.RowKit
theorem Blk.three6 {w : World} {g : Nat} {t : TypeId} {a b c : Value} (h : Blk w g t #[a, b, c]) : w.cell? ⟨g, 0, none⟩ = some a ∧ w.cell? ⟨g, 1, none⟩ = some b ∧ w.cell? ⟨g, 2, none⟩ = some c ∧ w.frozen? ⟨g, 0, none⟩ = false ∧ w.frozen? ⟨g, 1, none⟩ = false ∧ w.frozen? ⟨g, 2, none⟩ = false ∧ g < w.heap.size :=
  ⟨by rw [h.cell]; rfl, by rw [h.cell]; rfl, by rw [h.cell]; rfl, h.frozen 0, h.frozen 1, h.frozen 2, h.lt⟩
end Go.Proofs.Ytnhkgkpjkgifoaa
namespace Go.Proofs.Ytnhkgkpjkgifoaa
open Go.RowKit
/-- what the call owns stays owned behind a store elsewhere -/
theorem own_set {w : World} {base k : Nat} {e : TypeId} {v : Value} {n : Nat} {xs : List Value} {p : Addr} (h : w.ownsRow base e k v n xs) (hp : v.ownBlock ≠ some p.block) (u : Value) : (w.setCell p u).ownsRow base e k v n xs := by
  refine ⟨h.1, ?_⟩
  rcases h.2 with hn | ⟨g, cap, cur, rfl, hb', hg, rest⟩
  · exact .inl hn
  · refine .inr ⟨g, cap, cur, rfl, hb', ?_, rest⟩
    have hne : g ≠ p.block := fun e => hp (by rw [e]; rfl)
    rw [Below.heap_setCell w p u g hne]; exact hg
section
variable {w w' : World} {G G' : Nat → Prop} {xs : List Value} {j : Nat} {lv : Nat → Int} {nx : Nat → List Int}
end
end Go.Proofs.Ytnhkgkpjkgifoaa
namespace Go.Proofs.Ytnhkgkpjkgifoaa
open Go.RowKit
/-- a list of nodes -/
def NR (w : World) (B : Nat) (A : Option Addr) (m : Nat) (lv : Nat → Int) (nx : Nat → List Int) : Prop :=
  0 < m → ∃ g o, A = some ⟨g, o, none⟩ ∧ g < B ∧ ∀ k, k < m → ∃ A' c', w.cell? ⟨g, o + k * 2, none⟩ = some (.int .i64 (lv k)) ∧ w.cell? ⟨g, o + k * 2 + 1, none⟩ = some (.slice A' (nx k).length c') ∧ Reads w B A' (nx k).length (il (nx k))
section
variable {w w' : World} {B B' m : Nat} {A : Option Addr} {lv : Nat → Int} {nx : Nat → List Int}
theorem NR.below (h : NR w B A m lv nx) (hb : Below B w w') : NR w' B A m lv nx := fun hn => by
  obtain ⟨g, o, e, hg, hc⟩ := h hn
  exact ⟨g, o, e, hg, fun k hk => by
    obtain ⟨A', c', h1, h2, h3⟩ := hc k hk
    exact ⟨A', c', (hb.cell (p := ⟨g, _, none⟩) hg).trans h1, (hb.cell (p := ⟨g, _, none⟩) hg).trans h2, h3.below hb⟩⟩
theorem NR.more (h : NR w B A m lv nx) (hB : B ≤ B') : NR w B' A m lv nx := fun hn => by
  obtain ⟨g, o, e, hg, hc⟩ := h hn
  exact ⟨g, o, e, Nat.lt_of_lt_of_le hg hB, fun k hk => by
    obtain ⟨A', c', h1, h2, h3⟩ := hc k hk
    exact ⟨A', c', h1, h2, h3.more hB⟩⟩
theorem NR.later (h : NR w w.heap.size A m lv nx) (hb : Below w.heap.size w w') : NR w' w'.heap.size A m lv nx := (h.below hb).more hb.size
end
/-- a rule tree -/
structure Tr where
  st : Int
  n : Nat
  f : Nat → P2
  m : Nat
  lv : Nat → Int
  nx : Nat → List Int
/-- what its lists read as -/
def TS (w : World) (AH AN : Option Addr) (T : Tr) : Prop := QReads w w.heap.size AH T.n T.f ∧ NR w w.heap.size AN T.m T.lv T.nx
theorem TS.later {w w' : World} {AH AN : Option Addr} {T : Tr} (h : TS w AH AN T) (hb : Below w.heap.size w w') : TS w' AH AN T := ⟨h.1.later hb, h.2.later hb⟩

/-- an element of a node with the index i and the level l -/
def El (st : Int) (lv : Nat → Int) (i : Nat) (l k : Int) : Prop := 0 ≤ k ∧ (l = 1 → k < st) ∧ (1 < l → k < (i : Int) ∧ lv k.toNat = l - 1)
/-- a node with the index i -/
def Nd (st : Int) (n : Nat) (lv : Nat → Int) (i : Nat) (l : Int) (e : List Int) : Prop := 1 ≤ l ∧ l ≤ (n : Int) ∧ (e.length : Int) = st ∧ ∀ s, s < e.length → El st lv i l (ig e s)
/-- a valid tree -/
structure Rt (T : Tr) : Prop where
  s1 : 2 ≤ T.st
  s2 : T.st ≤ 8
  hd : Hd T.f T.n
  m1 : 1 ≤ T.m
  m2 : T.m ≤ 4096
  nd : ∀ i, i < T.m → Nd T.st T.n T.lv i (T.lv i) (T.nx i)
  top : T.lv (T.m - 1) = (T.n : Int)
/-- a small tree -/
def Sm (T : Tr) : Prop := T.n ≤ 40 ∧ T.m ≤ 400 ∧ ∀ k, k < T.m → (T.nx k).length ≤ 20
/-- a bool came back; if it is true, S -/
def BoolThat (S : Prop) (w : World) (e : Ending) (w' : World) : Prop := ∃ q, e = .returned (.bool q) ∧ (q = true → S) ∧ Below w.heap.size w w'
theorem Blk.three {w : World} {g : Nat} {t : TypeId} {a b c : Value} (h : Blk w g t #[a, b, c]) : w.cell? ⟨g, 0, none⟩ = some a ∧ w.cell? ⟨g, 1, none⟩ = some b ∧ w.cell? ⟨g, 2, none⟩ = some c ∧ g < w.heap.size :=
  ⟨by rw [h.cell]; rfl, by rw [h.cell]; rfl, by rw [h.cell]; rfl, h.lt⟩

/-- a state -/
def sta (s n : Int) : Bool := decide (0 ≤ n) && decide (n < s)
theorem sta_iff (s n : Int) : sta s n = true ↔ 0 ≤ n ∧ n < s := by simp [sta]
theorem isState_any (s n : Int) (w : World) : Calls Try.prog 30 #[.int .i64 s, .int .i64 n] w fun e w' => e = .returned (.bool (sta s n)) ∧ w = w' := by
  by_cases h : 0 ≤ n
  · rw [sta, decide_eq_true h]
    go_enter Try.func30, Try.ntmps30
    go_wp2
    go_ret
    exact ⟨ret_bool (by simp), rfl⟩
  · rw [sta, decide_eq_false h]
    go_enter Try.func30, Try.ntmps30
    go_wp2
    go_ret
    exact ⟨rfl, rfl⟩
/-- all are states -/
def als (s : Int) (l : List Int) : Bool := (List.range l.length).all fun i => sta s (ig l i)
theorem als_iff (s : Int) (l : List Int) : als s l = true ↔ ∀ i, i < l.length → 0 ≤ ig l i ∧ ig l i < s := by
  simp only [als, List.all_eq_true, List.mem_range, sta_iff]
end Go.Proofs.Ytnhkgkpjkgifoaa
namespace Go.Proofs.Ytnhkgkpjkgifoaa
open Go.RowKit
theorem possible_yes (st : Int) (AH : Option Addr) (n cH : Nat) (f : Nat → P2) (w : World) (h : QReads w w.heap.size AH n f) (hd : Hd f n) (s1 : 2 ≤ st) (s2 : st ≤ 8) :
    Calls Try.prog 55 #[.int .i64 st, .slice AH n cH] w fun e w' => e = .returned (.bool true) ∧ Below w.heap.size w w' := by
  have HR := Lib.hid (hright_any AH n cH f w h hd)
  clear h hd
  go_enter Try.func55, Try.ntmps55
  go_wp2_with (go_at_call 95; (with_reducible refine HR.out.mono ?_); rintro e w1 ⟨rfl, hb⟩; have B1 := Lib.hid hb; clear hb)
  go_ret
  exact ⟨rfl, B1.out⟩
set_option maxRecDepth 100000 in
set_option maxHeartbeats 4000000 in
theorem rightNode_yes (AH : Option Addr) (cH : Nat) (AN : Option Addr) (cN : Nat) (T : Tr) (i : Nat) (w : World) (h : NR w w.heap.size AN T.m T.lv T.nx) (ht : Rt T) (hi : i < T.m) :
    Calls Try.prog 56 #[.agg #[.int .i64 T.st, .slice AH T.n cH, .slice AN T.m cN], .int .i64 (i : Int)] w fun e w' => e = .returned (.bool true) ∧ Below w.heap.size w w' := by
  obtain ⟨b1, b2, b3, b4⟩ := ht.nd i hi
  have s1 := ht.s1
  have s2 := ht.s2
  have m2 := ht.m2
  have n2 := ht.hd.1.2
  clear ht
  obtain ⟨st, n, f, m, lv, nx⟩ := T
  simp only at *
  obtain ⟨S, rfl⟩ : ∃ S : Nat, st = (S : Int) := ⟨st.toNat, by omega⟩
  have K1 := Blk.new w 25 #[.int .i64 (S : Int), .slice AH n cH, .slice AN m cN]
  have B1 : Below w.heap.size w (w.alloc (.cells #[.int .i64 (S : Int), .slice AH n cH, .slice AN m cN] 25)) := (Below.refl _ _).alloc (Nat.le_refl _) _
  obtain ⟨g1, o1, rfl, hb1, hc⟩ := h.below B1 (by omega)
  obtain ⟨A', c', h1, h2, hr⟩ := hc i hi
  have hE : (nx i).length = S := by omega
  rw [hE] at h2 hr b4
  clear h b3 hE
  have HC := Lib.hid (fun k (hk : k < m) => (hc k hk))
  have HE := Lib.hid b4
  clear hc b4
  generalize nx i = X at hr HE
  generalize lv i = l at h1 HE b1 b2
  have f1 : decide (l < 1) = false := by rw [decide_eq_false_iff_not]; omega
  have f2 : decide ((n : Int) < l) = false := by rw [decide_eq_false_iff_not]; omega
  have f3 : ((S : Int) != (S : Int)) = false := by rw [bne_eq_false_iff_eq]
  have IS := Lib.hid (fun k w => isState_any (S : Int) k w)
  have hz : (w.alloc (.cells #[.int .i64 (S : Int), .slice AH n cH, .slice (some ⟨g1, o1, none⟩) m cN] 25)).heap.size = w.heap.size + 1 := by simp
  go_enter Try.func56, Try.ntmps56
  go_wp2_with fail
  generalize w.alloc (.cells #[.int .i64 (S : Int), .slice AH n cH, .slice (some ⟨g1, o1, none⟩) m cN] 25) = w0 at *
  obtain ⟨a0, a1, a2, a3⟩ := K1.three
  have hg1 : g1 < w0.heap.size := Nat.lt_of_lt_of_le hb1 B1.size
  have BY := (Below.refl w0.heap.size w0).alloc (Nat.le_refl _) (.cells #[.int .i64 l, .slice A' S c'] 54)
  have K7 := (Blk.new w0 54 #[.int .i64 l, .slice A' S c'])
  rw [hz] at K7
  have K7 := Lib.hid K7
  clear hz
  have K5 := Lib.hid (K1.alloc (.cells #[.int .i64 l, .slice A' S c'] 54))
  have RX := Lib.hid (hr.below (BY.mono B1.size))
  have B7 := Lib.hid (B1.trans (BY.mono B1.size))
  have BY := Lib.hid BY
  clear hr
  go_upto_region 2 with (fail)
  generalize w0.alloc (.cells #[.int .i64 l, .slice A' S c'] 54) = w7 at *
  clear a0 a1 a2 a3 h1 h2
  obtain ⟨a0, a1, a2, a3⟩ := K5.out.three
  obtain ⟨k0, k1, k2, k3, k4⟩ := K7.out.two
  go_wp2
  go_loopw [35] (fun iv wr => ∃ s : Nat, s ≤ S ∧ iv = .int .i64 (s : Int) ∧ Below w7.heap.size w7 wr) (fun iv _ => S - (intOf iv).toNat)
  case atStart => exact ⟨0, Nat.zero_le _, rfl, Below.refl _ _⟩
  case round =>
    obtain ⟨s, hs, rfl, hbel⟩ := hrel
    have K8 := Lib.hid (K7.out.below hbel K7.out.lt)
    have K9 := Lib.hid (K5.out.below hbel K5.out.lt)
    have B8 := Lib.hid (B7.out.trans (hbel.mono B7.out.size))
    have BZ := Lib.hid hbel
    clear a0 a1 a2 a3 k0 k1 k2 k3 k4 hbel
    obtain ⟨a0, a1, a2, a3⟩ := K9.out.three
    obtain ⟨k0, k1, k2, k3, k4⟩ := K8.out.two
    by_cases hsl : s < S
    · obtain ⟨ad, rfl, hb, hx⟩ := il_at (RX.out.below (BZ.out.mono B7.out.size)) hsl
      obtain ⟨p0, e1, e2⟩ := HE.out s hsl
      generalize ig X s = k at hx p0 e1 e2
      have I := IS.out k
      by_cases p1 : l = 1
      · have p2 := e1 p1
        rw [show sta (S : Int) k = true from (sta_iff _ _).2 ⟨p0, p2⟩] at I
        have I := Lib.hid I
        subst p1
        have q1 : decide ((1 : Int) < 1) = false := by decide
        clear e1 e2
        go_upto_region 9 with (go_at_call 30; (with_reducible refine (I.out _).mono ?_); rintro e w' ⟨rfl, rfl⟩)
        go_quiet (fail)
        go_wp2
        go_roundw
        case rel => exact ⟨s + 1, by omega, by go_num, below_drewN BZ.out _⟩
        case measure => simp [intOf]; omega
      · have q0 : (l == 1) = false := by rw [beq_eq_false_iff_ne]; exact p1
        have q1 : decide (1 < l) = true := by rw [decide_eq_true_iff]; omega
        obtain ⟨p2, p3⟩ := e2 (by omega)
        obtain ⟨kn, rfl⟩ : ∃ kn : Nat, k = (kn : Int) := ⟨k.toNat, by omega⟩
        rw [Int.toNat_natCast] at p3
        have hkm : kn < m := by omega
        have q0n : decide ((kn : Int) < 0) = false := by rw [decide_eq_false_iff_not]; omega
        have q2 : decide ((i : Int) ≤ (kn : Int)) = false := by rw [decide_eq_false_iff_not]; omega
        have q2n : decide (i ≤ kn) = false := by rw [decide_eq_false_iff_not]; omega
        obtain ⟨A2, c2, y1, -, -⟩ := HC.out kn hkm
        have y2 := (BZ.out.cell (p := ⟨g1, o1 + kn * 2, none⟩) (Nat.lt_of_lt_of_le hg1 BY.out.size)).trans ((BY.out.cell (p := ⟨g1, o1 + kn * 2, none⟩) hg1).trans y1)
        rw [p3] at y2
        have hw : IntKind.i64.wrap (l - 1) = l - 1 := IntWalk.i64_in _ (by omega)
        have q3 : (l - 1 != l - 1) = false := by rw [bne_eq_false_iff_eq]
        clear y1 p3 e1 e2 I
        go_upto_region 9 with (fail)
        go_quiet (fail)
        go_wp2
        go_roundw
        case rel => exact ⟨s + 1, by omega, by go_num, below_drewN BZ.out _⟩
        case measure => simp [intOf]; omega
    · obtain rfl : s = S := by omega
      go_wp2
      go_ret
      exact ⟨rfl, B8.out⟩

set_option maxRecDepth 100000 in
set_option maxHeartbeats 4000000 in
theorem tright_yes (AH : Option Addr) (cH : Nat) (AN : Option Addr) (cN : Nat) (T : Tr) (w : World) (h : TS w AH AN T) (ht : Rt T) :
    Calls Try.prog 27 #[.agg #[.int .i64 T.st, .slice AH T.n cH, .slice AN T.m cN]] w fun e w' => e = .returned (.bool true) ∧ Below w.heap.size w w' := by
  have PO := Lib.hid (fun w' (hb : Below w.heap.size w w') => possible_yes T.st AH T.n cH T.f w' (h.1.later hb) ht.hd ht.s1 ht.s2)
  have ND := Lib.hid (fun w' (hb : Below w.heap.size w w') i hi => rightNode_yes AH cH AN cN T i w' (h.2.later hb) ht hi)
  have HN := Lib.hid (fun w' (hb : Below w.heap.size w w') => h.2.below hb)
  have m1 := ht.m1
  have m2 := ht.m2
  have TP := Lib.hid ht.top
  clear h ht
  obtain ⟨st, n, f, m, lv, nx⟩ := T
  simp only at *
  have K1 := Blk.new w 25 #[.int .i64 st, .slice AH n cH, .slice AN m cN]
  have B1 : Below w.heap.size w (w.alloc (.cells #[.int .i64 st, .slice AH n cH, .slice AN m cN] 25)) := (Below.refl _ _).alloc (Nat.le_refl _) _
  have d1 : decide ((m : Int) < 1) = false := by rw [decide_eq_false_iff_not]; omega
  have d2 : decide (4096 < (m : Int)) = false := by rw [decide_eq_false_iff_not]; omega
  go_enter Try.func27, Try.ntmps27
  go_wp2_with fail
  generalize w.alloc (.cells #[.int .i64 st, .slice AH n cH, .slice AN m cN] 25) = w0 at *
  obtain ⟨a0, a1, a2, a3⟩ := K1.three
  have K1 := Lib.hid K1
  have B1 := Lib.hid B1
  go_wp2_with (go_at_call 55; (with_reducible refine (PO.out _ B1.out).mono ?_); rintro e w1 ⟨rfl, hb⟩; have B2 := Lib.hid (B1.out.trans (hb.mono B1.out.size)); have K2 := Lib.hid (K1.out.below hb K1.out.lt); obtain ⟨b0, b1, b2, b3⟩ := K2.out.three; clear hb)
  go_loopw [25] (fun iv wr => ∃ j : Nat, j ≤ m ∧ iv = .int .i64 (j : Int) ∧ Below w1.heap.size w1 wr) (fun iv _ => m - (intOf iv).toNat)
  case atStart => exact ⟨0, Nat.zero_le _, rfl, Below.refl _ _⟩
  case round =>
    obtain ⟨j, hj, rfl, hbel⟩ := hrel
    have B4 := Lib.hid (B2.out.trans (hbel.mono B2.out.size))
    have K4 := Lib.hid (K2.out.below hbel K2.out.lt)
    have BX := Lib.hid hbel
    clear a0 a1 a2 a3 b0 b1 b2 b3 hbel
    obtain ⟨a0, a1, a2, a3⟩ := K4.out.three
    by_cases hlt : j < m
    · go_wp2_with (go_at_call 56; (with_reducible refine (ND.out _ B4.out _ hlt).mono ?_); rintro e w2 ⟨rfl, hb⟩; have B5 := Lib.hid (BX.out.trans (hb.mono BX.out.size)); clear hb)
      go_roundw
      case rel => exact ⟨j + 1, by omega, by go_num, B5.out⟩
      case measure => simp [intOf]; omega
    · obtain rfl : j = m := by omega
      obtain ⟨i, hi⟩ : ∃ i, j = i + 1 := ⟨j - 1, by omega⟩
      obtain ⟨g1, o1, rfl, hb1, hc⟩ := HN.out _ B4.out (by omega)
      obtain ⟨A', c', h1, -, -⟩ := hc i (by omega)
      have hw1 : IntKind.i64.wrap ((j : Int) - 1) = (i : Int) := by rw [show (j : Int) - 1 = (i : Int) by omega]; exact IntWalk.i64_in _ (by omega)
      have tp := TP.out
      rw [show j - 1 = i by omega] at tp
      rw [tp] at h1
      have hij : i < j := by omega
      clear hc hlt hi tp
      go_wp2_with fail
      go_quiet (fail)
      go_wp2
      go_ret
      exact ⟨rfl, below_drewN B4.out _⟩
end Go.Proofs.Ytnhkgkpjkgifoaa
namespace Go.Proofs.Ytnhkgkpjkgifoaa
open Go.RowKit
theorem Try.info_int : (Try.prog.info? 3).map (fun i => (i.zero, i.size, i.bytes)) = some (some (.int .i64 0), 1, 8) := by kernel_rfl

end Go.Proofs.Ytnhkgkpjkgifoaa
