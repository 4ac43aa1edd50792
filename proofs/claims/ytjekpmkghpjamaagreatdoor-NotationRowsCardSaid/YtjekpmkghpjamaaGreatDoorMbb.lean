/- The walks of offsets, letterOf and known: which of the usual neighbourhoods a list is. -/
/- Lists of positions as cells: what a row reads as. -/
/- The walks of slices.Clone, slices.Delete and slices.Insert at lists of numbers. -/
/- The walk of collect: the new states of all inputs, and the tree that they make. -/
/- What permuted computes, and its bounds. -/
/- The walk of slices.Clone, slices.Compact, point.Sort and image. -/
/- The walk of slices.Clone on numbers. -/
import Derived.Test.YtjekpmkghpjamaaGreatDoorMav
import Derived.Test.YtjekpmkghpjamaaGreatDoorMba
import Derived.Test.YtjekpmkghpjamaaGreatDoorMab
import Derived.Test.YtjekpmkghpjamaaGreatDoorMau
import Derived.Test.YtjekpmkghpjamaaGreatDoorMaa
import Derived.Test.YtjekpmkghpjamaaGreatDoorMaq
import Derived.Below
import Derived.BigQuiet
import Derived.Deep.AppendLies
import Derived.Deep.CutRange
import Derived.Deep.Draws
import Derived.Deep.QuietTactic
import Derived.IntWalk
import Derived.Laws.OwnMore
import Derived.Laws.Rows
import Derived.Lib.Hide
import Derived.Lib.Strings
import Derived.LoopN
import Derived.OwnWalk
import Derived.Shelf.Abstract
import Derived.Sort.Statements
import Derived.StillTail
import Derived.StillTailTactics
import Derived.Test.YtjekpmkghpjamaaGreatDoorRows
import Derived.WalkKit
import Derived.LoopIn
import Derived.LoopNIn
import Derived.Maps.AppendAt
import Derived.OpenShut
import Derived.OwnWalkIn
import Derived.Shelf.Slices.Clone
import Derived.TacticsInMore
import Derived.Test.YtjekpmkghpjamaaGreatDoorMax
import Derived.Test.YtjekpmkghpjamaaGreatDoorMae
import Derived.Test.YtjekpmkghpjamaaGreatDoorMad
import Derived.Test.YtjekpmkghpjamaaGreatDoorMac
import Derived.Carry
import Derived.Deep.OwnRows
import Derived.Deep.RegionHeld3
import Derived.Deep.RegionHeldLaw
import Derived.DeepKeys
import Derived.DeepKeys4
import Derived.Laws.BitsLemmas
import Derived.Laws.IdiomStrings
import Derived.Lib.SliceRun
import Derived.Maps.OwnOps
import Derived.Shelf.SlLaysF0
import Derived.Sort.Grow
import Derived.StringKeys
import Derived.Test.YtjekpmkghpjamaaGreatDoorMag
namespace Go.Proofs.YtjekpmkghpjamaaGreatDoor
open Go.RowKit
/-- the end of a notation that stands for a usual neighbourhood -/
def lt (k : Nat) : List UInt8 := if k = 1 then [86] else if k = 2 then [72] else []
theorem offsets0 (w : World) : Calls Tryz.prog 35 #[.string (tx [])] w fun e w' => ∃ A c, e = .returned (.slice A 9 c) ∧ QReads w' w'.heap.size A 9 (lf M1) ∧ Below w.heap.size w w' := by
  have C := Lib.hid (moore1 w)
  unfold tx
  go_enter Tryz.func35, Tryz.ntmps35
  go_wp2_with (go_at_call 71; (with_reducible refine C.out.mono ?_); rintro e w' ⟨A, c, rfl, hr, hb⟩; have R := Lib.hid hr; have HB := Lib.hid hb; clear hr hb)
  go_ret
  exact ⟨A, c, rfl, R.out, HB.out⟩
theorem offsets1 (w : World) : Calls Tryz.prog 35 #[.string (tx [86])] w fun e w' => ∃ A c, e = .returned (.slice A 5 c) ∧ QReads w' w'.heap.size A 5 (lf N1) ∧ Below w.heap.size w w' := by
  have C := Lib.hid (neumann1 w)
  unfold tx
  go_enter Tryz.func35, Tryz.ntmps35
  go_wp2_with (go_at_call 72; (with_reducible refine C.out.mono ?_); rintro e w' ⟨A, c, rfl, hr, hb⟩; have R := Lib.hid hr; have HB := Lib.hid hb; clear hr hb)
  go_ret
  exact ⟨A, c, rfl, R.out, HB.out⟩
theorem offsets2 (w : World) : Calls Tryz.prog 35 #[.string (tx [72])] w fun e w' => ∃ A c, e = .returned (.slice A 7 c) ∧ QReads w' w'.heap.size A 7 (lf HX) ∧ Below w.heap.size w w' := by
  have C := Lib.hid (hex_any w)
  unfold tx
  go_enter Tryz.func35, Tryz.ntmps35
  go_wp2_with (go_at_call 73; (with_reducible refine C.out.mono ?_); rintro e w' ⟨A, c, rfl, hr, hb⟩; have R := Lib.hid hr; have HB := Lib.hid hb; clear hr hb)
  go_ret
  exact ⟨A, c, rfl, R.out, HB.out⟩
/-- the usual neighbourhoods by number; 3: none -/
def kd (f : Nat → P2) (n : Nat) : Nat := if sm (lf M1) 9 f n = true then 0 else if sm (lf N1) 5 f n = true then 1 else if sm (lf HX) 7 f n = true then 2 else 3
set_option maxHeartbeats 1000000 in
theorem letterOf_any (A : Option Addr) (n c : Nat) (f : Nat → P2) (w : World) (h : QReads w w.heap.size A n f) (hn : n ≤ 1000000) :
    Calls Tryz.prog 74 #[.slice A n c] w fun e w' => e = .returned (.tuple #[.string (tx (lt (kd f n))), .bool (decide (kd f n < 3))]) ∧ Below w.heap.size w w' := by
  have X0 := fun w => (run_letters w).1
  have X1 := fun w => (run_letters w).2.1
  have X2 := fun w => (run_letters w).2.2
  have O0 := Lib.hid offsets0
  simp only [tx] at O0
  have O1 := Lib.hid offsets1
  simp only [tx] at O1
  have O2 := Lib.hid offsets2
  simp only [tx] at O2
  have S0 := fun A' c' w' (hb : Below w.heap.size w w') (h' : QReads w' w'.heap.size A' 9 (lf M1)) => hsame_any A' A 9 n c' c (lf M1) f w' h' (h.later hb) (by omega) hn
  have S1 := fun A' c' w' (hb : Below w.heap.size w w') (h' : QReads w' w'.heap.size A' 5 (lf N1)) => hsame_any A' A 5 n c' c (lf N1) f w' h' (h.later hb) (by omega) hn
  have S2 := fun A' c' w' (hb : Below w.heap.size w w') (h' : QReads w' w'.heap.size A' 7 (lf HX)) => hsame_any A' A 7 n c' c (lf HX) f w' h' (h.later hb) (by omega) hn
  clear h
  unfold kd
  generalize sm (lf M1) 9 f n = q0 at S0 ⊢
  generalize sm (lf N1) 5 f n = q1 at S1 ⊢
  generalize sm (lf HX) 7 f n = q2 at S2 ⊢
  have zz := Lib.hid S0
  (try clear S0)
  have S0 := zz
  clear zz
  have zz := Lib.hid S1
  (try clear S1)
  have S1 := zz
  clear zz
  have zz := Lib.hid S2
  (try clear S2)
  have S2 := zz
  clear zz
  cases q0 with
  | true =>
    go_enter Tryz.func74, Tryz.ntmps74
    go_wp2
    refine wp_loop_rounds 1 ?_
    rw [rounds_succ]
    go_wp2_with (first
      | (go_at_call 107; (with_reducible refine (S0.out A1 c1 w1 B1.out R1.out).mono ?_); rintro e w2 ⟨rfl, hb⟩; have B2 := Lib.hid (B1.out.trans (hb.mono B1.out.size)); clear hb)
      | (go_at_call 35; (with_reducible refine (O0.out _).mono ?_); rintro e w1 ⟨A1, c1, rfl, hr, hb⟩; have R1 := Lib.hid hr; have B1 := Lib.hid hb; clear hr hb))
    go_ret2
    exact ⟨rfl, B2.out⟩
  | false =>
    cases q1 with
    | true =>
      go_enter Tryz.func74, Tryz.ntmps74
      go_wp2
      refine wp_loop_rounds 2 ?_
      rw [rounds_succ]
      go_wp2_with (first
        | (go_at_call 107; (with_reducible refine (S0.out A1 c1 w1 B1.out R1.out).mono ?_); rintro e w2 ⟨rfl, hb⟩; have B2 := Lib.hid (B1.out.trans (hb.mono B1.out.size)); clear hb)
        | (go_at_call 35; (with_reducible refine (O0.out _).mono ?_); rintro e w1 ⟨A1, c1, rfl, hr, hb⟩; have R1 := Lib.hid hr; have B1 := Lib.hid hb; clear hr hb))
      rw [rounds_succ]
      go_wp2_with (first
        | (go_at_call 107; (with_reducible refine (S1.out A3 c3 w3 B3.out R3.out).mono ?_); rintro e w4 ⟨rfl, hb⟩; have B4 := Lib.hid (B3.out.trans (hb.mono B3.out.size)); clear hb)
        | (go_at_call 35; (with_reducible refine (O1.out _).mono ?_); rintro e w3 ⟨A3, c3, rfl, hr, hb⟩; have R3 := Lib.hid hr; have B3 := Lib.hid (B2.out.trans (hb.mono B2.out.size)); clear hr hb))
      go_ret2
      exact ⟨rfl, B4.out⟩
    | false =>
      cases q2 with
      | true =>
        go_enter Tryz.func74, Tryz.ntmps74
        go_wp2
        refine wp_loop_rounds 3 ?_
        rw [rounds_succ]
        go_wp2_with (first
          | (go_at_call 107; (with_reducible refine (S0.out A1 c1 w1 B1.out R1.out).mono ?_); rintro e w2 ⟨rfl, hb⟩; have B2 := Lib.hid (B1.out.trans (hb.mono B1.out.size)); clear hb)
          | (go_at_call 35; (with_reducible refine (O0.out _).mono ?_); rintro e w1 ⟨A1, c1, rfl, hr, hb⟩; have R1 := Lib.hid hr; have B1 := Lib.hid hb; clear hr hb))
        rw [rounds_succ]
        go_wp2_with (first
          | (go_at_call 107; (with_reducible refine (S1.out A3 c3 w3 B3.out R3.out).mono ?_); rintro e w4 ⟨rfl, hb⟩; have B4 := Lib.hid (B3.out.trans (hb.mono B3.out.size)); clear hb)
          | (go_at_call 35; (with_reducible refine (O1.out _).mono ?_); rintro e w3 ⟨A3, c3, rfl, hr, hb⟩; have R3 := Lib.hid hr; have B3 := Lib.hid (B2.out.trans (hb.mono B2.out.size)); clear hr hb))
        rw [rounds_succ]
        go_wp2_with (first
          | (go_at_call 107; (with_reducible refine (S2.out A5 c5 w5 B5.out R5.out).mono ?_); rintro e w6 ⟨rfl, hb⟩; have B6 := Lib.hid (B5.out.trans (hb.mono B5.out.size)); clear hb)
          | (go_at_call 35; (with_reducible refine (O2.out _).mono ?_); rintro e w5 ⟨A5, c5, rfl, hr, hb⟩; have R5 := Lib.hid hr; have B5 := Lib.hid (B4.out.trans (hb.mono B4.out.size)); clear hr hb))
        go_ret2
        exact ⟨rfl, B6.out⟩
      | false =>
        go_enter Tryz.func74, Tryz.ntmps74
        go_wp2
        refine wp_loop_rounds 4 ?_
        rw [rounds_succ]
        go_wp2_with (first
          | (go_at_call 107; (with_reducible refine (S0.out A1 c1 w1 B1.out R1.out).mono ?_); rintro e w2 ⟨rfl, hb⟩; have B2 := Lib.hid (B1.out.trans (hb.mono B1.out.size)); clear hb)
          | (go_at_call 35; (with_reducible refine (O0.out _).mono ?_); rintro e w1 ⟨A1, c1, rfl, hr, hb⟩; have R1 := Lib.hid hr; have B1 := Lib.hid hb; clear hr hb))
        rw [rounds_succ]
        go_wp2_with (first
          | (go_at_call 107; (with_reducible refine (S1.out A3 c3 w3 B3.out R3.out).mono ?_); rintro e w4 ⟨rfl, hb⟩; have B4 := Lib.hid (B3.out.trans (hb.mono B3.out.size)); clear hb)
          | (go_at_call 35; (with_reducible refine (O1.out _).mono ?_); rintro e w3 ⟨A3, c3, rfl, hr, hb⟩; have R3 := Lib.hid hr; have B3 := Lib.hid (B2.out.trans (hb.mono B2.out.size)); clear hr hb))
        rw [rounds_succ]
        go_wp2_with (first
          | (go_at_call 107; (with_reducible refine (S2.out A5 c5 w5 B5.out R5.out).mono ?_); rintro e w6 ⟨rfl, hb⟩; have B6 := Lib.hid (B5.out.trans (hb.mono B5.out.size)); clear hb)
          | (go_at_call 35; (with_reducible refine (O2.out _).mono ?_); rintro e w5 ⟨A5, c5, rfl, hr, hb⟩; have R5 := Lib.hid hr; have B5 := Lib.hid (B4.out.trans (hb.mono B4.out.size)); clear hr hb))
        rw [rounds_succ]
        go_wp2
        go_ret2
        exact ⟨rfl, B6.out⟩
end Go.Proofs.YtjekpmkghpjamaaGreatDoor
namespace Go.Proofs.YtjekpmkghpjamaaGreatDoor
open Go.RowKit
section
variable {w w' : World} {B B' g n : Nat} {f : Nat → Int × Int}
end
end Go.Proofs.YtjekpmkghpjamaaGreatDoor
namespace Go.Proofs.YtjekpmkghpjamaaGreatDoor
open Go.RowKit
section
variable {w w' : World} {B B' n : Nat} {A : Option Addr} {f : Nat → P2}
theorem QReads.to {f' : Nat → P2} (h : QReads w B A n f) (e : ∀ k, k < n → f k = f' k) : QReads w B A n f' := fun hn => by
  obtain ⟨g, o, ha, hg, hc⟩ := h hn
  exact ⟨g, o, ha, hg, fun k hk => by rw [← e k hk]; exact hc k hk⟩
end
end Go.Proofs.YtjekpmkghpjamaaGreatDoor
namespace Go.Proofs.YtjekpmkghpjamaaGreatDoor
open Go.RowKit Go.Shelf Go.Lib
/-- a row of the call's own, its block in sight -/
def RowB (w : World) (base g n cap : Nat) (l : List Int) : Prop := ∃ cur : Array Value, Blk w g 3 cur ∧ cur.size = cap ∧ cur.toList.take n = il l ∧ l.length = n ∧ n ≤ cap ∧ cap ≤ maxLen ∧ base ≤ g
theorem RowB.of {w : World} {base g n cap : Nat} {l : List Int} (h : w.ownsRow base 3 1 (.slice (some ⟨g, 0, none⟩) n cap) n (il l)) : RowB w base g n cap l := by
  rcases h.2 with ⟨hv, _⟩ | ⟨g', cap', cur, hv, hbg, hg, h1, h2, h3, ht⟩
  · cases hv
  injection hv with e1 e2 e3
  injection e1 with e1
  injection e1 with e4
  subst e4 e3
  exact ⟨cur, hg, by omega, by rw [Nat.mul_one] at ht; exact ht, by have := h.1; simpa [il] using this, h1, h2, hbg⟩
theorem RowB.cell {w : World} {base g n cap : Nat} {l : List Int} (h : RowB w base g n cap l) {j : Nat} (hj : j < n) : w.cell? ⟨g, j, none⟩ = some (.int .i64 (ig l j)) := by
  obtain ⟨cur, hb, h1, h2, h3, h4, h5, h6⟩ := h
  rw [hb.cell, ← Array.getElem?_toList, ← List.getElem?_take_of_lt hj, h2]
  have : j < l.length := by omega
  simp [il, ig, this]
theorem RowB.reads {w : World} {base g n cap : Nat} {l : List Int} (h : RowB w base g n cap l) : Reads w w.heap.size (some ⟨g, 0, none⟩) n (il l) := by
  have hb := h
  obtain ⟨cur, hbl, h1, h2, h3, h4, h5, h6⟩ := h
  refine ⟨by simp [il, h3], fun _ => ⟨_, rfl, hbl.lt, fun i u hi => ?_⟩⟩
  have e : (⟨g, 0, none⟩ : Addr).add i = ⟨g, i, none⟩ := by
    unfold Addr.add
    split
    · next h => subst h; rfl
    · simp
  have hil : i < n := by
    have := (List.getElem?_eq_some_iff.1 hi).1
    simp only [il, List.length_map] at this
    omega
  have hl : i < l.length := by omega
  rw [e, hb.cell hil, ← hi]
  simp [il, ig, hl]
theorem RowB.below {w w' : World} {base g n cap : Nat} {l : List Int} (h : RowB w base g n cap l) {B : Nat} (hb : Below B w w') (hg : g < B) : RowB w' base g n cap l := by
  obtain ⟨cur, hbl, h1⟩ := h
  exact ⟨cur, hbl.below hb hg, h1⟩
end Go.Proofs.YtjekpmkghpjamaaGreatDoor
namespace Go.Proofs.YtjekpmkghpjamaaGreatDoor
open Go.RowKit
theorem Reads.of_blk1 {w : World} {g : Nat} {t : TypeId} {l : List Int} (h : Blk w g t (il l).toArray) : Reads w w.heap.size (some ⟨g, 0, none⟩) l.length (il l) := by
  refine ⟨by simp [il], fun _ => ⟨_, rfl, h.lt, fun i u hi => ?_⟩⟩
  have : (⟨g, 0, none⟩ : Addr).add i = ⟨g, i, none⟩ := by
    unfold Addr.add
    split
    · next h => subst h; rfl
    · simp
  rw [this, h.cell, ← hi]
  simp
theorem b_via {w0 w1 w2 : World} (h : Below w0.heap.size w0 w1) (k : Below w1.heap.size w1 w2) : Below w0.heap.size w0 w2 := h.trans (k.mono h.size)
theorem Below.set1 {B g i : Nat} {w0 w : World} (h : Below B w0 w) (hg : B ≤ g) (u : Value) : Below B w0 (w.setCell ⟨g, i, none⟩ u) := h.setCell (p := ⟨g, i, none⟩) hg u
theorem below_set3 {B g : Nat} {w0 w : World} (h : Below B w0 w) (hg : B ≤ g) (a b c : Value) : Below B w0 (((w.setCell ⟨g, 0, none⟩ a).setCell ⟨g, 1, none⟩ b).setCell ⟨g, 2, none⟩ c) := Below.set1 (Below.set1 (Below.set1 h hg a) hg b) hg c
theorem Blk.below' {w w' : World} {g : Nat} {t : TypeId} {cs : Array Value} (h : Blk w g t cs) (hb : Below w.heap.size w w') : Blk w' g t cs := h.below hb h.lt
end Go.Proofs.YtjekpmkghpjamaaGreatDoor
namespace Go.Proofs.YtjekpmkghpjamaaGreatDoor
open Go.RowKit
theorem Below.alloc' {w0 w : World} (h : Below w0.heap.size w0 w) (o : Obj) : Below w0.heap.size w0 (w.alloc o) := h.alloc h.size o
theorem Below.drew' {B : Nat} {w0 w : World} (h : Below B w0 w) : Below B w0 w.drew := h.drew
section
variable {v : Nat → List Int} {nv : Nat} {st : Int}
end
end Go.Proofs.YtjekpmkghpjamaaGreatDoor
namespace Go.Proofs.YtjekpmkghpjamaaGreatDoor
open Go.RowKit
theorem cells2_one (f : Nat → P2) (n : Nat) : ∀ u ∈ cells2 f n, u.oneCell' = true := by
  induction n with
  | zero => intro u hu; cases hu
  | succ n ih =>
    intro u hu
    rw [cells2, List.mem_append] at hu
    rcases hu with hu | hu
    · exact ih u hu
    · simp at hu
      rcases hu with rfl | rfl <;> rfl
theorem cells2_cell {w : World} {g o n : Nat} {f : Nat → P2} (h : ∀ k, k < n → w.cell? ⟨g, o + k * 2, none⟩ = some (.int .i64 (f k).1) ∧ w.cell? ⟨g, o + k * 2 + 1, none⟩ = some (.int .i64 (f k).2))
    (j : Nat) (u : Value) (hj : (cells2 f n)[j]? = some u) : w.cell? ((⟨g, o, none⟩ : Addr).add j) = some u := by
  have hl := cells2_len f n
  have hlt : j < n * 2 := by
    rcases Nat.lt_or_ge j (n * 2) with h | h
    · exact h
    · rw [List.getElem?_eq_none (by omega)] at hj; cases hj
  have hq : j / 2 < n := by omega
  obtain ⟨c1, c2⟩ := cells2_at f n (j / 2) hq
  obtain ⟨d1, d2⟩ := h (j / 2) hq
  have hadd : ((⟨g, o, none⟩ : Addr).add j) = ⟨g, o + j, none⟩ := by
    unfold Addr.add
    split
    · next e => subst e; rfl
    · rfl
  rw [hadd]
  have hm : j % 2 = 0 ∨ j % 2 = 1 := by omega
  rcases hm with hm | hm
  · have e : j / 2 * 2 = j := by omega
    rw [e] at c1 d1
    rw [c1] at hj
    rw [← hj]; exact d1
  · have e : j / 2 * 2 + 1 = j := by omega
    rw [Nat.add_assoc, e] at d2
    rw [e] at c2
    rw [c2] at hj
    rw [← hj]; exact d2

set_option maxRecDepth 100000 in
set_option maxHeartbeats 1000000 in
theorem clone_some (ad : Addr) (n c : Nat) (f : Nat → P2) (w : World) (h : QReads w w.heap.size (some ad) n f) (hn : n ≤ 5000) :
    Calls Tryz.prog 116 #[.slice (some ad) n c] w fun e w' => ∃ A' c', e = .returned (.slice A' n c') ∧ w'.ownsRow w.heap.size 140 2 (.slice A' n c') n (cells2 f n) ∧ Below w.heap.size w w' := by
  obtain ⟨i0, hi, hz0, hz1, hz2⟩ := info_parts Tryz.info_point
  have hnews : ∀ (j : Nat) (u : Value), (cells2 f n)[j]? = some u → (w.alloc (.cells #[] 140)).cell? (ad.add j) = some u := by
    intro j u hj
    have hlt : j < n * 2 := by
      rcases Nat.lt_or_ge j (n * 2) with h | h
      · exact h
      · rw [List.getElem?_eq_none (by rw [cells2_len]; omega)] at hj; cases hj
    obtain ⟨g, o, ha, hg, hc⟩ := h (by omega)
    injection ha with ha
    subst ha
    exact (World.cell?_alloc_lt w _ _ (by rw [block_of_add]; exact hg)).trans (cells2_cell hc j u hj)
  have HN := Lib.hid hnews
  have B1 := Lib.hid ((Below.refl w.heap.size w).alloc (Nat.le_refl _) (.cells #[] 140))
  have HO := Lib.hid (World.ownsRow_made (base := w.heap.size) (e := 140) (size := 2) w #[] 0 (Nat.le_refl _) (by unfold maxLen; omega) (by rfl))
  have s1 := B1.out.size
  have L := cells2_len f n
  have O := cells2_one f n
  generalize cells2 f n = xs at HN L O ⊢
  clear h hnews
  have q22 : ∀ (w : World) (a : Option Addr) (n c n' c' : Nat), (binOp .eql 22 (.slice a n c) (.slice none n' c')).run Tryz.prog w = .ok (.bool a.isNone) w := fun w a n c n' c' => Lib.run_eql_slice_nil w _ _ a n c n' c' Tryz.underlying22
  go_enter Tryz.func116, Tryz.ntmps116
  go_wp2_with (at_builtin; refine wpList_append_own _ rfl _ _ 22 rfl w.heap.size 140 i0 (.agg #[.int .i64 0, .int .i64 0]) 2 16 Tryz.underlying22 hi hz0 hz1 hz2 rfl (by decide) _ 0 [] rfl HO.out ad n c xs rfl L HN.out O (by unfold maxLen; omega) (by omega) s1 ?_; intro v' w2 hown2 hg2 hiff; have B2 := Lib.hid (B1.out.grown hg2 s1 (fun k hk => (HO.out.lt k hk).1)); have HO2 := Lib.hid hown2; clear hown2 hg2 hiff)
  have e : ∃ A' c', v' = .slice A' n c' := by
    have h := HO2.out
    rw [Nat.zero_add] at h
    rcases h.2 with ⟨h1, h2⟩ | ⟨g, cap, cur, h1, _⟩
    · subst h2; exact ⟨_, _, h1⟩
    · exact ⟨_, _, h1⟩
  obtain ⟨A', c', rfl⟩ := e
  go_ret
  have h := HO2.out
  rw [Nat.zero_add, List.nil_append] at h
  exact ⟨A', c', rfl, h, B2.out⟩
set_option maxRecDepth 100000 in
theorem clone_none (c : Nat) (w : World) :
    Calls Tryz.prog 116 #[.slice none 0 c] w fun e w' => e = .returned (.slice none 0 0) ∧ w = w' := by
  have q22 : ∀ (w : World) (a : Option Addr) (n c n' c' : Nat), (binOp .eql 22 (.slice a n c) (.slice none n' c')).run Tryz.prog w = .ok (.bool a.isNone) w := fun w a n c n' c' => Lib.run_eql_slice_nil w _ _ a n c n' c' Tryz.underlying22
  go_enter Tryz.func116, Tryz.ntmps116
  go_wp2
  go_ret
  exact ⟨rfl, rfl⟩
theorem clone_any (A : Option Addr) (n c : Nat) (f : Nat → P2) (w : World) (h : QReads w w.heap.size A n f) (hn : n ≤ 5000) :
    Calls Tryz.prog 116 #[.slice A n c] w fun e w' => ∃ A' c', e = .returned (.slice A' n c') ∧ w'.ownsRow w.heap.size 140 2 (.slice A' n c') n (cells2 f n) ∧ Below w.heap.size w w' := by
  cases A with
  | some ad => exact clone_some ad n c f w h hn
  | none =>
    have hn0 : n = 0 := by
      rcases Nat.eq_zero_or_pos n with e | e
      · exact e
      · obtain ⟨g, o, ha, _⟩ := h e; cases ha
    subst hn0
    exact (clone_none c w).mono fun e w' ⟨he, hw⟩ => ⟨none, 0, he, hw ▸ World.ownsRow_nil _ _ _ _, hw ▸ Below.refl _ _⟩
end Go.Proofs.YtjekpmkghpjamaaGreatDoor
namespace Go.Proofs.YtjekpmkghpjamaaGreatDoor
open Go.RowKit
set_option maxRecDepth 100000 in
set_option maxHeartbeats 1000000 in
theorem iclone_some (ad : Addr) (n c : Nat) (l : List Int) (w : World) (h : Reads w w.heap.size (some ad) n (il l)) (hn : n ≤ 5000) :
    Calls Tryz.prog 118 #[.slice (some ad) n c] w fun e w' => ∃ A' c', e = .returned (.slice A' n c') ∧ w'.ownsRow w.heap.size 3 1 (.slice A' n c') n (il l) ∧ Below w.heap.size w w' := by
  obtain ⟨i0, hi, hz0, hz1, hz2⟩ := info_parts Tryz.info_int
  have hnews : ∀ (j : Nat) (u : Value), (il l)[j]? = some u → (w.alloc (.cells #[] 3)).cell? (ad.add j) = some u := by
    intro j u hj
    have hlt : j < n := by
      rcases Nat.lt_or_ge j n with h' | h'
      · exact h'
      · rw [List.getElem?_eq_none (by rw [h.1]; exact h')] at hj; cases hj
    obtain ⟨ad', ha, hg, hc⟩ := h.2 (by omega)
    injection ha with ha
    subst ha
    exact (World.cell?_alloc_lt w _ _ (by rw [block_of_add]; exact hg)).trans (hc j u hj)
  have HN := Lib.hid hnews
  have B1 := Lib.hid ((Below.refl w.heap.size w).alloc (Nat.le_refl _) (.cells #[] 3))
  have HO := Lib.hid (World.ownsRow_made (base := w.heap.size) (e := 3) (size := 1) w #[] 0 (Nat.le_refl _) (by unfold maxLen; omega) (by rfl))
  have s1 := B1.out.size
  have L : (il l).length = n * 1 := by rw [h.1, Nat.mul_one]
  have O : ∀ u ∈ il l, u.oneCell' = true := fun u hu => by
    simp only [il, List.mem_map] at hu
    obtain ⟨x, _, rfl⟩ := hu
    rfl
  generalize il l = xs at HN L O ⊢
  clear h hnews
  have q22 : ∀ (w : World) (a : Option Addr) (n c n' c' : Nat), (binOp .eql 36 (.slice a n c) (.slice none n' c')).run Tryz.prog w = .ok (.bool a.isNone) w := fun w a n c n' c' => Lib.run_eql_slice_nil w _ _ a n c n' c' Tryz.underlying36
  go_enter Tryz.func118, Tryz.ntmps118
  go_wp2_with (at_builtin; refine wpList_append_own _ rfl _ _ 36 rfl w.heap.size 3 i0 (.int .i64 0) 1 8 Tryz.underlying36 hi hz0 hz1 hz2 rfl (by decide) _ 0 [] rfl HO.out ad n c xs rfl L HN.out O (by unfold maxLen; omega) (by omega) s1 ?_; intro v' w2 hown2 hg2 hiff; have B2 := Lib.hid (B1.out.grown hg2 s1 (fun k hk => (HO.out.lt k hk).1)); have HO2 := Lib.hid hown2; clear hown2 hg2 hiff)
  have e : ∃ A' c', v' = .slice A' n c' := by
    have h := HO2.out
    rw [Nat.zero_add] at h
    rcases h.2 with ⟨h1, h2⟩ | ⟨g, cap, cur, h1, _⟩
    · subst h2; exact ⟨_, _, h1⟩
    · exact ⟨_, _, h1⟩
  obtain ⟨A', c', rfl⟩ := e
  go_ret
  have h := HO2.out
  rw [Nat.zero_add, List.nil_append] at h
  exact ⟨A', c', rfl, h, B2.out⟩
set_option maxRecDepth 100000 in
theorem iclone_none (c : Nat) (w : World) :
    Calls Tryz.prog 118 #[.slice none 0 c] w fun e w' => e = .returned (.slice none 0 0) ∧ w = w' := by
  have q22 : ∀ (w : World) (a : Option Addr) (n c n' c' : Nat), (binOp .eql 36 (.slice a n c) (.slice none n' c')).run Tryz.prog w = .ok (.bool a.isNone) w := fun w a n c n' c' => Lib.run_eql_slice_nil w _ _ a n c n' c' Tryz.underlying36
  go_enter Tryz.func118, Tryz.ntmps118
  go_wp2
  go_ret
  exact ⟨rfl, rfl⟩
theorem iclone_anyG (A : Option Addr) (n c : Nat) (l : List Int) (w : World) (h : Reads w w.heap.size A n (il l)) (hn : n ≤ 5000) :
    Calls Tryz.prog 118 #[.slice A n c] w fun e w' => ∃ A' c', e = .returned (.slice A' n c') ∧ w'.ownsRow w.heap.size 3 1 (.slice A' n c') n (il l) ∧ Below w.heap.size w w' := by
  cases A with
  | some ad => exact iclone_some ad n c l w h hn
  | none =>
    have hn0 : n = 0 := by
      rcases Nat.eq_zero_or_pos n with e | e
      · exact e
      · obtain ⟨ad, ha, _⟩ := h.2 e; cases ha
    subst hn0
    have hl0 : il l = [] := List.eq_nil_of_length_eq_zero h.1
    rw [hl0]
    exact (iclone_none c w).mono fun e w' ⟨he, hw⟩ => ⟨none, 0, he, hw ▸ World.ownsRow_nil _ _ _ _, hw ▸ Below.refl _ _⟩
end Go.Proofs.YtjekpmkghpjamaaGreatDoor
