/- The walk of tabletree.Tree. -/
/- The walk of the binary search for a position that is there. -/
import Derived.Test.YtcgkkppidkkjiaaGreatDoorMaa
import Derived.Test.YtcgkkppidkkjiaaGreatDoorMaj
import Derived.Test.YtcgkkppidkkjiaaGreatDoorMat
import Derived.Test.YtcgkkppidkkjiaaGreatDoorMac
import Derived.Test.YtcgkkppidkkjiaaGreatDoorMae
import Derived.Test.YtcgkkppidkkjiaaGreatDoorMah
import Derived.Test.YtcgkkppidkkjiaaGreatDoorMar
import Derived.Below
import Derived.BigQuiet
import Derived.Carry
import Derived.Deep.AppendLies
import Derived.Deep.CutRange
import Derived.Deep.Draws
import Derived.Deep.OwnRows
import Derived.Deep.QuietTactic
import Derived.Deep.RegionHeld3
import Derived.Deep.RegionHeldLaw
import Derived.Deep.RegionLaw
import Derived.DeepKeys
import Derived.DeepKeys4
import Derived.DeepKeys5
import Derived.IntWalk
import Derived.Laws.BitsLemmas
import Derived.Laws.IdiomStrings
import Derived.Laws.OwnMore
import Derived.Laws.Rows
import Derived.Lib.Hide
import Derived.Lib.SliceRun
import Derived.LoopIn
import Derived.LoopN
import Derived.LoopNIn
import Derived.Maps.AppendAt
import Derived.Maps.OwnOps
import Derived.OpenShut
import Derived.OwnWalk
import Derived.OwnWalkIn
import Derived.RangeFuncBound
import Derived.RangeFuncCalls
import Derived.RangeFuncLeaves
import Derived.RangeFuncNested
import Derived.Shelf.Abstract
import Derived.Shelf.RegionOpen
import Derived.Shelf.SlIterI.Sorted
import Derived.Shelf.SlLaysF0
import Derived.Shelf.Slices.Clone
import Derived.Shelf.Slices.Delete
import Derived.Shelf.Sort.Plain
import Derived.Shelf.Spec.SlicesInsert
import Derived.Sort.Grow
import Derived.Sort.OwnSortedInts
import Derived.Sort.Statements
import Derived.StillTail
import Derived.StillTailTactics
import Derived.StringKeys
import Derived.TacticsInMore
import Derived.Test.YtcgkkppidkkjiaaGreatDoorRows
import Derived.WalkKit
import Derived.Test.YtcgkkppidkkjiaaGreatDoorMad
import Derived.Test.YtcgkkppidkkjiaaGreatDoorMaf
import Derived.Test.YtcgkkppidkkjiaaGreatDoorMab
namespace Go.Proofs.YtcgkkppidkkjiaaGreatDoor
open Go.RowKit
theorem TreeOut.form {S n : Nat} {f : Nat → P2} {V : List Int → Nat} {w w' : World} {e : Ending} (h : TreeOut S n f V w e w') : ∃ s A1 n1 c1 A2 n2 c2 er, e = .returned (.tuple #[.agg #[.int .i64 s, .slice A1 n1 c1, .slice A2 n2 c2], .int .i64 er]) ∧ Below w.heap.size w w' := by
  rcases h with ⟨er, h1, h2, h3⟩ | ⟨AI, cI, AN, cN, out, h1, h2, h3, h4, h5, h6, h7⟩
  · exact ⟨_, _, _, _, _, _, _, _, h1, h3⟩
  · exact ⟨_, _, _, _, _, _, _, _, h1, h7⟩
theorem TreeOut.set {S n : Nat} {f : Nat → P2} {V : List Int → Nat} {w0 w w' : World} {e : Ending} (h : TreeOut S n f V w e w') (hb : Below w0.heap.size w0 w) {g : Nat} (hg : g < w.heap.size) (hg0 : w0.heap.size ≤ g) (a b c : Value) : TreeOut S n f V w0 e (((w'.setCell ⟨g, 0, none⟩ a).setCell ⟨g, 1, none⟩ b).setCell ⟨g, 2, none⟩ c) := by
  rcases h with ⟨er, h1, h2, h3⟩ | ⟨AI, cI, AN, cN, out, h1, h2, h3, h4, h5, h6, h7⟩
  · exact .inl ⟨er, h1, h2, below_set3 (hb.trans (h3.mono hb.size)) hg0 a b c⟩
  · exact .inr ⟨AI, cI, AN, cN, out, h1, (h2.keep (Fr.set3 w' g a b c) (fun k hk => by subst hk; exact hg)).low hb.size, h3, h4, h5, h6, below_set3 (hb.trans (h7.mono hb.size)) hg0 a b c⟩
end Go.Proofs.YtcgkkppidkkjiaaGreatDoor
namespace Go.Proofs.YtcgkkppidkkjiaaGreatDoor
open Go.RowKit
theorem up_lt {f : Nat → P2} {n h k : Nat} (hu : Up f n) (hh : h < n) (hk : k < n) (hp : pc (f h) (f k) < 0) : h < k := by
  rcases Nat.lt_trichotomy h k with e | e | e
  · exact e
  · rw [e, pc_lt] at hp; omega
  · have := hu k h e hh
    rw [pc_lt] at *
    omega
theorem up_ge {f : Nat → P2} {n h k : Nat} (hu : Up f n) (hk : k < n) (hp : ¬ pc (f h) (f k) < 0) : k ≤ h := by
  refine Nat.le_of_not_lt fun e => hp (hu h k e hk)

set_option maxRecDepth 100000 in
set_option maxHeartbeats 4000000 in
theorem search_any (A : Option Addr) (n c k : Nat) (f : Nat → P2) (u v : Int) (w : World) (h : QReads w w.heap.size A n f) (hu : Up f n) (hn : n ≤ 1000) (hk : k < n) (hf : f k = (u, v)) :
    Calls Tryz.prog 95 #[.slice A n c, .agg #[.int .i64 u, .int .i64 v], .func (.func 65) #[] #[]] w fun e w' => e = .returned (.tuple #[.int .i64 (k : Int), .bool true]) ∧ Below w.heap.size w w' := by
  have H := Lib.hid h
  have K0 := Lib.hid (Blk.new w 58 #[.int .i64 u, .int .i64 v])
  have B0 := Lib.hid ((Below.refl w.heap.size w).alloc (Nat.le_refl _) (.cells #[.int .i64 u, .int .i64 v] 58))
  have hgn : ∀ g, g < w.heap.size → g < (w.alloc (.cells #[.int .i64 u, .int .i64 v] 58)).heap.size := fun g hg => by simp; omega
  have UL := Lib.hid (fun h (hh : h < n) (hp : pc (f h) (u, v) < 0) => up_lt hu hh hk (by rw [hf]; exact hp))
  have UG := Lib.hid (fun h (hp : ¬ pc (f h) (u, v) < 0) => up_ge (n := n) (h := h) hu hk (by rw [hf]; exact hp))
  have FK := Lib.hid hf
  obtain ⟨g1, o1, rfl, hb1, -⟩ := h (by omega)
  have hgb := Lib.hid (hgn g1 hb1)
  clear h hu hf hgn
  go_enter Tryz.func95, Tryz.ntmps95
  go_wp2_with fail
  have HZ := Lib.hid hb1
  generalize w.alloc (.cells #[.int .i64 u, .int .i64 v] 58) = w0 at K0 B0 hgb ⊢
  go_wp2
  go_loopw [9, 10] (fun iv jv wr => ∃ i j : Nat, iv = .int .i64 (i : Int) ∧ jv = .int .i64 (j : Int) ∧ i ≤ k ∧ k ≤ j ∧ j ≤ n ∧ Below w0.heap.size w0 wr) (fun iv jv _ => (intOf jv).toNat - (intOf iv).toNat)
  case atStart => exact ⟨0, n, rfl, rfl, Nat.zero_le _, by omega, Nat.le_refl _, Below.refl _ _⟩
  case round =>
    obtain ⟨i, j, rfl, rfl, hi, hj, hjn, hbel⟩ := hrel
    have HB := Lib.hid (B0.out.trans (hbel.mono B0.out.size))
    have K1 := Lib.hid (K0.out.below hbel K0.out.lt)
    have hgw : g1 < wr.heap.size := Nat.lt_of_lt_of_le hgb.out hbel.size
    obtain ⟨g2, o2, hA, -, hc1⟩ := H.out.below HB.out (by omega)
    obtain ⟨rfl, rfl⟩ : g1 = g2 ∧ o1 = o2 := by injection hA with hA; injection hA with h1 h2; exact ⟨h1, h2⟩
    have BX := Lib.hid hbel
    clear hbel hA
    by_cases hij : i < j
    · obtain ⟨m, hm⟩ : ∃ m : Nat, m = (i + j) / 2 := ⟨_, rfl⟩
      have hm1 : i ≤ m := by omega
      have hm2 : m < j := by omega
      have hmn : m < n := by omega
      have e2 : ((i : Int) + (j : Int)) / 2 = (m : Int) := by omega
      have c1 := hc1 m hmn
      have ul := UL.out m hmn
      have ug := UG.out m
      obtain ⟨⟨x1, x2⟩, hx⟩ : ∃ x, x = f m := ⟨_, rfl⟩
      rw [← hx] at c1 ul ug
      have C1 := Lib.hid c1
      have P := fun w => pcompare_any x1 x2 u v w
      have hpr : pc (x1, x2) (u, v) = or2 (sg x2 v) (sg x1 u) := rfl
      rw [hpr] at ul ug
      generalize or2 (sg x2 v) (sg x1 u) = r at P ul ug
      have UL1 := Lib.hid ul
      have UG1 := Lib.hid ug
      have P := Lib.hid P
      clear c1 hc1 hx ul ug hpr hm
      have q0 := fun p : LowW wr.heap.size wr => LowW.cell (a := ⟨g1, o1 + m * 2, none⟩) hgw C1.out.1 p
      have q1 := fun p : LowW wr.heap.size wr => LowW.cell (a := ⟨g1, o1 + m * 2 + 1, none⟩) hgw C1.out.2 p
      have q2 := fun p : LowW wr.heap.size wr => (K1.out.below p.below K1.out.lt).two.1
      have q3 := fun p : LowW wr.heap.size wr => (K1.out.below p.below K1.out.lt).two.2.1
      by_cases hr : r < 0
      · go_wp2_with fail
        refine wp_region_low wr.heap.size wr (by kernel_rfl) (by kernel_rfl) (Below.refl _ _) ?_
        repeat (quiet_step (first | (go_at_call 65; with_reducible exact LowW.of_call _ (Nat.le_refl _) (P.out _))))
        refine wpQuiet_nil ?_
        rintro w3 ⟨p, rfl⟩
        have B3 := Lib.hid (BX.out.trans (p.below.mono BX.out.size))
        have HU := Lib.hid (UL1.out hr)
        clear q0 q1 q2 q3
        generalize p.w = w3 at B3 ⊢
        go_wp2
        go_roundw
        case rel => exact ⟨m + 1, j, by go_num, rfl, HU.out, hj, hjn, B3.out⟩
        case measure => simp [intOf]; omega
      · have hr : 0 ≤ r := by omega
        have HU := Lib.hid (UG1.out (by omega))
        go_wp2_with fail
        refine wp_region_low wr.heap.size wr (by kernel_rfl) (by kernel_rfl) (Below.refl _ _) ?_
        repeat (quiet_step (first | (go_at_call 65; with_reducible exact LowW.of_call _ (Nat.le_refl _) (P.out _))))
        refine wpQuiet_nil ?_
        rintro w3 ⟨p, rfl⟩
        have B3 := Lib.hid (BX.out.trans (p.below.mono BX.out.size))
        clear q0 q1 q2 q3
        generalize p.w = w3 at B3 ⊢
        go_wp2
        go_roundw
        case rel => exact ⟨i, m, rfl, rfl, hi, HU.out, by omega, B3.out⟩
        case measure => simp [intOf]; omega
    · obtain ⟨e1, e3⟩ : i = k ∧ j = k := by omega
      subst e1
      subst e3
      have C1 := Lib.hid (hc1 j hk)
      rw [FK.out] at C1
      have P := fun w => pcompare_any u v u v w
      rw [show or2 (sg v v) (sg u u) = 0 from (pc_zero (u, v) (u, v)).2 rfl] at P
      have P := Lib.hid P
      have q0 := fun p : LowW wr.heap.size wr => LowW.cell (a := ⟨g1, o1 + j * 2, none⟩) hgw C1.out.1 p
      have q1 := fun p : LowW wr.heap.size wr => LowW.cell (a := ⟨g1, o1 + j * 2 + 1, none⟩) hgw C1.out.2 p
      have q2 := fun p : LowW wr.heap.size wr => (K1.out.below p.below K1.out.lt).two.1
      have q3 := fun p : LowW wr.heap.size wr => (K1.out.below p.below K1.out.lt).two.2.1
      have d1 : decide (j < n) = true := decide_eq_true hk
      clear hc1
      go_wp2_with fail
      refine wp_region_low wr.heap.size wr (by kernel_rfl) (by kernel_rfl) (Below.refl _ _) ?_
      repeat (quiet_step (first | (go_at_call 65; with_reducible exact LowW.of_call _ (Nat.le_refl _) (P.out _))))
      refine wpQuiet_nil ?_
      rintro w3 ⟨p, rfl⟩
      have B3 := Lib.hid (HB.out.trans (p.below.mono HB.out.size))
      clear q0 q1 q2 q3
      generalize p.w = w3 at B3 ⊢
      go_wp2
      go_ret2
      exact ⟨rfl, B3.out⟩
end Go.Proofs.YtcgkkppidkkjiaaGreatDoor
