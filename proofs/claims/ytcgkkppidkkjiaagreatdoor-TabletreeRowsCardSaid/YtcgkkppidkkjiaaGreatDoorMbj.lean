/- The walk of the iterator of slices.Chunk at two rows, one by one. -/
/- The walk of rowsOf's closure at the end of a way with a row; the ways of the examples. -/
/- The walk of tabletree.Tree. -/
/- The walks of Tree and Row of tabletree. -/
import Derived.Test.YtcgkkppidkkjiaaGreatDoorMbi
import Derived.Test.YtcgkkppidkkjiaaGreatDoorMbg
import Derived.Test.YtcgkkppidkkjiaaGreatDoorMay
import Derived.Test.YtcgkkppidkkjiaaGreatDoorMaa
import Derived.Test.YtcgkkppidkkjiaaGreatDoorMbc
import Derived.Test.YtcgkkppidkkjiaaGreatDoorMbf
import Derived.Test.YtcgkkppidkkjiaaGreatDoorMax
import Derived.Test.YtcgkkppidkkjiaaGreatDoorMaf
import Derived.Test.YtcgkkppidkkjiaaGreatDoorMan
import Derived.Test.YtcgkkppidkkjiaaGreatDoorMao
import Derived.Test.YtcgkkppidkkjiaaGreatDoorMai
import Derived.Below
import Derived.BigQuiet
import Derived.Carry
import Derived.Deep.AppendLies
import Derived.Deep.CutRange
import Derived.Deep.Draws
import Derived.Deep.OwnRows
import Derived.Deep.QuietTactic
import Derived.Deep.RegionHeld3
import Derived.Deep.RegionHeldLaw
import Derived.Deep.RegionLaw
import Derived.DeepKeys
import Derived.DeepKeys4
import Derived.DeepKeys5
import Derived.IntWalk
import Derived.Laws.BitsLemmas
import Derived.Laws.IdiomStrings
import Derived.Laws.OwnMore
import Derived.Laws.Rows
import Derived.Lib.Hide
import Derived.Lib.SliceRun
import Derived.LoopIn
import Derived.LoopN
import Derived.LoopNIn
import Derived.Maps.AppendAt
import Derived.Maps.OwnOps
import Derived.OpenShut
import Derived.OwnWalk
import Derived.OwnWalkIn
import Derived.RangeFuncBound
import Derived.RangeFuncCalls
import Derived.RangeFuncLeaves
import Derived.RangeFuncNested
import Derived.Shelf.Abstract
import Derived.Shelf.RegionOpen
import Derived.Shelf.SlIterI.Sorted
import Derived.Shelf.SlLaysF0
import Derived.Shelf.Slices.Clone
import Derived.Shelf.Slices.Delete
import Derived.Shelf.Sort.Plain
import Derived.Shelf.Spec.SlicesInsert
import Derived.Sort.Grow
import Derived.Sort.OwnSortedInts
import Derived.Sort.Statements
import Derived.StillTail
import Derived.StillTailTactics
import Derived.StringKeys
import Derived.TacticsInMore
import Derived.Test.YtcgkkppidkkjiaaGreatDoorRows
import Derived.WalkKit
namespace Go.Proofs.YtcgkkppidkkjiaaGreatDoor
open Go.RowKit Go.Shelf
attribute [local go_sem] Oper.semAt_some

/-- two blocks are as they were -/
def KpC (Bs Bn : Nat) (W W' : World) : Prop := W'.heap[Bs]? = W.heap[Bs]? ∧ W'.heap[Bn]? = W.heap[Bn]?
theorem KpC.trans {Bs Bn : Nat} {A B C : World} (h : KpC Bs Bn A B) (k : KpC Bs Bn B C) : KpC Bs Bn A C := ⟨k.1.trans h.1, k.2.trans h.2⟩
/-- a part of the rows -/
def encC (g o : Nat) (x : Fin 2) : Array Value := #[.slice (some ⟨g, o + 2 * x.val, none⟩) 1 1]
theorem chunk_any (AR : Option Addr) (n c : Nat) (w : World) :
    Calls Tryz.prog 51 #[.slice AR n c, .int .i64 1] w fun e w' => e = .returned (.func (.func 82) #[] #[.pointer (some ⟨w.heap.size, 0, none⟩), .pointer (some ⟨w.heap.size + 1, 0, none⟩)]) ∧ w' = (w.alloc (.cells #[.slice AR n c] 24)).alloc (.cells #[.int .i64 1] 3) := by
  go_enter Tryz.func51, Tryz.ntmps51
  go_wp2
  go_ret
  exact ⟨rfl, rfl⟩
set_option maxRecDepth 100000 in
set_option maxHeartbeats 4000000 in
theorem chunk1_in (g o cR : Nat) (hcR : 2 ≤ cR) (n : Nat) (hn : 1 ≤ n) (l Bs Bn : Nat) (J Jx : List (Fin 2) → World → Prop) (W : World) (hJd : ∀ pre W, J pre W → J pre W.drew)
    (hY : ∀ pre x W, J pre W → pre.length < 2 → YieldAt Fence.wide (n - 1) Tryz.prog l (encC g o x) W fun e W' =>
      (e = .returned (.bool true) ∧ J (pre ++ [x]) W' ∧ KpC Bs Bn W W') ∨ (e = .returned (.bool false) ∧ Jx (pre ++ [x]) W'))
    (hBs : Blk W Bs 24 #[.slice (some ⟨g, o, none⟩) 2 cR]) (hBn : Blk W Bn 3 #[.int .i64 1]) (h0 : J [] W) :
    CallsIn Fence.wide n Tryz.prog 82 #[.func (.yield l) #[] #[], .pointer (some ⟨Bs, 0, none⟩), .pointer (some ⟨Bn, 0, none⟩)] W fun e W' => (∃ v, e = .returned v) ∧
      ((∃ ys : List (Fin 2), ys = [0, 1] ∧ J ys W') ∨ (∃ pre, True ∧ Jx pre W')) := by
  have HBs := Lib.hid hBs
  have HBn := Lib.hid hBn
  have hcI : (2 : Int) ≤ (cR : Int) := by omega
  have hcI1 : (1 : Int) ≤ (cR : Int) := by omega
  have hc0 : (0 : Int) ≤ (cR : Int) := by omega
  have hc2 : ¬ cR = 1 := by omega
  have hc3 : ¬ cR = 0 := by omega
  have hc4 : ¬ (cR : Int) = 1 := by omega
  have hc5 : ¬ (cR : Int) = 0 := by omega
  clear hBs hBn
  refine callsIn_of_wp Tryz.func82 rfl trivial ?_ rfl
  simp only [Tryz.ntmps82, List.size_toArray, List.length_cons, List.length_nil, Nat.reduceAdd, Nat.reduceSub, Array.replicate_succ, Array.replicate_zero, List.push_toArray, List.append_toArray, List.nil_append, List.cons_append]
  have c0 := HBs.out.one.1
  have c1 := HBn.out.one.1
  have m1 : (min 1 2 : Int) = 1 := by decide
  have m2 : (min 1 1 : Int) = 1 := by decide
  obtain ⟨fn, tmps, assign, body, hy, hR⟩ := hY [] 0 W.drew (hJd _ _ h0) (by simp)
  have hy := show _ from hy
  simp only [encC, Fin.isValue, Fin.val_zero, Nat.mul_zero, Nat.add_zero] at hy
  gi_wp2
  refine wpIn_loop_rounds 3 ?_
  rw [roundsIn_succ]
  gi_wp2
  gi_region
  all_goals
    gi_wp2
    refine hR.mono ?_
    rintro e W3 (⟨rfl, hJ3, hk3⟩ | ⟨rfl, hJx3⟩)
    · clear hy hR c0 c1
      obtain ⟨fn, tmps, assign, body, hy, hR⟩ := hY [0] 1 W3.drew (hJd _ _ hJ3) (by simp)
      simp only [encC, Fin.isValue, Fin.val_one, Nat.mul_one] at hy
      have ks : Blk W3 Bs 24 #[.slice (some ⟨g, o, none⟩) 2 cR] := hk3.1.trans HBs.out
      have kn : Blk W3 Bn 3 #[.int .i64 1] := hk3.2.trans HBn.out
      have c0 := ks.one.1
      have c1 := kn.one.1
      gi_wp2
      rw [roundsIn_succ]
      gi_wp2
      gi_region
      all_goals
        gi_wp2
        refine hR.mono ?_
        rintro e W4 (⟨rfl, hJ4, hk4⟩ | ⟨rfl, hJx4⟩)
        · have ks4 : Blk W4 Bs 24 #[.slice (some ⟨g, o, none⟩) 2 cR] := hk4.1.trans ks
          have kn4 : Blk W4 Bn 3 #[.int .i64 1] := hk4.2.trans kn
          have d0 := ks4.one.1
          have d1 := kn4.one.1
          gi_wp2
          rw [roundsIn_succ]
          gi_wp2
          go_end0
          exact ⟨⟨_, rfl⟩, .inl ⟨_, rfl, hJ4⟩⟩
        · gi_wp2
          refine bodyPost_ret (results_none rfl _ _ _) rfl ?_
          exact ⟨⟨_, rfl⟩, .inr ⟨_, trivial, hJx4⟩⟩
    · gi_wp2
      refine bodyPost_ret (results_none rfl _ _ _) rfl ?_
      exact ⟨⟨_, rfl⟩, .inr ⟨_, trivial, hJx3⟩⟩
end Go.Proofs.YtcgkkppidkkjiaaGreatDoor
namespace Go.Proofs.YtcgkkppidkkjiaaGreatDoor
open Go.RowKit

/-- one row has come -/
def RowD (lo b3 : Nat) (l : List Int) (w' : World) : Prop := ∃ g c' X xc, (lo ≤ g ∧ ∀ ad, X = some ad → lo ≤ ad.block) ∧ w'.cell? ⟨b3, 0, none⟩ = some (.slice (some ⟨g, 0, none⟩) 1 c') ∧ g < w'.heap.size ∧ w'.cell? ⟨g, 0, none⟩ = some (.slice X 3 xc) ∧ Reads w' w'.heap.size X 3 (il l) ∧ w'.cell? ⟨g, 1, none⟩ = some (.int .i64 0)
def NewR (b0 b3 Bi : Nat) (l : List Int) (w : World) (_ : Option Addr) (_ : Nat) (w' : World) : Prop := RowD Bi b3 l w' ∧ Below b0 w w'
theorem info_rowE : (Tryz.prog.info? 41).map (fun i => (i.zero, i.size, i.bytes)) = some (some (.agg #[.slice none 0 0, .int .i64 0]), 2, 32) := by kernel_rfl
section
variable {b0 b1 b3 b4 b5 Bi : Nat} {AH AN : Option Addr} {cH m cN : Nat} {lv : Nat → Int} {nx : Nat → List Int}
set_option maxRecDepth 100000 in
set_option maxHeartbeats 4000000 in
/-- at the end of the way, where the default does not lead to 0 -/
theorem wk_new (ins : List Int) (hx : ig ins 1 ≠ 0) : WC b0 b1 b3 b4 b5 Bi AH AN cH m cN lv nx 3 ins 0 (NewR b0 b3 Bi ins) := by
  intro w A c hw ho
  obtain ⟨i0, hii, hz0, hz1, hz2⟩ := info_parts info_rowE
  obtain ⟨c1, c2, c3, c4, c5⟩ := hw.cells
  have f3 := hw.k3.frozen 0
  have hR := Reads.of_own ho
  have hsz := hw.hi
  have ID := Lib.hid (show ∀ W, Below w.heap.size w W → Calls Tryz.prog 56 #[.slice A 3 c, .int .i64 1, .int .i64 0] W fun e W' => e = .returned (.bool false) ∧ W = W' from fun W hb => (isdef_any A 3 c 1 0 ins W (hR.later hb) (by omega) (by omega)).mono fun e W' ⟨he, hx2⟩ => ⟨by rw [he, beq_eq_false_iff_ne.2 hx], hx2⟩)
  have CL := Lib.hid (show ∀ W, Below w.heap.size w W → Calls Tryz.prog 57 #[.slice A 3 c] W fun e W' => ∃ g cap, e = .returned (.slice (some ⟨g, 0, none⟩) 3 cap) ∧ Reads W' W'.heap.size (some ⟨g, 0, none⟩) 3 (il ins) ∧ w.heap.size ≤ g ∧ Below w.heap.size w W' from fun W hb => (iclone_any A c 3 ins W (hR.later hb) (by omega) (by omega)).mono fun e W' ⟨g, cap, he, hr, hx⟩ => ⟨g, cap, he, hr.reads, Nat.le_trans hb.size (hr.own.lt g rfl).1, hb.trans (hx.mono hb.size)⟩)
  have HW := Lib.hid hw
  have HX := Lib.hid (fun W (hb : Below w.heap.size w W) => show W.cell? ⟨b3, 0, none⟩ = some (.slice none 0 0) from (hb.cell (p := ⟨b3, 0, none⟩) (by have := hw.lo; show b3 < w.heap.size; omega)).trans c3)
  clear hw ho hx hR
  go_enter Tryz.func55, Tryz.ntmps55
  go_wp2_with (go_at_call 56; (with_reducible refine (ID.out _ (Below.refl _ _)).mono ?_); rintro e w1 ⟨rfl, rfl⟩)
  go_region_law (first
    | (go_simp; go_at_call 57; (with_reducible refine (CL.out _ ?_).mono ?_); (with_reducible (repeat (first | assumption | exact Below.refl _ _ | refine Below.drew' ?_ | refine Below.alloc' ?_ _))); rintro e wa ⟨gx, cx, rfl, hr, hgx, hb⟩; have HGX := Lib.hid hgx; have RX := Lib.hid hr; have BA : Below w.heap.size w wa := hb; have d2 := HX.out wa hb; have dd2 := HX.out _ (hb.alloc hb.size (.cells #[.slice (some ⟨gx, 0, none⟩) 3 cx, .int .i64 0] 41)); clear hb hr hgx)
    | (refine step_append_lies _ (by rfl) _ _ _ (by rfl) wa.heap.size 41 i0 (.agg #[.slice none 0 0, .int .i64 0]) 2 32 Tryz.underlying24 hii hz0 hz1 hz2 rfl (by decide) (.slice none 0 0) 0 [] (by rfl) (World.ownsRow_nil _ _ _ _) ⟨wa.heap.size, 0, none⟩ 1 1 [.slice (some ⟨gx, 0, none⟩) 3 cx, .int .i64 0] (by rfl) (by rfl) (World.news_of_block (cs := #[.slice (some ⟨gx, 0, none⟩) 3 cx, .int .i64 0]) (t := 41) (fr := (0, 0)) (heap_alloc_new wa _)) (by simp [Value.oneCell']) (by omega) (by unfold maxLen; omega) (by omega) (by simp) (wa.heap.size + 1) (by simp) ?_; intro g7 c7 w7 hown7 hgrow7 hat7 hlt7; have B7 : Below wa.heap.size wa w7 := Below.grown ((Below.refl wa.heap.size wa).alloc (Nat.le_refl _) _) hgrow7 (by simp) (fun k hk => by cases hk); have K7 : w7.cell? ⟨b3, 0, none⟩ = some (.slice none 0 0) := HX.out _ (BA.trans (B7.mono BA.size)); have F7 := (HW.out.k3.below (BA.trans (B7.mono BA.size)) HW.out.k3.lt).frozen 0; have O7 := Lib.hid hown7; clear hown7 hgrow7 hat7))
  all_goals
    go_wp2_with fail
    refine bodyPost_ret (results_none rfl _ _ _) rfl ?_
    have hlo := HW.out.lo
    have hza := BA.size
    have hg7 := (O7.out.lt g7 rfl).1
    have k3 := (HW.out.k3.below (BA.trans (B7.mono BA.size)) (by omega)).set_ 0 (.slice (some ⟨g7, 0, none⟩) 1 c7)
    have r7 := (RX.out.later B7)
    have q1 := O7.out.cellAt 0 (by decide)
    have q2 := O7.out.cellAt 1 (by decide)
    have hgx := HGX.out
    have hb3 := HW.out.k3.lt
    have BZ := BA.trans (B7.mono BA.size)
    refine ⟨⟨_, rfl⟩, ⟨⟨g7, c7, some ⟨gx, 0, none⟩, cx, ⟨by omega, fun ad e => by injection e with e; subst e; show Bi ≤ gx; omega⟩, (k3.cell 0).trans rfl, by simpa [World.setCell] using hlt7, ?_, ?_, ?_⟩, ?_⟩, ?_⟩
    · exact (World.cell?_setCell_far w7 ⟨b3, 0, none⟩ ⟨g7, 0, none⟩ _ (by show b3 ≠ g7; omega)).trans q1
    · exact (r7.far (p := ⟨b3, 0, none⟩) (fun ad _ e => by injection e with e; subst e; show gx ≠ b3; omega) _).more (by simp [World.setCell])
    · exact (World.cell?_setCell_far w7 ⟨b3, 0, none⟩ ⟨g7, 1, none⟩ _ (by show b3 ≠ g7; omega)).trans q2
    · exact (BZ.mono (by omega)).setCell (p := ⟨b3, 0, none⟩) (by show b0 ≤ b3; omega) _
    · intro p h1 h2
      exact (World.cell?_setCell_far w7 ⟨b3, 0, none⟩ p _ (fun e => h2 e.symm)).trans (BZ.cell (by omega))
end
end Go.Proofs.YtcgkkppidkkjiaaGreatDoor
namespace Go.Proofs.YtcgkkppidkkjiaaGreatDoor
open Go.RowKit
theorem TreeOut.form {S n : Nat} {f : Nat → P2} {V : List Int → Nat} {w w' : World} {e : Ending} (h : TreeOut S n f V w e w') : ∃ s A1 n1 c1 A2 n2 c2 er, e = .returned (.tuple #[.agg #[.int .i64 s, .slice A1 n1 c1, .slice A2 n2 c2], .int .i64 er]) ∧ Below w.heap.size w w' := by
  rcases h with ⟨er, h1, h2, h3⟩ | ⟨AI, cI, AN, cN, out, h1, h2, h3, h4, h5, h6, h7⟩
  · exact ⟨_, _, _, _, _, _, _, _, h1, h3⟩
  · exact ⟨_, _, _, _, _, _, _, _, h1, h7⟩
theorem TreeOut.set {S n : Nat} {f : Nat → P2} {V : List Int → Nat} {w0 w w' : World} {e : Ending} (h : TreeOut S n f V w e w') (hb : Below w0.heap.size w0 w) {g : Nat} (hg : g < w.heap.size) (hg0 : w0.heap.size ≤ g) (a b c : Value) : TreeOut S n f V w0 e (((w'.setCell ⟨g, 0, none⟩ a).setCell ⟨g, 1, none⟩ b).setCell ⟨g, 2, none⟩ c) := by
  rcases h with ⟨er, h1, h2, h3⟩ | ⟨AI, cI, AN, cN, out, h1, h2, h3, h4, h5, h6, h7⟩
  · exact .inl ⟨er, h1, h2, below_set3 (hb.trans (h3.mono hb.size)) hg0 a b c⟩
  · exact .inr ⟨AI, cI, AN, cN, out, h1, (h2.keep (Fr.set3 w' g a b c) (fun k hk => by subst hk; exact hg)).low hb.size, h3, h4, h5, h6, below_set3 (hb.trans (h7.mono hb.size)) hg0 a b c⟩
end Go.Proofs.YtcgkkppidkkjiaaGreatDoor
namespace Go.Proofs.YtcgkkppidkkjiaaGreatDoor
open Go.RowKit

set_option maxRecDepth 100000 in
set_option maxHeartbeats 4000000 in
theorem tree_bad (AH : Option Addr) (cH : Nat) (AV : Option Addr) (cV : Nat) (AR : Option Addr) (cR : Nat) (T : Tab) (w : World) (hM : Mat w) (h : TR w AH AV AR T) (hb : Bd T) (ht : ¬ Rt T) :
    Calls Tryz.prog 6 #[.agg #[.int .i64 T.st, .int .i64 T.sy, .slice AH T.n cH, .slice AV T.nv cV, .slice AR T.nr cR]] w fun e w' => e = .returned (.tuple #[.agg #[.int .i64 0, .slice none 0 0, .slice none 0 0], .int .i64 2]) ∧ Below w.heap.size w w' := by
  have RT := Lib.hid (fun w' (hb' : Below w.heap.size w w') => rt_any AH cH AV cV AR cR T w' (hM.below hb' hM.1) (h.later hb') hb)
  rw [rt_no ht] at RT
  clear h hb ht hM
  obtain ⟨st, ky, n, f, nv, v, nr, ri, ro⟩ := T
  simp only at *
  have K0 := (Blk.new w 26 #[.int .i64 st, .int .i64 ky, .slice AH n cH, .slice AV nv cV, .slice AR nr cR]).alloc (.cells #[.int .i64 0, .slice none 0 0, .slice none 0 0] 32)
  have K1 := Blk.new (w.alloc (.cells #[.int .i64 st, .int .i64 ky, .slice AH n cH, .slice AV nv cV, .slice AR nr cR] 26)) 32 #[.int .i64 0, .slice none 0 0, .slice none 0 0]
  rw [World.size_alloc] at K1
  have B0 := ((Below.refl w.heap.size w).alloc (Nat.le_refl _) (.cells #[.int .i64 st, .int .i64 ky, .slice AH n cH, .slice AV nv cV, .slice AR nr cR] 26)).alloc (by simp) (.cells #[.int .i64 0, .slice none 0 0, .slice none 0 0] 32)
  go_enter Tryz.func6, Tryz.ntmps6
  go_upto_region 1 with (fail)
  generalize (w.alloc (.cells #[.int .i64 st, .int .i64 ky, .slice AH n cH, .slice AV nv cV, .slice AR nr cR] 26)).alloc (.cells #[.int .i64 0, .slice none 0 0, .slice none 0 0] 32) = w0 at K0 K1 B0 ⊢
  obtain ⟨t0, t1, t2, t3, t4, t5⟩ := K0.five
  have K1 := Lib.hid K1
  have B0 := Lib.hid B0
  have hwR : w.heap.size ≤ w.heap.size + 1 := by omega
  clear K0
  go_wp2_with (go_at_call 17; (with_reducible refine (RT.out _ B0.out).mono ?_); rintro e w1 ⟨rfl, hb⟩; have B1 := Lib.hid (B0.out.trans (hb.mono B0.out.size)); have K11 := Lib.hid (K1.out.below hb K1.out.lt); obtain ⟨r0, r1, r2, r3, r4, r5, r6⟩ := K11.out.three6; clear hb)
  have KZ : Blk (((w1.setCell ⟨w.heap.size + 1, 0, none⟩ (.int .i64 0)).setCell ⟨w.heap.size + 1, 1, none⟩ (.slice none 0 0)).setCell ⟨w.heap.size + 1, 2, none⟩ (.slice none 0 0)) (w.heap.size + 1) 32 #[.int .i64 0, .slice none 0 0, .slice none 0 0] := by simpa using ((K11.out.set_ 0 (.int .i64 0)).set_ 1 (.slice none 0 0)).set_ 2 (.slice none 0 0)
  have BZ := below_set3 B1.out hwR (.int .i64 0) (.slice none 0 0) (.slice none 0 0)
  obtain ⟨y0, y1, y2, y3⟩ := KZ.three
  exact bodyPost_ret (v := .tuple #[.agg #[.int .i64 0, .slice none 0 0, .slice none 0 0], .int .i64 2]) (by simp [results, Tryz.results6, go_sem, y0, y1, y2]) rfl ⟨rfl, BZ⟩
set_option maxRecDepth 100000 in
set_option maxHeartbeats 4000000 in
theorem tree_out (S : Nat) (AH : Option Addr) (cH : Nat) (AV : Option Addr) (cV : Nat) (AR : Option Addr) (cR : Nat) (T : Tab) (w : World) (hM : Mat w) (h : TR w AH AV AR T) (hb : Bd T) (ht : Rt T) (hS : T.st = (S : Int)) :
    Calls Tryz.prog 6 #[.agg #[.int .i64 T.st, .int .i64 T.sy, .slice AH T.n cH, .slice AV T.nv cV, .slice AR T.nr cR]] w (TreeOut S T.n T.f (fun m => (nx T m).toNat) w) := by
  have RT := Lib.hid (fun w' (hb' : Below w.heap.size w w') => rt_any AH cH AV cV AR cR T w' (hM.below hb' hM.1) (h.later hb') hb)
  rw [(rt_iff T).2 ht] at RT
  have hs1 : 2 ≤ S := by have := ht.s1; omega
  have hs2 : S ≤ 8 := by have := ht.s2; omega
  have hd := ht.hd
  have CO := Lib.hid (fun (w' : World) (hb' : Below w.heap.size w w') (hk : Blk w' w.heap.size 26 #[.int .i64 T.st, .int .i64 T.sy, .slice AH T.n cH, .slice AV T.nv cV, .slice AR T.nr cR]) =>
    show Calls Tryz.prog 18 #[.agg #[.int .i64 T.st, .int .i64 T.sy, .slice AH T.n cH, .slice AV T.nv cV, .slice AR T.nr cR], .func (.func 19) #[] #[.pointer (some ⟨w.heap.size, 0, none⟩)]] w' (TreeOut S T.n T.f (fun m => (nx T m).toNat) w') by
      rw [hS]
      rw [hS] at hk
      by_cases hsm : S ^ T.n ≤ 65536
      · refine collect_any S T.sy AH T.n cH T.f AV T.nv cV AR T.nr cR (fun m => (nx T m).toNat) 19 #[.pointer (some ⟨w.heap.size, 0, none⟩)] w' hs1 hs2 hd.1.1 hd.1.2 hsm (h.later hb').1 (enters_of Tryz.func19 (by kernel_rfl) rfl) (fun w'' A c m hb2 hr hc hst hl => ?_) (fun m hst hl => ?_) (fun l m hst hl h3 he => ?_)
        · have hst' : als T.st m = true := by rw [hS]; exact sts_als.1 hst
          have hk2 := hk.below hb2 hk.lt
          rw [← hS] at hk2
          exact tree1_any AH cH AV cV AR cR T A c w.heap.size m w'' (hM.below (hb'.trans (hb2.mono hb'.size)) hM.1) ((h.later hb').later hb2) hb ht hr hc hst' hk2
        · have hst' : als T.st m = true := by rw [hS]; exact sts_als.1 hst
          have := nx_st ht hl hst'
          show (nx T m).toNat < S
          omega
        · show (nx T m).toNat = (nx T l).toNat
          rw [nx_eqv h3 hl he]
      · exact collect_big S T.sy AH T.n cH T.f AV T.nv cV AR T.nr cR (fun m => (nx T m).toNat) 19 #[.pointer (some ⟨w.heap.size, 0, none⟩)] w' hs1 hs2 hd.1.2 hsm)
  clear h hb ht hM hd
  obtain ⟨st, ky, n, f, nv, v, nr, ri, ro⟩ := T
  simp only at *
  have K0 := (Blk.new w 26 #[.int .i64 st, .int .i64 ky, .slice AH n cH, .slice AV nv cV, .slice AR nr cR]).alloc (.cells #[.int .i64 0, .slice none 0 0, .slice none 0 0] 32)
  have K1 := Blk.new (w.alloc (.cells #[.int .i64 st, .int .i64 ky, .slice AH n cH, .slice AV nv cV, .slice AR nr cR] 26)) 32 #[.int .i64 0, .slice none 0 0, .slice none 0 0]
  rw [World.size_alloc] at K1
  have B0 := ((Below.refl w.heap.size w).alloc (Nat.le_refl _) (.cells #[.int .i64 st, .int .i64 ky, .slice AH n cH, .slice AV nv cV, .slice AR nr cR] 26)).alloc (by simp) (.cells #[.int .i64 0, .slice none 0 0, .slice none 0 0] 32)
  generalize hV : (fun m => (nx ⟨st, ky, n, f, nv, v, nr, ri, ro⟩ m).toNat) = V at CO ⊢
  clear hV hS
  go_enter Tryz.func6, Tryz.ntmps6
  go_upto_region 1 with (fail)
  generalize (w.alloc (.cells #[.int .i64 st, .int .i64 ky, .slice AH n cH, .slice AV nv cV, .slice AR nr cR] 26)).alloc (.cells #[.int .i64 0, .slice none 0 0, .slice none 0 0] 32) = w0 at K0 K1 B0 ⊢
  obtain ⟨t0, t1, t2, t3, t4, t5⟩ := K0.five
  have K0 := Lib.hid K0
  have K1 := Lib.hid K1
  have B0 := Lib.hid B0
  have hwR : w.heap.size ≤ w.heap.size + 1 := by omega
  go_upto_region 3 with (go_at_call 17; (with_reducible refine (RT.out _ B0.out).mono ?_); rintro e w1 ⟨rfl, hb⟩; have B1 := Lib.hid (B0.out.trans (hb.mono B0.out.size)); have K10 := Lib.hid (K0.out.below hb K0.out.lt); have K11 := Lib.hid (K1.out.below hb K1.out.lt); obtain ⟨u0, u1, u2, u3, u4, u5⟩ := K10.out.five; have CC := Lib.hid (CO.out _ B1.out K10.out); clear hb)
  have BS := B1.out.size
  have hRl := K11.out.lt
  go_wp2_with (go_at_call 18; (with_reducible refine (CC.out).mono ?_); rintro e w2 hto; obtain ⟨s, A1, n1, c1, A2, n2, c2, er, rfl, hb2⟩ := hto.form; have TO := Lib.hid hto; have K21 := Lib.hid (K11.out.below hb2 hRl); obtain ⟨r0, r1, r2, r3, r4, r5, r6⟩ := K21.out.three6; clear hto hb2)
  have KZ : Blk (((w2.setCell ⟨w.heap.size + 1, 0, none⟩ (.int .i64 s)).setCell ⟨w.heap.size + 1, 1, none⟩ (.slice A1 n1 c1)).setCell ⟨w.heap.size + 1, 2, none⟩ (.slice A2 n2 c2)) (w.heap.size + 1) 32 #[.int .i64 s, .slice A1 n1 c1, .slice A2 n2 c2] := by simpa using ((K21.out.set_ 0 (.int .i64 s)).set_ 1 (.slice A1 n1 c1)).set_ 2 (.slice A2 n2 c2)
  obtain ⟨y0, y1, y2, y3⟩ := KZ.three
  exact bodyPost_ret (v := .tuple #[.agg #[.int .i64 s, .slice A1 n1 c1, .slice A2 n2 c2], .int .i64 er]) (by simp [results, Tryz.results6, go_sem, y0, y1, y2]) rfl (TO.out.set B1.out hRl hwR _ _ _)
/-- what a row's tree leads to -/
def vr (T : Tab) (i : Nat) (m : List Int) : Nat := if (av T m (T.ri i) (T.ro i)).2 = true then 1 else 0
theorem row1_any (AH : Option Addr) (cH : Nat) (AV : Option Addr) (cV : Nat) (AR : Option Addr) (cR : Nat) (T : Tab) (A : Option Addr) (c tb : Nat) (m : List Int) (w : World) (hM : Mat w) (h : TR w AH AV AR T) (hb : Bd T) (ht : Rt T) (h1 : T.nr = 1) (hI : Reads w w.heap.size A T.n (il m)) (hc : T.n ≤ c) (hst : als T.st m = true)
    (hk : Blk w tb 26 #[.int .i64 T.st, .int .i64 T.sy, .slice AH T.n cH, .slice AV T.nv cV, .slice AR 1 cR]) :
    Calls Tryz.prog 24 #[.slice A T.n c, .pointer (some ⟨tb, 0, none⟩)] w fun e w' => e = .returned (.int .i64 ((vr T 0 m : Nat) : Int)) ∧ Below w.heap.size w w' := by
  have MA := match_any AH cH AV cV AR cR T A c 0 m w hM h hb ht hI hc hst (by omega)
  rw [h1, show ((0 : Nat) : Int) = 0 from rfl] at MA
  have MA := Lib.hid MA
  have HV := Lib.hid (show vr T 0 m = if (av T m (T.ri 0) (T.ro 0)).2 = true then 1 else 0 from rfl)
  generalize av T m (T.ri 0) (T.ro 0) = p at MA HV
  generalize vr T 0 m = y at HV ⊢
  obtain ⟨p1, p2⟩ := p
  obtain ⟨t0, t1, t2, t3, t4, t5⟩ := hk.five
  clear hM h hb ht hI hc hst hk h1
  cases p2 with
  | true =>
    go_enter Tryz.func24, Tryz.ntmps24
    go_wp2_with (go_at_call 25; (with_reducible refine MA.out.mono ?_); rintro e w1 ⟨rfl, hb⟩; have B1 := Lib.hid hb; clear hb)
    go_ret
    exact ⟨by rw [HV.out]; rfl, B1.out⟩
  | false =>
    go_enter Tryz.func24, Tryz.ntmps24
    go_wp2_with (go_at_call 25; (with_reducible refine MA.out.mono ?_); rintro e w1 ⟨rfl, hb⟩; have B1 := Lib.hid hb; clear hb)
    go_ret
    exact ⟨by rw [HV.out]; rfl, B1.out⟩
theorem Blk.all5 {w : World} {g : Nat} {t : TypeId} {x y z u v : Value} (h : Blk w g t #[x, y, z, u, v]) (a b c d e : Value) : Blk (((((w.setCell ⟨g, 0, none⟩ a).setCell ⟨g, 1, none⟩ b).setCell ⟨g, 2, none⟩ c).setCell ⟨g, 3, none⟩ d).setCell ⟨g, 4, none⟩ e) g t #[a, b, c, d, e] := by
  simpa using ((((h.set_ 0 a).set_ 1 b).set_ 2 c).set_ 3 d).set_ 4 e
theorem below_set5 {B g : Nat} {w0 w : World} (h : Below B w0 w) (hg : B ≤ g) (a b c d e : Value) : Below B w0 (((((w.setCell ⟨g, 0, none⟩ a).setCell ⟨g, 1, none⟩ b).setCell ⟨g, 2, none⟩ c).setCell ⟨g, 3, none⟩ d).setCell ⟨g, 4, none⟩ e) :=
  Below.set1 (Below.set1 (below_set3 h hg a b c) hg d) hg e
theorem withRows_any (st ky : Int) (AH AV AR AX : Option Addr) (n nv nr x cH cV cR cX : Nat) (w : World) :
    Calls Tryz.prog 23 #[.agg #[.int .i64 st, .int .i64 ky, .slice AH n cH, .slice AV nv cV, .slice AR nr cR], .slice AX x cX] w fun e w' => e = .returned (.agg #[.int .i64 st, .int .i64 ky, .slice AH n cH, .slice AV nv cV, .slice AX x cX]) ∧ Below w.heap.size w w' := by
  have K0 := (Blk.new w 26 #[.int .i64 st, .int .i64 ky, .slice AH n cH, .slice AV nv cV, .slice AR nr cR]).alloc (.cells #[.int .i64 0, .int .i64 0, .slice none 0 0, .slice none 0 0, .slice none 0 0] 26)
  have K1 := Blk.new (w.alloc (.cells #[.int .i64 st, .int .i64 ky, .slice AH n cH, .slice AV nv cV, .slice AR nr cR] 26)) 26 #[.int .i64 0, .int .i64 0, .slice none 0 0, .slice none 0 0, .slice none 0 0]
  rw [World.size_alloc] at K1
  have B0 := ((Below.refl w.heap.size w).alloc (Nat.le_refl _) (.cells #[.int .i64 st, .int .i64 ky, .slice AH n cH, .slice AV nv cV, .slice AR nr cR] 26)).alloc (by simp) (.cells #[.int .i64 0, .int .i64 0, .slice none 0 0, .slice none 0 0, .slice none 0 0] 26)
  go_enter Tryz.func23, Tryz.ntmps23
  go_upto_region 1 with (fail)
  generalize (w.alloc (.cells #[.int .i64 st, .int .i64 ky, .slice AH n cH, .slice AV nv cV, .slice AR nr cR] 26)).alloc (.cells #[.int .i64 0, .int .i64 0, .slice none 0 0, .slice none 0 0, .slice none 0 0] 26) = w0 at K0 K1 B0 ⊢
  obtain ⟨t0, t1, t2, t3, t4, t5⟩ := K0.five
  have f4 := K0.frozen 4
  go_upto_region 2 with (fail)
  have L0 : Blk (w0.setCell ⟨w.heap.size, 4, none⟩ (.slice AX x cX)) w.heap.size 26 #[.int .i64 st, .int .i64 ky, .slice AH n cH, .slice AV nv cV, .slice AX x cX] := by simpa using K0.set_ 4 (.slice AX x cX)
  have L1 := K1.far (p := ⟨w.heap.size, 4, none⟩) (by show w.heap.size + 1 ≠ w.heap.size; omega) (.slice AX x cX)
  have C1 := Below.set1 (i := 4) B0 (Nat.le_refl _) (.slice AX x cX)
  generalize w0.setCell ⟨w.heap.size, 4, none⟩ (.slice AX x cX) = w2 at *
  clear t0 t1 t2 t3 t4 t5 f4 K0 K1 B0
  obtain ⟨t0, t1, t2, t3, t4, t5⟩ := L0.five
  obtain ⟨u0, u1, u2, u3, u4, u5⟩ := L1.five
  have g0 := L1.frozen 0
  have g1 := L1.frozen 1
  have g2 := L1.frozen 2
  have g3 := L1.frozen 3
  have g4 := L1.frozen 4
  have L1 := Lib.hid L1
  have C1 := Lib.hid C1
  go_wp2
  obtain ⟨y0, y1, y2, y3, y4, y5⟩ := (L1.out.all5 (.int .i64 st) (.int .i64 ky) (.slice AH n cH) (.slice AV nv cV) (.slice AX x cX)).five
  exact bodyPost_ret (v := .agg #[.int .i64 st, .int .i64 ky, .slice AH n cH, .slice AV nv cV, .slice AX x cX]) (by simp [results, Tryz.results23, go_sem, y0, y1, y2, y3, y4]) rfl ⟨rfl, below_set5 C1.out (Nat.le_succ _) _ _ _ _ _⟩
end Go.Proofs.YtcgkkppidkkjiaaGreatDoor
