/- The walk of input: the states of the input with a number. -/
import Derived.Test.YtcgkkppidkkjiaaGreatDoorMaa
import Derived.Test.YtcgkkppidkkjiaaGreatDoorMax
import Derived.Test.YtcgkkppidkkjiaaGreatDoorMac
import Derived.Test.YtcgkkppidkkjiaaGreatDoorMab
import Derived.Test.YtcgkkppidkkjiaaGreatDoorMaf
import Derived.Test.YtcgkkppidkkjiaaGreatDoorMaj
import Derived.Test.YtcgkkppidkkjiaaGreatDoorMaw
import Derived.Test.YtcgkkppidkkjiaaGreatDoorMay
import Derived.Test.YtcgkkppidkkjiaaGreatDoorMak
import Derived.Below
import Derived.BigQuiet
import Derived.Deep.AppendLies
import Derived.Deep.CutRange
import Derived.Deep.Draws
import Derived.Deep.OwnRows
import Derived.Deep.QuietTactic
import Derived.IntWalk
import Derived.Laws.BitsLemmas
import Derived.Laws.OwnMore
import Derived.Laws.Rows
import Derived.Lib.Hide
import Derived.Lib.SliceRun
import Derived.LoopIn
import Derived.LoopN
import Derived.LoopNIn
import Derived.Maps.AppendAt
import Derived.OpenShut
import Derived.OwnWalk
import Derived.OwnWalkIn
import Derived.RangeFuncBound
import Derived.RangeFuncCalls
import Derived.RangeFuncLeaves
import Derived.RangeFuncNested
import Derived.Shelf.Abstract
import Derived.Shelf.RegionOpen
import Derived.Shelf.SlIterI.Sorted
import Derived.Shelf.SlLaysF0
import Derived.Shelf.Slices.Clone
import Derived.Shelf.Slices.Delete
import Derived.Shelf.Sort.Plain
import Derived.Shelf.Spec.SlicesInsert
import Derived.Sort.Grow
import Derived.Sort.OwnSortedInts
import Derived.Sort.Statements
import Derived.StillTail
import Derived.StillTailTactics
import Derived.TacticsInMore
import Derived.Test.YtcgkkppidkkjiaaGreatDoorRows
import Derived.WalkKit
namespace Go.Proofs.YtcgkkppidkkjiaaGreatDoor
open Go.RowKit Go.Shelf
attribute [local go_sem] Oper.semAt_some
theorem made_il (n : Nat) : madeCells #[Value.int .i64 0] n = (il (List.replicate n 0)).toArray := by
  apply Array.ext
  · simp [madeCells, il]
  · intro i h1 h2
    simp [madeCells, il, Nat.mod_one]
theorem mk_ints (n : Nat) (hn : n ≤ 1000000) (w : World) : (Instr.makeSlice 27 (.int .i64 (n : Int)) (.int .i64 (n : Int))).run Tryz.prog w = .ok (.slice (some ⟨w.heap.size, 0, none⟩) n n) (w.alloc (.cells (il (List.replicate n 0)).toArray 3)) := by
  rw [run_make_row' 27 3 (.int .i64 0) 8 Tryz.underlying27 Tryz.info_intE rfl .i64 .i64 n (by omega) (by omega) w, made_il]
theorem blk_own {β : Type} {B g : Nat} {t : TypeId} {cs : β → Array Value} : OwnFrom B (fun s W => Blk W g t (cs s)) := fun s W W' row h hg hr => by
  refine (hg.block g h.lt (fun e => ?_)).trans h
  obtain ⟨_, o, ho, hc⟩ := hr g e.symm
  rw [show W.heap[g]? = _ from h] at ho
  cases ho
  cases hc
/-- the row and the number behind some rounds -/
def stp (S : Nat) (p : List Int × Nat) (i : Nat) : List Int × Nat := (p.1.set i ((p.2 % S : Nat) : Int), p.2 / S)
def rws (S n k : Nat) (is : List Nat) : List Int × Nat := is.foldl (stp S) (List.replicate n 0, k)
theorem rws_push (S n k : Nat) (is : List Nat) (i : Nat) : rws S n k (is ++ [i]) = stp S (rws S n k is) i := by simp [rws]
theorem rws_len (S n k : Nat) (is : List Nat) : (rws S n k is).1.length = n := by
  have h : ∀ (is : List Nat) (p : List Int × Nat), (is.foldl (stp S) p).1.length = p.1.length := by
    intro is
    induction is with
    | nil => intro p; rfl
    | cons i is ih => intro p; rw [List.foldl_cons, ih]; simp [stp]
  rw [rws, h]
  simp
theorem rws_snd (S n k : Nat) (is : List Nat) : (rws S n k is).2 ≤ k := by
  have h : ∀ (is : List Nat) (p : List Int × Nat), (is.foldl (stp S) p).2 ≤ p.2 := by
    intro is
    induction is with
    | nil => intro p; exact Nat.le_refl _
    | cons i is ih => intro p; rw [List.foldl_cons]; exact Nat.le_trans (ih _) (Nat.div_le_self _ _)
  exact h is _
theorem dg_snoc (S j k : Nat) : dg S (j + 1) k = ((k / S ^ j % S : Nat) : Int) :: dg S j k := rfl
theorem rws_dn {S n k : Nat} (j : Nat) (hj : j ≤ n) : rws S n k (dn n j) = (List.replicate (n - j) 0 ++ dg S j k, k / S ^ j) := by
  induction j with
  | zero => simp [dn, rws, dg]
  | succ j ih =>
    rw [dn_succ, rws_push, ih (by omega), stp]
    simp only [Prod.mk.injEq]
    refine ⟨?_, by rw [Nat.div_div_eq_div_mul, Nat.pow_succ]⟩
    rw [dg_snoc, show n - j = (n - (j + 1)) + 1 by omega, List.replicate_succ', List.append_assoc, List.set_append_right _ _ (by simp; omega)]
    simp [show n - 1 - j - (n - (j + 1)) = 0 by omega]
theorem blk5 (w : World) (c1 c2 c3 c4 c5 : Array Value) (t1 t2 t3 t4 t5 : TypeId) (w5 : World) (h : w5 = ((((w.alloc (.cells c1 t1)).alloc (.cells c2 t2)).alloc (.cells c3 t3)).alloc (.cells c4 t4)).alloc (.cells c5 t5)) :
    Blk w5 w.heap.size t1 c1 ∧ Blk w5 (w.heap.size + 1) t2 c2 ∧ Blk w5 (w.heap.size + 1 + 1) t3 c3 ∧ Blk w5 (w.heap.size + 1 + 1 + 1) t4 c4 ∧ Blk w5 (w.heap.size + 1 + 1 + 1 + 1) t5 c5 ∧ Below w.heap.size w w5 ∧ w5.heap.size = w.heap.size + 1 + 1 + 1 + 1 + 1 := by
  subst h
  obtain ⟨k1, k2, k3, k4⟩ := three_blks w c1 c2 c3 t1 t2 t3
  have h4 := Blk.new (((w.alloc (.cells c1 t1)).alloc (.cells c2 t2)).alloc (.cells c3 t3)) t4 c4
  have h5 := Blk.new ((((w.alloc (.cells c1 t1)).alloc (.cells c2 t2)).alloc (.cells c3 t3)).alloc (.cells c4 t4)) t5 c5
  simp only [World.size_alloc] at h4 h5
  exact ⟨(k1.alloc _).alloc _, (k2.alloc _).alloc _, (k3.alloc _).alloc _, h4.alloc _, h5, (k4.alloc (by simp; omega) _).alloc (by simp; omega) _, by simp⟩
set_option maxRecDepth 100000 in
set_option maxHeartbeats 4000000 in
theorem input_any (S k : Nat) (sy : Int) (AH : Option Addr) (n cH : Nat) (AV : Option Addr) (nv cV : Nat) (AR : Option Addr) (nr cR : Nat) (w : World) (hS : 2 ≤ S) (hS8 : S ≤ 8) (hn : n ≤ 1000) (hk : k < 1000000) :
    Calls Tryz.prog 28 #[.agg #[.int .i64 (S : Int), .int .i64 sy, .slice AH n cH, .slice AV nv cV, .slice AR nr cR], .int .i64 (k : Int)] w fun e w' => ∃ g, e = .returned (.slice (some ⟨g, 0, none⟩) n n) ∧ Blk w' g 3 (il (dg S n k)).toArray ∧ Below w.heap.size w w' := by
  refine (callsIn_wide (n := 9)).1 ?_
  refine callsIn_of_wp_marks Tryz.func28 rfl trivial ?_ rfl
  simp only [Tryz.ntmps28, List.size_toArray, List.length_cons, List.length_nil, Nat.reduceAdd, Nat.reduceSub, Array.replicate_succ, Array.replicate_zero, List.push_toArray, List.append_toArray, List.nil_append, List.cons_append]
  have mk := mk_ints n (by omega)
  gi_wp2_with (refine ⟨trivial, ?_⟩; gi_at_call 47; refine (callsIn_wide.2 (backward_any _ _ _ _)).mono ?_; rintro e w' ⟨rfl, rfl⟩)
  generalize hw5 : ((((w.alloc (.cells #[.int .i64 (S : Int), .int .i64 sy, .slice AH n cH, .slice AV nv cV, .slice AR nr cR] 26)).alloc (.cells #[.int .i64 (k : Int)] 3)).alloc (.cells (il (List.replicate n 0)).toArray 3)).alloc (.cells #[.slice (some ⟨w.heap.size + 1 + 1, 0, none⟩) n n] 27)).alloc (.cells #[.slice (some ⟨w.heap.size + 1 + 1, 0, none⟩) n n] 27) = w5
  obtain ⟨K0, K1, K2, K3, K4, HB5, HS5⟩ := blk5 w _ _ _ _ _ _ _ _ _ _ w5 hw5.symm
  clear hw5 mk
  have HIO : OwnFrom w5.heap.size (fun (pre : List (Fin n × Int)) W => (Blk W w.heap.size 26 #[.int .i64 (S : Int), .int .i64 sy, .slice AH n cH, .slice AV nv cV, .slice AR nr cR] ∧ Blk W (w.heap.size + 1) 3 #[.int .i64 ((rws S n k (pre.map fun p => p.1.val)).2 : Nat)] ∧ Blk W (w.heap.size + 1 + 1) 3 (il (rws S n k (pre.map fun p => p.1.val)).1).toArray ∧ Blk W (w.heap.size + 1 + 1 + 1) 27 #[.slice (some ⟨w.heap.size + 1 + 1, 0, none⟩) n n]) ∧ Below w.heap.size w W) :=
    OwnFrom.and (OwnFrom.and (blk_own (cs := fun _ => _)) (OwnFrom.and (blk_own (cs := fun pre : List (Fin n × Int) => #[Value.int .i64 ((rws S n k (pre.map fun p => p.1.val)).2 : Nat)])) (OwnFrom.and (blk_own (cs := fun pre : List (Fin n × Int) => (il (rws S n k (pre.map fun p => p.1.val)).1).toArray)) (blk_own (cs := fun _ => _))))) (ownFrom_below (Nat.le_refl _) (by omega))
  refine wpIn_rangeFunc_ownG rfl (by omega) (gf := 80) (lb := #[.pointer (some ⟨w.heap.size + 1 + 1 + 1 + 1, 0, none⟩)]) rfl trivial (enters_of Tryz.func80 (by kernel_rfl) rfl)
    (encs := fun x : Fin n × Int => #[Value.int .i64 ((x.1.val : Nat) : Int), Value.int .i64 x.2]) (Kp := RowK (w.heap.size + 1 + 1) n (w.heap.size + 1 + 1 + 1 + 1)) (S := fun ys => ys.map (fun p : Fin n × Int => p.1.val) = dn n n) (Sp := fun _ => True) (N := n) (w0 := w5)
    (fun l J Jx W hW _ _ hY h0 => backward1_in n (w.heap.size + 1 + 1) n (by omega) (9 - 1) (by omega) l (w.heap.size + 1 + 1 + 1 + 1) J Jx W hY (List.replicate n 0) (by simp) (K2.below hW K2.lt) (K4.below hW K4.lt) h0)
    (fun h k => h.trans k) (fun W l o o' hl _ _ _ => RowK.put (by omega) (by omega)) (Below.refl _ _) (fun _ => rfl)
    (fun (pre : List (Fin n × Int)) W => (Blk W w.heap.size 26 #[.int .i64 (S : Int), .int .i64 sy, .slice AH n cH, .slice AV nv cV, .slice AR nr cR] ∧ Blk W (w.heap.size + 1) 3 #[.int .i64 ((rws S n k (pre.map fun p => p.1.val)).2 : Nat)] ∧ Blk W (w.heap.size + 1 + 1) 3 (il (rws S n k (pre.map fun p => p.1.val)).1).toArray ∧ Blk W (w.heap.size + 1 + 1 + 1) 27 #[.slice (some ⟨w.heap.size + 1 + 1, 0, none⟩) n n]) ∧ Below w.heap.size w W)
    (fun _ _ _ => False) HIO (fun _ _ _ _ _ hs _ _ => hs) ⟨⟨K0, K1, K2, K3⟩, HB5⟩
    (fun x => { tmps := #[.agg #[.int .i64 (S : Int), .int .i64 sy, .slice AH n cH, .slice AV nv cV, .slice AR nr cR], .int .i64 (k : Int), .pointer (some ⟨w.heap.size, 0, none⟩), .pointer (some ⟨w.heap.size + 1, 0, none⟩), .slice none 0 0, .pointer (some ⟨w.heap.size + 1 + 1 + 1, 0, none⟩), .int .i64 ((x.1.val : Nat) : Int), .pointer (some ⟨w.heap.size, 2, none⟩), .slice AH n cH, .int .i64 (n : Int), .slice (some ⟨w.heap.size + 1 + 1, 0, none⟩) n n, .slice (some ⟨w.heap.size + 1 + 1, 0, none⟩) n n, .func (.func 80) #[] #[.pointer (some ⟨w.heap.size + 1 + 1 + 1 + 1, 0, none⟩)], .int .i64 ((x.1.val : Nat) : Int), .int .i64 x.2, undef, undef, undef, undef, undef, undef, undef, undef, undef, undef, undef, undef], defers := [] }) ?assign ?body ?done ?stop
  case assign =>
    intro l x W K hK
    gi_wp2
    exact hK
  case body =>
    rintro l' pre ⟨⟨i, hi⟩, xv⟩ W ⟨⟨k0, k1, k2, k3⟩, hB⟩ hlt
    have hB' := Lib.hid hB
    have HPU := Lib.hid (rws_push S n k (pre.map fun p => p.1.val) i)
    have HLN := Lib.hid (rws_len S n k (pre.map fun p => p.1.val))
    have hle := rws_snd S n k (pre.map fun p => p.1.val)
    obtain ⟨⟨r, m⟩, hrm⟩ : ∃ p, rws S n k (pre.map fun p => p.1.val) = p := ⟨_, rfl⟩
    rw [hrm] at k1 k2 HPU HLN hle
    simp only at k1 k2 HLN hle
    obtain ⟨t0, t1, t2, t3, t4, t5⟩ := k0.five
    have c1 := k1.cell 0
    have c3 := k3.cell 0
    simp only [List.getElem?_toArray, List.getElem?_cons_zero] at c1 c3
    have f1 := k1.frozen 0
    have c2 : W.cell? ⟨w.heap.size + 1 + 1, i, none⟩ = some (.int .i64 (ig r i)) := by rw [k2.cell, il_get0 (by have := HLN.out; omega)]
    have f2 := k2.frozen i
    have hmI : (m : Int) < 1000000 := by omega
    have hiI : (i : Int) < (n : Int) := by omega
    have hS0 : ¬ S = 0 := by omega
    have hS1 : ((S : Int) == 0) = false := by rw [beq_eq_false_iff_ne]; omega
    have H0 := Lib.hid k0
    have H1 := Lib.hid k1
    have H2 := Lib.hid k2
    have H3 := Lib.hid k3
    have HSH := Lib.hid HS5
    clear hrm hB hle k0 k1 k2 k3 K0 K1 K2 K3 K4 HIO HB5 HS5
    obtain ⟨y, hy⟩ : ∃ y : Nat, m % S = y := ⟨_, rfl⟩
    obtain ⟨q, hq⟩ : ∃ q : Nat, m / S = q := ⟨_, rfl⟩
    have r1 : Int.tmod (m : Int) (S : Int) = (y : Int) := by rw [← hy, Int.tmod_eq_emod_of_nonneg (by omega)]; simp
    have r2 : (m : Int) % (S : Int) = (y : Int) := by rw [← hy]; simp
    have r3 : Int.tdiv (m : Int) (S : Int) = (q : Int) := by rw [← hq, Int.tdiv_eq_ediv_of_nonneg (by omega)]; simp
    have r4 : (m : Int) / (S : Int) = (q : Int) := by rw [← hq]; simp
    have yI : (y : Int) < 8 := by have := Nat.mod_lt m (show 0 < S by omega); omega
    have qI : (q : Int) < 1000000 := by have := Nat.div_le_self m S; omega
    have HY := Lib.hid hy
    have HQ := Lib.hid hq
    clear hy hq
    have A0 := Lib.hid (show Blk (W.setCell ⟨w.heap.size + 1 + 1, i, none⟩ (.int .i64 (y : Int))).drew w.heap.size _ _ from H0.out.far (p := ⟨w.heap.size + 1 + 1, i, none⟩) (by show w.heap.size ≠ w.heap.size + 1 + 1; omega) (.int .i64 (y : Int)))
    have A1 := Lib.hid (show Blk (W.setCell ⟨w.heap.size + 1 + 1, i, none⟩ (.int .i64 (y : Int))).drew (w.heap.size + 1) _ _ from H1.out.far (p := ⟨w.heap.size + 1 + 1, i, none⟩) (by show w.heap.size + 1 ≠ w.heap.size + 1 + 1; omega) (.int .i64 (y : Int)))
    have A2 := Lib.hid (show Blk (W.setCell ⟨w.heap.size + 1 + 1, i, none⟩ (.int .i64 (y : Int))).drew (w.heap.size + 1 + 1) _ (il (r.set i (y : Int))).toArray from by
      have := H2.out.set_ i (.int .i64 (y : Int))
      have h : Blk (W.setCell ⟨w.heap.size + 1 + 1, i, none⟩ (.int .i64 (y : Int))) (w.heap.size + 1 + 1) 3 (il (r.set i (y : Int))).toArray := by simpa [il, List.map_set] using this
      exact h)
    have A3 := Lib.hid (show Blk (W.setCell ⟨w.heap.size + 1 + 1, i, none⟩ (.int .i64 (y : Int))).drew (w.heap.size + 1 + 1 + 1) _ _ from H3.out.far (p := ⟨w.heap.size + 1 + 1, i, none⟩) (by show w.heap.size + 1 + 1 + 1 ≠ w.heap.size + 1 + 1; omega) (.int .i64 (y : Int)))
    have AK := Lib.hid (fun (q' : Nat) (hq' : m / S = q') => show KeepsFrom w5.heap.size W ((W.setCell ⟨w.heap.size + 1 + 1, i, none⟩ (.int .i64 (y : Int))).drew.setCell ⟨w.heap.size + 1, 0, none⟩ (.int .i64 (q' : Int))) ∧ RowK (w.heap.size + 1 + 1) n (w.heap.size + 1 + 1 + 1 + 1) W ((W.setCell ⟨w.heap.size + 1 + 1, i, none⟩ (.int .i64 (y : Int))).drew.setCell ⟨w.heap.size + 1, 0, none⟩ (.int .i64 (q' : Int))) ∧ (Blk ((W.setCell ⟨w.heap.size + 1 + 1, i, none⟩ (.int .i64 (y : Int))).drew.setCell ⟨w.heap.size + 1, 0, none⟩ (.int .i64 (q' : Int))) w.heap.size 26 #[.int .i64 (S : Int), .int .i64 sy, .slice AH n cH, .slice AV nv cV, .slice AR nr cR] ∧ Blk ((W.setCell ⟨w.heap.size + 1 + 1, i, none⟩ (.int .i64 (y : Int))).drew.setCell ⟨w.heap.size + 1, 0, none⟩ (.int .i64 (q' : Int))) (w.heap.size + 1) 3 #[.int .i64 ((rws S n k ((pre ++ [((⟨i, hi⟩ : Fin n), xv)]).map fun p => p.1.val)).2 : Nat)] ∧ Blk ((W.setCell ⟨w.heap.size + 1 + 1, i, none⟩ (.int .i64 (y : Int))).drew.setCell ⟨w.heap.size + 1, 0, none⟩ (.int .i64 (q' : Int))) (w.heap.size + 1 + 1) 3 (il (rws S n k ((pre ++ [((⟨i, hi⟩ : Fin n), xv)]).map fun p => p.1.val)).1).toArray ∧ Blk ((W.setCell ⟨w.heap.size + 1 + 1, i, none⟩ (.int .i64 (y : Int))).drew.setCell ⟨w.heap.size + 1, 0, none⟩ (.int .i64 (q' : Int))) (w.heap.size + 1 + 1 + 1) 27 #[.slice (some ⟨w.heap.size + 1 + 1, 0, none⟩) n n]) ∧ Below w.heap.size w ((W.setCell ⟨w.heap.size + 1 + 1, i, none⟩ (.int .i64 (y : Int))).drew.setCell ⟨w.heap.size + 1, 0, none⟩ (.int .i64 (q' : Int))) from by
      have hs5 := HSH.out
      have b1 := A0.out.far (p := ⟨w.heap.size + 1, 0, none⟩) (by show w.heap.size ≠ w.heap.size + 1; omega) (.int .i64 (q' : Int))
      have b2 := A1.out.set_ 0 (.int .i64 (q' : Int))
      have b3 := A2.out.far (p := ⟨w.heap.size + 1, 0, none⟩) (by show w.heap.size + 1 + 1 ≠ w.heap.size + 1; omega) (.int .i64 (q' : Int))
      have b4 := A3.out.far (p := ⟨w.heap.size + 1, 0, none⟩) (by show w.heap.size + 1 + 1 + 1 ≠ w.heap.size + 1; omega) (.int .i64 (q' : Int))
      have hh : ∀ j, j ≠ w.heap.size + 1 → j ≠ w.heap.size + 1 + 1 → ((W.setCell ⟨w.heap.size + 1 + 1, i, none⟩ (.int .i64 (y : Int))).drew.setCell ⟨w.heap.size + 1, 0, none⟩ (.int .i64 (q' : Int))).heap[j]? = W.heap[j]? := fun j h1 h2 =>
        (Below.heap_setCell _ ⟨w.heap.size + 1, 0, none⟩ _ j h1).trans (Below.heap_setCell W ⟨w.heap.size + 1 + 1, i, none⟩ _ j h2)
      refine ⟨⟨by simp [World.setCell, World.drew], fun k o hk ho _ => (hh k (by omega) (by omega)).trans ho⟩, ⟨hh _ (by omega) (by omega), fun r0 h0 _ => ⟨r.set i (y : Int), by rw [List.length_set]; exact HLN.out, b3⟩⟩, ⟨b1, ?_, ?_, b4⟩, ?_⟩
      · rw [List.map_append, List.map_cons, List.map_nil, HPU.out]
        simp only [stp, hq']
        simpa using b2
      · rw [List.map_append, List.map_cons, List.map_nil, HPU.out]
        simp only [stp, HY.out]
        exact b3
      · exact ((hB'.out.setCell (p := ⟨w.heap.size + 1 + 1, i, none⟩) (by show w.heap.size ≤ w.heap.size + 1 + 1; omega) _).drew).setCell (p := ⟨w.heap.size + 1, 0, none⟩) (by show w.heap.size ≤ w.heap.size + 1; omega) _)
    clear H0 H1 H2 H3
    gi_wp2
    gi_region
    all_goals
      generalize (W.setCell ⟨w.heap.size + 1 + 1, i, none⟩ (.int .i64 (y : Int))).drew = W2 at A0 A1 A2 A3 AK ⊢
      have a1 := A1.out.cell 0
      have a2 := A1.out.frozen 0
      simp only [List.getElem?_toArray, List.getElem?_cons_zero] at a1
      obtain ⟨s0, s1, s2, s3, s4, s5⟩ := A0.out.five
      clear t0 t1 t2 t3 t4 t5 c1 c2 c3 f1 f2
      gi_wp2
      exact AK.out q HQ.out
  case done =>
    rintro D ys W hD hys hII hK
    have HP := Lib.hid (fun o' => HIO.putObj o' (s := ys) (W := W) hII hD hK rfl)
    obtain ⟨⟨_, _, _, k3⟩, hB⟩ := hII
    have c3 := k3.cell 0
    simp only [List.getElem?_toArray, List.getElem?_cons_zero] at c3
    have HYS := Lib.hid hys
    clear HIO K0 K1 K2 K3 K4 HB5 HS5 k3 hB hys
    gi_wp2
    refine ⟨by simp, .inl ⟨_, _, rfl, run_takeDeferred hK, ?_⟩⟩
    refine ⟨_, results_tmp rfl _ _ _, ?_⟩
    obtain ⟨⟨_, _, k2, _⟩, hB⟩ := HP.out _
    rw [HYS.out, rws_dn n (Nat.le_refl n), Nat.sub_self, List.replicate_zero, List.nil_append] at k2
    exact ⟨_, rfl, k2, hB⟩
  case stop =>
    rintro D c pre W _ _ h _
    exact h.elim
end Go.Proofs.YtcgkkppidkkjiaaGreatDoor
