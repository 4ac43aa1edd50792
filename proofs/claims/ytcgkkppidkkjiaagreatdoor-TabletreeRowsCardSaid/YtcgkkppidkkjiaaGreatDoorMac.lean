/- The walks of the iterators of slices.Values and slices.Backward. -/
/- The walks of cmp.Compare, cmp.Or, point.Compare. -/
/- The walks of point.Compare, said so: it draws, it lays blocks, and it turns nothing else. -/
import Derived.Test.YtcgkkppidkkjiaaGreatDoorMaa
import Derived.Test.YtcgkkppidkkjiaaGreatDoorMab
import Derived.Below
import Derived.BigQuiet
import Derived.Deep.AppendLies
import Derived.Deep.Draws
import Derived.Deep.QuietTactic
import Derived.IntWalk
import Derived.Laws.OwnMore
import Derived.Laws.Rows
import Derived.Lib.Hide
import Derived.LoopIn
import Derived.LoopN
import Derived.LoopNIn
import Derived.OwnWalk
import Derived.OwnWalkIn
import Derived.RangeFuncBound
import Derived.RangeFuncCalls
import Derived.RangeFuncLeaves
import Derived.RangeFuncNested
import Derived.Shelf.Abstract
import Derived.Shelf.RegionOpen
import Derived.Shelf.SlIterI.Sorted
import Derived.Shelf.Slices.Delete
import Derived.Shelf.Spec.SlicesInsert
import Derived.Sort.Statements
import Derived.StillTail
import Derived.StillTailTactics
import Derived.TacticsInMore
import Derived.Test.YtcgkkppidkkjiaaGreatDoorRows
import Derived.WalkKit
import Derived.Shelf.SlLaysF0
import Derived.Sort.Grow
namespace Go.Proofs.YtcgkkppidkkjiaaGreatDoor
open Go.RowKit Go.Shelf
attribute [local go_sem] Oper.semAt_some
set_option maxRecDepth 100000 in
set_option maxHeartbeats 1000000 in
theorem values1_in (l₀ : List Int) (A : Option Addr) (c : Nat) (hL : l₀.length ≤ 1000000) (n : Nat) (hn : 1 ≤ n) (l Bn n₀ : Nat) (J Jx : List Int → World → Prop)
    (W : World) (hn₀ : n₀ ≤ W.heap.size)
    (hY : ∀ pre x W, J pre W → pre.length < l₀.length → YieldAt Fence.wide (n - 1) Tryz.prog l #[.int .i64 x] W fun e W' =>
      (e = .returned (.bool true) ∧ J (pre ++ [x]) W' ∧ Below n₀ W W') ∨ (e = .returned (.bool false) ∧ Jx (pre ++ [x]) W'))
    (hR0 : Reads W n₀ A l₀.length (il l₀)) (hBn : W.cell? ⟨Bn, 0, none⟩ = some (.slice A l₀.length c)) (h0 : J [] W) :
    CallsIn Fence.wide n Tryz.prog 102 #[.func (.yield l) #[] #[], .pointer (some ⟨Bn, 0, none⟩)] W fun e W' => (∃ v, e = .returned v) ∧
      ((∃ ys, ys = l₀ ∧ J ys W') ∨ (∃ pre, True ∧ Jx pre W')) := by
  have HR := Lib.hid hR0
  obtain ⟨N, hN⟩ : ∃ N, l₀.length = N := ⟨_, rfl⟩
  rw [hN] at hBn
  have HN := Lib.hid hN
  have hN2 : N ≤ 1000000 := by omega
  clear hR0 hN hL
  refine callsIn_of_wp Tryz.func102 rfl trivial ?_ rfl
  simp only [Tryz.ntmps102, List.size_toArray, List.length_cons, List.length_nil, Nat.reduceAdd, Nat.reduceSub, Array.replicate_succ, Array.replicate_zero, List.push_toArray, List.append_toArray, List.nil_append, List.cons_append]
  gi_wp2
  gi_loopw [7] (fun r wr => ∃ k : Nat, k ≤ N ∧ r = .int .i64 (k : Int) ∧ J (l₀.take k) wr ∧ Below n₀ W wr) (fun r _ => match r with | .int _ z => N - z.toNat | _ => 0)
  case atStart => exact ⟨0, Nat.zero_le _, rfl, h0, Below.refl _ _⟩
  case round =>
    obtain ⟨k, hk, rfl, hJs, hb⟩ := hrel
    by_cases hlt : k < N
    · obtain ⟨ad, rfl, hbb, hc⟩ := il_at (HR.out.below hb) (show k < l₀.length by rw [HN.out]; exact hlt)
      have hk' : k < l₀.length := by rw [HN.out]; exact hlt
      have htk : l₀.take k ++ [ig l₀ k] = l₀.take (k + 1) := by
        rw [List.take_succ_eq_append_getElem hk']; simp [ig, hk']
      have hlen : (l₀.take k).length < l₀.length := by rw [List.length_take]; omega
      obtain ⟨x, hx⟩ : ∃ x, ig l₀ k = x := ⟨_, rfl⟩
      rw [hx] at hc htk
      have HTK := Lib.hid htk
      clear hx htk hk'
      obtain ⟨fn, tmps, assign, body, hy, hR⟩ := hY _ x wr hJs hlen
      have HLL := Lib.hid hlen
      clear hlen
      gi_wp2
      refine hR.mono ?_
      rintro e W3 (⟨rfl, hJ3, hk3⟩ | ⟨rfl, hJx3⟩)
      · gi_wp2
        go_roundw
        case rel => exact ⟨k + 1, by omega, by go_num, by rw [← HTK.out]; exact hJ3, hb.trans hk3⟩
        case measure => simp; omega
      · gi_wp2
        refine bodyPost_ret (results_none rfl _ _ _) rfl ?_
        exact ⟨⟨_, rfl⟩, .inr ⟨_, trivial, hJx3⟩⟩
    · obtain rfl : k = N := by omega
      have HJ := Lib.hid (show J l₀ wr by rw [← List.take_of_length_le (show l₀.length ≤ k by rw [HN.out]; exact Nat.le_refl _)]; exact hJs)
      clear hJs
      gi_wp2
      go_end0
      exact ⟨⟨_, rfl⟩, .inl ⟨_, rfl, HJ.out⟩⟩
/-- the numbers below m, downwards: the first j -/
def dn (m j : Nat) : List Nat := (List.range j).map fun t => m - 1 - t
theorem dn_succ (m j : Nat) : dn m (j + 1) = dn m j ++ [m - 1 - j] := by simp [dn, List.range_succ]
/-- the row of a block stays a row, and another block stays as it is -/
def RowK (g m Bn : Nat) (W W' : World) : Prop := W'.heap[Bn]? = W.heap[Bn]? ∧ ∀ r : List Int, r.length = m → Blk W g 3 (il r).toArray → ∃ r' : List Int, r'.length = m ∧ Blk W' g 3 (il r').toArray
theorem RowK.trans {g m Bn : Nat} {A B C : World} (h : RowK g m Bn A B) (k : RowK g m Bn B C) : RowK g m Bn A C := ⟨k.1.trans h.1, fun r hr hb => by
  obtain ⟨r', h1, h2⟩ := h.2 r hr hb
  exact k.2 r' h1 h2⟩
theorem RowK.put {g m Bn : Nat} {W : World} {l : Nat} {o : Obj} (hg : l ≠ g) (hB : l ≠ Bn) : RowK g m Bn W (W.putObj l o) :=
  ⟨by simp [World.putObj, Array.getElem?_setIfInBounds, hB], fun r hr hb => ⟨r, hr, by
    unfold Blk at hb ⊢
    rw [← hb]
    simp [World.putObj, Array.getElem?_setIfInBounds, hg]⟩⟩
theorem il_get0 {l : List Int} {s : Nat} (hs : s < l.length) : (il l).toArray[s]? = some (.int .i64 (ig l s)) := by
  simp [il, ig, hs]
set_option maxRecDepth 100000 in
set_option maxHeartbeats 1000000 in
theorem backward1_in (m g c : Nat) (hm : m ≤ 1000000) (n : Nat) (hn : 1 ≤ n) (l Bn : Nat) (J Jx : List (Fin m × Int) → World → Prop)
    (W : World)
    (hY : ∀ pre x W, J pre W → pre.length < m → YieldAt Fence.wide (n - 1) Tryz.prog l #[.int .i64 ((x.1.val : Nat) : Int), .int .i64 x.2] W fun e W' =>
      (e = .returned (.bool true) ∧ J (pre ++ [x]) W' ∧ RowK g m Bn W W') ∨ (e = .returned (.bool false) ∧ Jx (pre ++ [x]) W'))
    (r0 : List Int) (hr0 : r0.length = m) (hB0 : Blk W g 3 (il r0).toArray) (hBn : Blk W Bn 27 #[.slice (some ⟨g, 0, none⟩) m c]) (h0 : J [] W) :
    CallsIn Fence.wide n Tryz.prog 80 #[.func (.yield l) #[] #[], .pointer (some ⟨Bn, 0, none⟩)] W fun e W' => (∃ v, e = .returned v) ∧
      ((∃ ys, ys.map (fun p : Fin m × Int => p.1.val) = dn m m ∧ J ys W') ∨ (∃ pre, True ∧ Jx pre W')) := by
  have b0 := hBn.cell 0
  simp only [List.getElem?_toArray, List.getElem?_cons_zero] at b0
  have HB0 := Lib.hid hB0
  have HBn := Lib.hid hBn
  clear hB0 hBn
  refine callsIn_of_wp Tryz.func80 rfl trivial ?_ rfl
  simp only [Tryz.ntmps80, List.size_toArray, List.length_cons, List.length_nil, Nat.reduceAdd, Nat.reduceSub, Array.replicate_succ, Array.replicate_zero, List.push_toArray, List.append_toArray, List.nil_append, List.cons_append]
  have e1 : IntKind.i64.wrap ((m : Int) - 1) = (m : Int) - 1 := IntWalk.i64_in _ ⟨by omega, by omega⟩
  gi_wp2
  gi_loopw [3] (fun r wr => ∃ (k : Nat) (pre : List (Fin m × Int)), k ≤ m ∧ r = .int .i64 ((m : Int) - 1 - (k : Int)) ∧ Hid (pre.length = k ∧ pre.map (fun p : Fin m × Int => p.1.val) = dn m k) ∧ J pre wr ∧ Hid (wr.heap[Bn]? = W.heap[Bn]?) ∧ ∃ r' : List Int, r'.length = m ∧ Hid (Blk wr g 3 (il r').toArray)) (fun r _ => match r with | .int _ z => (z + 1).toNat | _ => 0)
  case atStart => exact ⟨0, [], Nat.zero_le _, by simp, Lib.hid ⟨rfl, rfl⟩, h0, Lib.hid rfl, r0, hr0, HB0⟩
  case round =>
    obtain ⟨k, pre, hk, rfl, hpre, hJs, hBn2, r', hr', hrow⟩ := hrel
    by_cases hlt : k < m
    · obtain ⟨t, ht⟩ : ∃ t : Nat, m = t + 1 + k := ⟨m - 1 - k, by omega⟩
      have e2 : (m : Int) - 1 - (k : Int) = (t : Int) := by omega
      rw [e2]
      have hBn3 : Blk wr Bn 27 #[.slice (some ⟨g, 0, none⟩) m c] := hBn2.out.trans HBn.out
      have c0 := hBn3.cell 0
      simp only [List.getElem?_toArray, List.getElem?_cons_zero] at c0
      have c1 : wr.cell? ⟨g, t, none⟩ = some (.int .i64 (ig r' t)) := by rw [hrow.out.cell, il_get0 (by omega)]
      have d0 : decide ((0 : Int) ≤ (t : Int)) = true := by rw [decide_eq_true_iff]; omega
      have htm : t < m := by omega
      obtain ⟨x, hx⟩ : ∃ x, ig r' t = x := ⟨_, rfl⟩
      rw [hx] at c1
      obtain ⟨fn, tmps, assign, body, hy, hR⟩ := hY pre (⟨t, htm⟩, x) wr hJs (by rw [hpre.out.1]; exact hlt)
      have HT := Lib.hid ht
      have HE2 := Lib.hid e2
      have htI : (t : Int) < (m : Int) := by omega
      have hmI : (m : Int) ≤ 1000000 := by omega
      have e3 : IntKind.i64.wrap ((t : Int) - 1) = (t : Int) - 1 := IntWalk.i64_in _ ⟨by omega, by omega⟩
      clear hx hBn3 ht e2
      gi_wp2
      refine hR.mono ?_
      rintro e W3 (⟨rfl, hJ3, hk3⟩ | ⟨rfl, hJx3⟩)
      · gi_wp2
        go_roundw
        case rel =>
          obtain ⟨r2, hr2, hb2⟩ := hk3.2 r' hr' hrow.out
          have := HT.out
          refine ⟨k + 1, pre ++ [(⟨t, htm⟩, x)], by omega, ?_, Lib.hid ⟨?_, ?_⟩, hJ3, Lib.hid (hk3.1.trans hBn2.out), r2, hr2, Lib.hid hb2⟩
          · congr 1
            omega
          · simp [hpre.out.1]
          · rw [dn_succ, List.map_append, hpre.out.2]
            simp
            omega
        case measure => simp; try omega
      · gi_wp2
        refine bodyPost_ret (results_none rfl _ _ _) rfl ?_
        exact ⟨⟨_, rfl⟩, .inr ⟨_, trivial, hJx3⟩⟩
    · obtain rfl : k = m := by omega
      have e2 : (k : Int) - 1 - (k : Int) = -1 := by omega
      rw [e2]
      gi_wp2
      go_end0
      exact ⟨⟨_, rfl⟩, .inl ⟨pre, hpre.out.2, hJs⟩⟩
end Go.Proofs.YtcgkkppidkkjiaaGreatDoor
namespace Go.Proofs.YtcgkkppidkkjiaaGreatDoor
open Go.RowKit
theorem isnan_any (a : Int) (w : World) : Calls Tryz.prog 109 #[.int .i64 a] w fun e w' => e = .returned (.bool false) ∧ w = w' := by
  go_enter Tryz.func109, Tryz.ntmps109
  go_wp2
  go_ret
  exact ⟨rfl, rfl⟩
theorem cmp_any (a b : Int) (w : World) : Calls Tryz.prog 91 #[.int .i64 a, .int .i64 b] w fun e w' => e = .returned (.int .i64 (sg a b)) ∧ w = w' := by
  unfold sg
  split
  · next h =>
    go_enter Tryz.func91, Tryz.ntmps91
    go_wp2_with (go_at_call 109; refine (isnan_any _ _).mono ?_; rintro e w' ⟨rfl, rfl⟩)
    go_ret
    exact ⟨rfl, rfl⟩
  · next h =>
    split
    · next h2 =>
      go_enter Tryz.func91, Tryz.ntmps91
      go_wp2_with (go_at_call 109; refine (isnan_any _ _).mono ?_; rintro e w' ⟨rfl, rfl⟩)
      go_ret
      exact ⟨rfl, rfl⟩
    · next h2 =>
      go_enter Tryz.func91, Tryz.ntmps91
      go_wp2_with (go_at_call 109; refine (isnan_any _ _).mono ?_; rintro e w' ⟨rfl, rfl⟩)
      go_ret
      exact ⟨rfl, rfl⟩

theorem or_any (u v : Int) (g : Nat) (t : TypeId) (w : World) (h : Blk w g t #[.int .i64 u, .int .i64 v]) :
    Calls Tryz.prog 90 #[.slice (some ⟨g, 0, none⟩) 2 2] w fun e w' => e = .returned (.int .i64 (or2 u v)) ∧ w = w' := by
  obtain ⟨k0, k1, k2, k3, k4⟩ := h.two
  clear h
  unfold or2
  split
  · next e =>
    subst e
    by_cases e : v = 0
    · subst e
      go_enter Tryz.func90, Tryz.ntmps90
      go_wp2
      refine wp_loop_rounds 3 ?_
      rw [rounds_succ]
      go_wp2
      rw [rounds_succ]
      go_wp2
      rw [rounds_succ]
      go_wp2
      go_ret
      exact ⟨rfl, rfl⟩
    · have hz : (v == 0) = false := by rw [beq_eq_false_iff_ne]; exact e
      go_enter Tryz.func90, Tryz.ntmps90
      go_wp2
      refine wp_loop_rounds 2 ?_
      rw [rounds_succ]
      go_wp2
      rw [rounds_succ]
      go_wp2
      go_ret
      exact ⟨rfl, rfl⟩
  · next e =>
    have hz : (u == 0) = false := by rw [beq_eq_false_iff_ne]; exact e
    go_enter Tryz.func90, Tryz.ntmps90
    go_wp2
    refine wp_loop_rounds 1 ?_
    rw [rounds_succ]
    go_wp2
    go_ret
    exact ⟨rfl, rfl⟩

theorem below_quiet {P : Program} {f : FuncId} {args : Array Value} {w : World} {v : Value} (h : Calls P f args w fun e w' => e = .returned v ∧ w = w') : Calls P f args w fun e w' => e = .returned v ∧ Below w.heap.size w w' :=
  h.mono fun _ _ ⟨he, hw⟩ => ⟨he, hw ▸ Below.refl _ _⟩
set_option maxHeartbeats 1000000 in
theorem pcompare_any (x y u v : Int) (w : World) :
    Calls Tryz.prog 65 #[.agg #[.int .i64 x, .int .i64 y], .agg #[.int .i64 u, .int .i64 v]] w fun e w' => e = .returned (.int .i64 (or2 (sg y v) (sg x u))) ∧ Below w.heap.size w w' := by
  have K1 := (Blk.new w 58 #[.int .i64 x, .int .i64 y]).alloc (.cells #[.int .i64 u, .int .i64 v] 58)
  have K2 := Blk.new (w.alloc (.cells #[.int .i64 x, .int .i64 y] 58)) 58 #[.int .i64 u, .int .i64 v]
  rw [show (w.alloc (.cells #[.int .i64 x, .int .i64 y] 58)).heap.size = w.heap.size + 1 by simp] at K2
  have B2 : Below w.heap.size w ((w.alloc (.cells #[.int .i64 x, .int .i64 y] 58)).alloc (.cells #[.int .i64 u, .int .i64 v] 58)) := ((Below.refl _ _).alloc (Nat.le_refl _) _).alloc (by simp) _
  have C1 := Lib.hid cmp_any
  go_enter Tryz.func65, Tryz.ntmps65
  go_wp2_with fail
  generalize (w.alloc (.cells #[.int .i64 x, .int .i64 y] 58)).alloc (.cells #[.int .i64 u, .int .i64 v] 58) = w0 at K1 K2 B2 ⊢
  have k10 := fun p : LowW w0.heap.size w0 => (K1.below p.below K1.lt).two.1
  have k11 := fun p : LowW w0.heap.size w0 => (K1.below p.below K1.lt).two.2.1
  have k20 := fun p : LowW w0.heap.size w0 => (K2.below p.below K2.lt).two.1
  have k21 := fun p : LowW w0.heap.size w0 => (K2.below p.below K2.lt).two.2.1
  have B2 := Lib.hid B2
  clear K1 K2
  refine wp_region_low_tail w0.heap.size w0 10 (by kernel_rfl) (by kernel_rfl) (Below.refl _ _) ?_
  simp only [List.take_succ_cons, List.take_zero, List.drop_succ_cons, List.drop_zero]
  repeat (quiet_step (first | (go_at_call 91; with_reducible exact LowW.of_call _ (Nat.le_refl _) (below_quiet (C1.out _ _ _)))))
  refine wpQuiet_nil ?_
  rintro w' ⟨p, rfl⟩
  have PB := Lib.hid p.below
  clear k10 k11 k20 k21
  generalize p.w = w1 at PB ⊢
  go_wp2_with (go_at_call 90; refine (or_any _ _ _ 3 _ (Blk.new _ _ _)).mono ?_; rintro e w2 ⟨rfl, rfl⟩)
  go_ret
  exact ⟨rfl, (B2.out.trans (PB.out.mono B2.out.size)).alloc (Nat.le_trans B2.out.size PB.out.size) _⟩

end Go.Proofs.YtcgkkppidkkjiaaGreatDoor
namespace Go.Proofs.YtcgkkppidkkjiaaGreatDoor
open Go.RowKit
/-- w' is w some draws later, with some blocks laid behind it -/
def Grown (w w' : World) : Prop := ∃ q os, w' = Go.Sort.grow (w.drewN q) os
section
variable {w w1 w2 : World}
theorem Grown.refl (w : World) : Grown w w := ⟨0, #[], by rw [Go.Sort.grow_empty]; rfl⟩
theorem Grown.trans (h : Grown w w1) (h' : Grown w1 w2) : Grown w w2 := by
  obtain ⟨q, os, rfl⟩ := h
  obtain ⟨q', os', rfl⟩ := h'
  exact ⟨q + q', os ++ os', by show Go.Sort.grow (Go.Sort.grow ((w.drewN q).drewN q') os) os' = _; rw [Go.Sort.grow_grow, World.drewN_drewN]⟩
theorem Grown.alloc (h : Grown w w1) (o : Obj) : Grown w (w1.alloc o) := h.trans ⟨0, #[o], by rw [Go.Sort.alloc_eq_grow]; rfl⟩
theorem Grown.drew (h : Grown w w1) : Grown w w1.drew := h.trans ⟨1, #[], by rw [Go.Sort.grow_empty]; rfl⟩
theorem Grown.below (h : Grown w w1) : Below w.heap.size w w1 := by
  obtain ⟨q, os, rfl⟩ := h
  refine ⟨rfl, rfl, rfl, ?_, fun g hg => ?_⟩
  · rw [Go.Sort.size_grow]; exact Nat.le_add_right _ _
  · show ((w.drewN q).heap ++ os)[g]? = _
    rw [Array.getElem?_append_left (by exact hg)]
    rfl
end
/-- a world some draws and blocks behind w0 -/
structure GrW (w0 : World) where
  w : World
  grown : Grown w0 w
instance (w0 : World) : Inhabited (GrW w0) := ⟨⟨w0, Grown.refl w0⟩⟩
theorem GrW.of_call {P : Program} {w0 : World} (p : GrW w0) {f : FuncId} {args : Array Value} {v : Value} (h : Calls P f args p.w fun e w' => e = .returned v ∧ Grown p.w w') :
    Calls P f args p.w fun e w'' => e = .returned v ∧ ∃ q : GrW w0, w'' = q.w :=
  h.mono fun _ w' ⟨he, hb⟩ => ⟨he, ⟨w', p.grown.trans hb⟩, rfl⟩
theorem GrW.cell {w0 : World} {a : Addr} {v : Value} (hb : a.block < w0.heap.size) (h : w0.cell? a = some v) (p : GrW w0) : p.w.cell? a = some v := (p.grown.below.cell hb).trans h
theorem wp_region_grow_tail {P : Program} {id : Nat} {Q : Exit → Act → World → Prop} {a : Act} {w : World} {l : List Oper} (w0 : World) (n : Nat) (hm : P.follows .mixedOrders = true) (hB : Region.lexTailB .any l.toArray n = true) (h0 : Grown w0 w)
    (h : wpQuiet P l.toArray (fun w' => ∃ p : GrW w0, w' = p.w) (fun a' => ∀ w', (∃ p : GrW w0, w' = p.w) → wpList P l.toArray Q (l.drop n) a' w') (l.take n) a) : (Code.region id l.toArray true).wp P Q a w :=
  wp_region_quiet_tail (fun w' => ∃ p : GrW w0, w' = p.w) n hm hB ⟨⟨w.drew, h0.drew⟩, rfl⟩ h
theorem grown_quiet {P : Program} {f : FuncId} {args : Array Value} {w : World} {v : Value} (h : Calls P f args w fun e w' => e = .returned v ∧ w = w') : Calls P f args w fun e w' => e = .returned v ∧ Grown w w' :=
  h.mono fun _ _ ⟨he, hw⟩ => ⟨he, hw ▸ Grown.refl _⟩

set_option maxHeartbeats 1000000 in
theorem pcompare_grow (x y u v : Int) (w : World) :
    Calls Tryz.prog 65 #[.agg #[.int .i64 x, .int .i64 y], .agg #[.int .i64 u, .int .i64 v]] w fun e w' => e = .returned (.int .i64 (or2 (sg y v) (sg x u))) ∧ Grown w w' := by
  have K1 := (Blk.new w 58 #[.int .i64 x, .int .i64 y]).alloc (.cells #[.int .i64 u, .int .i64 v] 58)
  have K2 := Blk.new (w.alloc (.cells #[.int .i64 x, .int .i64 y] 58)) 58 #[.int .i64 u, .int .i64 v]
  rw [show (w.alloc (.cells #[.int .i64 x, .int .i64 y] 58)).heap.size = w.heap.size + 1 by simp] at K2
  have B2 : Grown w ((w.alloc (.cells #[.int .i64 x, .int .i64 y] 58)).alloc (.cells #[.int .i64 u, .int .i64 v] 58)) := ((Grown.refl _).alloc _).alloc _
  have C1 := Lib.hid cmp_any
  go_enter Tryz.func65, Tryz.ntmps65
  go_wp2_with fail
  generalize (w.alloc (.cells #[.int .i64 x, .int .i64 y] 58)).alloc (.cells #[.int .i64 u, .int .i64 v] 58) = w0 at K1 K2 B2 ⊢
  have k10 := fun p : GrW w0 => (K1.below p.grown.below K1.lt).two.1
  have k11 := fun p : GrW w0 => (K1.below p.grown.below K1.lt).two.2.1
  have k20 := fun p : GrW w0 => (K2.below p.grown.below K2.lt).two.1
  have k21 := fun p : GrW w0 => (K2.below p.grown.below K2.lt).two.2.1
  have B2 := Lib.hid B2
  clear K1 K2
  refine wp_region_grow_tail w0 10 (by kernel_rfl) (by kernel_rfl) (Grown.refl _) ?_
  simp only [List.take_succ_cons, List.take_zero, List.drop_succ_cons, List.drop_zero]
  repeat (quiet_step (first | (go_at_call 91; with_reducible exact GrW.of_call _ (grown_quiet (C1.out _ _ _)))))
  refine wpQuiet_nil ?_
  rintro w' ⟨p, rfl⟩
  have PB := Lib.hid p.grown
  clear k10 k11 k20 k21
  generalize p.w = w1 at PB ⊢
  go_wp2_with (go_at_call 90; refine (or_any _ _ _ 3 _ (Blk.new _ _ _)).mono ?_; rintro e w2 ⟨rfl, rfl⟩)
  go_ret
  exact ⟨rfl, (B2.out.trans PB.out).alloc _⟩

end Go.Proofs.YtcgkkppidkkjiaaGreatDoor
namespace Go.Proofs.YtcgkkppidkkjiaaGreatDoor
open Go.Shelf
def sortRen : Go.Shelf.Ren := ⟨fun | 14 => 138 | 20 => 140 | 21 => 141 | 22 => 142 | 23 => 143 | 24 => 144 | 25 => 145 | 26 => 146 | 27 => 147 | 46 => 148 | 47 => 133 | 48 => 134 | 49 => 149 | 50 => 150 | 57 => 151 | 15 => 104 | 28 => 125 | 29 => 126 | n => n, fun | 24 => 58 | 22 => 22 | 3 => 3 | 25 => 109 | 4 => 4 | 0 => 0 | 46 => 168 | 45 => 167 | 50 => 55 | 66 => 178 | 39 => 157 | 55 => 175 | 70 => 182 | 76 => 185 | 77 => 186 | 53 => 173 | 5 => 5 | 9 => 9 | n => n, fun n => n⟩
theorem sortLays : SlLaysF0.n14 Tryz.prog sortRen := {
  mixed := by kernel_rfl
  f14 := ⟨Tryz.f138.name, by decide, Tryz.func138.trans (congrArg some (by kernel_rfl))⟩
  f15 := Tryz.func104.trans (congrArg some (by kernel_rfl))
  f20 := ⟨Tryz.f140.name, by decide, Tryz.func140.trans (congrArg some (by kernel_rfl))⟩
  f21 := ⟨Tryz.f141.name, by decide, Tryz.func141.trans (congrArg some (by kernel_rfl))⟩
  f22 := ⟨Tryz.f142.name, by decide, Tryz.func142.trans (congrArg some (by kernel_rfl))⟩
  f23 := ⟨Tryz.f143.name, by decide, Tryz.func143.trans (congrArg some (by kernel_rfl))⟩
  f24 := ⟨Tryz.f144.name, by decide, Tryz.func144.trans (congrArg some (by kernel_rfl))⟩
  f25 := ⟨Tryz.f145.name, by decide, Tryz.func145.trans (congrArg some (by kernel_rfl))⟩
  f26 := ⟨Tryz.f146.name, by decide, Tryz.func146.trans (congrArg some (by kernel_rfl))⟩
  f27 := ⟨Tryz.f147.name, by decide, Tryz.func147.trans (congrArg some (by kernel_rfl))⟩
  f28 := Tryz.func125.trans (congrArg some (by kernel_rfl))
  f29 := Tryz.func126.trans (congrArg some (by kernel_rfl))
  f46 := ⟨Tryz.f148.name, by decide, Tryz.func148.trans (congrArg some (by kernel_rfl))⟩
  f47 := Tryz.func133.trans (congrArg some (by kernel_rfl))
  f48 := Tryz.func134.trans (congrArg some (by kernel_rfl))
  f49 := ⟨Tryz.f149.name, by decide, Tryz.func149.trans (congrArg some (by kernel_rfl))⟩
  f50 := ⟨Tryz.f150.name, by decide, Tryz.func150.trans (congrArg some (by kernel_rfl))⟩
  f57 := ⟨Tryz.f151.name, by decide, Tryz.func151.trans (congrArg some (by kernel_rfl))⟩
  t0 := Tryz.underlying0
  a0 := Tryz.isAgg0
  z0 := Tryz.sizeOf0
  v0 := Tryz.zeroValue0
  t3 := Tryz.underlying3
  a3 := Tryz.isAgg3
  z3 := Tryz.sizeOf3
  v3 := Tryz.zeroValue3
  t4 := Tryz.underlying4
  a4 := Tryz.isAgg4
  z4 := Tryz.sizeOf4
  v4 := Tryz.zeroValue4
  t5 := Tryz.underlying5
  a5 := Tryz.isAgg5
  z5 := Tryz.sizeOf5
  v5 := Tryz.zeroValue5
  t9 := Tryz.underlying9
  a9 := Tryz.isAgg9
  z9 := Tryz.sizeOf9
  v9 := Tryz.zeroValue9
  t22 := Tryz.underlying22
  a22 := Tryz.isAgg22
  z22 := Tryz.sizeOf22
  v22 := Tryz.zeroValue22
  t25 := Tryz.underlying109
  a25 := Tryz.isAgg109
  z25 := Tryz.sizeOf109
  v25 := Tryz.zeroValue109
  t39 := Tryz.underlying157
  a39 := Tryz.isAgg157
  z39 := Tryz.sizeOf157
  v39 := Tryz.zeroValue157
  t45 := Tryz.underlying167
  a45 := Tryz.isAgg167
  z45 := Tryz.sizeOf167
  v45 := Tryz.zeroValue167
  t46 := Tryz.underlying168
  a46 := Tryz.isAgg168
  z46 := Tryz.sizeOf168
  v46 := Tryz.zeroValue168
  t50 := Tryz.underlying55
  a50 := Tryz.isAgg55
  z50 := Tryz.sizeOf55
  v50 := Tryz.zeroValue55
  t53 := Tryz.underlying173
  a53 := Tryz.isAgg173
  z53 := Tryz.sizeOf173
  v53 := Tryz.zeroValue173
  t55 := Tryz.underlying175
  a55 := Tryz.isAgg175
  z55 := Tryz.sizeOf175
  v55 := Tryz.zeroValue175
  t66 := Tryz.underlying178
  a66 := Tryz.isAgg178
  z66 := Tryz.sizeOf178
  v66 := Tryz.zeroValue178
  t70 := Tryz.underlying182
  a70 := Tryz.isAgg182
  z70 := Tryz.sizeOf182
  v70 := Tryz.zeroValue182
  t76 := Tryz.underlying185
  a76 := Tryz.isAgg185
  z76 := Tryz.sizeOf185
  v76 := Tryz.zeroValue185
  t77 := Tryz.underlying186
  a77 := Tryz.isAgg186
  z77 := Tryz.sizeOf186
  v77 := Tryz.zeroValue186 }
end Go.Proofs.YtcgkkppidkkjiaaGreatDoor
