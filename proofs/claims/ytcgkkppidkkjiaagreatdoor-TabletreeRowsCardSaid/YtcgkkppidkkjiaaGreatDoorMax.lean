/- The walks of the iterators of slices.Values and slices.Backward. -/
/- The walks of slices.AppendSeq and slices.Collect over slices.Values. -/
/- The walks of slices.Clone, slices.Delete and slices.Insert at lists of numbers. -/
import Derived.Test.YtcgkkppidkkjiaaGreatDoorMaa
import Derived.Test.YtcgkkppidkkjiaaGreatDoorMab
import Derived.Test.YtcgkkppidkkjiaaGreatDoorMaw
import Derived.Test.YtcgkkppidkkjiaaGreatDoorMac
import Derived.Below
import Derived.BigQuiet
import Derived.Deep.AppendLies
import Derived.Deep.Draws
import Derived.Deep.QuietTactic
import Derived.IntWalk
import Derived.Laws.OwnMore
import Derived.Laws.Rows
import Derived.Lib.Hide
import Derived.LoopIn
import Derived.LoopN
import Derived.LoopNIn
import Derived.OwnWalk
import Derived.OwnWalkIn
import Derived.RangeFuncBound
import Derived.RangeFuncCalls
import Derived.RangeFuncLeaves
import Derived.RangeFuncNested
import Derived.Shelf.Abstract
import Derived.Shelf.RegionOpen
import Derived.Shelf.SlIterI.Sorted
import Derived.Shelf.Slices.Delete
import Derived.Shelf.Spec.SlicesInsert
import Derived.Sort.Statements
import Derived.StillTail
import Derived.StillTailTactics
import Derived.TacticsInMore
import Derived.Test.YtcgkkppidkkjiaaGreatDoorRows
import Derived.WalkKit
import Derived.Maps.AppendAt
import Derived.OpenShut
import Derived.Shelf.Slices.Clone
import Derived.Shelf.Sort.Plain
import Derived.Sort.OwnSortedInts
namespace Go.Proofs.YtcgkkppidkkjiaaGreatDoor
open Go.RowKit Go.Shelf
attribute [local go_sem] Oper.semAt_some
set_option maxRecDepth 100000 in
set_option maxHeartbeats 1000000 in
theorem values1_in (l₀ : List Int) (A : Option Addr) (c : Nat) (hL : l₀.length ≤ 1000000) (n : Nat) (hn : 1 ≤ n) (l Bn n₀ : Nat) (J Jx : List Int → World → Prop)
    (W : World) (hn₀ : n₀ ≤ W.heap.size)
    (hY : ∀ pre x W, J pre W → pre.length < l₀.length → YieldAt Fence.wide (n - 1) Tryz.prog l #[.int .i64 x] W fun e W' =>
      (e = .returned (.bool true) ∧ J (pre ++ [x]) W' ∧ Below n₀ W W') ∨ (e = .returned (.bool false) ∧ Jx (pre ++ [x]) W'))
    (hR0 : Reads W n₀ A l₀.length (il l₀)) (hBn : W.cell? ⟨Bn, 0, none⟩ = some (.slice A l₀.length c)) (h0 : J [] W) :
    CallsIn Fence.wide n Tryz.prog 102 #[.func (.yield l) #[] #[], .pointer (some ⟨Bn, 0, none⟩)] W fun e W' => (∃ v, e = .returned v) ∧
      ((∃ ys, ys = l₀ ∧ J ys W') ∨ (∃ pre, True ∧ Jx pre W')) := by
  have HR := Lib.hid hR0
  obtain ⟨N, hN⟩ : ∃ N, l₀.length = N := ⟨_, rfl⟩
  rw [hN] at hBn
  have HN := Lib.hid hN
  have hN2 : N ≤ 1000000 := by omega
  clear hR0 hN hL
  refine callsIn_of_wp Tryz.func102 rfl trivial ?_ rfl
  simp only [Tryz.ntmps102, List.size_toArray, List.length_cons, List.length_nil, Nat.reduceAdd, Nat.reduceSub, Array.replicate_succ, Array.replicate_zero, List.push_toArray, List.append_toArray, List.nil_append, List.cons_append]
  gi_wp2
  gi_loopw [7] (fun r wr => ∃ k : Nat, k ≤ N ∧ r = .int .i64 (k : Int) ∧ J (l₀.take k) wr ∧ Below n₀ W wr) (fun r _ => match r with | .int _ z => N - z.toNat | _ => 0)
  case atStart => exact ⟨0, Nat.zero_le _, rfl, h0, Below.refl _ _⟩
  case round =>
    obtain ⟨k, hk, rfl, hJs, hb⟩ := hrel
    by_cases hlt : k < N
    · obtain ⟨ad, rfl, hbb, hc⟩ := il_at (HR.out.below hb) (show k < l₀.length by rw [HN.out]; exact hlt)
      have hk' : k < l₀.length := by rw [HN.out]; exact hlt
      have htk : l₀.take k ++ [ig l₀ k] = l₀.take (k + 1) := by
        rw [List.take_succ_eq_append_getElem hk']; simp [ig, hk']
      have hlen : (l₀.take k).length < l₀.length := by rw [List.length_take]; omega
      obtain ⟨x, hx⟩ : ∃ x, ig l₀ k = x := ⟨_, rfl⟩
      rw [hx] at hc htk
      have HTK := Lib.hid htk
      clear hx htk hk'
      obtain ⟨fn, tmps, assign, body, hy, hR⟩ := hY _ x wr hJs hlen
      have HLL := Lib.hid hlen
      clear hlen
      gi_wp2
      refine hR.mono ?_
      rintro e W3 (⟨rfl, hJ3, hk3⟩ | ⟨rfl, hJx3⟩)
      · gi_wp2
        go_roundw
        case rel => exact ⟨k + 1, by omega, by go_num, by rw [← HTK.out]; exact hJ3, hb.trans hk3⟩
        case measure => simp; omega
      · gi_wp2
        refine bodyPost_ret (results_none rfl _ _ _) rfl ?_
        exact ⟨⟨_, rfl⟩, .inr ⟨_, trivial, hJx3⟩⟩
    · obtain rfl : k = N := by omega
      have HJ := Lib.hid (show J l₀ wr by rw [← List.take_of_length_le (show l₀.length ≤ k by rw [HN.out]; exact Nat.le_refl _)]; exact hJs)
      clear hJs
      gi_wp2
      go_end0
      exact ⟨⟨_, rfl⟩, .inl ⟨_, rfl, HJ.out⟩⟩
/-- the numbers below m, downwards: the first j -/
def dn (m j : Nat) : List Nat := (List.range j).map fun t => m - 1 - t
theorem dn_succ (m j : Nat) : dn m (j + 1) = dn m j ++ [m - 1 - j] := by simp [dn, List.range_succ]
/-- the row of a block stays a row, and another block stays as it is -/
def RowK (g m Bn : Nat) (W W' : World) : Prop := W'.heap[Bn]? = W.heap[Bn]? ∧ ∀ r : List Int, r.length = m → Blk W g 3 (il r).toArray → ∃ r' : List Int, r'.length = m ∧ Blk W' g 3 (il r').toArray
theorem RowK.trans {g m Bn : Nat} {A B C : World} (h : RowK g m Bn A B) (k : RowK g m Bn B C) : RowK g m Bn A C := ⟨k.1.trans h.1, fun r hr hb => by
  obtain ⟨r', h1, h2⟩ := h.2 r hr hb
  exact k.2 r' h1 h2⟩
theorem RowK.put {g m Bn : Nat} {W : World} {l : Nat} {o : Obj} (hg : l ≠ g) (hB : l ≠ Bn) : RowK g m Bn W (W.putObj l o) :=
  ⟨by simp [World.putObj, Array.getElem?_setIfInBounds, hB], fun r hr hb => ⟨r, hr, by
    unfold Blk at hb ⊢
    rw [← hb]
    simp [World.putObj, Array.getElem?_setIfInBounds, hg]⟩⟩
theorem il_get0 {l : List Int} {s : Nat} (hs : s < l.length) : (il l).toArray[s]? = some (.int .i64 (ig l s)) := by
  simp [il, ig, hs]
set_option maxRecDepth 100000 in
set_option maxHeartbeats 1000000 in
theorem backward1_in (m g c : Nat) (hm : m ≤ 1000000) (n : Nat) (hn : 1 ≤ n) (l Bn : Nat) (J Jx : List (Fin m × Int) → World → Prop)
    (W : World)
    (hY : ∀ pre x W, J pre W → pre.length < m → YieldAt Fence.wide (n - 1) Tryz.prog l #[.int .i64 ((x.1.val : Nat) : Int), .int .i64 x.2] W fun e W' =>
      (e = .returned (.bool true) ∧ J (pre ++ [x]) W' ∧ RowK g m Bn W W') ∨ (e = .returned (.bool false) ∧ Jx (pre ++ [x]) W'))
    (r0 : List Int) (hr0 : r0.length = m) (hB0 : Blk W g 3 (il r0).toArray) (hBn : Blk W Bn 27 #[.slice (some ⟨g, 0, none⟩) m c]) (h0 : J [] W) :
    CallsIn Fence.wide n Tryz.prog 80 #[.func (.yield l) #[] #[], .pointer (some ⟨Bn, 0, none⟩)] W fun e W' => (∃ v, e = .returned v) ∧
      ((∃ ys, ys.map (fun p : Fin m × Int => p.1.val) = dn m m ∧ J ys W') ∨ (∃ pre, True ∧ Jx pre W')) := by
  have b0 := hBn.cell 0
  simp only [List.getElem?_toArray, List.getElem?_cons_zero] at b0
  have HB0 := Lib.hid hB0
  have HBn := Lib.hid hBn
  clear hB0 hBn
  refine callsIn_of_wp Tryz.func80 rfl trivial ?_ rfl
  simp only [Tryz.ntmps80, List.size_toArray, List.length_cons, List.length_nil, Nat.reduceAdd, Nat.reduceSub, Array.replicate_succ, Array.replicate_zero, List.push_toArray, List.append_toArray, List.nil_append, List.cons_append]
  have e1 : IntKind.i64.wrap ((m : Int) - 1) = (m : Int) - 1 := IntWalk.i64_in _ ⟨by omega, by omega⟩
  gi_wp2
  gi_loopw [3] (fun r wr => ∃ (k : Nat) (pre : List (Fin m × Int)), k ≤ m ∧ r = .int .i64 ((m : Int) - 1 - (k : Int)) ∧ Hid (pre.length = k ∧ pre.map (fun p : Fin m × Int => p.1.val) = dn m k) ∧ J pre wr ∧ Hid (wr.heap[Bn]? = W.heap[Bn]?) ∧ ∃ r' : List Int, r'.length = m ∧ Hid (Blk wr g 3 (il r').toArray)) (fun r _ => match r with | .int _ z => (z + 1).toNat | _ => 0)
  case atStart => exact ⟨0, [], Nat.zero_le _, by simp, Lib.hid ⟨rfl, rfl⟩, h0, Lib.hid rfl, r0, hr0, HB0⟩
  case round =>
    obtain ⟨k, pre, hk, rfl, hpre, hJs, hBn2, r', hr', hrow⟩ := hrel
    by_cases hlt : k < m
    · obtain ⟨t, ht⟩ : ∃ t : Nat, m = t + 1 + k := ⟨m - 1 - k, by omega⟩
      have e2 : (m : Int) - 1 - (k : Int) = (t : Int) := by omega
      rw [e2]
      have hBn3 : Blk wr Bn 27 #[.slice (some ⟨g, 0, none⟩) m c] := hBn2.out.trans HBn.out
      have c0 := hBn3.cell 0
      simp only [List.getElem?_toArray, List.getElem?_cons_zero] at c0
      have c1 : wr.cell? ⟨g, t, none⟩ = some (.int .i64 (ig r' t)) := by rw [hrow.out.cell, il_get0 (by omega)]
      have d0 : decide ((0 : Int) ≤ (t : Int)) = true := by rw [decide_eq_true_iff]; omega
      have htm : t < m := by omega
      obtain ⟨x, hx⟩ : ∃ x, ig r' t = x := ⟨_, rfl⟩
      rw [hx] at c1
      obtain ⟨fn, tmps, assign, body, hy, hR⟩ := hY pre (⟨t, htm⟩, x) wr hJs (by rw [hpre.out.1]; exact hlt)
      have HT := Lib.hid ht
      have HE2 := Lib.hid e2
      have htI : (t : Int) < (m : Int) := by omega
      have hmI : (m : Int) ≤ 1000000 := by omega
      have e3 : IntKind.i64.wrap ((t : Int) - 1) = (t : Int) - 1 := IntWalk.i64_in _ ⟨by omega, by omega⟩
      clear hx hBn3 ht e2
      gi_wp2
      refine hR.mono ?_
      rintro e W3 (⟨rfl, hJ3, hk3⟩ | ⟨rfl, hJx3⟩)
      · gi_wp2
        go_roundw
        case rel =>
          obtain ⟨r2, hr2, hb2⟩ := hk3.2 r' hr' hrow.out
          have := HT.out
          refine ⟨k + 1, pre ++ [(⟨t, htm⟩, x)], by omega, ?_, Lib.hid ⟨?_, ?_⟩, hJ3, Lib.hid (hk3.1.trans hBn2.out), r2, hr2, Lib.hid hb2⟩
          · congr 1
            omega
          · simp [hpre.out.1]
          · rw [dn_succ, List.map_append, hpre.out.2]
            simp
            omega
        case measure => simp; try omega
      · gi_wp2
        refine bodyPost_ret (results_none rfl _ _ _) rfl ?_
        exact ⟨⟨_, rfl⟩, .inr ⟨_, trivial, hJx3⟩⟩
    · obtain rfl : k = m := by omega
      have e2 : (k : Int) - 1 - (k : Int) = -1 := by omega
      rw [e2]
      gi_wp2
      go_end0
      exact ⟨⟨_, rfl⟩, .inl ⟨pre, hpre.out.2, hJs⟩⟩
end Go.Proofs.YtcgkkppidkkjiaaGreatDoor
namespace Go.Proofs.YtcgkkppidkkjiaaGreatDoor
open Go.RowKit Go.Shelf
attribute [local go_sem] Oper.semAt_some
theorem Tryz.info_intE : (Tryz.prog.info? 3).map (fun i => (i.zero, i.size, i.bytes)) = some (some (.int .i64 0), 1, 8) := by kernel_rfl
/-- the elements of a list, as an iterator -/
theorem values_stops (l₀ : List Int) (A : Option Addr) (c : Nat) (hL : l₀.length ≤ 1000000) (n : Nat) (hn : 1 ≤ n) (Bn n₀ : Nat) (w : World) (hn₀ : n₀ ≤ w.heap.size) (hB : Bn < n₀)
    (hR0 : Reads w n₀ A l₀.length (il l₀)) (hBn : w.cell? ⟨Bn, 0, none⟩ = some (.slice A l₀.length c)) :
    SeqStopsK Fence.wide n Tryz.prog 102 #[.pointer (some ⟨Bn, 0, none⟩)] (fun x : Int => #[Value.int .i64 x]) (Below n₀) (fun ys => ys = l₀) (fun _ => True) l₀.length w := fun l J Jx W hW _ _ hY h0 =>
  values1_in l₀ A c hL n hn l Bn n₀ J Jx W (Nat.le_trans hn₀ hW.size) hY (hR0.below (hW.mono hn₀)) (((hW.mono hn₀).cell (p := ⟨Bn, 0, none⟩) hB).trans hBn) h0
set_option maxRecDepth 100000 in
set_option maxHeartbeats 4000000 in
theorem appendSeq_vals (l₀ : List Int) (A : Option Addr) (c Bn : Nat) (w : World) (hL : l₀.length ≤ 1000000) (hR0 : Reads w w.heap.size A l₀.length (il l₀)) (hB : Bn < w.heap.size) (hBn : w.cell? ⟨Bn, 0, none⟩ = some (.slice A l₀.length c)) :
    Calls Tryz.prog 115 #[.slice none 0 0, .func (.func 102) #[] #[.pointer (some ⟨Bn, 0, none⟩)]] w fun e w' => ∃ v, e = .returned v ∧ w'.ownsRow w.heap.size 3 1 v l₀.length (il l₀) ∧ Below w.heap.size w w' := by
  obtain ⟨i0, hi, hz0, hz1, hz2⟩ := info_parts Tryz.info_intE
  refine (callsIn_wide (n := 9)).1 ?_
  refine callsIn_of_wp_marks Tryz.func115 rfl trivial ?_ rfl
  simp only [Tryz.ntmps115, List.size_toArray, List.length_cons, List.length_nil, Nat.reduceAdd, Nat.reduceSub, Array.replicate_succ, Array.replicate_zero, List.push_toArray, List.append_toArray, List.nil_append, List.cons_append]
  gi_wp2
  have bO := Boxed.new w 27 (.slice none 0 0)
  have hB0 : Below w.heap.size w (w.alloc (.cells #[.slice none 0 0] 27)) := (Below.refl _ w).alloc (Nat.le_refl _) _
  have HIO : OwnFrom (w.alloc (.cells #[.slice none 0 0] 27)).heap.size (fun (pre : List Int) W => (∃ v, Boxed W w.heap.size 27 v ∧ W.ownsRow w.heap.size 3 1 v pre.length (il pre) ∧ True) ∧ Below w.heap.size w W) :=
    OwnFrom.and (Own.from (holdsRow_own w.heap.size w.heap.size 27 3 1 (fun pre : List Int => pre.length) (fun pre : List Int => il pre) (fun _ _ => True)) _) (ownFrom_below (Nat.le_refl _) (by simp))
  refine wpIn_rangeFunc_ownG rfl (by omega) (gf := 102) (lb := #[.pointer (some ⟨Bn, 0, none⟩)]) rfl trivial (enters_of Tryz.func102 (by kernel_rfl) rfl)
    (values_stops l₀ A c hL (9 - 1) (by omega) Bn w.heap.size (w.alloc (.cells #[.slice none 0 0] 27)) (by simp) hB (hR0.below hB0) ((hB0.cell (p := ⟨Bn, 0, none⟩) hB).trans hBn)) belowK_t (belowK_b (by simp)) (Below.refl _ _) (fun _ => rfl)
    (fun pre W => (∃ v, Boxed W w.heap.size 27 v ∧ W.ownsRow w.heap.size 3 1 v pre.length (il pre) ∧ True) ∧ Below w.heap.size w W)
    (fun _ _ _ => False) HIO
    (fun _ _ _ _ _ hs _ _ => hs)
    ⟨⟨_, bO, World.ownsRow_nil _ _ _ _, trivial⟩, hB0⟩
    (fun x => { tmps := #[.slice none 0 0, .func (.func 102) #[] #[.pointer (some ⟨Bn, 0, none⟩)], .pointer (some ⟨w.heap.size, 0, none⟩), undef, .slice none 0 0, .int .i64 x, .func (.func 102) #[] #[.pointer (some ⟨Bn, 0, none⟩)], .int .i64 x, undef, undef, undef, undef, undef], defers := [] }) ?assign ?body ?done ?stop
  case assign =>
    intro l x W K hK
    gi_wp2
    exact hK
  case body =>
    rintro l' pre x W ⟨⟨v, hv, hrow, _⟩, hB⟩ hlt
    have hc := hv.cell
    gi_wp2_with (gi_at_builtin; refine wpListIn_append_own _ rfl _ _ 27 rfl w.heap.size 3 i0 (.int .i64 0) 1 8 Tryz.underlying27 hi hz0 hz1 hz2 rfl (by decide) _ _ _ rfl (hrow.alloc _) ⟨W.heap.size, 0, none⟩ 1 1 [.int .i64 x] rfl rfl (cell_one_new _ _ _) (by simp [Value.oneCell']) (by unfold maxLen; omega) (by omega) (by have := hB.size; simp; omega) ?_; intro v' w1 hown' hgrow _; obtain ⟨g', cap', rfl⟩ := ownsRow_succ hown'; obtain ⟨hv1, hv2, hr2, hk2, hb2⟩ := hv.appended (by decide) hrow hB.size (Nat.le_refl _) hown' hgrow; have hc1 := hv1.cell; have hf1 := hv1.frozen)
    exact ⟨hk2.from _, hb2, ⟨_, hv2, by simpa [il] using hr2, trivial⟩, hB.trans hb2⟩
  case done =>
    rintro D ys W hD rfl hII hK
    obtain ⟨⟨v, hv, hrow, _⟩, hB⟩ := hII
    have hc := hv.cell
    have HP := Lib.hid (fun o' => HIO.putObj o' (s := ys) (W := W) ⟨⟨v, hv, hrow, trivial⟩, hB⟩ hD hK rfl)
    gi_wp2
    refine ⟨by simp, .inl ⟨_, _, rfl, run_takeDeferred hK, ?_⟩⟩
    refine ⟨_, results_tmp rfl _ _ _, ?_⟩
    obtain ⟨⟨v2, hv2, hrow2, _⟩, hB2⟩ := HP.out _
    have e : v2 = v := by
      have h1 := (World.putObj_heap_other (w := W) (o := _) (show w.heap.size ≠ D by simp at hD; omega)).symm.trans (show _ = some _ from hv2)
      have h2 := (show W.heap[w.heap.size]? = some _ from hv).symm.trans h1
      simpa using h2.symm
    subst e
    exact ⟨_, rfl, hrow2, hB2⟩
  case stop =>
    rintro D c pre W _ _ h _
    exact h.elim
end Go.Proofs.YtcgkkppidkkjiaaGreatDoor
namespace Go.Proofs.YtcgkkppidkkjiaaGreatDoor
open Go.RowKit Go.Shelf Go.Lib
/-- values written one after another -/
def stL : List Value → Nat → List Value → List Value
  | C, _, [] => C
  | C, o, v :: r => stL (C.set o v) (o + 1) r
theorem stL_len (C : List Value) (o : Nat) (vs : List Value) : (stL C o vs).length = C.length := by
  induction vs generalizing C o with
  | nil => rfl
  | cons v r ih => rw [stL, ih]; simp
theorem stL_get (C : List Value) (o : Nat) (vs : List Value) (j : Nat) : (stL C o vs)[j]? = if o ≤ j ∧ j < o + vs.length ∧ j < C.length then vs[j - o]? else C[j]? := by
  induction vs generalizing C o with
  | nil => simp only [stL, List.length_nil]; rw [if_neg (by omega)]
  | cons v r ih =>
    rw [stL, ih]
    simp only [List.length_set, List.length_cons]
    by_cases h1 : o + 1 ≤ j ∧ j < o + 1 + r.length ∧ j < C.length
    · rw [if_pos h1, if_pos (by omega), show j - o = (j - (o + 1)) + 1 by omega, List.getElem?_cons_succ]
    · rw [if_neg h1, List.getElem?_set]
      by_cases h2 : o = j
      · subst h2
        by_cases h3 : o < C.length
        · rw [if_pos rfl, if_pos h3, if_pos (by omega), Nat.sub_self]; rfl
        · rw [if_pos rfl, if_neg h3, if_neg (by omega), List.getElem?_eq_none (by omega)]
      · rw [if_neg h2, if_neg (by omega)]
theorem blk_setCells (g : Nat) (t : TypeId) : ∀ (vs : List Value) (o : Nat) (w : World) (cs : Array Value), Blk w g t cs → Blk (w.setCells g o vs) g t (stL cs.toList o vs).toArray
  | [], _, _, _, h => h
  | v :: r, o, w, cs, h => by
    have := blk_setCells g t r (o + 1) (w.setCell ⟨g, o, none⟩ v) _ (h.set_ o v)
    rw [World.setCells, stL]
    simpa using this
theorem setCells_below {base g : Nat} (hg : base ≤ g) : ∀ (vs : List Value) (o : Nat) (w w' : World), Below base w w' → Below base w (w'.setCells g o vs)
  | [], _, _, _, h => h
  | v :: r, o, w, w', h => setCells_below hg r (o + 1) w _ (h.setCell (p := ⟨g, o, none⟩) hg v)
theorem ins_list {C X : List Value} {n i : Nat} {v : Value} (hC : C.take n = X) (hX : X.length = n) (hn : n + 1 ≤ C.length) (hi : i ≤ n) :
    (stL (stL C (i + 1) (X.drop i)) i [v]).take (n + 1) = X.take i ++ v :: X.drop i := by
  have hc : ∀ j, j < n → C[j]? = X[j]? := fun j hj => by rw [← hC, List.getElem?_take_of_lt hj]
  apply List.ext_getElem?
  intro j
  by_cases hj : j < n + 1
  · rw [List.getElem?_take_of_lt hj, stL_get, stL_len]
    by_cases h1 : j = i
    · subst h1
      rw [if_pos (by simp; omega), Nat.sub_self, List.getElem?_append_right (by simp; omega)]
      simp [Nat.min_eq_left (show j ≤ X.length by omega)]
    · rw [if_neg (by simp; omega), stL_get]
      by_cases h2 : j < i
      · rw [if_neg (by omega), hc j (by omega), List.getElem?_append_left (by simp; omega), List.getElem?_take_of_lt h2]
      · rw [if_pos (by simp; omega), List.getElem?_drop, List.getElem?_append_right (by simp; omega)]
        rw [List.length_take, Nat.min_eq_left (by omega), show j - i = (j - (i + 1)) + 1 by omega, List.getElem?_cons_succ, List.getElem?_drop]
  · rw [List.getElem?_take_eq_none (by omega), List.getElem?_eq_none (by simp; omega)]
/-- a row of the call's own, its block in sight -/
def RowB (w : World) (base g n cap : Nat) (l : List Int) : Prop := ∃ cur : Array Value, Blk w g 3 cur ∧ cur.size = cap ∧ cur.toList.take n = il l ∧ l.length = n ∧ n ≤ cap ∧ cap ≤ maxLen ∧ base ≤ g
theorem RowB.own {w : World} {base g n cap : Nat} {l : List Int} (h : RowB w base g n cap l) : w.ownsRow base 3 1 (.slice (some ⟨g, 0, none⟩) n cap) n (il l) := by
  obtain ⟨cur, hb, h1, h2, h3, h4, h5, h6⟩ := h
  exact ⟨by simp [il, h3], .inr ⟨g, cap, cur, rfl, h6, hb, h4, h5, by omega, by rw [Nat.mul_one]; exact h2⟩⟩
theorem RowB.of {w : World} {base g n cap : Nat} {l : List Int} (h : w.ownsRow base 3 1 (.slice (some ⟨g, 0, none⟩) n cap) n (il l)) : RowB w base g n cap l := by
  rcases h.2 with ⟨hv, _⟩ | ⟨g', cap', cur, hv, hbg, hg, h1, h2, h3, ht⟩
  · cases hv
  injection hv with e1 e2 e3
  injection e1 with e1
  injection e1 with e4
  subst e4 e3
  exact ⟨cur, hg, by omega, by rw [Nat.mul_one] at ht; exact ht, by have := h.1; simpa [il] using this, h1, h2, hbg⟩
theorem RowB.cell {w : World} {base g n cap : Nat} {l : List Int} (h : RowB w base g n cap l) {j : Nat} (hj : j < n) : w.cell? ⟨g, j, none⟩ = some (.int .i64 (ig l j)) := by
  obtain ⟨cur, hb, h1, h2, h3, h4, h5, h6⟩ := h
  rw [hb.cell, ← Array.getElem?_toList, ← List.getElem?_take_of_lt hj, h2]
  have : j < l.length := by omega
  simp [il, ig, this]
theorem RowB.reads {w : World} {base g n cap : Nat} {l : List Int} (h : RowB w base g n cap l) : Reads w w.heap.size (some ⟨g, 0, none⟩) n (il l) := by
  have hb := h
  obtain ⟨cur, hbl, h1, h2, h3, h4, h5, h6⟩ := h
  refine ⟨by simp [il, h3], fun _ => ⟨_, rfl, hbl.lt, fun i u hi => ?_⟩⟩
  have e : (⟨g, 0, none⟩ : Addr).add i = ⟨g, i, none⟩ := by
    unfold Addr.add
    split
    · next h => subst h; rfl
    · simp
  have hil : i < n := by
    have := (List.getElem?_eq_some_iff.1 hi).1
    simp only [il, List.length_map] at this
    omega
  have hl : i < l.length := by omega
  rw [e, hb.cell hil, ← hi]
  simp [il, ig, hl]
theorem RowB.below {w w' : World} {base g n cap : Nat} {l : List Int} (h : RowB w base g n cap l) {B : Nat} (hb : Below B w w') (hg : g < B) : RowB w' base g n cap l := by
  obtain ⟨cur, hbl, h1⟩ := h
  exact ⟨cur, hbl.below hb hg, h1⟩
theorem iinsert (g cap base n i vb vc : Nat) (l : List Int) (x : Int) (w : World) (h : RowB w base g n cap l) (hi : i ≤ n) (hroom : n + 1 ≤ cap) (hv : Blk w vb 3 #[.int .i64 x]) (hne : vb ≠ g) :
    Calls Tryz.prog 79 #[.slice (some ⟨g, 0, none⟩) n cap, .int .i64 (i : Int), .slice (some ⟨vb, 0, none⟩) 1 vc] w fun e w' => e = .returned (.slice (some ⟨g, 0, none⟩) (n + 1) cap) ∧ RowB w' base g (n + 1) cap (l.take i ++ x :: l.drop i) ∧ (base ≤ w.heap.size → Below base w w') := by
  obtain ⟨cur, hb, h1, h2, h3, h4, h5, h6⟩ := h
  have hmx : cap ≤ 9223372036854775807 := h5
  have hcell : ∀ j, j < cap → (w.cell? ⟨g, j, none⟩).isSome = true := fun j hj => by rw [hb.cell]; simp; omega
  have hsz : (il l).length = n := by simp [il, h3]
  have hone : ∀ v ∈ il l, v.oneCell' = true := fun v hv => by
    simp only [il, List.mem_map] at hv
    obtain ⟨y, _, rfl⟩ := hv
    rfl
  have hvs : ∀ j v, ([Value.int .i64 x] : List Value)[j]? = some v → w.cell? ⟨vb, 0 + j, none⟩ = some v := fun j v hj => by
    rw [Nat.zero_add, hv.cell]
    simpa using hj
  have hcs : ∀ j v, (il l)[j]? = some v → w.cell? ⟨g, 0 + j, none⟩ = some v := fun j v hj => by
    have hj' := (List.getElem?_eq_some_iff.1 hj).1
    rw [Nat.zero_add, hb.cell, ← Array.getElem?_toList, ← List.getElem?_take_of_lt (show j < n by omega), h2]
    exact hj
  have hlist : ∀ v, (stL (stL cur.toList (i + 1) ((il l).drop i)) i [v]).take (n + 1) = (il l).take i ++ v :: (il l).drop i := fun v => ins_list h2 hsz (by simp; omega) hi
  have hil : (il l).take i ++ Value.int .i64 x :: (il l).drop i = il (l.take i ++ x :: l.drop i) := by simp [il, List.map_take, List.map_drop]
  have hlen : (l.take i ++ x :: l.drop i).length = n + 1 := by simp; omega
  have hlast : (stL (stL cur.toList (i + 1) ((il l).drop i)) i [Value.int .i64 x]).toArray.size = cap := by simp [stL_len, h1]
  by_cases hin : i < n
  · refine (Any2.slices_Insert_int_shift layInsert g 0 n cap i vb 0 1 vc (il l) [.int .i64 x] w hin (by omega) hroom hmx hne hsz rfl hcs (fun j hj => by rw [Nat.zero_add]; exact hcell j (by omega)) (fun j _ => by rw [Nat.zero_add]; exact hb.frozen j) hvs hone (fun v hv => by simp at hv; subst hv; rfl) 3 3 1 cap (by unfold World.shape?; rw [show w.heap[vb]? = _ from hv]; rfl) (by unfold World.shape?; rw [show w.heap[g]? = _ from hb, ← h1]) (by omega) (hv.frozen 0) (hv.frozen 1)).mono ?_
    rintro e w' ⟨rfl, rfl⟩
    have hb2 := blk_setCells g 3 [.int .i64 x] i _ _ (blk_setCells g 3 ((il l).drop i) (i + 1) w.drew cur hb)
    simp only [Nat.zero_add]
    refine ⟨trivial, ⟨_, hb2, by simpa using hlast, ?_, hlen, hroom, h5, h6⟩, fun hB => setCells_below h6 _ _ _ _ (setCells_below h6 _ _ _ _ ((Below.refl base w).drew))⟩
    rw [← hil, ← hlist]
  · obtain rfl : i = n := by omega
    refine (Any2.slices_Insert_int_end_room layInsert g 0 i cap vb 0 1 vc [.int .i64 x] w (by omega) hroom hmx rfl (fun j hj => by rw [Nat.zero_add]; exact hcell _ (by omega)) (fun j _ => by rw [Nat.zero_add]; exact hb.frozen _) hvs (fun v hv => by simp at hv; subst hv; rfl)).mono ?_
    rintro e w' ⟨rfl, rfl⟩
    have hd : (il l).drop i = [] := List.drop_of_length_le (by omega)
    have hb2 := blk_setCells g 3 [.int .i64 x] i w cur hb
    simp only [Nat.zero_add]
    rw [hd, stL] at hlist hlast
    refine ⟨trivial, ⟨_, hb2, by simpa using hlast, ?_, hlen, hroom, h5, h6⟩, fun hB => setCells_below h6 _ _ _ _ (Below.refl base w)⟩
    rw [← hil, hd, ← hlist]
end Go.Proofs.YtcgkkppidkkjiaaGreatDoor
