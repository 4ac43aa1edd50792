/- The walks of ruletable's words: the words of any line without a comment, one after another. -/
import Derived.Test.YtbcihgimflljoaaGreatDoorSlay
import Derived.RangeFuncNested
import Derived.RangeFuncBound
import Derived.RangeFuncCalls
import Derived.RangeFuncLeaves
import Derived.Shelf.Abstract
import Derived.Shelf.RegionOpen
import Derived.WalkKit
import Derived.OwnWalkIn
import Derived.TacticsInMore
import Derived.LoopNIn
import Derived.LoopIn
import Derived.Shelf.Strings.IndexAnyAll
import Derived.Shelf.Strings.SlTrimAscii
import Derived.Shelf.Strings.Cut
import Derived.Lib.Hide
namespace Go.Proofs.YtbcihgimflljoaaGreatDoor
open Go.RowKit Go.Shelf
attribute [local go_sem] Oper.semAt_some

/-- a text by its bytes -/
def tx (l : List UInt8) : ByteArray := ⟨l.toArray⟩
theorem tx_size (l : List UInt8) : (tx l).size = l.length := by
  rw [Lib.size_eq]; simp [tx]
theorem tx_data (l : List UInt8) : (tx l).data.toList = l := by simp [tx]
/-- what parts words -/
def bl : List UInt8 := [32, 9]
/-- the first word of what is left of a line -/
def wd (r : List UInt8) : List UInt8 := if 0 ≤ Lib.indexAny r bl then r.take (Lib.indexAny r bl).toNat else r
/-- what is left of a line behind k words -/
def rs (l : List UInt8) : Nat → List UInt8
  | 0 => Lib.trimLeftS l bl
  | k + 1 => Lib.trimLeftS ((rs l k).drop (wd (rs l k)).length) bl
/-- the first k words -/
def wl (l : List UInt8) (k : Nat) : List ByteArray := (List.range k).map fun j => tx (wd (rs l j))
theorem wl_succ (l : List UInt8) (k : Nat) : wl l (k + 1) = wl l k ++ [tx (wd (rs l k))] := by simp [wl, List.range_succ]
theorem wl_length (l : List UInt8) (k : Nat) : (wl l k).length = k := by simp [wl]
/-- a line of N words, without a comment -/
structure Ln (l : List UInt8) (N : Nat) : Prop where
  cut : (Lib.cut l [35]).1 = l
  len : l.length ≤ 1000
  some : ∀ k, k < N → (rs l k).isEmpty = false
  done : rs l N = []
  short : ∀ k, k ≤ N → (rs l k).length ≤ 1000
  dec : ∀ k, k < N → (rs l (k + 1)).length < (rs l k).length
  ascii : ∀ k, k ≤ N → (rs l k).all (fun b => decide (b.toNat < 128)) = true
theorem idx_le (c : List UInt8) : ∀ r : List UInt8, Lib.indexAny r c ≤ (r.length : Int)
  | [] => by simp [Lib.indexAny]
  | b :: l => by
    have ih := idx_le c l
    unfold Lib.indexAny
    split
    · simp; omega
    · split
      · simp; omega
      · simp; omega
theorem grown_of {w w' : World} (h : Below w.heap.size w w') : w.grownBy w' none := ⟨h.os, h.tape, h.output, h.size, fun k hk _ => h.block k hk⟩
theorem trim_blanks (r : List UInt8) (s : ByteArray) (hs : s.data.toList = r) (w : World) :
    Calls Tryz.prog 86 #[.string s, .string ⟨#[32, 9]⟩] w fun e w' => e = .returned (.string (tx (Lib.trimLeftS r bl))) ∧ Below w.heap.size w w' := by
  subst hs
  exact Any.strings_TrimLeft_laid layTrim set_info s ⟨#[32, 9]⟩ w (by decide) (ascii_of_all (by decide))
theorem any_blanks (r : List UInt8) (h : r.length ≤ 1000) (ha : r.all (fun b => decide (b.toNat < 128)) = true) (w : World) :
    Calls Tryz.prog 87 #[.string (tx r), .string ⟨#[32, 9]⟩] w fun e w' => e = .returned (.int .i64 (Lib.indexAny r bl)) ∧ Below w.heap.size w w' := by
  have := Any.strings_IndexAny_laid layAny set_info (tx r) ⟨#[32, 9]⟩ w (by rw [tx_size]; omega) (by decide) (ascii_of_all (by rw [tx_data]; exact ha)) (ascii_of_all (by decide))
  rw [tx_data] at this
  exact this
theorem cut_hash {l : List UInt8} (hc : (Lib.cut l [35]).1 = l) (hl : l.length ≤ 1000) (m : Int) (w : World) (hm : w.cell? ⟨3, 0, none⟩ = some (.int .i64 m)) :
    Calls Tryz.prog 85 #[.string (tx l), .string ⟨#[35]⟩] w fun e w' => (∃ x y, e = .returned (.tuple #[.string (tx l), .string x, .bool y])) ∧ Below w.heap.size w w' := by
  refine (Any.strings_Cut layCut (tx l) ⟨#[35]⟩ m w (by rw [tx_size]; omega) hm).mono ?_
  rintro e w' ⟨rfl, n, rfl⟩
  have e1 : (⟨(Lib.cut (tx l).data.toList (⟨#[35]⟩ : ByteArray).data.toList).1.toArray⟩ : ByteArray) = tx l := by
    rw [tx_data]
    show tx (Lib.cut l [35]).1 = _
    rw [hc]
  rw [e1]
  exact ⟨⟨_, _, rfl⟩, ⟨rfl, rfl, rfl, Nat.le_refl _, fun _ _ => rfl⟩⟩
set_option maxRecDepth 100000 in
set_option maxHeartbeats 1000000 in
theorem words1_in (m : Int) (l₀ : List UInt8) (N : Nat) (hL : Ln l₀ N) (n : Nat) (hn : 1 ≤ n) (l Bn n₀ : Nat) (J Jx : List ByteArray → World → Prop)
    (hG : 3 < n₀) (W : World) (hJ : AbidesFrom W.heap.size J) (hn₀ : n₀ ≤ W.heap.size)
    (hY : ∀ pre x W, J pre W → pre.length < N → YieldAt Fence.wide (n - 1) Tryz.prog l #[.string x] W fun e W' =>
      (e = .returned (.bool true) ∧ J (pre ++ [x]) W' ∧ Below n₀ W W') ∨ (e = .returned (.bool false) ∧ Jx (pre ++ [x]) W'))
    (hm : W.cell? ⟨3, 0, none⟩ = some (.int .i64 m)) (hBn : W.cell? ⟨Bn, 0, none⟩ = some (.string (tx l₀))) (h0 : J [] W) :
    CallsIn Fence.wide n Tryz.prog 84 #[.func (.yield l) #[] #[], .pointer (some ⟨Bn, 0, none⟩)] W fun e W' => (∃ v, e = .returned v) ∧
      ((∃ ys, ys = wl l₀ N ∧ J ys W') ∨ (∃ pre, (∃ k, k ≤ N ∧ pre = wl l₀ k) ∧ Jx pre W')) := by
  have HC := Lib.hid (cut_hash hL.cut hL.len m W hm)
  have HT := fun w => Lib.hid (trim_blanks l₀ (tx l₀) (tx_data l₀) w)
  have HJ := Lib.hid hJ
  refine callsIn_of_wp Tryz.func84 rfl trivial ?_ rfl
  simp only [Tryz.ntmps84, List.size_toArray, List.length_cons, List.length_nil, Nat.reduceAdd, Nat.reduceSub, Array.replicate_succ, Array.replicate_zero, List.push_toArray, List.append_toArray, List.nil_append, List.cons_append]
  gi_wp2_with (first
    | (refine ⟨trivial, ?_⟩; gi_at_call 85; refine (callsIn_wide.2 HC.out).mono ?_; rintro e w1 ⟨⟨x, y, rfl⟩, hb1⟩; have HB1 := Lib.hid hb1; clear hb1)
    | (refine ⟨trivial, ?_⟩; gi_at_call 86; refine (callsIn_wide.2 (HT _).out).mono ?_; rintro e w2 ⟨rfl, hb2⟩; have HB2 := Lib.hid hb2; clear hb2))
  have HJ0 := Lib.hid (HJ.out _ _ _ none (HJ.out _ _ _ none h0 (grown_of HB1.out) (fun r e => by cases e)) (grown_of HB2.out) (fun r e => by cases e))
  have HB0 := Lib.hid ((HB1.out.mono hn₀).trans (HB2.out.mono (Nat.le_trans hn₀ HB1.out.size)))
  gi_loopw [6] (fun r wr => ∃ k, k ≤ N ∧ r = .string (tx (rs l₀ k)) ∧ J (wl l₀ k) wr ∧ Below n₀ W wr) (fun r _ => match r with | .string s => s.size | _ => 0)
  case atStart => exact ⟨0, Nat.zero_le _, rfl, HJ0.out, HB0.out⟩
  case round =>
    obtain ⟨k, hk, rfl, hJs, hnx⟩ := hrel
    by_cases hlt : k < N
    · have hs := hL.some k hlt
      have hd := hL.dec k hlt
      have hA := fun w => Lib.hid (any_blanks (rs l₀ k) (hL.short k hk) (hL.ascii k hk) w)
      have hge := Lib.indexAny_ge bl (rs l₀ k)
      have hle := idx_le bl (rs l₀ k)
      have hwd : wd (rs l₀ k) = if 0 ≤ Lib.indexAny (rs l₀ k) bl then (rs l₀ k).take (Lib.indexAny (rs l₀ k) bl).toNat else rs l₀ k := rfl
      have hsucc := wl_succ l₀ k
      have hlen := wl_length l₀ k
      have hrs : rs l₀ (k + 1) = Lib.trimLeftS ((rs l₀ k).drop (wd (rs l₀ k)).length) bl := rfl
      have hsh := hL.short k hk
      obtain ⟨r', hr'⟩ : ∃ r', rs l₀ (k + 1) = r' := ⟨_, rfl⟩
      rw [hr'] at hd hrs
      obtain ⟨r, hrr⟩ : ∃ r, rs l₀ k = r := ⟨_, rfl⟩
      rw [hrr] at hs hd hA hge hle hwd hsucc hrs hsh ⊢
      obtain ⟨s, hse⟩ : ∃ s, tx r = s := ⟨_, rfl⟩
      have hsz : s.size = r.length := by rw [← hse, tx_size]
      have hsd : s.data.toList = r := by rw [← hse, tx_data]
      have hne : (s.toList == []) = false := by
        rw [Lib.toList_data, hsd]; cases r with
        | nil => cases hs
        | cons _ _ => rfl
      obtain ⟨x0, hx0⟩ : ∃ x0, tx (wd r) = x0 := ⟨_, rfl⟩
      rw [hx0] at hsucc
      have hxz : x0.size = (wd r).length := by rw [← hx0, tx_size]
      have hzl : (wd r).length ≤ r.length := by
        rw [hwd]; split
        · rw [List.length_take]; omega
        · exact Nat.le_refl _
      have hTT := fun w => Lib.hid (trim_blanks (r.drop (wd r).length) (s.extract (wd r).length r.length) (by rw [Lib.extract_eq, hsd]; exact List.take_of_length_le (by rw [List.length_drop]; exact Nat.le_refl _)) w)
      rw [← hrs] at hTT
      rw [hse] at hA ⊢
      obtain ⟨t', ht'⟩ : ∃ t', tx r' = t' := ⟨_, rfl⟩
      have htz : t'.size < s.size := by rw [← ht', tx_size, hsz]; exact hd
      have hend : ∀ wr W3, Below n₀ W wr → Below n₀ wr W3 → Below n₀ W W3 := fun _ _ a b => a.trans b
      rw [ht'] at hTT
      have hszI : (s.size : Int) ≤ 1000 := by omega
      by_cases hi : 0 ≤ Lib.indexAny r bl
      · rw [if_pos hi] at hwd
        obtain ⟨j, hj⟩ : ∃ j : Nat, Lib.indexAny r bl = (j : Int) := ⟨_, (Int.toNat_of_nonneg hi).symm⟩
        rw [hj] at hwd hle hA
        have hzj : (wd r).length = j := by rw [hwd, List.length_take]; omega
        have hxx : s.extract 0 j = x0 := by
          rw [Lib.extract_eq, hsd, ← hx0, hwd]; simp [tx]
        rw [hzj] at hTT hxz
        have hjs : (j : Int) ≤ (s.size : Int) := by omega
        have hjn : j ≤ s.size := by omega
        gi_wp2_with (refine ⟨trivial, ?_⟩; gi_at_call 87; refine (callsIn_wide.2 (hA _).out).mono ?_; rintro e w3 ⟨rfl, hb3⟩; have HB3 := Lib.hid hb3; clear hb3; have HJ3 := Lib.hid (HJ.out _ _ _ none hJs (grown_of HB3.out) (fun r e => by cases e)); obtain ⟨fn, tmps, assign, body, hy, hR⟩ := hY _ x0 w3 HJ3.out (by rw [hlen]; exact hlt))
        refine hR.mono ?_
        rintro e W3 (⟨rfl, hJ3, hk3⟩ | ⟨rfl, hJx3⟩)
        · gi_wp2_with (refine ⟨trivial, ?_⟩; gi_at_call 86; refine (callsIn_wide.2 (hTT _).out).mono ?_; rintro e w4 ⟨rfl, hb4⟩; have HB4 := Lib.hid hb4; clear hb4)
          have HJ4 := HJ.out _ _ _ none hJ3 (grown_of HB4.out) (fun r e => by cases e)
          rw [← hsucc] at HJ4
          go_roundw
          case rel => exact ⟨k + 1, by omega, by rw [← ht', ← hr'], HJ4, ((hnx.trans (HB3.out.mono (Nat.le_trans hn₀ hnx.size))).trans hk3).trans (HB4.out.mono (Nat.le_trans hn₀ (Nat.le_trans hnx.size (Nat.le_trans HB3.out.size hk3.size))))⟩
          case measure => exact htz
        · gi_wp2
          refine bodyPost_ret (results_none rfl _ _ _) rfl ?_
          rw [← hsucc] at hJx3
          exact ⟨⟨_, rfl⟩, .inr ⟨_, ⟨k + 1, by omega, rfl⟩, hJx3⟩⟩
      · rw [if_neg hi] at hwd
        have hj : Lib.indexAny r bl = -1 := by omega
        rw [hj] at hA
        have hxs : x0 = s := by rw [← hx0, hwd, hse]
        subst hxs
        clear hTT
        have hTT := fun w => Lib.hid (trim_blanks [] ByteArray.empty (by rfl) w)
        rw [hwd, List.drop_length] at hrs
        rw [← hrs, ht'] at hTT
        clear hxz hzl hwd
        have hcc : (r.length : Int) ≤ (r.length : Int) := Int.le_refl _
        have hccn : r.length ≤ r.length := Nat.le_refl _
        gi_wp2_with (refine ⟨trivial, ?_⟩; gi_at_call 87; refine (callsIn_wide.2 (hA _).out).mono ?_; rintro e w3 ⟨rfl, hb3⟩; have HB3 := Lib.hid hb3; clear hb3; have HJ3 := Lib.hid (HJ.out _ _ _ none hJs (grown_of HB3.out) (fun r e => by cases e)); obtain ⟨fn, tmps, assign, body, hy, hR⟩ := hY _ x0 w3 HJ3.out (by rw [hlen]; exact hlt))
        refine hR.mono ?_
        rintro e W3 (⟨rfl, hJ3, hk3⟩ | ⟨rfl, hJx3⟩)
        · gi_wp2_with (refine ⟨trivial, ?_⟩; gi_at_call 86; refine (callsIn_wide.2 (hTT _).out).mono ?_; rintro e w4 ⟨rfl, hb4⟩; have HB4 := Lib.hid hb4; clear hb4)
          have HJ4 := HJ.out _ _ _ none hJ3 (grown_of HB4.out) (fun r e => by cases e)
          rw [← hsucc] at HJ4
          go_roundw
          case rel => exact ⟨k + 1, by omega, by rw [← ht', ← hr'], HJ4, ((hnx.trans (HB3.out.mono (Nat.le_trans hn₀ hnx.size))).trans hk3).trans (HB4.out.mono (Nat.le_trans hn₀ (Nat.le_trans hnx.size (Nat.le_trans HB3.out.size hk3.size))))⟩
          case measure => exact htz
        · gi_wp2
          refine bodyPost_ret (results_none rfl _ _ _) rfl ?_
          rw [← hsucc] at hJx3
          exact ⟨⟨_, rfl⟩, .inr ⟨_, ⟨k + 1, by omega, rfl⟩, hJx3⟩⟩
    · obtain rfl : k = N := by omega
      rw [hL.done]
      unfold tx
      gi_wp2
      go_end0
      exact ⟨⟨_, rfl⟩, .inl ⟨_, rfl, hJs⟩⟩
set_option maxHeartbeats 1000000 in
theorem words_any (s : ByteArray) (w : World) :
    Calls Tryz.prog 60 #[.string s] w fun e w' => e = .returned (.func (.func 84) #[] #[.pointer (some ⟨w.heap.size, 0, none⟩)]) ∧ w' = w.alloc (.cells #[.string s] 9) := by
  go_enter Tryz.func60, Tryz.ntmps60
  go_wp2
  go_ret
  exact ⟨rfl, rfl⟩
/-- the words of a line, as an iterator -/
theorem words_stops (m : Int) (l₀ : List UInt8) (N : Nat) (hL : Ln l₀ N) (n : Nat) (hn : 1 ≤ n) (Bn n₀ : Nat) (hG : 3 < n₀) (w : World) (hBn : Bn < w.heap.size) (hn₀ : n₀ ≤ w.heap.size)
    (hm : w.cell? ⟨3, 0, none⟩ = some (.int .i64 m)) (hc : w.cell? ⟨Bn, 0, none⟩ = some (.string (tx l₀))) :
    SeqStopsK Fence.wide n Tryz.prog 84 #[.pointer (some ⟨Bn, 0, none⟩)] (fun x : ByteArray => #[Value.string x]) (Below n₀) (fun ys => ys = wl l₀ N) (fun pre => ∃ k, k ≤ N ∧ pre = wl l₀ k) N w := fun l J Jx W hW hJ _ hY h0 =>
  words1_in m l₀ N hL n hn l Bn n₀ J Jx hG W hJ (Nat.le_trans hn₀ hW.size) hY ((hW.cell (p := ⟨3, 0, none⟩) (Nat.lt_of_lt_of_le hG hn₀)).trans hm) ((hW.cell (p := ⟨Bn, 0, none⟩) hBn).trans hc) h0
end Go.Proofs.YtbcihgimflljoaaGreatDoor
