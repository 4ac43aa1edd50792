/- The walks of Eval and Words. -/
/- The walks of digit, literal and test. -/
import Derived.Test.YtnhkgkpjkgifoaaMai
import Derived.Test.YtnhkgkpjkgifoaaMal
import Derived.Test.YtnhkgkpjkgifoaaMaa
import Derived.Test.YtnhkgkpjkgifoaaMac
import Derived.Test.YtnhkgkpjkgifoaaMag
import Derived.Test.YtnhkgkpjkgifoaaMab
import Derived.Below
import Derived.BigQuiet
import Derived.Deep.AppendLies
import Derived.Deep.CutRange
import Derived.Deep.Draws
import Derived.Deep.OwnRows
import Derived.Deep.QuietTactic
import Derived.IntWalk
import Derived.Laws.CopyOwn
import Derived.Laws.OwnMore
import Derived.Laws.Rows
import Derived.Lib.Hide
import Derived.Lib.SliceRun
import Derived.LoopN
import Derived.OwnWalk
import Derived.StillTail
import Derived.StillTailTactics
import Derived.Test.YtnhkgkpjkgifoaaRows
import Derived.WalkKit
import Derived.Deep.RegionHeldLaw
namespace Go.Proofs.Ytnhkgkpjkgifoaa
open Go.RowKit
/-- truth values as words -/
def bw (l : List Bool) : List Int := l.map fun b => if b then 1 else 0
/-- words as truth values -/
def bo (l : List Int) : List Bool := l.map fun x => bits .and .u64 x 1 == 1
/-- the outputs of a circuit -/
def evb (C : Cr) (l : List Bool) : List Bool := bo (ow (wv C.g (bw l) C.n) C.o)
theorem ow_len (v o : List Int) : (ow v o).length = o.length := by simp [ow]
theorem take_map_succ {α β : Type} (f : α → β) (l : List α) (s : Nat) (h : s < l.length) : (l.take (s + 1)).map f = (l.take s).map f ++ [f l[s]] := by
  rw [List.take_succ_eq_append_getElem h, List.map_append]; rfl
theorem set_falses (l : List Bool) (k : Nat) (v : Bool) (n : Nat) (hn : n = l.length) : (l ++ List.replicate (k + 1) false).set n v = l ++ [v] ++ List.replicate k false := by
  subst hn
  rw [List.replicate_succ, List.set_append_right _ _ (Nat.le_refl _), Nat.sub_self, List.set_cons_zero, List.append_assoc]; rfl

set_option maxRecDepth 100000 in
set_option maxHeartbeats 2000000 in
theorem ceval_any (AG AO AI : Option Addr) (cG cO cI : Nat) (C : Cr) (l : List Bool) (w : World) (h : CS w AG AO C) (hi : Reads w w.heap.size AI l.length (bl l)) (hr : rt C = true) (hl : C.ins = (l.length : Int)) :
    Calls Try.prog 11 #[.agg #[.int .i64 C.ins, .slice AG C.n cG, .slice AO C.o.length cO], .slice AI l.length cI] w fun e w' => ∃ A c, e = .returned (.tuple #[.slice A C.o.length c, .int .i64 0]) ∧ Reads w' w'.heap.size A C.o.length (bl (evb C l)) ∧ Below w.heap.size w w' := by
  have hr' := hr
  rw [rt_iff] at hr'
  obtain ⟨⟨h0, h1, h2, h3⟩, -, -⟩ := hr'
  have B1 := (Below.refl w.heap.size w).alloc (Nat.le_refl _) (.cells #[.int .i64 C.ins, .slice AG C.n cG, .slice AO C.o.length cO] 34)
  have K1 := Blk.new w 34 #[.int .i64 C.ins, .slice AG C.n cG, .slice AO C.o.length cO]
  have F := Lib.hid (fits_any AG AO cG cO C (l.length : Int) _ (h.later B1) (by omega) (by omega))
  rw [hr, decide_eq_true hl, Bool.and_self] at F
  have EV := Lib.hid (fun (ai : Addr) (cI : Nat) (w' : World) (hc : CS w' AG AO C) (hi : Reads w' w'.heap.size (some ai) l.length (ul (bw l))) => evaluate_any AG AO ai cG cO cI C (bw l) w' hc (by simpa [bw] using hi) hr (by simpa [bw] using hl))
  have HE := Lib.hid (show evb C l = bo (ow (wv C.g (bw l) C.n) C.o) from rfl)
  have HL := Lib.hid (show (ow (wv C.g (bw l) C.n) C.o).length = C.o.length by rw [ow_len])
  have CS0 := Lib.hid h
  have HI := Lib.hid hi
  have e1 : (bw l).length = l.length := by simp [bw]
  rw [e1] at EV
  generalize evb C l = E at HE ⊢
  generalize ow (wv C.g (bw l) C.n) C.o = V at HE HL EV
  clear h hi e1
  rw [hl] at *
  obtain ⟨m, hm⟩ : ∃ m, m = l.length := ⟨_, rfl⟩
  rw [← hm] at F EV K1 B1 HI h1 ⊢
  have HM := Lib.hid hm
  obtain ⟨q, hq⟩ : ∃ q, q = C.o.length := ⟨_, rfl⟩
  rw [← hq] at F EV K1 B1 HL h3 ⊢
  obtain ⟨n, hn⟩ : ∃ n, n = C.n := ⟨_, rfl⟩
  rw [← hn] at F EV K1 B1 h2 ⊢
  clear hm hq hn hl
  have mk := mk_u64 m (by omega)
  have mq := mk_bools q (by omega)
  go_enter Try.func11, Try.ntmps11
  go_upto_region 1 with (fail)
  generalize w.alloc (.cells #[.int .i64 (m : Int), .slice AG n cG, .slice AO q cO] 34) = w1 at *
  obtain ⟨a0, a1, a2, _, _, _, a6⟩ := K1.three6
  go_upto_region 3 with (go_at_call 35; (with_reducible refine F.out.mono ?_); rintro e w2 ⟨rfl, hb⟩; have B2 := B1.trans (hb.mono B1.size); have K2 := K1.below hb a6; have s2 := hb.size; clear hb)
  have BW := (Below.refl w2.heap.size w2).alloc (Nat.le_refl _) (.cells (ul (List.replicate m 0)).toArray 67)
  have RW := Blk.new w2 67 (ul (List.replicate m 0)).toArray
  have K3 := K2.below BW (by omega)
  have B3 := B2.trans (BW.mono (by omega))
  go_upto_region 4 with (fail)
  generalize w2.alloc (.cells (ul (List.replicate m 0)).toArray 67) = w3 at *
  obtain ⟨gW, hgW⟩ : ∃ gW, gW = w2.heap.size := ⟨_, rfl⟩
  rw [← hgW] at RW s2 ⊢
  have hg1 : w.heap.size < gW := by omega
  have RW := Lib.hid RW
  have K3 := Lib.hid K3
  have B3 := Lib.hid B3
  clear hgW BW K2 B2 K1 B1 F s2 a0 a1 a2 a6
  go_wp2
  go_loopw [22] (fun iv wr => ∃ j : Nat, j ≤ m ∧ iv = .int .i64 (j : Int) ∧ Hid (Blk wr w.heap.size 34 #[.int .i64 (m : Int), .slice AG n cG, .slice AO q cO]) ∧ Hid (Blk wr gW 67 (ul (bw (l.take j) ++ List.replicate (m - j) 0)).toArray) ∧ Hid (Below w.heap.size w wr)) (fun iv _ => m - (intOf iv).toNat)
  case atStart => exact ⟨0, Nat.zero_le _, rfl, K3, RW, B3⟩
  case round =>
    obtain ⟨j, hj, rfl, KJ, RJ, BJ⟩ := hrel
    have hsj : gW < wr.heap.size := RJ.out.lt
    by_cases hk : j < m
    · obtain ⟨ad, rfl, hb1, hc⟩ := bl_at (HI.out.below BJ.out) hk
      have hlj : j < l.length := by rw [← HM.out]; exact hk
      have HTS := Lib.hid (show bw (l.take (j + 1)) = bw (l.take j) ++ [if bg l j then 1 else 0] by
        rw [bw, take_map_succ _ _ _ hlj, ← bw]; simp [bg, List.getD, List.getElem?_eq_getElem hlj])
      have hll : (bw (l.take j)).length = j := by simp [bw]; omega
      have f0 := RJ.out.frozen j
      have z0 : wr.cell? ⟨gW, j, none⟩ = some (.int .u64 (ig (bw (l.take j)) j)) := by
        rw [RJ.out.cell, ul_get (by rw [List.length_append, hll, List.length_replicate]; omega), ig_zeros]
      have HST := Lib.hid (set_zeros (bw (l.take j)) (m - j - 1) 1 j hll.symm)
      have HST0 := Lib.hid (set_zeros (bw (l.take j)) (m - j - 1) 0 j hll.symm)
      clear hll hlj
      generalize bg l j = b at hc HTS
      have KF := Lib.hid (KJ.out.far (p := ⟨gW, j, none⟩) (by show w.heap.size ≠ gW; omega) (.int .u64 1))
      cases b with
      | true =>
        go_wp2
        go_roundw
        case rel =>
          refine ⟨j + 1, by omega, by go_num, KF, Lib.hid ?_, Lib.hid (BJ.out.setCell (p := ⟨gW, j, none⟩) (Nat.le_of_lt hg1) _)⟩
          have hz := RJ.out.set_ j (.int .u64 1)
          rw [ul_set, show m - j = m - j - 1 + 1 by omega, HST.out] at hz
          rw [HTS.out, show m - (j + 1) = m - j - 1 by omega]
          exact hz
        case measure => simp [intOf]; omega
      | false =>
        go_wp2
        go_roundw
        case rel =>
          refine ⟨j + 1, by omega, by go_num, KJ, Lib.hid ?_, BJ⟩
          have hz := RJ.out
          rw [show m - j = m - j - 1 + 1 by omega, List.replicate_succ] at hz
          rw [HTS.out, show m - (j + 1) = m - j - 1 by omega, List.append_assoc]
          exact hz
        case measure => simp [intOf]; omega
    · obtain rfl : j = m := by omega
      rw [Nat.sub_self, List.replicate_zero, List.append_nil, List.take_of_length_le (by rw [← HM.out]; exact Nat.le_refl _)] at RJ
      have hbl : (bw l).length = j := by simp [bw, ← HM.out]
      clear hk hj K3 RW B3 mk
      have BQ := (Below.refl wr.heap.size wr).alloc (Nat.le_refl _) (.cells (bl (List.replicate q false)).toArray 4)
      have RQ := Blk.new wr 4 (bl (List.replicate q false)).toArray
      have R3 := RJ.out.below BQ hsj
      have K4 := KJ.out.below BQ (by omega)
      have B4 := BJ.out.trans (BQ.mono (by omega))
      obtain ⟨a0, a1, a2, _, _, _, a6⟩ := KJ.out.three6
      go_upto_region 11 with (fail)
      generalize wr.alloc (.cells (bl (List.replicate q false)).toArray 4) = w4 at *
      obtain ⟨gB, hgB⟩ : ∃ gB, gB = wr.heap.size := ⟨_, rfl⟩
      rw [← hgB] at RQ hsj ⊢
      clear hgB BQ a0 a1 a2 a6
      obtain ⟨a0, a1, a2, _, _, _, a6⟩ := K4.three6
      have HR := Reads.of_blk R3
      rw [ul_len, hbl] at HR
      have EVC := Lib.hid (EV.out ⟨gW, 0, none⟩ j w4 (CS0.out.later B4) HR)
      have K4 := Lib.hid K4
      have RQ := Lib.hid RQ
      have B4 := Lib.hid B4
      clear HR EV hbl
      go_upto_region 12 with (go_at_call 36; (with_reducible refine EVC.out.mono ?_); rintro e w5 ⟨A5, c5, rfl, hr5, hf5, -, hb⟩; have B5 := Lib.hid (B4.out.trans (hb.mono B4.out.size)); have R5 := Lib.hid hr5; have Q5 := Lib.hid (RQ.out.below hb RQ.out.lt); clear hb hr5)
      have hgl := Q5.out.lt
      go_loopw [40] (fun iv wr => ∃ s : Nat, s ≤ q ∧ iv = .int .i64 (s : Int) ∧ Hid (Reads wr w5.heap.size A5 q (ul V)) ∧ Hid (Blk wr gB 4 (bl (bo (V.take s) ++ List.replicate (q - s) false)).toArray) ∧ Hid (Below w.heap.size w wr)) (fun iv _ => q - (intOf iv).toNat)
      case atStart => exact ⟨0, Nat.zero_le _, rfl, R5, Q5, B5⟩
      case round =>
        obtain ⟨s, hs, rfl, RS, QS, BS⟩ := hrel
        by_cases hsq : s < q
        · obtain ⟨ad, rfl, hbo, hc⟩ := ul_at RS.out hsq
          have hne : gB < ad.block := Nat.lt_of_lt_of_le RQ.out.lt (hf5 ad rfl)
          have hvl : s < V.length := by rw [HL.out]; exact hsq
          have hll : (bo (V.take s)).length = s := by simp [bo]; omega
          have HTS := Lib.hid (show bo (V.take (s + 1)) = bo (V.take s) ++ [bits .and .u64 (ig V s) 1 == 1] by
            rw [bo, take_map_succ _ _ _ hvl, ← bo]; simp [ig, List.getD, List.getElem?_eq_getElem hvl])
          have f0 := QS.out.frozen s
          have z0 : wr.cell? ⟨gB, s, none⟩ = some (.bool (bg (bo (V.take s) ++ List.replicate (q - s) false) s)) := by
            rw [QS.out.cell, bl_get (by rw [List.length_append, hll, List.length_replicate]; omega)]
          obtain ⟨z, hz⟩ : ∃ z, z = bg (bo (V.take s) ++ List.replicate (q - s) false) s := ⟨_, rfl⟩
          rw [← hz] at z0
          generalize ig V s = x at hc HTS
          have HST := Lib.hid (set_falses (bo (V.take s)) (q - s - 1) (bits .and .u64 x 1 == 1) s hll.symm)
          clear hz hvl hll
          go_wp2
          go_roundw
          case rel =>
            refine ⟨s + 1, by omega, by go_num, Lib.hid (RS.out.far (fun ad' _ e => by injection e with e; subst e; show ad.block ≠ gB; omega) _), Lib.hid ?_, Lib.hid (BS.out.setCell (p := ⟨gB, s, none⟩) (by show w.heap.size ≤ gB; omega) _)⟩
            have hz := QS.out.set_ s (.bool (bits .and .u64 x 1 == 1))
            rw [bl_set, show q - s = q - s - 1 + 1 by omega, HST.out] at hz
            rw [HTS.out, show q - (s + 1) = q - s - 1 by omega]
            exact hz
          case measure => simp [intOf]; omega
        · obtain rfl : s = q := by omega
          have HZ := Reads.of_blk QS.out
          rw [Nat.sub_self, List.replicate_zero, List.append_nil, List.take_of_length_le (by rw [HL.out]; exact Nat.le_refl _), bl_len, bo, List.length_map, HL.out, ← bo, ← HE.out] at HZ
          have HZ := Lib.hid HZ
          go_wp2
          go_ret2
          exact ⟨_, _, rfl, HZ.out, BS.out⟩

end Go.Proofs.Ytnhkgkpjkgifoaa
namespace Go.Proofs.Ytnhkgkpjkgifoaa
open Go.RowKit

/-- a binary digit -/
def bt (n k : Nat) : Bool := n / 2 ^ k % 2 == 1
theorem digit_any (n k : Nat) (w : World) (hn : n < 8) (hk : k < 3) :
    Calls Try.prog 34 #[.int .i64 (n : Int), .int .i64 (k : Int)] w fun e w' => e = .returned (.bool (bt n k)) ∧ w = w' := by
  have hn' : n = 0 ∨ n = 1 ∨ n = 2 ∨ n = 3 ∨ n = 4 ∨ n = 5 ∨ n = 6 ∨ n = 7 := by omega
  have hk' : k = 0 ∨ k = 1 ∨ k = 2 := by omega
  rcases hn' with rfl | rfl | rfl | rfl | rfl | rfl | rfl | rfl <;> rcases hk' with rfl | rfl | rfl <;>
    (go_enter Try.func34, Try.ntmps34
     go_wp2
     go_ret
     exact ⟨rfl, rfl⟩)
/-- the wire of a literal -/
def liV (nots : List Int) (b i k : Nat) (one : Bool) : Int := if one then ((i * b + k : Nat) : Int) else ig nots (i * b + k)
theorem lwc_at {lb : Nat} {I : Int} {A : Option Addr} {n c : Nat} {O : Oc} {w : World} (h : Blk w lb 97 (lwc I A n c O)) : w.cell? ⟨lb, 2, none⟩ = some O.a ∧ w.cell? ⟨lb, 3, none⟩ = some O.b ∧ w.cell? ⟨lb, 4, none⟩ = some O.c ∧ w.cell? ⟨lb, 5, none⟩ = some O.d ∧ w.cell? ⟨lb, 6, none⟩ = some O.e ∧ w.cell? ⟨lb, 7, none⟩ = some O.f ∧ w.cell? ⟨lb, 8, none⟩ = some O.g ∧ w.cell? ⟨lb, 9, none⟩ = some O.h :=
  ⟨(h.cell 2).trans rfl, (h.cell 3).trans rfl, (h.cell 4).trans rfl, (h.cell 5).trans rfl, (h.cell 6).trans rfl, (h.cell 7).trans rfl, (h.cell 8).trans rfl, (h.cell 9).trans rfl⟩
set_option maxRecDepth 100000 in
set_option maxHeartbeats 2000000 in
theorem literal_any (lb : Nat) (b i k no cO : Nat) (one : Bool) (AO : Option Addr) (nots : List Int) (w : World) (c6 : w.cell? ⟨lb, 6, none⟩ = some (.int .i64 (b : Int))) (c7 : w.cell? ⟨lb, 7, none⟩ = some (.slice AO no cO)) (hr : Reads w w.heap.size AO no (il nots)) (hlt : i * b + k < no) (hno : no ≤ 1000000) :
    Calls Try.prog 97 #[.pointer (some ⟨lb, 0, none⟩), .int .i64 (i : Int), .int .i64 (k : Int), .bool one] w fun e w' => e = .returned (.int .i64 (liV nots b i k one)) ∧ w = w' := by
  obtain ⟨ad, rfl, _, hc⟩ := il_at hr hlt
  obtain ⟨q, hq⟩ : ∃ q, q = i * b := ⟨_, rfl⟩
  have hle : q ≤ 1000000 := by omega
  have e1 : IntKind.i64.wrap ((i : Int) * (b : Int)) = (q : Int) := by
    rw [hq, Int.natCast_mul]
    rw [show (i : Int) * (b : Int) = (q : Int) by rw [hq, Int.natCast_mul]]
    exact IntWalk.i64_in _ ⟨by omega, by omega⟩
  have e2 : IntKind.i64.wrap ((q : Int) + (k : Int)) = ((q + k : Nat) : Int) := by
    rw [show (q : Int) + (k : Int) = ((q + k : Nat) : Int) by omega]
    exact IntWalk.i64_in _ ⟨by omega, by omega⟩
  unfold liV
  rw [← hq] at hc hlt ⊢
  obtain ⟨p, hp⟩ : ∃ p, p = q + k := ⟨_, rfl⟩
  rw [← hp] at hc hlt e2 ⊢
  generalize ig nots p = z at hc ⊢
  have hpI : (p : Int) < (no : Int) := by omega
  clear hr hq hp
  cases one with
  | true =>
    go_enter Try.func97, Try.ntmps97
    go_wp2
    go_ret
    exact ⟨rfl, rfl⟩
  | false =>
    go_enter Try.func97, Try.ntmps97
    go_wp2
    go_ret
    exact ⟨rfl, rfl⟩
set_option maxRecDepth 100000 in
set_option maxHeartbeats 2000000 in
theorem test1_any (lb gl gi gs' : Nat) (b i k s no cO : Nat) (AO : Option Addr) (nots : List Int) (w : World) (hl : w.cell? ⟨gl, 0, none⟩ = some (.pointer (some ⟨lb, 0, none⟩))) (hi : w.cell? ⟨gi, 0, none⟩ = some (.int .i64 (i : Int))) (hs : w.cell? ⟨gs', 0, none⟩ = some (.int .i64 (s : Int)))
    (c6 : w.cell? ⟨lb, 6, none⟩ = some (.int .i64 (b : Int))) (c7 : w.cell? ⟨lb, 7, none⟩ = some (.slice AO no cO)) (hr : Reads w w.heap.size AO no (il nots)) (hlt : i * b + k < no) (hno : no ≤ 1000000) (hs8 : s < 8) (hk : k < 3) :
    Calls Try.prog 96 #[.int .i64 (k : Int), .pointer (some ⟨gl, 0, none⟩), .pointer (some ⟨gi, 0, none⟩), .pointer (some ⟨gs', 0, none⟩)] w fun e w' => e = .returned (.int .i64 (liV nots b i k (bt s k))) ∧ Below w.heap.size w w' := by
  have DG := Lib.hid (fun w' => digit_any s k w' hs8 hk)
  have LI := Lib.hid (fun (one : Bool) (w' : World) (hb : Below w.heap.size w w') => literal_any lb b i k no cO one AO nots w' ((hb.cell (World.block_lt_of_cell? w _ c6)).trans c6) ((hb.cell (World.block_lt_of_cell? w _ c7)).trans c7) (hr.later hb) hlt hno)
  clear hr hlt c6 c7
  generalize bt s k = one at DG ⊢
  go_enter Try.func96, Try.ntmps96
  go_wp2_with fail
  go_region_held_law (fun W => W.cell? ⟨gl, 0, none⟩ = some (.pointer (some ⟨lb, 0, none⟩)) ∧ W.cell? ⟨gi, 0, none⟩ = some (.int .i64 (i : Int)) ∧ W.cell? ⟨gs', 0, none⟩ = some (.int .i64 (s : Int)))
    (first | exact ⟨hl, hi, hs⟩ | assumption | go_keep)
    (first
    | (go_at_call 34; (with_reducible refine (DG.out _).mono ?_); rintro e w1 ⟨rfl, rfl⟩)
    | (go_at_call 97; (with_reducible refine (LI.out _ _ (Below.refl _ _).drew).mono ?_); rintro e w1 ⟨rfl, rfl⟩))
  all_goals
    go_wp2_with fail
    go_ret
    exact ⟨rfl, (Below.refl _ _).drew⟩
end Go.Proofs.Ytnhkgkpjkgifoaa
