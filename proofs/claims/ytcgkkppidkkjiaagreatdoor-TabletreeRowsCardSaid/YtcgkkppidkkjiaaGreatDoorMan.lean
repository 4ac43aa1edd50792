/- The walk of arranged: the states of an input in another order, that of the centre in its place. -/
/- The walks of both Index functions on positions, and of both Centre functions. -/
/- The walk of equivalent: the number of an input with which the rows do the same. -/
import Derived.Test.YtcgkkppidkkjiaaGreatDoorMam
import Derived.Test.YtcgkkppidkkjiaaGreatDoorMaa
import Derived.Test.YtcgkkppidkkjiaaGreatDoorMal
import Derived.Test.YtcgkkppidkkjiaaGreatDoorMab
import Derived.Test.YtcgkkppidkkjiaaGreatDoorMac
import Derived.Below
import Derived.BigQuiet
import Derived.Deep.AppendLies
import Derived.Deep.Draws
import Derived.Deep.QuietTactic
import Derived.IntWalk
import Derived.Laws.OwnMore
import Derived.Laws.Rows
import Derived.Lib.Hide
import Derived.LoopIn
import Derived.LoopN
import Derived.LoopNIn
import Derived.Maps.AppendAt
import Derived.OpenShut
import Derived.OwnWalk
import Derived.OwnWalkIn
import Derived.RangeFuncBound
import Derived.RangeFuncCalls
import Derived.RangeFuncLeaves
import Derived.RangeFuncNested
import Derived.Shelf.Abstract
import Derived.Shelf.RegionOpen
import Derived.Shelf.SlIterI.Sorted
import Derived.Shelf.Slices.Clone
import Derived.Shelf.Slices.Delete
import Derived.Shelf.Sort.Plain
import Derived.Shelf.Spec.SlicesInsert
import Derived.Sort.OwnSortedInts
import Derived.Sort.Statements
import Derived.StillTail
import Derived.StillTailTactics
import Derived.TacticsInMore
import Derived.Test.YtcgkkppidkkjiaaGreatDoorRows
import Derived.WalkKit
import Derived.Test.YtcgkkppidkkjiaaGreatDoorMad
import Derived.Test.YtcgkkppidkkjiaaGreatDoorMae
namespace Go.Proofs.YtcgkkppidkkjiaaGreatDoor
open Go.RowKit Go.Shelf Go.Lib
theorem perm_at {l s : List Int} {k : Nat} (hk : k < l.length) (hs : s.Perm (l.take k ++ l.drop (k + 1))) : (s.take k ++ ig l k :: s.drop k).Perm l := by
  have e : ig l k = l[k] := by simp [ig, hk]
  have h1 : (s.take k ++ ig l k :: s.drop k).Perm (ig l k :: s) := by
    have := @List.perm_middle Int (ig l k) (s.take k) (s.drop k)
    rwa [List.take_append_drop] at this
  have h2 : (ig l k :: (l.take k ++ l.drop (k + 1))).Perm (l.take k ++ ig l k :: l.drop (k + 1)) := (List.perm_middle).symm
  have h3 : l.take k ++ ig l k :: l.drop (k + 1) = l := by
    rw [e, List.getElem_cons_drop, List.take_append_drop]
  rw [h3] at h2
  exact h1.trans ((List.Perm.cons _ hs).trans h2)
theorem ig_mid {s : List Int} {k : Nat} {x : Int} (hk : k ≤ s.length) : ig (s.take k ++ x :: s.drop k) k = x := by
  have hl : (s.take k).length = k := by simp; omega
  unfold ig
  rw [List.getD_eq_getElem?_getD, List.getElem?_append_right (by omega), hl, Nat.sub_self]
  rfl
/-- what arranged promises -/
def ArrOut (w : World) (n : Nat) (l : List Int) (ok : List Int → Prop) (e : Ending) (w' : World) : Prop := ∃ g c m, e = .returned (.slice (some ⟨g, 0, none⟩) n c) ∧ Reads w' w'.heap.size (some ⟨g, 0, none⟩) n (il m) ∧ m.Perm l ∧ ok m ∧ Below w.heap.size w w'
set_option maxRecDepth 100000 in
theorem arranged_neg (A : Option Addr) (c n : Nat) (l : List Int) (ce : Int) (w : World) (h : Reads w w.heap.size A n (il l)) (hn : n ≤ 1000000) (h0 : 0 < n) (hce : ce < 0) :
    Calls Tryz.prog 45 #[.slice A n c, .int .i64 ce] w (ArrOut w n l fun _ => True) := by
  have hl := reads_len h
  subst hl
  have V := Lib.hid (values_any A l.length c w)
  have B0 := (Below.refl w.heap.size w).alloc (Nat.le_refl _) (.cells #[.slice A l.length c] 27)
  have S := Lib.hid (sorted_vals l A c w.heap.size (w.alloc (.cells #[.slice A l.length c] 27)) h0 hn ((h.below B0).more B0.size) (by simp) (by rw [(Blk.new w 27 #[.slice A l.length c]).cell]; rfl))
  have HB0 := Lib.hid B0
  have e1 : decide (ce < 0) = true := by rw [decide_eq_true_iff]; exact hce
  clear h B0
  go_enter Tryz.func45, Tryz.ntmps45
  go_wp2_with (first
    | (go_at_call 76; (with_reducible refine V.out.mono ?_); rintro e w1 ⟨rfl, rfl⟩)
    | (go_at_call 75; (with_reducible refine S.out.mono ?_); rintro e w2 ⟨g, c', rfl, hr, hb⟩; have HR := Lib.hid hr; have HB := Lib.hid hb; clear hr hb))
  go_ret
  exact ⟨g, c', _, rfl, (RowB.of HR.out).reads, List.mergeSort_perm _ _, trivial, HB0.out.trans (HB.out.mono HB0.out.size)⟩
set_option maxRecDepth 100000 in
set_option maxHeartbeats 1000000 in
theorem arranged_at (A : Option Addr) (c n k : Nat) (l : List Int) (w : World) (h : Reads w w.heap.size A n (il l)) (hn : n ≤ 1000000) (hk : k < n) :
    Calls Tryz.prog 45 #[.slice A n c, .int .i64 (k : Int)] w (ArrOut w n l fun m => ig m k = ig l k) := by
  have hl := reads_len h
  subst hl
  have C := Lib.hid (iclone_any A c l.length l w h hn (by omega))
  have D := Lib.hid (fun g cap w' (h : RowB w' w.heap.size g l.length cap l) => by
    have := idelete g cap w.heap.size l.length k l w' h hk
    rwa [show ((k + 1 : Nat) : Int) = (k : Int) + 1 by omega] at this)
  have S := Lib.hid (fun g cap w' (h : w'.ownsRow w.heap.size 3 1 (.slice (some ⟨g, 0, none⟩) (l.length - 1) cap) (l.length - 1) (il (l.take k ++ l.drop (k + 1)))) hb => isort_own g cap (l.length - 1) w.heap.size (l.take k ++ l.drop (k + 1)) w' h (by omega) hb)
  have I := Lib.hid (fun g cap vb (s : List Int) w' (h : RowB w' w.heap.size g (l.length - 1) cap s) hroom hv hne => by
    have := iinsert g cap w.heap.size (l.length - 1) k vb 1 s (ig l k) w' h (by omega) hroom hv hne
    rwa [show l.length - 1 + 1 = l.length by omega] at this)
  have HP := Lib.hid (fun (s : List Int) (h : s.Perm (l.take k ++ l.drop (k + 1))) => perm_at hk h)
  have HLS : ((l.take k ++ l.drop (k + 1)).mergeSort fun x y => decide (x ≤ y)).length = l.length - 1 := by simp [List.length_mergeSort]; omega
  obtain ⟨srt, hsrt⟩ : ∃ s, s = (l.take k ++ l.drop (k + 1)).mergeSort fun x y => decide (x ≤ y) := ⟨_, rfl⟩
  have HSP := Lib.hid (show srt.Perm (l.take k ++ l.drop (k + 1)) from hsrt ▸ List.mergeSort_perm _ _)
  rw [← hsrt] at S HLS
  have HLSH := Lib.hid HLS
  have HH := Lib.hid h
  obtain ⟨N, hN⟩ : ∃ N, l.length = N := ⟨_, rfl⟩
  rw [hN] at hn hk C D S I HH
  have HNN := Lib.hid hN
  have d1 : decide ((k : Int) < 0) = false := by rw [decide_eq_false_iff_not]; omega
  have w1e : IntKind.i64.wrap ((k : Int) + 1) = (k : Int) + 1 := IntWalk.i64_in _ ⟨by omega, by omega⟩
  rw [hN]
  clear h hN hsrt HLS
  go_enter Tryz.func45, Tryz.ntmps45
  go_wp2_with (first
    | (go_at_call 57; (with_reducible refine C.out.mono ?_); rintro e w1 ⟨g, cap, rfl, hr, hb⟩; have HR1 := Lib.hid hr; have HB1 := Lib.hid hb; have HS1 := hb.size; clear hr hb)
    | (go_at_call 77; (with_reducible refine (D.out _ _ _ HR1.out).mono ?_); rintro e w2 ⟨rfl, hr, hb⟩; have HR2 := Lib.hid hr; have HB2 := Lib.hid (HB1.out.trans (hb HS1)); have HS2 := HB2.out.size; clear hr hb)
    | (go_at_call 78; (with_reducible refine (S.out _ _ _ HR2.out.own HS2).mono ?_); rintro e w3 ⟨rfl, hr, hb⟩; have HR3 := Lib.hid (RowB.of hr); have HB3 := Lib.hid (HB2.out.trans hb); have HS3 := HB3.out.size; obtain ⟨ad, rfl, hbb, hc⟩ := il_at (HH.out.below HB3.out) hk; have HV := Lib.hid (Blk.new w3 3 #[.int .i64 (ig l k)]); have HR4 := Lib.hid (show RowB (w3.alloc (.cells #[.int .i64 (ig l k)] 3)) w.heap.size g (N - 1) cap srt from HR3.out.below ((Below.refl w3.heap.size w3).alloc (Nat.le_refl _) _) (by obtain ⟨cur, hbl, _⟩ := HR3.out; exact hbl.lt)); have HNE := Lib.hid (show w3.heap.size ≠ g from fun e => by obtain ⟨cur, hbl, _⟩ := HR3.out; have := hbl.lt; omega); have HCAP := Lib.hid (show N - 1 + 1 ≤ cap from by obtain ⟨cur, _, _, _, _, hh, _⟩ := HR1.out; omega); clear hr hb)
    | (go_at_call 79; (with_reducible refine (I.out _ _ _ _ _ HR4.out HCAP.out HV.out HNE.out).mono ?_); rintro e w4 ⟨rfl, hr, hb⟩; have HR5 := Lib.hid hr; have HB5 := Lib.hid ((HB3.out.alloc HS3 _).trans (hb (by simp; omega))); clear hr hb))
  go_ret
  exact ⟨g, cap, _, rfl, HR5.out.reads, HP.out srt HSP.out, ig_mid (by have := HLSH.out; have := HNN.out; omega), HB5.out⟩
end Go.Proofs.YtcgkkppidkkjiaaGreatDoor
namespace Go.Proofs.YtcgkkppidkkjiaaGreatDoor
open Go.RowKit
set_option maxRecDepth 100000 in
set_option maxHeartbeats 2000000 in
theorem pindex_any (A : Option Addr) (n c : Nat) (f : Nat → P2) (u v : Int) (w : World) (h : QReads w w.heap.size A n f) (hn : n ≤ 1000) :
    Calls Tryz.prog 46 #[.slice A n c, .agg #[.int .i64 u, .int .i64 v]] w fun e w' => e = .returned (.int .i64 (px f n (u, v))) ∧ Below w.heap.size w w' := by
  have H := Lib.hid h
  have K0 := Lib.hid (Blk.new w 58 #[.int .i64 u, .int .i64 v])
  have B0 := Lib.hid ((Below.refl w.heap.size w).alloc (Nat.le_refl _) (.cells #[.int .i64 u, .int .i64 v] 58))
  clear h
  go_enter Tryz.func46, Tryz.ntmps46
  go_wp2_with fail
  generalize w.alloc (.cells #[.int .i64 u, .int .i64 v] 58) = w0 at K0 B0 ⊢
  go_wp2
  go_loopw [8] (fun iv wr => ∃ j : Nat, j ≤ n ∧ iv = .int .i64 (j : Int) ∧ (∀ i, i < j → f i ≠ (u, v)) ∧ Below w0.heap.size w0 wr) (fun iv _ => n - (intOf iv).toNat)
  case atStart => exact ⟨0, Nat.zero_le _, rfl, fun i hi => absurd hi (by omega), Below.refl _ _⟩
  case round =>
    obtain ⟨j, hj, rfl, hno, hbel⟩ := hrel
    have HB := Lib.hid (B0.out.trans (hbel.mono B0.out.size))
    have HX := Lib.hid hbel
    have HN := Lib.hid hno
    obtain ⟨k0, k1, k2, k3, k4⟩ := (K0.out.below hbel K0.out.lt).two
    clear hno hbel
    by_cases hjn : j < n
    · obtain ⟨g1, o1, rfl, hb1, hc1⟩ := H.out.below HB.out (by omega)
      obtain ⟨c0, c1⟩ := hc1 j hjn
      clear hc1
      obtain ⟨⟨x, y⟩, hx⟩ : ∃ x, x = f j := ⟨_, rfl⟩
      rw [← hx] at c0 c1
      simp only at c0 c1
      by_cases he : (x, y) = (u, v)
      · have HF := Lib.hid (show px f n (u, v) = (j : Int) from fx_some hjn (fun i hi => decide_eq_false (HN.out i hi)) (decide_eq_true (by rw [← hx]; exact he)))
        obtain ⟨rfl, rfl⟩ : x = u ∧ y = v := by injection he with h1 h2; exact ⟨h1, h2⟩
        clear hx he
        go_wp2_with fail
        go_quiet (fail)
        go_wp2
        go_ret
        exact ⟨ret_int HF.out.symm, below_drewN HB.out _⟩
      · have HS := Lib.hid (show ∀ i, i < j + 1 → f i ≠ (u, v) from fun i hi => by
          by_cases e : i < j
          · exact HN.out i e
          · obtain rfl : i = j := by omega
            rw [← hx]; exact he)
        clear hx
        by_cases e1 : u = x
        · subst e1
          have e2 : (v == y) = false := by rw [beq_eq_false_iff_ne]; intro e; exact he (by rw [e])
          clear he
          go_wp2_with fail
          go_quiet (fail)
          go_wp2
          go_roundw
          case rel => exact ⟨j + 1, by omega, by go_num, HS.out, below_drewN HX.out _⟩
          case measure => simp [intOf]; omega
        · have e1 : (u == x) = false := by rw [beq_eq_false_iff_ne]; intro e; exact e1 (by rw [e])
          clear he
          go_wp2_with fail
          go_quiet (fail)
          go_wp2
          go_roundw
          case rel => exact ⟨j + 1, by omega, by go_num, HS.out, below_drewN HX.out _⟩
          case measure => simp [intOf]; omega
    · obtain rfl : j = n := by omega
      have HF := Lib.hid (show px f j (u, v) = -1 from fx_none fun i hi => decide_eq_false (HN.out i hi))
      go_wp2
      go_ret
      exact ⟨ret_int HF.out.symm, HB.out⟩
theorem hcentre_any (A : Option Addr) (n c : Nat) (f : Nat → P2) (w : World) (h : QReads w w.heap.size A n f) (hd : Hd f n) :
    Calls Tryz.prog 71 #[.slice A n c] w fun e w' => e = .returned (.int .i64 (px f n (0, 0))) ∧ Below w.heap.size w w' := by
  have RI := Lib.hid (hright_any A n c f w h hd)
  have hn := hd.1.2
  have IX := Lib.hid (fun w1 (hb : Below w.heap.size w w1) => pindex_any A n c f 0 0 w1 (h.later hb) (by omega))
  clear h hd
  go_enter Tryz.func71, Tryz.ntmps71
  go_wp2_with (first
    | (go_at_call 37; (with_reducible refine RI.out.mono ?_); rintro e w1 ⟨rfl, hb⟩; have B1 := Lib.hid hb; clear hb)
    | (go_at_call 46; (with_reducible refine (IX.out _ B1.out).mono ?_); rintro e w2 ⟨rfl, hb⟩; have B2 := Lib.hid (B1.out.trans (hb.mono B1.out.size)); clear hb))
  go_ret
  exact ⟨rfl, B2.out⟩
end Go.Proofs.YtcgkkppidkkjiaaGreatDoor
namespace Go.Proofs.YtcgkkppidkkjiaaGreatDoor
open Go.RowKit
/-- the same states, that of the centre in its place -/
def Eqv (n : Nat) (f : Nat → P2) (l m : List Int) : Prop := m.Perm l ∧ (0 ≤ px f n (0, 0) → ig m (px f n (0, 0)).toNat = ig l (px f n (0, 0)).toNat)
set_option maxRecDepth 100000 in
set_option maxHeartbeats 2000000 in
theorem equiv_any (S : Nat) (sy : Int) (AH : Option Addr) (n cH : Nat) (f : Nat → P2) (AV : Option Addr) (nv cV : Nat) (AR : Option Addr) (nr cR : Nat) (A : Option Addr) (c : Nat) (l : List Int) (w : World)
    (hS : 2 ≤ S) (hS8 : S ≤ 8) (h0 : 0 < n) (hn : n ≤ 1000) (hsm : S ^ n ≤ 65536) (hH : QReads w w.heap.size AH n f) (h : Reads w w.heap.size A n (il l)) (hst : Sts S l) :
    Calls Tryz.prog 27 #[.agg #[.int .i64 (S : Int), .int .i64 sy, .slice AH n cH, .slice AV nv cV, .slice AR nr cR], .slice A n c] w fun e w' => ∃ m, e = .returned (.int .i64 ((nm S m : Nat) : Int)) ∧ m.length = n ∧ (m = l ∨ sy = 3 ∧ Eqv n f l m) ∧ Below w.heap.size w w' := by
  have hl := reads_len h
  have K0 := Blk.new w 26 #[.int .i64 (S : Int), .int .i64 sy, .slice AH n cH, .slice AV nv cV, .slice AR nr cR]
  have B0 := (Below.refl w.heap.size w).alloc (Nat.le_refl _) (.cells #[.int .i64 (S : Int), .int .i64 sy, .slice AH n cH, .slice AV nv cV, .slice AR nr cR] 26)
  have HH := Lib.hid (fun w' (hb : Below w.heap.size w w') => pindex_any AH n cH f 0 0 w' (hH.later hb) hn)
  have HR := Lib.hid (fun w' (hb : Below w.heap.size w w') => show Reads w' w'.heap.size A n (il l) from (h.below hb).more hb.size)
  have HL := Lib.hid hl
  have HSL := Lib.hid hst
  have HSM := Lib.hid hsm
  clear h hH hst hsm hl
  go_enter Tryz.func27, Tryz.ntmps27
  go_upto_region 1 with (fail)
  generalize w.alloc (.cells #[.int .i64 (S : Int), .int .i64 sy, .slice AH n cH, .slice AV nv cV, .slice AR nr cR] 26) = w0 at K0 B0 ⊢
  obtain ⟨t0, t1, t2, t3, t4, t5⟩ := K0.five
  have K0 := Lib.hid K0
  have B0 := Lib.hid B0
  by_cases h3 : sy = 3
  · have e3 : (sy == 3) = true := by rw [h3]; rfl
    have H3 := Lib.hid h3
    clear h3
    rcases fx_cases (fun i => decide (f i = (0, 0))) n with ⟨k, hk, e, _⟩ | ⟨e, _⟩
    · have ep : px f n (0, 0) = (k : Int) := e
      have AR' := Lib.hid (fun w' (hb : Below w.heap.size w w') => arranged_at A c n k l w' (HR.out w' hb) (by omega) hk)
      have HH2 := HH.out
      rw [ep] at HH2
      have HH2 := Lib.hid HH2
      have HEP := Lib.hid ep
      clear e ep HH
      go_wp2_with (first
        | (go_at_call 46; (with_reducible refine (HH2.out _ B0.out).mono ?_); rintro e w1 ⟨rfl, hb⟩; have B1 := Lib.hid (B0.out.trans (hb.mono B0.out.size)); have K1 := Lib.hid (K0.out.below hb K0.out.lt); obtain ⟨u0, u1, u2, u3, u4, u5⟩ := K1.out.five; clear hb)
        | (go_at_call 45; (with_reducible refine (AR'.out _ B1.out).mono ?_); rintro e w2 ⟨g, c2, m, rfl, hm, hp, ho, hb⟩; generalize (some (⟨g, 0, none⟩ : Addr)) = A2 at hm ⊢; have BF := Lib.hid (B1.out.trans (hb.mono B1.out.size)); have K2 := Lib.hid (K1.out.below hb K1.out.lt); obtain ⟨v0, v1, v2, v3, v4, v5⟩ := K2.out.five; have HM := Lib.hid hm; have HML := Lib.hid (show m.length = n from hp.length_eq.trans HL.out); have HST := Lib.hid (show Sts S m from fun x hx => HSL.out x (hp.mem_iff.1 hx)); have HOK := Lib.hid (show m = l ∨ sy = 3 ∧ Eqv n f l m from .inr ⟨H3.out, hp, fun _ => by rw [HEP.out]; exact ho⟩); clear hb hm hp ho))
      clear t0 t1 t2 t3 t4 t5 u0 u1 u2 u3 u4 u5
      go_loop [5, 19] (fun pv iv => ∃ j : Nat, j ≤ n ∧ pv = .int .i64 ((nm S (m.take j) : Nat) : Int) ∧ iv = .int .i64 (j : Int)) (fun _ iv => n - (intOf iv).toNat)
      case atStart => exact ⟨0, Nat.zero_le _, rfl, rfl⟩
      case round =>
        obtain ⟨j, hj, rfl, rfl⟩ := hrel
        by_cases hlt : j < n
        · obtain ⟨ad, rfl, hbb, hc⟩ := il_at HM.out hlt
          have hjm : j < m.length := by rw [HML.out]; exact hlt
          obtain ⟨y, hy, hy8⟩ : ∃ y : Nat, ig m j = (y : Int) ∧ y < S := by
            have := HST.out _ (ig_mem hjm)
            exact ⟨(ig m j).toNat, by omega, by omega⟩
          have hstep := nm_take (S := S) hjm
          rw [hy, Int.toNat_natCast] at hstep
          have hlim : nm S (m.take (j + 1)) < 65536 := by
            have h1 : nm S (m.take (j + 1)) < S ^ (m.take (j + 1)).length := nm_lt (fun x hx => HST.out x (List.mem_of_mem_take hx))
            rw [List.length_take, Nat.min_eq_left hjm] at h1
            exact Nat.lt_of_lt_of_le h1 (Nat.le_trans (Nat.pow_le_pow_right (by omega) hlt) HSM.out)
          rw [hy] at hc
          obtain ⟨q, hq⟩ : ∃ q, q = nm S (m.take (j + 1)) := ⟨_, rfl⟩
          obtain ⟨p, hp⟩ : ∃ p, p = nm S (m.take j) := ⟨_, rfl⟩
          rw [← hq, ← hp] at hstep
          rw [← hq] at hlim
          rw [← hp]
          obtain ⟨z, hz⟩ : ∃ z, z = p * S := ⟨_, rfl⟩
          rw [← hz] at hstep
          have e1 : IntKind.i64.wrap ((p : Int) * (S : Int)) = (z : Int) := by
            rw [show (p : Int) * (S : Int) = (z : Int) by rw [hz]; simp]
            exact IntWalk.i64_in _ ⟨by omega, by omega⟩
          have e2 : IntKind.i64.wrap ((z : Int) + (y : Int)) = (q : Int) := by
            rw [show (z : Int) + (y : Int) = (q : Int) by omega]
            exact IntWalk.i64_in _ ⟨by omega, by omega⟩
          have HQ := Lib.hid hq
          clear hq hp hz hstep hy hjm
          go_wp2
          go_round
          case rel => exact ⟨j + 1, by omega, by rw [← HQ.out], by go_num⟩
          case measure => simp [intOf]; omega
        · obtain rfl : j = n := by omega
          have HF := Lib.hid (show nm S (m.take j) = nm S m by rw [List.take_of_length_le (by rw [HML.out]; exact Nat.le_refl _)])
          go_wp2
          go_ret
          exact ⟨m, by rw [HF.out]; rfl, HML.out, HOK.out, BF.out⟩
    · have ep : px f n (0, 0) = -1 := e
      have AR' := Lib.hid (fun w' (hb : Below w.heap.size w w') => arranged_neg A c n l (-1) w' (HR.out w' hb) (by omega) h0 (by omega))
      have HH2 := HH.out
      rw [ep] at HH2
      have HH2 := Lib.hid HH2
      have HEP := Lib.hid ep
      clear e ep HH
      go_wp2_with (first
        | (go_at_call 46; (with_reducible refine (HH2.out _ B0.out).mono ?_); rintro e w1 ⟨rfl, hb⟩; have B1 := Lib.hid (B0.out.trans (hb.mono B0.out.size)); have K1 := Lib.hid (K0.out.below hb K0.out.lt); obtain ⟨u0, u1, u2, u3, u4, u5⟩ := K1.out.five; clear hb)
        | (go_at_call 45; (with_reducible refine (AR'.out _ B1.out).mono ?_); rintro e w2 ⟨g, c2, m, rfl, hm, hp, ho, hb⟩; generalize (some (⟨g, 0, none⟩ : Addr)) = A2 at hm ⊢; have BF := Lib.hid (B1.out.trans (hb.mono B1.out.size)); have K2 := Lib.hid (K1.out.below hb K1.out.lt); obtain ⟨v0, v1, v2, v3, v4, v5⟩ := K2.out.five; have HM := Lib.hid hm; have HML := Lib.hid (show m.length = n from hp.length_eq.trans HL.out); have HST := Lib.hid (show Sts S m from fun x hx => HSL.out x (hp.mem_iff.1 hx)); have HOK := Lib.hid (show m = l ∨ sy = 3 ∧ Eqv n f l m from .inr ⟨H3.out, hp, fun h => by rw [HEP.out] at h; exact absurd h (by omega)⟩); clear hb hm hp ho))
      clear t0 t1 t2 t3 t4 t5 u0 u1 u2 u3 u4 u5
      go_loop [5, 19] (fun pv iv => ∃ j : Nat, j ≤ n ∧ pv = .int .i64 ((nm S (m.take j) : Nat) : Int) ∧ iv = .int .i64 (j : Int)) (fun _ iv => n - (intOf iv).toNat)
      case atStart => exact ⟨0, Nat.zero_le _, rfl, rfl⟩
      case round =>
        obtain ⟨j, hj, rfl, rfl⟩ := hrel
        by_cases hlt : j < n
        · obtain ⟨ad, rfl, hbb, hc⟩ := il_at HM.out hlt
          have hjm : j < m.length := by rw [HML.out]; exact hlt
          obtain ⟨y, hy, hy8⟩ : ∃ y : Nat, ig m j = (y : Int) ∧ y < S := by
            have := HST.out _ (ig_mem hjm)
            exact ⟨(ig m j).toNat, by omega, by omega⟩
          have hstep := nm_take (S := S) hjm
          rw [hy, Int.toNat_natCast] at hstep
          have hlim : nm S (m.take (j + 1)) < 65536 := by
            have h1 : nm S (m.take (j + 1)) < S ^ (m.take (j + 1)).length := nm_lt (fun x hx => HST.out x (List.mem_of_mem_take hx))
            rw [List.length_take, Nat.min_eq_left hjm] at h1
            exact Nat.lt_of_lt_of_le h1 (Nat.le_trans (Nat.pow_le_pow_right (by omega) hlt) HSM.out)
          rw [hy] at hc
          obtain ⟨q, hq⟩ : ∃ q, q = nm S (m.take (j + 1)) := ⟨_, rfl⟩
          obtain ⟨p, hp⟩ : ∃ p, p = nm S (m.take j) := ⟨_, rfl⟩
          rw [← hq, ← hp] at hstep
          rw [← hq] at hlim
          rw [← hp]
          obtain ⟨z, hz⟩ : ∃ z, z = p * S := ⟨_, rfl⟩
          rw [← hz] at hstep
          have e1 : IntKind.i64.wrap ((p : Int) * (S : Int)) = (z : Int) := by
            rw [show (p : Int) * (S : Int) = (z : Int) by rw [hz]; simp]
            exact IntWalk.i64_in _ ⟨by omega, by omega⟩
          have e2 : IntKind.i64.wrap ((z : Int) + (y : Int)) = (q : Int) := by
            rw [show (z : Int) + (y : Int) = (q : Int) by omega]
            exact IntWalk.i64_in _ ⟨by omega, by omega⟩
          have HQ := Lib.hid hq
          clear hq hp hz hstep hy hjm
          go_wp2
          go_round
          case rel => exact ⟨j + 1, by omega, by rw [← HQ.out], by go_num⟩
          case measure => simp [intOf]; omega
        · obtain rfl : j = n := by omega
          have HF := Lib.hid (show nm S (m.take j) = nm S m by rw [List.take_of_length_le (by rw [HML.out]; exact Nat.le_refl _)])
          go_wp2
          go_ret
          exact ⟨m, by rw [HF.out]; rfl, HML.out, HOK.out, BF.out⟩
  · have e3 : (sy == 3) = false := by rw [beq_eq_false_iff_ne]; exact h3
    clear h3 HH
    obtain ⟨m, hm⟩ : ∃ m, m = l := ⟨l, rfl⟩
    have HM := Lib.hid (show Reads w0 w0.heap.size A n (il m) by rw [hm]; exact HR.out _ B0.out)
    have HML := Lib.hid (show m.length = n by rw [hm]; exact HL.out)
    have HST := Lib.hid (show Sts S m by rw [hm]; exact HSL.out)
    have HOK := Lib.hid (show m = l ∨ sy = 3 ∧ Eqv n f l m from .inl hm)
    have BF := B0
    clear hm
    go_wp2
    go_loop [5, 19] (fun pv iv => ∃ j : Nat, j ≤ n ∧ pv = .int .i64 ((nm S (m.take j) : Nat) : Int) ∧ iv = .int .i64 (j : Int)) (fun _ iv => n - (intOf iv).toNat)
    case atStart => exact ⟨0, Nat.zero_le _, rfl, rfl⟩
    case round =>
      obtain ⟨j, hj, rfl, rfl⟩ := hrel
      by_cases hlt : j < n
      · obtain ⟨ad, rfl, hbb, hc⟩ := il_at HM.out hlt
        have hjm : j < m.length := by rw [HML.out]; exact hlt
        obtain ⟨y, hy, hy8⟩ : ∃ y : Nat, ig m j = (y : Int) ∧ y < S := by
          have := HST.out _ (ig_mem hjm)
          exact ⟨(ig m j).toNat, by omega, by omega⟩
        have hstep := nm_take (S := S) hjm
        rw [hy, Int.toNat_natCast] at hstep
        have hlim : nm S (m.take (j + 1)) < 65536 := by
          have h1 : nm S (m.take (j + 1)) < S ^ (m.take (j + 1)).length := nm_lt (fun x hx => HST.out x (List.mem_of_mem_take hx))
          rw [List.length_take, Nat.min_eq_left hjm] at h1
          exact Nat.lt_of_lt_of_le h1 (Nat.le_trans (Nat.pow_le_pow_right (by omega) hlt) HSM.out)
        rw [hy] at hc
        obtain ⟨q, hq⟩ : ∃ q, q = nm S (m.take (j + 1)) := ⟨_, rfl⟩
        obtain ⟨p, hp⟩ : ∃ p, p = nm S (m.take j) := ⟨_, rfl⟩
        rw [← hq, ← hp] at hstep
        rw [← hq] at hlim
        rw [← hp]
        obtain ⟨z, hz⟩ : ∃ z, z = p * S := ⟨_, rfl⟩
        rw [← hz] at hstep
        have e1 : IntKind.i64.wrap ((p : Int) * (S : Int)) = (z : Int) := by
          rw [show (p : Int) * (S : Int) = (z : Int) by rw [hz]; simp]
          exact IntWalk.i64_in _ ⟨by omega, by omega⟩
        have e2 : IntKind.i64.wrap ((z : Int) + (y : Int)) = (q : Int) := by
          rw [show (z : Int) + (y : Int) = (q : Int) by omega]
          exact IntWalk.i64_in _ ⟨by omega, by omega⟩
        have HQ := Lib.hid hq
        clear hq hp hz hstep hy hjm
        go_wp2
        go_round
        case rel => exact ⟨j + 1, by omega, by rw [← HQ.out], by go_num⟩
        case measure => simp [intOf]; omega
      · obtain rfl : j = n := by omega
        have HF := Lib.hid (show nm S (m.take j) = nm S m by rw [List.take_of_length_le (by rw [HML.out]; exact Nat.le_refl _)])
        go_wp2
        go_ret
        exact ⟨m, by rw [HF.out]; rfl, HML.out, HOK.out, BF.out⟩
end Go.Proofs.YtcgkkppidkkjiaaGreatDoor
