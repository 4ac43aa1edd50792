/- The walk of equivalent: the number of an input with which the rows do the same. -/
import Derived.Test.YtcgkkppidkkjiaaGreatDoorMay
import Derived.Test.YtcgkkppidkkjiaaGreatDoorMaa
import Derived.Test.YtcgkkppidkkjiaaGreatDoorMad
import Derived.Test.YtcgkkppidkkjiaaGreatDoorMac
import Derived.Test.YtcgkkppidkkjiaaGreatDoorMax
import Derived.Test.YtcgkkppidkkjiaaGreatDoorMab
import Derived.Below
import Derived.BigQuiet
import Derived.Deep.AppendLies
import Derived.Deep.Draws
import Derived.Deep.QuietTactic
import Derived.IntWalk
import Derived.Laws.OwnMore
import Derived.Laws.Rows
import Derived.Lib.Hide
import Derived.LoopIn
import Derived.LoopN
import Derived.LoopNIn
import Derived.Maps.AppendAt
import Derived.OpenShut
import Derived.OwnWalk
import Derived.OwnWalkIn
import Derived.RangeFuncBound
import Derived.RangeFuncCalls
import Derived.RangeFuncLeaves
import Derived.RangeFuncNested
import Derived.Shelf.Abstract
import Derived.Shelf.RegionOpen
import Derived.Shelf.SlIterI.Sorted
import Derived.Shelf.Slices.Clone
import Derived.Shelf.Slices.Delete
import Derived.Shelf.Sort.Plain
import Derived.Shelf.Spec.SlicesInsert
import Derived.Sort.OwnSortedInts
import Derived.Sort.Statements
import Derived.StillTail
import Derived.StillTailTactics
import Derived.TacticsInMore
import Derived.Test.YtcgkkppidkkjiaaGreatDoorRows
import Derived.WalkKit
namespace Go.Proofs.YtcgkkppidkkjiaaGreatDoor
open Go.RowKit
/-- the same states, that of the centre in its place -/
def Eqv (n : Nat) (f : Nat → P2) (l m : List Int) : Prop := m.Perm l ∧ (0 ≤ px f n (0, 0) → ig m (px f n (0, 0)).toNat = ig l (px f n (0, 0)).toNat)
set_option maxRecDepth 100000 in
set_option maxHeartbeats 2000000 in
theorem equiv_any (S : Nat) (sy : Int) (AH : Option Addr) (n cH : Nat) (f : Nat → P2) (AV : Option Addr) (nv cV : Nat) (AR : Option Addr) (nr cR : Nat) (A : Option Addr) (c : Nat) (l : List Int) (w : World)
    (hS : 2 ≤ S) (hS8 : S ≤ 8) (h0 : 0 < n) (hn : n ≤ 1000) (hsm : S ^ n ≤ 65536) (hH : QReads w w.heap.size AH n f) (h : Reads w w.heap.size A n (il l)) (hst : Sts S l) :
    Calls Tryz.prog 27 #[.agg #[.int .i64 (S : Int), .int .i64 sy, .slice AH n cH, .slice AV nv cV, .slice AR nr cR], .slice A n c] w fun e w' => ∃ m, e = .returned (.int .i64 ((nm S m : Nat) : Int)) ∧ m.length = n ∧ (m = l ∨ sy = 3 ∧ Eqv n f l m) ∧ Below w.heap.size w w' := by
  have hl := reads_len h
  have K0 := Blk.new w 26 #[.int .i64 (S : Int), .int .i64 sy, .slice AH n cH, .slice AV nv cV, .slice AR nr cR]
  have B0 := (Below.refl w.heap.size w).alloc (Nat.le_refl _) (.cells #[.int .i64 (S : Int), .int .i64 sy, .slice AH n cH, .slice AV nv cV, .slice AR nr cR] 26)
  have HH := Lib.hid (fun w' (hb : Below w.heap.size w w') => pindex_any AH n cH f 0 0 w' (hH.later hb) hn)
  have HR := Lib.hid (fun w' (hb : Below w.heap.size w w') => show Reads w' w'.heap.size A n (il l) from (h.below hb).more hb.size)
  have HL := Lib.hid hl
  have HSL := Lib.hid hst
  have HSM := Lib.hid hsm
  clear h hH hst hsm hl
  go_enter Tryz.func27, Tryz.ntmps27
  go_upto_region 1 with (fail)
  generalize w.alloc (.cells #[.int .i64 (S : Int), .int .i64 sy, .slice AH n cH, .slice AV nv cV, .slice AR nr cR] 26) = w0 at K0 B0 ⊢
  obtain ⟨t0, t1, t2, t3, t4, t5⟩ := K0.five
  have K0 := Lib.hid K0
  have B0 := Lib.hid B0
  by_cases h3 : sy = 3
  · have e3 : (sy == 3) = true := by rw [h3]; rfl
    have H3 := Lib.hid h3
    clear h3
    rcases fx_cases (fun i => decide (f i = (0, 0))) n with ⟨k, hk, e, _⟩ | ⟨e, _⟩
    · have ep : px f n (0, 0) = (k : Int) := e
      have AR' := Lib.hid (fun w' (hb : Below w.heap.size w w') => arranged_at A c n k l w' (HR.out w' hb) (by omega) hk)
      have HH2 := HH.out
      rw [ep] at HH2
      have HH2 := Lib.hid HH2
      have HEP := Lib.hid ep
      clear e ep HH
      go_wp2_with (first
        | (go_at_call 46; (with_reducible refine (HH2.out _ B0.out).mono ?_); rintro e w1 ⟨rfl, hb⟩; have B1 := Lib.hid (B0.out.trans (hb.mono B0.out.size)); have K1 := Lib.hid (K0.out.below hb K0.out.lt); obtain ⟨u0, u1, u2, u3, u4, u5⟩ := K1.out.five; clear hb)
        | (go_at_call 45; (with_reducible refine (AR'.out _ B1.out).mono ?_); rintro e w2 ⟨g, c2, m, rfl, hm, hp, ho, hb⟩; generalize (some (⟨g, 0, none⟩ : Addr)) = A2 at hm ⊢; have BF := Lib.hid (B1.out.trans (hb.mono B1.out.size)); have K2 := Lib.hid (K1.out.below hb K1.out.lt); obtain ⟨v0, v1, v2, v3, v4, v5⟩ := K2.out.five; have HM := Lib.hid hm; have HML := Lib.hid (show m.length = n from hp.length_eq.trans HL.out); have HST := Lib.hid (show Sts S m from fun x hx => HSL.out x (hp.mem_iff.1 hx)); have HOK := Lib.hid (show m = l ∨ sy = 3 ∧ Eqv n f l m from .inr ⟨H3.out, hp, fun _ => by rw [HEP.out]; exact ho⟩); clear hb hm hp ho))
      clear t0 t1 t2 t3 t4 t5 u0 u1 u2 u3 u4 u5
      go_loop [5, 19] (fun pv iv => ∃ j : Nat, j ≤ n ∧ pv = .int .i64 ((nm S (m.take j) : Nat) : Int) ∧ iv = .int .i64 (j : Int)) (fun _ iv => n - (intOf iv).toNat)
      case atStart => exact ⟨0, Nat.zero_le _, rfl, rfl⟩
      case round =>
        obtain ⟨j, hj, rfl, rfl⟩ := hrel
        by_cases hlt : j < n
        · obtain ⟨ad, rfl, hbb, hc⟩ := il_at HM.out hlt
          have hjm : j < m.length := by rw [HML.out]; exact hlt
          obtain ⟨y, hy, hy8⟩ : ∃ y : Nat, ig m j = (y : Int) ∧ y < S := by
            have := HST.out _ (ig_mem hjm)
            exact ⟨(ig m j).toNat, by omega, by omega⟩
          have hstep := nm_take (S := S) hjm
          rw [hy, Int.toNat_natCast] at hstep
          have hlim : nm S (m.take (j + 1)) < 65536 := by
            have h1 : nm S (m.take (j + 1)) < S ^ (m.take (j + 1)).length := nm_lt (fun x hx => HST.out x (List.mem_of_mem_take hx))
            rw [List.length_take, Nat.min_eq_left hjm] at h1
            exact Nat.lt_of_lt_of_le h1 (Nat.le_trans (Nat.pow_le_pow_right (by omega) hlt) HSM.out)
          rw [hy] at hc
          obtain ⟨q, hq⟩ : ∃ q, q = nm S (m.take (j + 1)) := ⟨_, rfl⟩
          obtain ⟨p, hp⟩ : ∃ p, p = nm S (m.take j) := ⟨_, rfl⟩
          rw [← hq, ← hp] at hstep
          rw [← hq] at hlim
          rw [← hp]
          obtain ⟨z, hz⟩ : ∃ z, z = p * S := ⟨_, rfl⟩
          rw [← hz] at hstep
          have e1 : IntKind.i64.wrap ((p : Int) * (S : Int)) = (z : Int) := by
            rw [show (p : Int) * (S : Int) = (z : Int) by rw [hz]; simp]
            exact IntWalk.i64_in _ ⟨by omega, by omega⟩
          have e2 : IntKind.i64.wrap ((z : Int) + (y : Int)) = (q : Int) := by
            rw [show (z : Int) + (y : Int) = (q : Int) by omega]
            exact IntWalk.i64_in _ ⟨by omega, by omega⟩
          have HQ := Lib.hid hq
          clear hq hp hz hstep hy hjm
          go_wp2
          go_round
          case rel => exact ⟨j + 1, by omega, by rw [← HQ.out], by go_num⟩
          case measure => simp [intOf]; omega
        · obtain rfl : j = n := by omega
          have HF := Lib.hid (show nm S (m.take j) = nm S m by rw [List.take_of_length_le (by rw [HML.out]; exact Nat.le_refl _)])
          go_wp2
          go_ret
          exact ⟨m, by rw [HF.out]; rfl, HML.out, HOK.out, BF.out⟩
    · have ep : px f n (0, 0) = -1 := e
      have AR' := Lib.hid (fun w' (hb : Below w.heap.size w w') => arranged_neg A c n l (-1) w' (HR.out w' hb) (by omega) h0 (by omega))
      have HH2 := HH.out
      rw [ep] at HH2
      have HH2 := Lib.hid HH2
      have HEP := Lib.hid ep
      clear e ep HH
      go_wp2_with (first
        | (go_at_call 46; (with_reducible refine (HH2.out _ B0.out).mono ?_); rintro e w1 ⟨rfl, hb⟩; have B1 := Lib.hid (B0.out.trans (hb.mono B0.out.size)); have K1 := Lib.hid (K0.out.below hb K0.out.lt); obtain ⟨u0, u1, u2, u3, u4, u5⟩ := K1.out.five; clear hb)
        | (go_at_call 45; (with_reducible refine (AR'.out _ B1.out).mono ?_); rintro e w2 ⟨g, c2, m, rfl, hm, hp, ho, hb⟩; generalize (some (⟨g, 0, none⟩ : Addr)) = A2 at hm ⊢; have BF := Lib.hid (B1.out.trans (hb.mono B1.out.size)); have K2 := Lib.hid (K1.out.below hb K1.out.lt); obtain ⟨v0, v1, v2, v3, v4, v5⟩ := K2.out.five; have HM := Lib.hid hm; have HML := Lib.hid (show m.length = n from hp.length_eq.trans HL.out); have HST := Lib.hid (show Sts S m from fun x hx => HSL.out x (hp.mem_iff.1 hx)); have HOK := Lib.hid (show m = l ∨ sy = 3 ∧ Eqv n f l m from .inr ⟨H3.out, hp, fun h => by rw [HEP.out] at h; exact absurd h (by omega)⟩); clear hb hm hp ho))
      clear t0 t1 t2 t3 t4 t5 u0 u1 u2 u3 u4 u5
      go_loop [5, 19] (fun pv iv => ∃ j : Nat, j ≤ n ∧ pv = .int .i64 ((nm S (m.take j) : Nat) : Int) ∧ iv = .int .i64 (j : Int)) (fun _ iv => n - (intOf iv).toNat)
      case atStart => exact ⟨0, Nat.zero_le _, rfl, rfl⟩
      case round =>
        obtain ⟨j, hj, rfl, rfl⟩ := hrel
        by_cases hlt : j < n
        · obtain ⟨ad, rfl, hbb, hc⟩ := il_at HM.out hlt
          have hjm : j < m.length := by rw [HML.out]; exact hlt
          obtain ⟨y, hy, hy8⟩ : ∃ y : Nat, ig m j = (y : Int) ∧ y < S := by
            have := HST.out _ (ig_mem hjm)
            exact ⟨(ig m j).toNat, by omega, by omega⟩
          have hstep := nm_take (S := S) hjm
          rw [hy, Int.toNat_natCast] at hstep
          have hlim : nm S (m.take (j + 1)) < 65536 := by
            have h1 : nm S (m.take (j + 1)) < S ^ (m.take (j + 1)).length := nm_lt (fun x hx => HST.out x (List.mem_of_mem_take hx))
            rw [List.length_take, Nat.min_eq_left hjm] at h1
            exact Nat.lt_of_lt_of_le h1 (Nat.le_trans (Nat.pow_le_pow_right (by omega) hlt) HSM.out)
          rw [hy] at hc
          obtain ⟨q, hq⟩ : ∃ q, q = nm S (m.take (j + 1)) := ⟨_, rfl⟩
          obtain ⟨p, hp⟩ : ∃ p, p = nm S (m.take j) := ⟨_, rfl⟩
          rw [← hq, ← hp] at hstep
          rw [← hq] at hlim
          rw [← hp]
          obtain ⟨z, hz⟩ : ∃ z, z = p * S := ⟨_, rfl⟩
          rw [← hz] at hstep
          have e1 : IntKind.i64.wrap ((p : Int) * (S : Int)) = (z : Int) := by
            rw [show (p : Int) * (S : Int) = (z : Int) by rw [hz]; simp]
            exact IntWalk.i64_in _ ⟨by omega, by omega⟩
          have e2 : IntKind.i64.wrap ((z : Int) + (y : Int)) = (q : Int) := by
            rw [show (z : Int) + (y : Int) = (q : Int) by omega]
            exact IntWalk.i64_in _ ⟨by omega, by omega⟩
          have HQ := Lib.hid hq
          clear hq hp hz hstep hy hjm
          go_wp2
          go_round
          case rel => exact ⟨j + 1, by omega, by rw [← HQ.out], by go_num⟩
          case measure => simp [intOf]; omega
        · obtain rfl : j = n := by omega
          have HF := Lib.hid (show nm S (m.take j) = nm S m by rw [List.take_of_length_le (by rw [HML.out]; exact Nat.le_refl _)])
          go_wp2
          go_ret
          exact ⟨m, by rw [HF.out]; rfl, HML.out, HOK.out, BF.out⟩
  · have e3 : (sy == 3) = false := by rw [beq_eq_false_iff_ne]; exact h3
    clear h3 HH
    obtain ⟨m, hm⟩ : ∃ m, m = l := ⟨l, rfl⟩
    have HM := Lib.hid (show Reads w0 w0.heap.size A n (il m) by rw [hm]; exact HR.out _ B0.out)
    have HML := Lib.hid (show m.length = n by rw [hm]; exact HL.out)
    have HST := Lib.hid (show Sts S m by rw [hm]; exact HSL.out)
    have HOK := Lib.hid (show m = l ∨ sy = 3 ∧ Eqv n f l m from .inl hm)
    have BF := B0
    clear hm
    go_wp2
    go_loop [5, 19] (fun pv iv => ∃ j : Nat, j ≤ n ∧ pv = .int .i64 ((nm S (m.take j) : Nat) : Int) ∧ iv = .int .i64 (j : Int)) (fun _ iv => n - (intOf iv).toNat)
    case atStart => exact ⟨0, Nat.zero_le _, rfl, rfl⟩
    case round =>
      obtain ⟨j, hj, rfl, rfl⟩ := hrel
      by_cases hlt : j < n
      · obtain ⟨ad, rfl, hbb, hc⟩ := il_at HM.out hlt
        have hjm : j < m.length := by rw [HML.out]; exact hlt
        obtain ⟨y, hy, hy8⟩ : ∃ y : Nat, ig m j = (y : Int) ∧ y < S := by
          have := HST.out _ (ig_mem hjm)
          exact ⟨(ig m j).toNat, by omega, by omega⟩
        have hstep := nm_take (S := S) hjm
        rw [hy, Int.toNat_natCast] at hstep
        have hlim : nm S (m.take (j + 1)) < 65536 := by
          have h1 : nm S (m.take (j + 1)) < S ^ (m.take (j + 1)).length := nm_lt (fun x hx => HST.out x (List.mem_of_mem_take hx))
          rw [List.length_take, Nat.min_eq_left hjm] at h1
          exact Nat.lt_of_lt_of_le h1 (Nat.le_trans (Nat.pow_le_pow_right (by omega) hlt) HSM.out)
        rw [hy] at hc
        obtain ⟨q, hq⟩ : ∃ q, q = nm S (m.take (j + 1)) := ⟨_, rfl⟩
        obtain ⟨p, hp⟩ : ∃ p, p = nm S (m.take j) := ⟨_, rfl⟩
        rw [← hq, ← hp] at hstep
        rw [← hq] at hlim
        rw [← hp]
        obtain ⟨z, hz⟩ : ∃ z, z = p * S := ⟨_, rfl⟩
        rw [← hz] at hstep
        have e1 : IntKind.i64.wrap ((p : Int) * (S : Int)) = (z : Int) := by
          rw [show (p : Int) * (S : Int) = (z : Int) by rw [hz]; simp]
          exact IntWalk.i64_in _ ⟨by omega, by omega⟩
        have e2 : IntKind.i64.wrap ((z : Int) + (y : Int)) = (q : Int) := by
          rw [show (z : Int) + (y : Int) = (q : Int) by omega]
          exact IntWalk.i64_in _ ⟨by omega, by omega⟩
        have HQ := Lib.hid hq
        clear hq hp hz hstep hy hjm
        go_wp2
        go_round
        case rel => exact ⟨j + 1, by omega, by rw [← HQ.out], by go_num⟩
        case measure => simp [intOf]; omega
      · obtain rfl : j = n := by omega
        have HF := Lib.hid (show nm S (m.take j) = nm S m by rw [List.take_of_length_le (by rw [HML.out]; exact Nat.le_refl _)])
        go_wp2
        go_ret
        exact ⟨m, by rw [HF.out]; rfl, HML.out, HOK.out, BF.out⟩
end Go.Proofs.YtcgkkppidkkjiaaGreatDoor
