/- The walk of rightRow. -/
/- The walks of both Index functions on positions, and of both Centre functions. -/
/- The walk of inputs: how many inputs a table has. -/
import Derived.Test.YtcgkkppidkkjiaaGreatDoorMaa
import Derived.Test.YtcgkkppidkkjiaaGreatDoorMab
import Derived.Test.YtcgkkppidkkjiaaGreatDoorMac
import Derived.Below
import Derived.BigQuiet
import Derived.Deep.AppendLies
import Derived.Deep.Draws
import Derived.Deep.QuietTactic
import Derived.IntWalk
import Derived.Laws.OwnMore
import Derived.Laws.Rows
import Derived.Lib.Hide
import Derived.LoopN
import Derived.OwnWalk
import Derived.Sort.Statements
import Derived.StillTail
import Derived.StillTailTactics
import Derived.Test.YtcgkkppidkkjiaaGreatDoorRows
import Derived.WalkKit
namespace Go.Proofs.YtcgkkppidkkjiaaGreatDoor
open Go.RowKit
/-- the elements of a row are states or variables -/
def els (st : Int) (nv : Nat) (l : List Int) : Bool := (List.range l.length).all fun i => decide (-(nv : Int) ≤ ig l i) && decide (ig l i < st)
theorem els_iff (st : Int) (nv : Nat) (l : List Int) : els st nv l = true ↔ ∀ i, i < l.length → -(nv : Int) ≤ ig l i ∧ ig l i < st := by
  simp only [els, List.all_eq_true, List.mem_range, Bool.and_eq_true, decide_eq_true_eq]
/-- a row of a table -/
def rr (n : Nat) (st : Int) (nv : Nat) (l : List Int) (o : Int) : Bool := decide (l.length = n) && els st nv l && (sta st o || decide (o ∈ l))

set_option maxRecDepth 100000 in
set_option maxHeartbeats 2000000 in
theorem rightRow_any (st k : Int) (AH : Option Addr) (n cH : Nat) (AV : Option Addr) (nv cV : Nat) (AR : Option Addr) (nr cR : Nat) (AI : Option Addr) (m cI : Nat) (l : List Int) (o : Int) (w : World)
    (h : Reads w w.heap.size AI m (il l)) (hm : m < 9223372036854775808) (hn : n ≤ 1000) (hv : nv ≤ 1000) (hs1 : 0 ≤ st) (hs2 : st ≤ 8) :
    Calls Tryz.prog 41 #[.agg #[.int .i64 st, .int .i64 k, .slice AH n cH, .slice AV nv cV, .slice AR nr cR], .agg #[.slice AI m cI, .int .i64 o]] w fun e w' => e = .returned (.bool (rr n st nv l o)) ∧ Below w.heap.size w w' := by
  have HL := Lib.hid (reads_len h)
  have K1 := (Blk.new w 26 #[.int .i64 st, .int .i64 k, .slice AH n cH, .slice AV nv cV, .slice AR nr cR]).alloc (.cells #[.slice AI m cI, .int .i64 o] 41)
  have K2 := Blk.new (w.alloc (.cells #[.int .i64 st, .int .i64 k, .slice AH n cH, .slice AV nv cV, .slice AR nr cR] 26)) 41 #[.slice AI m cI, .int .i64 o]
  rw [show (w.alloc (.cells #[.int .i64 st, .int .i64 k, .slice AH n cH, .slice AV nv cV, .slice AR nr cR] 26)).heap.size = w.heap.size + 1 by simp] at K2
  have B2 : Below w.heap.size w ((w.alloc (.cells #[.int .i64 st, .int .i64 k, .slice AH n cH, .slice AV nv cV, .slice AR nr cR] 26)).alloc (.cells #[.slice AI m cI, .int .i64 o] 41)) := ((Below.refl _ _).alloc (Nat.le_refl _) _).alloc (by simp) _
  by_cases hmn : m = n
  · subst hmn
    have RB := Lib.hid (show rr m st nv l o = (els st nv l && (sta st o || decide (o ∈ l))) by rw [rr, HL.out, decide_eq_true rfl]; simp)
    have IS := Lib.hid (fun w => isState_any st o w)
    have CO := fun w (h : Reads w w.heap.size AI m (il l)) => contains_any AI m cI _ l o w h (by omega)
    generalize hq : sta st o = q at RB IS
    generalize hp : decide (o ∈ l) = p at RB CO
    have CO := Lib.hid CO
    have H := Lib.hid h
    clear h hq hp
    go_enter Tryz.func41, Tryz.ntmps41
    go_wp2_with fail
    generalize (w.alloc (.cells #[.int .i64 st, .int .i64 k, .slice AH m cH, .slice AV nv cV, .slice AR nr cR] 26)).alloc (.cells #[.slice AI m cI, .int .i64 o] 41) = w0 at K1 K2 B2 ⊢
    obtain ⟨a0, a1, a2, a3, a4, a5⟩ := K1.five
    obtain ⟨b0, b1, b2, b3, b4⟩ := K2.two
    have R := H.out.below B2
    have R0 := Lib.hid ((H.out.below B2).more B2.size)
    have B2 := Lib.hid B2
    clear K1 K2
    go_wp2
    go_loop [17] (fun iv => ∃ j : Nat, j ≤ m ∧ iv = .int .i64 (j : Int) ∧ ∀ i, i < j → -(nv : Int) ≤ ig l i ∧ ig l i < st) (fun iv => m - (intOf iv).toNat)
    case atStart => exact ⟨0, Nat.zero_le _, rfl, fun i hi => absurd hi (by omega)⟩
    case round =>
      obtain ⟨j, hj, rfl, hno⟩ := hrel
      have HN := Lib.hid hno
      clear hno
      by_cases hlt : j < m
      · obtain ⟨ad, rfl, hb, hc⟩ := il_at R hlt
        have HF := Lib.hid (show ¬ (-(nv : Int) ≤ ig l j ∧ ig l j < st) → rr m st nv l o = false from fun h => by
          rw [RB.out, show els st nv l = false by rw [← Bool.not_eq_true, els_iff]; exact fun h' => h (h' j (by rw [HL.out]; exact hlt))]
          rfl)
        obtain ⟨x, hx⟩ : ∃ x, x = ig l j := ⟨_, rfl⟩
        rw [← hx] at hc HF
        have HX := Lib.hid hx
        clear hx R
        by_cases h1 : -(nv : Int) ≤ x
        · by_cases h2 : x < st
          · have HQ := Lib.hid (show -(nv : Int) ≤ x ∧ x < st from ⟨h1, h2⟩)
            go_wp2
            go_round
            case rel => exact ⟨j + 1, by omega, by go_num, fun i hi => by
              by_cases e : i < j
              · exact HN.out i e
              · obtain rfl : i = j := by omega
                rw [← HX.out]; exact HQ.out⟩
            case measure => simp [intOf]; omega
          · have HG := Lib.hid (HF.out fun h => h2 h.2)
            have d := decide_eq_false h2
            have d2 : decide (st ≤ x) = true := by rw [decide_eq_true_iff]; omega
            go_wp2
            go_ret
            exact ⟨ret_bool HG.out.symm, B2.out⟩
        · have HG := Lib.hid (HF.out fun h => h1 h.1)
          have d2 : decide (x < -(nv : Int)) = true := by rw [decide_eq_true_iff]; omega
          go_wp2
          go_ret
          exact ⟨ret_bool HG.out.symm, B2.out⟩
      · obtain rfl : j = m := by omega
        have HG := Lib.hid (show rr j st nv l o = (q || p) by rw [RB.out, show els st nv l = true by rw [els_iff, HL.out]; exact HN.out]; rfl)
        have CW := Lib.hid (CO.out w0 R0.out)
        clear R
        cases q with
        | true =>
          go_wp2_with (go_at_call 69; (with_reducible refine (IS.out _).mono ?_); rintro e w' ⟨rfl, rfl⟩)
          go_ret
          exact ⟨ret_bool HG.out.symm, B2.out⟩
        | false =>
          go_wp2_with (first
            | (go_at_call 69; (with_reducible refine (IS.out _).mono ?_); rintro e w' ⟨rfl, rfl⟩)
            | (go_at_call 68; (with_reducible refine CW.out.mono ?_); rintro e w' ⟨rfl, rfl⟩))
          go_ret
          exact ⟨ret_bool HG.out.symm, B2.out⟩
  · have HF := Lib.hid (show rr n st nv l o = false by rw [rr, HL.out, decide_eq_false hmn]; rfl)
    have e1 : ((m : Int) != (n : Int)) = true := by rw [bne_iff_ne]; omega
    clear h
    go_enter Tryz.func41, Tryz.ntmps41
    go_wp2_with fail
    generalize (w.alloc (.cells #[.int .i64 st, .int .i64 k, .slice AH n cH, .slice AV nv cV, .slice AR nr cR] 26)).alloc (.cells #[.slice AI m cI, .int .i64 o] 41) = w0 at K1 K2 B2 ⊢
    obtain ⟨a0, a1, a2, a3, a4, a5⟩ := K1.five
    obtain ⟨b0, b1, b2, b3, b4⟩ := K2.two
    have B2 := Lib.hid B2
    clear K1 K2
    go_wp2
    go_ret
    exact ⟨ret_bool HF.out.symm, B2.out⟩
end Go.Proofs.YtcgkkppidkkjiaaGreatDoor
namespace Go.Proofs.YtcgkkppidkkjiaaGreatDoor
open Go.RowKit
set_option maxRecDepth 100000 in
set_option maxHeartbeats 2000000 in
theorem pindex_any (A : Option Addr) (n c : Nat) (f : Nat → P2) (u v : Int) (w : World) (h : QReads w w.heap.size A n f) (hn : n ≤ 1000) :
    Calls Tryz.prog 46 #[.slice A n c, .agg #[.int .i64 u, .int .i64 v]] w fun e w' => e = .returned (.int .i64 (px f n (u, v))) ∧ Below w.heap.size w w' := by
  have H := Lib.hid h
  have K0 := Lib.hid (Blk.new w 58 #[.int .i64 u, .int .i64 v])
  have B0 := Lib.hid ((Below.refl w.heap.size w).alloc (Nat.le_refl _) (.cells #[.int .i64 u, .int .i64 v] 58))
  clear h
  go_enter Tryz.func46, Tryz.ntmps46
  go_wp2_with fail
  generalize w.alloc (.cells #[.int .i64 u, .int .i64 v] 58) = w0 at K0 B0 ⊢
  go_wp2
  go_loopw [8] (fun iv wr => ∃ j : Nat, j ≤ n ∧ iv = .int .i64 (j : Int) ∧ (∀ i, i < j → f i ≠ (u, v)) ∧ Below w0.heap.size w0 wr) (fun iv _ => n - (intOf iv).toNat)
  case atStart => exact ⟨0, Nat.zero_le _, rfl, fun i hi => absurd hi (by omega), Below.refl _ _⟩
  case round =>
    obtain ⟨j, hj, rfl, hno, hbel⟩ := hrel
    have HB := Lib.hid (B0.out.trans (hbel.mono B0.out.size))
    have HX := Lib.hid hbel
    have HN := Lib.hid hno
    obtain ⟨k0, k1, k2, k3, k4⟩ := (K0.out.below hbel K0.out.lt).two
    clear hno hbel
    by_cases hjn : j < n
    · obtain ⟨g1, o1, rfl, hb1, hc1⟩ := H.out.below HB.out (by omega)
      obtain ⟨c0, c1⟩ := hc1 j hjn
      clear hc1
      obtain ⟨⟨x, y⟩, hx⟩ : ∃ x, x = f j := ⟨_, rfl⟩
      rw [← hx] at c0 c1
      simp only at c0 c1
      by_cases he : (x, y) = (u, v)
      · have HF := Lib.hid (show px f n (u, v) = (j : Int) from fx_some hjn (fun i hi => decide_eq_false (HN.out i hi)) (decide_eq_true (by rw [← hx]; exact he)))
        obtain ⟨rfl, rfl⟩ : x = u ∧ y = v := by injection he with h1 h2; exact ⟨h1, h2⟩
        clear hx he
        go_wp2_with fail
        go_quiet (fail)
        go_wp2
        go_ret
        exact ⟨ret_int HF.out.symm, below_drewN HB.out _⟩
      · have HS := Lib.hid (show ∀ i, i < j + 1 → f i ≠ (u, v) from fun i hi => by
          by_cases e : i < j
          · exact HN.out i e
          · obtain rfl : i = j := by omega
            rw [← hx]; exact he)
        clear hx
        by_cases e1 : u = x
        · subst e1
          have e2 : (v == y) = false := by rw [beq_eq_false_iff_ne]; intro e; exact he (by rw [e])
          clear he
          go_wp2_with fail
          go_quiet (fail)
          go_wp2
          go_roundw
          case rel => exact ⟨j + 1, by omega, by go_num, HS.out, below_drewN HX.out _⟩
          case measure => simp [intOf]; omega
        · have e1 : (u == x) = false := by rw [beq_eq_false_iff_ne]; intro e; exact e1 (by rw [e])
          clear he
          go_wp2_with fail
          go_quiet (fail)
          go_wp2
          go_roundw
          case rel => exact ⟨j + 1, by omega, by go_num, HS.out, below_drewN HX.out _⟩
          case measure => simp [intOf]; omega
    · obtain rfl : j = n := by omega
      have HF := Lib.hid (show px f j (u, v) = -1 from fx_none fun i hi => decide_eq_false (HN.out i hi))
      go_wp2
      go_ret
      exact ⟨ret_int HF.out.symm, HB.out⟩
theorem hcentre_any (A : Option Addr) (n c : Nat) (f : Nat → P2) (w : World) (h : QReads w w.heap.size A n f) (hd : Hd f n) :
    Calls Tryz.prog 71 #[.slice A n c] w fun e w' => e = .returned (.int .i64 (px f n (0, 0))) ∧ Below w.heap.size w w' := by
  have RI := Lib.hid (hright_any A n c f w h hd)
  have hn := hd.1.2
  have IX := Lib.hid (fun w1 (hb : Below w.heap.size w w1) => pindex_any A n c f 0 0 w1 (h.later hb) (by omega))
  clear h hd
  go_enter Tryz.func71, Tryz.ntmps71
  go_wp2_with (first
    | (go_at_call 37; (with_reducible refine RI.out.mono ?_); rintro e w1 ⟨rfl, hb⟩; have B1 := Lib.hid hb; clear hb)
    | (go_at_call 46; (with_reducible refine (IX.out _ B1.out).mono ?_); rintro e w2 ⟨rfl, hb⟩; have B2 := Lib.hid (B1.out.trans (hb.mono B1.out.size)); clear hb))
  go_ret
  exact ⟨rfl, B2.out⟩
end Go.Proofs.YtcgkkppidkkjiaaGreatDoor
namespace Go.Proofs.YtcgkkppidkkjiaaGreatDoor
open Go.RowKit
/-- a table's cells -/
def tb (st sy : Int) (AH : Option Addr) (n cH : Nat) (AV : Option Addr) (nv cV : Nat) (AR : Option Addr) (nr cR : Nat) : Array Value := #[.int .i64 st, .int .i64 sy, .slice AH n cH, .slice AV nv cV, .slice AR nr cR]
set_option maxRecDepth 100000 in
set_option maxHeartbeats 1000000 in
theorem inputs_yes (S : Nat) (sy : Int) (AH : Option Addr) (n cH : Nat) (AV : Option Addr) (nv cV : Nat) (AR : Option Addr) (nr cR : Nat) (w : World) (hS : 2 ≤ S) (hS8 : S ≤ 8) (hn : n ≤ 1000) (hsm : S ^ n ≤ 65536) :
    Calls Tryz.prog 26 #[.agg #[.int .i64 (S : Int), .int .i64 sy, .slice AH n cH, .slice AV nv cV, .slice AR nr cR]] w fun e w' => e = .returned (.tuple #[.int .i64 ((S ^ n : Nat) : Int), .bool true]) ∧ Below w.heap.size w w' := by
  have K0 := Blk.new w 26 #[.int .i64 (S : Int), .int .i64 sy, .slice AH n cH, .slice AV nv cV, .slice AR nr cR]
  have B0 := (Below.refl w.heap.size w).alloc (Nat.le_refl _) (.cells #[.int .i64 (S : Int), .int .i64 sy, .slice AH n cH, .slice AV nv cV, .slice AR nr cR] 26)
  have HS := Lib.hid hsm
  clear hsm
  go_enter Tryz.func26, Tryz.ntmps26
  go_wp2_with fail
  generalize w.alloc (.cells #[.int .i64 (S : Int), .int .i64 sy, .slice AH n cH, .slice AV nv cV, .slice AR nr cR] 26) = w0 at K0 B0 ⊢
  obtain ⟨t0, t1, t2, t3, t4, t5⟩ := K0.five
  have B0 := Lib.hid B0
  clear K0
  go_wp2
  go_loop [4, 8] (fun pv iv => ∃ (j p : Nat), j ≤ n ∧ pv = .int .i64 (p : Int) ∧ iv = .int .i64 (j : Int) ∧ Hid (p = S ^ j)) (fun _ iv => n - (intOf iv).toNat)
  case atStart => exact ⟨0, 1, Nat.zero_le _, rfl, rfl, Lib.hid (by simp)⟩
  case round =>
    obtain ⟨j, p, hj, rfl, rfl, hp⟩ := hrel
    by_cases hlt : j < n
    · have hle : p * S ≤ 65536 := by
        rw [hp.out, ← Nat.pow_succ]
        exact Nat.le_trans (Nat.pow_le_pow_right (by omega) hlt) HS.out
      have HQ := Lib.hid (show p * S = S ^ (j + 1) by rw [hp.out, ← Nat.pow_succ])
      obtain ⟨q, hq⟩ : ∃ q, q = p * S := ⟨_, rfl⟩
      have HQ2 := Lib.hid hq
      have e1 : IntKind.i64.wrap ((p : Int) * (S : Int)) = (q : Int) := by
        rw [show (p : Int) * (S : Int) = (q : Int) by rw [hq]; simp]
        exact IntWalk.i64_in _ ⟨by omega, by omega⟩
      have e2 : decide (65536 < (q : Int)) = false := by rw [decide_eq_false_iff_not]; omega
      clear hle hq
      go_wp2
      go_round
      case rel => exact ⟨j + 1, q, by omega, rfl, by go_num, Lib.hid (by rw [HQ2.out]; exact HQ.out)⟩
      case measure => simp [intOf]; omega
    · obtain rfl : j = n := by omega
      go_wp2
      go_ret2
      exact ⟨by rw [hp.out]; rfl, B0.out⟩
set_option maxRecDepth 100000 in
set_option maxHeartbeats 1000000 in
theorem inputs_no (S : Nat) (sy : Int) (AH : Option Addr) (n cH : Nat) (AV : Option Addr) (nv cV : Nat) (AR : Option Addr) (nr cR : Nat) (w : World) (hS : 2 ≤ S) (hS8 : S ≤ 8) (hn : n ≤ 1000) (hsm : ¬ S ^ n ≤ 65536) :
    Calls Tryz.prog 26 #[.agg #[.int .i64 (S : Int), .int .i64 sy, .slice AH n cH, .slice AV nv cV, .slice AR nr cR]] w fun e w' => e = .returned (.tuple #[.int .i64 0, .bool false]) ∧ Below w.heap.size w w' := by
  have K0 := Blk.new w 26 #[.int .i64 (S : Int), .int .i64 sy, .slice AH n cH, .slice AV nv cV, .slice AR nr cR]
  have B0 := (Below.refl w.heap.size w).alloc (Nat.le_refl _) (.cells #[.int .i64 (S : Int), .int .i64 sy, .slice AH n cH, .slice AV nv cV, .slice AR nr cR] 26)
  have HS := Lib.hid hsm
  clear hsm
  go_enter Tryz.func26, Tryz.ntmps26
  go_wp2_with fail
  generalize w.alloc (.cells #[.int .i64 (S : Int), .int .i64 sy, .slice AH n cH, .slice AV nv cV, .slice AR nr cR] 26) = w0 at K0 B0 ⊢
  obtain ⟨t0, t1, t2, t3, t4, t5⟩ := K0.five
  have B0 := Lib.hid B0
  clear K0
  go_wp2
  go_loop [4, 8] (fun pv iv => ∃ (j p : Nat), j ≤ n ∧ p ≤ 65536 ∧ pv = .int .i64 (p : Int) ∧ iv = .int .i64 (j : Int) ∧ Hid (p = S ^ j)) (fun _ iv => n - (intOf iv).toNat)
  case atStart => exact ⟨0, 1, Nat.zero_le _, by omega, rfl, rfl, Lib.hid (by simp)⟩
  case round =>
    obtain ⟨j, p, hj, hp5, rfl, rfl, hp⟩ := hrel
    by_cases hlt : j < n
    · have HQ := Lib.hid (show p * S = S ^ (j + 1) by rw [hp.out, ← Nat.pow_succ])
      have hle8 : p * S ≤ 524288 := Nat.le_trans (Nat.mul_le_mul_left p hS8) (by omega)
      obtain ⟨q, hq⟩ : ∃ q, q = p * S := ⟨_, rfl⟩
      have HQ2 := Lib.hid hq
      have e1 : IntKind.i64.wrap ((p : Int) * (S : Int)) = (q : Int) := by
        rw [show (p : Int) * (S : Int) = (q : Int) by rw [hq]; simp]
        exact IntWalk.i64_in _ ⟨by omega, by omega⟩
      by_cases hle : q ≤ 65536
      · have e2 : decide (65536 < (q : Int)) = false := by rw [decide_eq_false_iff_not]; omega
        clear hq hle8
        go_wp2
        go_round
        case rel => exact ⟨j + 1, q, by omega, hle, rfl, by go_num, Lib.hid (by rw [HQ2.out]; exact HQ.out)⟩
        case measure => simp [intOf]; omega
      · have e2 : decide (65536 < (q : Int)) = true := by rw [decide_eq_true_iff]; omega
        clear hq hle8
        go_wp2
        go_ret2
        exact ⟨rfl, B0.out⟩
    · obtain rfl : j = n := by omega
      exact absurd (by rw [← hp.out]; exact hp5) HS.out
end Go.Proofs.YtcgkkppidkkjiaaGreatDoor
