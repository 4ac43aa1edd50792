/- The walk of Few. -/
/- The walks of cmp.Compare, cmp.Or, point.Compare, place and comparePlaces. -/
/- The walks of validPlace, examine and validShift. -/
import Derived.Test.YtaicehkphokacaaMad
import Derived.Test.YtaicehkphokacaaMaa
import Derived.Test.YtaicehkphokacaaMah
import Derived.Below
import Derived.BigQuiet
import Derived.Deep.AppendLies
import Derived.Deep.CutRange
import Derived.Deep.Draws
import Derived.Deep.QuietTactic
import Derived.IntWalk
import Derived.Laws.OwnMore
import Derived.Laws.Rows
import Derived.Lib.Hide
import Derived.LoopN
import Derived.OwnWalk
import Derived.StillTail
import Derived.StillTailTactics
import Derived.Test.YtaicehkphokacaaRows
import Derived.WalkKit
import Derived.Test.YtaicehkphokacaaMab
import Derived.Test.YtaicehkphokacaaMaf
namespace Go.Proofs.Ytaicehkphokacaa
open Go.RowKit
set_option maxRecDepth 100000 in
set_option maxHeartbeats 2000000 in
theorem few_any (AH : Option Addr) (cH : Nat) (AN : Option Addr) (cN : Nat) (T : Tr) (w : World) (h : TS w AH AN T) (h1 : T.n < 9223372036854775808) (h2 : T.m < 9223372036854775808) (h4 : ∀ k, k < T.m → (T.nx k).length < 9223372036854775808) :
    Calls Try.prog 17 #[.agg #[.int .i64 T.st, .slice AH T.n cH, .slice AN T.m cN]] w fun e w' => BoolThat (Sm T) w e w' := by
  obtain ⟨-, hV⟩ := h
  have SM := Lib.hid (show T.n ≤ 40 → T.m ≤ 400 → (∀ k, k < T.m → (T.nx k).length ≤ 20) → Sm T from fun a b c => ⟨a, b, c⟩)
  generalize Sm T = SMT at SM ⊢
  obtain ⟨st, n, f, m, lv, nx⟩ := T
  simp only at *
  have K1 := Blk.new w 25 #[.int .i64 st, .slice AH n cH, .slice AN m cN]
  have B1 : Below w.heap.size w (w.alloc (.cells #[.int .i64 st, .slice AH n cH, .slice AN m cN] 25)) := (Below.refl _ _).alloc (Nat.le_refl _) _
  have HV := Lib.hid hV
  have H4 := Lib.hid h4
  clear hV h4
  by_cases l1 : n ≤ 40
  · by_cases l2 : m ≤ 400
    · have d1 : decide (40 < (n : Int)) = false := by rw [decide_eq_false_iff_not]; omega
      have d2 : decide (400 < (m : Int)) = false := by rw [decide_eq_false_iff_not]; omega
      go_enter Try.func17, Try.ntmps17
      go_wp2_with fail
      generalize w.alloc (.cells #[.int .i64 st, .slice AH n cH, .slice AN m cN] 25) = w0 at K1 B1 ⊢
      obtain ⟨a0, a1, a2, a3⟩ := K1.three
      have B2 := Lib.hid B1
      clear K1 B1
      go_wp2
      go_loop [17] (fun iv => ∃ j : Nat, j ≤ m ∧ iv = .int .i64 (j : Int) ∧ ∀ i, i < j → (nx i).length ≤ 20) (fun iv => m - (intOf iv).toNat)
      case atStart => exact ⟨0, Nat.zero_le _, rfl, fun i hi => absurd hi (by omega)⟩
      case round =>
        obtain ⟨j, hj, rfl, hno⟩ := hrel
        have HN := Lib.hid hno
        clear hno
        by_cases hlt : j < m
        · obtain ⟨g1, o1, rfl, hb, hc⟩ := HV.out.below B2.out (by omega)
          obtain ⟨A', c', -, hc, -⟩ := hc j hlt
          have hl := H4.out j hlt
          have HN2 := Lib.hid (show (nx j).length ≤ 20 → ∀ i, i < j + 1 → (nx i).length ≤ 20 from fun h i hi => by
            by_cases e : i < j
            · exact HN.out i e
            · obtain rfl : i = j := by omega
              exact h)
          generalize (nx j).length = q at hc hl HN2
          by_cases hm : q ≤ 20
          · have HN3 := Lib.hid (HN2.out hm)
            go_wp2
            go_round
            case rel => exact ⟨j + 1, by omega, by go_num, HN3.out⟩
            case measure => simp [intOf]; omega
          · go_wp2
            go_ret
            exact ⟨_, rfl, fun h => (by cases h), B2.out⟩
        · obtain rfl : j = m := by omega
          go_wp2
          go_ret
          exact ⟨_, rfl, fun _ => SM.out l1 l2 HN.out, B2.out⟩
    · have d1 : decide (40 < (n : Int)) = false := by rw [decide_eq_false_iff_not]; omega
      have d2 : decide (400 < (m : Int)) = true := by rw [decide_eq_true_iff]; omega
      go_enter Try.func17, Try.ntmps17
      go_wp2
      go_ret
      exact ⟨_, rfl, fun h => (by cases h), B1⟩
  · have d1 : decide (40 < (n : Int)) = true := by rw [decide_eq_true_iff]; omega
    go_enter Try.func17, Try.ntmps17
    go_wp2
    go_ret
    exact ⟨_, rfl, fun h => (by cases h), B1⟩
end Go.Proofs.Ytaicehkphokacaa
namespace Go.Proofs.Ytaicehkphokacaa
open Go.RowKit
theorem place_any (x y s : Int) (w : World) :
    Calls Try.prog 81 #[.agg #[.int .i64 x, .int .i64 y, .int .i64 s]] w fun e w' => e = .returned (.agg #[.int .i64 x, .int .i64 y]) ∧ Below w.heap.size w w' := by
  go_enter Try.func81, Try.ntmps81
  go_wp2
  refine bodyPost_ret (v := .agg #[.int .i64 x, .int .i64 y]) (by simp [results, Try.results81, go_sem]) rfl ⟨rfl, ?_⟩
  exact ((Below.refl _ _).alloc (Nat.le_refl _) _).alloc (by simp) _
set_option maxHeartbeats 1000000 in
theorem places_any (a b : C3) (w : World) :
    Calls Try.prog 71 #[cv a, cv b] w fun e w' => e = .returned (.int .i64 (cp a b)) ∧ Below w.heap.size w w' := by
  obtain ⟨x, y, s⟩ := a
  obtain ⟨u, v, r⟩ := b
  show Calls Try.prog 71 #[.agg #[.int .i64 x, .int .i64 y, .int .i64 s], .agg #[.int .i64 u, .int .i64 v, .int .i64 r]] w fun e w' => e = .returned (.int .i64 (or2 (sg y v) (sg x u))) ∧ Below w.heap.size w w'
  have K1 := (Blk.new w 47 #[.int .i64 x, .int .i64 y, .int .i64 s]).alloc (.cells #[.int .i64 u, .int .i64 v, .int .i64 r] 47)
  have K2 := Blk.new (w.alloc (.cells #[.int .i64 x, .int .i64 y, .int .i64 s] 47)) 47 #[.int .i64 u, .int .i64 v, .int .i64 r]
  rw [show (w.alloc (.cells #[.int .i64 x, .int .i64 y, .int .i64 s] 47)).heap.size = w.heap.size + 1 by simp] at K2
  have B2 : Below w.heap.size w ((w.alloc (.cells #[.int .i64 x, .int .i64 y, .int .i64 s] 47)).alloc (.cells #[.int .i64 u, .int .i64 v, .int .i64 r] 47)) := ((Below.refl _ _).alloc (Nat.le_refl _) _).alloc (by simp) _
  have P1 := Lib.hid place_any
  have C1 := Lib.hid (fun w => pcompare_any x y u v w)
  go_enter Try.func71, Try.ntmps71
  go_wp2_with fail
  generalize (w.alloc (.cells #[.int .i64 x, .int .i64 y, .int .i64 s] 47)).alloc (.cells #[.int .i64 u, .int .i64 v, .int .i64 r] 47) = w0 at K1 K2 B2 ⊢
  have k10 := fun p : LowW w0.heap.size w0 => (K1.below p.below K1.lt).three.1
  have k11 := fun p : LowW w0.heap.size w0 => (K1.below p.below K1.lt).three.2.1
  have k12 := fun p : LowW w0.heap.size w0 => (K1.below p.below K1.lt).three.2.2.1
  have k20 := fun p : LowW w0.heap.size w0 => (K2.below p.below K2.lt).three.1
  have k21 := fun p : LowW w0.heap.size w0 => (K2.below p.below K2.lt).three.2.1
  have k22 := fun p : LowW w0.heap.size w0 => (K2.below p.below K2.lt).three.2.2.1
  have B2 := Lib.hid B2
  clear K1 K2
  refine wp_region_low w0.heap.size w0 (by kernel_rfl) (by kernel_rfl) (Below.refl _ _) ?_
  repeat (quiet_step (first | (go_at_call 81; with_reducible exact LowW.of_call _ (Nat.le_refl _) (P1.out _ _ _ _)) | (go_at_call 80; with_reducible exact LowW.of_call _ (Nat.le_refl _) (C1.out _))))
  refine wpQuiet_nil ?_
  rintro w' ⟨p, rfl⟩
  have PB := Lib.hid p.below
  clear k10 k11 k12 k20 k21 k22
  generalize p.w = w1 at PB ⊢
  go_wp2
  go_ret
  exact ⟨rfl, B2.out.trans (PB.out.mono B2.out.size)⟩

end Go.Proofs.Ytaicehkphokacaa
namespace Go.Proofs.Ytaicehkphokacaa
open Go.RowKit
/-- a valid position -/
def OkP (a : C3) : Prop := -1048576 ≤ a.1 ∧ a.1 ≤ 1048576 ∧ -1048576 ≤ a.2.1 ∧ a.2.1 ≤ 1048576
instance (a : C3) : Decidable (OkP a) := by unfold OkP; exact inferInstance
theorem okp_ok {a : C3} : OkP a ↔ Ok a.1 a.2.1 1 1 := by unfold OkP Ok OkS; omega
/-- the error of a cell -/
def ex (a : C3) : Int := if ¬ OkP a then 5 else if a.2.2 < 0 ∨ 8 ≤ a.2.2 then 10 else 0

theorem vplace_any (a : C3) (w : World) :
    Calls Try.prog 79 #[cv a] w fun e w' => e = .returned (.bool (decide (OkP a))) ∧ Below w.heap.size w w' := by
  have R : ∀ w, Calls Try.prog 83 #[.agg #[.int .i64 a.1, .int .i64 a.2.1, .int .i64 1, .int .i64 1]] w fun e w' => e = .returned (.bool (decide (OkP a))) ∧ Below w.heap.size w w' := fun w => by
    by_cases h : OkP a
    · rw [decide_eq_true h]; exact right_yes _ _ _ _ w (okp_ok.1 h)
    · rw [decide_eq_false h]; exact right_no _ _ _ _ w (fun h' => h (okp_ok.2 h'))
  generalize decide (OkP a) = b at R ⊢
  obtain ⟨x, y, s⟩ := a
  have R := Lib.hid R
  have B0 := Lib.hid ((Below.refl w.heap.size w).alloc (Nat.le_refl _) (.cells #[.int .i64 x, .int .i64 y, .int .i64 s] 47))
  go_enter Try.func79, Try.ntmps79
  go_wp2_with (go_at_call 83; (with_reducible refine (R.out _).mono ?_); rintro e w1 ⟨rfl, hb⟩; have B1 := Lib.hid (B0.out.trans (hb.mono B0.out.size)); clear hb)
  go_ret
  exact ⟨rfl, B1.out⟩

theorem examine_any (a : C3) (w : World) :
    Calls Try.prog 70 #[cv a] w fun e w' => e = .returned (.int .i64 (ex a)) ∧ Below w.heap.size w w' := by
  have V := fun w => vplace_any a w
  obtain ⟨x, y, s⟩ := a
  have K0 := Blk.new w 47 #[.int .i64 x, .int .i64 y, .int .i64 s]
  have B0 := Lib.hid ((Below.refl w.heap.size w).alloc (Nat.le_refl _) (.cells #[.int .i64 x, .int .i64 y, .int .i64 s] 47))
  unfold ex
  by_cases h : OkP (x, y, s)
  · rw [if_neg (fun h' => h' h)]
    rw [show decide (OkP (x, y, s)) = true from decide_eq_true h] at V
    have K0 := Lib.hid K0
    have V := Lib.hid V
    clear h
    by_cases h1 : s < 0
    · rw [if_pos (Or.inl h1)]
      go_enter Try.func70, Try.ntmps70
      go_wp2_with (go_at_call 79; (with_reducible refine (V.out _).mono ?_); rintro e w1 ⟨rfl, hb⟩; obtain ⟨k0, k1, k2, k3⟩ := (K0.out.below hb K0.out.lt).three; have B1 := Lib.hid (B0.out.trans (hb.mono B0.out.size)); clear hb)
      go_ret
      exact ⟨rfl, B1.out⟩
    · by_cases h2 : 8 ≤ s
      · rw [if_pos (Or.inr h2)]
        go_enter Try.func70, Try.ntmps70
        go_wp2_with (go_at_call 79; (with_reducible refine (V.out _).mono ?_); rintro e w1 ⟨rfl, hb⟩; obtain ⟨k0, k1, k2, k3⟩ := (K0.out.below hb K0.out.lt).three; have B1 := Lib.hid (B0.out.trans (hb.mono B0.out.size)); clear hb)
        go_ret
        exact ⟨rfl, B1.out⟩
      · rw [if_neg (by rintro (h | h) <;> contradiction)]
        go_enter Try.func70, Try.ntmps70
        go_wp2_with (go_at_call 79; (with_reducible refine (V.out _).mono ?_); rintro e w1 ⟨rfl, hb⟩; obtain ⟨k0, k1, k2, k3⟩ := (K0.out.below hb K0.out.lt).three; have B1 := Lib.hid (B0.out.trans (hb.mono B0.out.size)); clear hb)
        go_ret
        exact ⟨rfl, B1.out⟩
  · rw [if_pos h]
    rw [show decide (OkP (x, y, s)) = false from decide_eq_false h] at V
    have K0 := Lib.hid K0
    have V := Lib.hid V
    clear h
    go_enter Try.func70, Try.ntmps70
    go_wp2_with (go_at_call 79; (with_reducible refine (V.out _).mono ?_); rintro e w1 ⟨rfl, hb⟩; obtain ⟨k0, k1, k2, k3⟩ := (K0.out.below hb K0.out.lt).three; have B1 := Lib.hid (B0.out.trans (hb.mono B0.out.size)); clear hb)
    go_ret
    exact ⟨rfl, B1.out⟩

end Go.Proofs.Ytaicehkphokacaa
