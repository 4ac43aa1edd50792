/- The walk of hood.Right on any list. -/
/- The walk of Few. -/
/- The walk of tiny: a table with few neighbourhoods, and what it says of the numbers. -/
/- The walk of collect with any pure predicate. -/
import Derived.Test.YtcgkkppidkkjiaaGreatDoorMaa
import Derived.Test.YtcgkkppidkkjiaaGreatDoorMab
import Derived.Test.YtcgkkppidkkjiaaGreatDoorMac
import Derived.Below
import Derived.BigQuiet
import Derived.Deep.AppendLies
import Derived.Deep.Draws
import Derived.Deep.QuietTactic
import Derived.IntWalk
import Derived.Laws.OwnMore
import Derived.Laws.Rows
import Derived.Lib.Hide
import Derived.LoopN
import Derived.OwnWalk
import Derived.Sort.Statements
import Derived.StillTail
import Derived.StillTailTactics
import Derived.Test.YtcgkkppidkkjiaaGreatDoorRows
import Derived.WalkKit
import Derived.Deep.CutRange
namespace Go.Proofs.YtcgkkppidkkjiaaGreatDoor
open Go.RowKit
/-- an offset -/
def ofs (p : P2) : Prop := -2 ≤ p.1 ∧ p.1 ≤ 2 ∧ -2 ≤ p.2 ∧ p.2 ≤ 2
instance (p : P2) : Decidable (ofs p) := by unfold ofs; exact inferInstance
set_option maxHeartbeats 1000000 in
theorem in_no (x y : Int) (w : World) (h : ¬ ofs (x, y)) :
    Calls Tryz.prog 63 #[.agg #[.int .i64 (-2), .int .i64 (-2), .int .i64 5, .int .i64 5], .agg #[.int .i64 x, .int .i64 y]] w fun e w' => e = .returned (.bool false) ∧ Below w.heap.size w w' := by
  have R := Lib.hid (fun w => right_yes (-2) (-2) 5 5 w (by unfold Ok OkS; omega))
  have L := Lib.hid (fun w => by have := last_any (-2) (-2) 5 5 w (by omega) (by omega) (by omega) (by omega) (by omega) (by omega) (by omega) (by omega); rwa [show (-2 : Int) + 5 - 1 = 2 by decide] at this)
  have K1 := (Blk.new w 107 #[.int .i64 (-2), .int .i64 (-2), .int .i64 5, .int .i64 5]).alloc (.cells #[.int .i64 x, .int .i64 y] 58)
  have K2 := Blk.new (w.alloc (.cells #[.int .i64 (-2), .int .i64 (-2), .int .i64 5, .int .i64 5] 107)) 58 #[.int .i64 x, .int .i64 y]
  rw [show (w.alloc (.cells #[.int .i64 (-2), .int .i64 (-2), .int .i64 5, .int .i64 5] 107)).heap.size = w.heap.size + 1 by simp] at K2
  have B2 : Below w.heap.size w ((w.alloc (.cells #[.int .i64 (-2), .int .i64 (-2), .int .i64 5, .int .i64 5] 107)).alloc (.cells #[.int .i64 x, .int .i64 y] 58)) := ((Below.refl _ _).alloc (Nat.le_refl _) _).alloc (by simp) _
  by_cases h1 : -2 ≤ x
  · by_cases h2 : x ≤ 2
    · by_cases h3 : -2 ≤ y
      · by_cases h4 : y ≤ 2
        · exact absurd ⟨h1, h2, h3, h4⟩ h
        · have d := decide_eq_false h4
          clear h
          go_enter Tryz.func63, Tryz.ntmps63
          go_wp2_with fail
          generalize (w.alloc (.cells #[.int .i64 (-2), .int .i64 (-2), .int .i64 5, .int .i64 5] 107)).alloc (.cells #[.int .i64 x, .int .i64 y] 58) = w0 at K1 K2 B2 ⊢
          obtain ⟨a0, a1, a2, a3, a4⟩ := K1.four
          have K1 := Lib.hid K1
          have K2 := Lib.hid K2
          have B2 := Lib.hid B2
          go_wp2_with (first
            | (go_at_call 88; (with_reducible refine (R.out _).mono ?_); rintro e w1 ⟨rfl, hb⟩; have B3 := Lib.hid (B2.out.trans (hb.mono B2.out.size)); have C3 := Lib.hid hb; obtain ⟨b0, b1, b2, b3, b4⟩ := (K1.out.below hb K1.out.lt).four; clear hb)
            | (go_at_call 89; (with_reducible refine (L.out _).mono ?_); rintro e w2 ⟨rfl, hb⟩; have B4 := Lib.hid (B3.out.trans (hb.mono B3.out.size)); have C4 := C3.out.trans (hb.mono C3.out.size); obtain ⟨d0, d1, d2, d3, d4⟩ := ((K1.out.below C4 K1.out.lt).alloc (.cells #[.int .i64 2, .int .i64 2] 58)).four; obtain ⟨e0, e1, e2, e3, e4⟩ := ((K2.out.below C4 K2.out.lt).alloc (.cells #[.int .i64 2, .int .i64 2] 58)).two; have B5 := Lib.hid (B4.out.alloc B4.out.size (.cells #[.int .i64 2, .int .i64 2] 58)); clear hb C4))
          go_ret
          exact ⟨rfl, B5.out⟩
      · have d := decide_eq_false h3
        clear h
        go_enter Tryz.func63, Tryz.ntmps63
        go_wp2_with fail
        generalize (w.alloc (.cells #[.int .i64 (-2), .int .i64 (-2), .int .i64 5, .int .i64 5] 107)).alloc (.cells #[.int .i64 x, .int .i64 y] 58) = w0 at K1 K2 B2 ⊢
        obtain ⟨a0, a1, a2, a3, a4⟩ := K1.four
        have K1 := Lib.hid K1
        have K2 := Lib.hid K2
        have B2 := Lib.hid B2
        go_wp2_with (first
          | (go_at_call 88; (with_reducible refine (R.out _).mono ?_); rintro e w1 ⟨rfl, hb⟩; have B3 := Lib.hid (B2.out.trans (hb.mono B2.out.size)); have C3 := Lib.hid hb; obtain ⟨b0, b1, b2, b3, b4⟩ := (K1.out.below hb K1.out.lt).four; clear hb)
          | (go_at_call 89; (with_reducible refine (L.out _).mono ?_); rintro e w2 ⟨rfl, hb⟩; have B4 := Lib.hid (B3.out.trans (hb.mono B3.out.size)); have C4 := C3.out.trans (hb.mono C3.out.size); obtain ⟨d0, d1, d2, d3, d4⟩ := ((K1.out.below C4 K1.out.lt).alloc (.cells #[.int .i64 2, .int .i64 2] 58)).four; obtain ⟨e0, e1, e2, e3, e4⟩ := ((K2.out.below C4 K2.out.lt).alloc (.cells #[.int .i64 2, .int .i64 2] 58)).two; have B5 := Lib.hid (B4.out.alloc B4.out.size (.cells #[.int .i64 2, .int .i64 2] 58)); clear hb C4))
        go_ret
        exact ⟨rfl, B5.out⟩
    · have d := decide_eq_false h2
      clear h
      go_enter Tryz.func63, Tryz.ntmps63
      go_wp2_with fail
      generalize (w.alloc (.cells #[.int .i64 (-2), .int .i64 (-2), .int .i64 5, .int .i64 5] 107)).alloc (.cells #[.int .i64 x, .int .i64 y] 58) = w0 at K1 K2 B2 ⊢
      obtain ⟨a0, a1, a2, a3, a4⟩ := K1.four
      have K1 := Lib.hid K1
      have K2 := Lib.hid K2
      have B2 := Lib.hid B2
      go_wp2_with (first
        | (go_at_call 88; (with_reducible refine (R.out _).mono ?_); rintro e w1 ⟨rfl, hb⟩; have B3 := Lib.hid (B2.out.trans (hb.mono B2.out.size)); have C3 := Lib.hid hb; obtain ⟨b0, b1, b2, b3, b4⟩ := (K1.out.below hb K1.out.lt).four; clear hb)
        | (go_at_call 89; (with_reducible refine (L.out _).mono ?_); rintro e w2 ⟨rfl, hb⟩; have B4 := Lib.hid (B3.out.trans (hb.mono B3.out.size)); have C4 := C3.out.trans (hb.mono C3.out.size); obtain ⟨d0, d1, d2, d3, d4⟩ := ((K1.out.below C4 K1.out.lt).alloc (.cells #[.int .i64 2, .int .i64 2] 58)).four; obtain ⟨e0, e1, e2, e3, e4⟩ := ((K2.out.below C4 K2.out.lt).alloc (.cells #[.int .i64 2, .int .i64 2] 58)).two; have B5 := Lib.hid (B4.out.alloc B4.out.size (.cells #[.int .i64 2, .int .i64 2] 58)); clear hb C4))
      go_ret
      exact ⟨rfl, B5.out⟩
  · have d := decide_eq_false h1
    clear h
    go_enter Tryz.func63, Tryz.ntmps63
    go_wp2_with fail
    generalize (w.alloc (.cells #[.int .i64 (-2), .int .i64 (-2), .int .i64 5, .int .i64 5] 107)).alloc (.cells #[.int .i64 x, .int .i64 y] 58) = w0 at K1 K2 B2 ⊢
    obtain ⟨a0, a1, a2, a3, a4⟩ := K1.four
    have K1 := Lib.hid K1
    have K2 := Lib.hid K2
    have B2 := Lib.hid B2
    go_wp2_with (first
      | (go_at_call 88; (with_reducible refine (R.out _).mono ?_); rintro e w1 ⟨rfl, hb⟩; have B3 := Lib.hid (B2.out.trans (hb.mono B2.out.size)); have C3 := Lib.hid hb; obtain ⟨b0, b1, b2, b3, b4⟩ := (K1.out.below hb K1.out.lt).four; clear hb)
      | (go_at_call 89; (with_reducible refine (L.out _).mono ?_); rintro e w2 ⟨rfl, hb⟩; have B4 := Lib.hid (B3.out.trans (hb.mono B3.out.size)); have C4 := C3.out.trans (hb.mono C3.out.size); obtain ⟨d0, d1, d2, d3, d4⟩ := ((K1.out.below C4 K1.out.lt).alloc (.cells #[.int .i64 2, .int .i64 2] 58)).four; obtain ⟨e0, e1, e2, e3, e4⟩ := ((K2.out.below C4 K2.out.lt).alloc (.cells #[.int .i64 2, .int .i64 2] 58)).two; have B5 := Lib.hid (B4.out.alloc B4.out.size (.cells #[.int .i64 2, .int .i64 2] 58)); clear hb C4))
    go_ret
    exact ⟨rfl, B5.out⟩

theorem hd_no1 {f : Nat → P2} {n j : Nat} (hj : j < n) (h : ¬ ofs (f j)) : decide (Hd f n) = false := decide_eq_false fun h' => h (h'.2.1 j hj)
theorem hd_no2 {f : Nat → P2} {n j : Nat} (hj : j + 1 < n) (h : ¬ pc (f j) (f (j + 1)) < 0) : decide (Hd f n) = false := decide_eq_false fun h' => h (h'.2.2 j (by omega))

set_option maxRecDepth 100000 in
set_option maxHeartbeats 4000000 in
theorem hright_all (A : Option Addr) (n c : Nat) (f : Nat → P2) (w : World) (h : QReads w w.heap.size A n f) (hn : n ≤ 1000) :
    Calls Tryz.prog 37 #[.slice A n c] w fun e w' => e = .returned (.bool (decide (Hd f n))) ∧ Below w.heap.size w w' := by
  by_cases hn1 : 1 ≤ n
  · by_cases hn2 : n ≤ 25
    · have hl1 : ¬ ((n : Int) < 1) := by omega
      have hl2 : ¬ (25 < (n : Int)) := by omega
      have H := Lib.hid h
      have SQ := Lib.hid (fun w => square_any 2 5 w (by omega) (by omega) (by omega))
      clear h
      go_enter Tryz.func37, Tryz.ntmps37
      go_wp2
      go_loopw [15] (fun iv wr => ∃ j : Nat, j ≤ n ∧ iv = .int .i64 (j : Int) ∧ ((∀ i, i < j → ofs (f i)) ∧ ∀ i, i + 1 < j → pc (f i) (f (i + 1)) < 0) ∧ Below w.heap.size w wr) (fun iv _ => n - (intOf iv).toNat)
      case atStart => exact ⟨0, Nat.zero_le _, rfl, ⟨fun i hi => absurd hi (by omega), fun i hi => absurd hi (by omega)⟩, Below.refl _ _⟩
      case round =>
        obtain ⟨j, hj, rfl, hso, hbel⟩ := hrel
        have R := H.out.below hbel
        have HB := Lib.hid hbel
        have HS := Lib.hid hso
        clear hso
        by_cases hjn : j < n
        · obtain ⟨g1, o1, rfl, hb1, hc1⟩ := R (by omega)
          have c1 := hc1 j hjn
          have hgw : g1 < wr.heap.size := Nat.lt_of_lt_of_le hb1 hbel.size
          clear hbel
          obtain ⟨⟨x1, x2⟩, hx⟩ : ∃ x, x = f j := ⟨_, rfl⟩
          rw [← hx] at c1
          obtain ⟨c10, c11⟩ := c1
          simp only at c10 c11
          have K7 := Lib.hid (Blk.new wr 58 #[.int .i64 x1, .int .i64 x2])
          have B7 := Lib.hid (HB.out.alloc HB.out.size (.cells #[.int .i64 x1, .int .i64 x2] 58))
          have BW := Lib.hid ((Below.refl wr.heap.size wr).alloc (Nat.le_refl _) (.cells #[.int .i64 x1, .int .i64 x2] 58))
          have HX := Lib.hid hx
          have S7 : wr.heap.size < (wr.alloc (.cells #[.int .i64 x1, .int .i64 x2] 58)).heap.size := by simp
          by_cases hof : ofs (x1, x2)
          · have IN := Lib.hid (fun w => in_any x1 x2 w hof.1 hof.2.1 hof.2.2.1 hof.2.2.2)
            have HO := Lib.hid hof
            clear hof
            by_cases hj0 : j = 0
            · subst hj0
              simp only [Nat.zero_mul, Nat.add_zero, Nat.zero_add] at c10 c11
              clear hc1 R hx
              go_wp2_with fail
              generalize wr.alloc (.cells #[.int .i64 x1, .int .i64 x2] 58) = w1 at K7 B7 BW S7 ⊢
              have q0 := fun p : LowW w1.heap.size w1 => (K7.out.below p.below K7.out.lt).two.1
              have q1 := fun p : LowW w1.heap.size w1 => (K7.out.below p.below K7.out.lt).two.2.1
              refine wp_region_low w1.heap.size w1 (by kernel_rfl) (by kernel_rfl) (Below.refl _ _) ?_
              repeat (quiet_step (first | (go_at_call 64; with_reducible exact LowW.of_call _ (Nat.le_refl _) (SQ.out _)) | (go_at_call 63; with_reducible exact LowW.of_call _ (Nat.le_refl _) (IN.out _))))
              refine wpQuiet_nil ?_
              rintro w2 ⟨p, rfl⟩
              have B2 := Lib.hid (B7.out.trans (p.below.mono B7.out.size))
              clear q0 q1
              generalize p.w = w2 at B2 ⊢
              go_wp2_with fail
              go_region
              all_goals go_wp2
              all_goals go_roundw
              case rel => exact ⟨0 + 1, by omega, by go_num, ⟨fun i hi => by
                obtain rfl : i = 0 := by omega
                rw [← HX.out]; exact HO.out, fun i hi => absurd hi (by omega)⟩, B2.out.drew⟩
              case measure => simp [intOf]; omega
            · obtain ⟨i, hi⟩ : ∃ i, j = i + 1 := ⟨j - 1, by omega⟩
              have hin : i < n := by omega
              have e1 : (j : Int) - 1 = (i : Int) := by omega
              have hd1 : decide (0 < (j : Int)) = true := by rw [decide_eq_true_iff]; omega
              have hd2 : decide (0 < j) = true := by rw [decide_eq_true_iff]; omega
              have hw1 : IntKind.i64.wrap ((j : Int) - 1) = (i : Int) := by rw [e1]; exact IntWalk.i64_in _ (by omega)
              have c2 := hc1 i hin
              obtain ⟨⟨y1, y2⟩, hy⟩ : ∃ y, y = f i := ⟨_, rfl⟩
              rw [← hy] at c2
              have P := fun w => pcompare_any y1 y2 x1 x2 w
              have HPC := Lib.hid (show pc (f i) (f (i + 1)) = or2 (sg y2 x2) (sg y1 x1) by rw [← hi, ← hx, ← hy]; rfl)
              generalize or2 (sg y2 x2) (sg y1 x1) = r at P HPC
              have zz := Lib.hid P
              (try clear P)
              have P := zz
              clear zz
              have C2 := Lib.hid c2
              have HI := Lib.hid hi
              by_cases hr : 0 ≤ r
              all_goals
                clear hc1 R hx hy hi hj0 c2 e1
                go_wp2_with fail
                generalize wr.alloc (.cells #[.int .i64 x1, .int .i64 x2] 58) = w1 at K7 B7 BW S7 ⊢
                have q0 := fun p : LowW w1.heap.size w1 => (K7.out.below p.below K7.out.lt).two.1
                have q1 := fun p : LowW w1.heap.size w1 => (K7.out.below p.below K7.out.lt).two.2.1
                refine wp_region_low w1.heap.size w1 (by kernel_rfl) (by kernel_rfl) (Below.refl _ _) ?_
                repeat (quiet_step (first | (go_at_call 64; with_reducible exact LowW.of_call _ (Nat.le_refl _) (SQ.out _)) | (go_at_call 63; with_reducible exact LowW.of_call _ (Nat.le_refl _) (IN.out _))))
                refine wpQuiet_nil ?_
                rintro w2 ⟨p, rfl⟩
                have B2 := Lib.hid (B7.out.trans (p.below.mono B7.out.size))
                have BX := Lib.hid (BW.out.trans (p.below.mono BW.out.size))
                have K8 := Lib.hid (K7.out.below p.below K7.out.lt)
                clear q0 q1
                generalize p.w = w2 at B2 BX K8 ⊢
                go_wp2_with fail
                have d0 := fun p : LowW w2.heap.size w2 => LowW.cell (a := ⟨g1, o1 + i * 2, none⟩) (Nat.lt_of_lt_of_le hgw BX.out.size) ((BX.out.cell hgw).trans C2.out.1) p
                have d1 := fun p : LowW w2.heap.size w2 => LowW.cell (a := ⟨g1, o1 + i * 2 + 1, none⟩) (Nat.lt_of_lt_of_le hgw BX.out.size) ((BX.out.cell hgw).trans C2.out.2) p
                have q0 := fun p : LowW w2.heap.size w2 => (K8.out.below p.below K8.out.lt).two.1
                have q1 := fun p : LowW w2.heap.size w2 => (K8.out.below p.below K8.out.lt).two.2.1
                clear c10 c11
                refine wp_region_low w2.heap.size w2 (by kernel_rfl) (by kernel_rfl) (Below.refl _ _) ?_
                repeat (quiet_step (first | (go_at_call 65; with_reducible exact LowW.of_call _ (Nat.le_refl _) (P.out _))))
                refine wpQuiet_nil ?_
                rintro w3 ⟨p, rfl⟩
                have B3 := Lib.hid (B2.out.trans (p.below.mono B2.out.size))
                clear d0 d1 q0 q1 hw1
                generalize p.w = w3 at B3 ⊢
              · have HF := Lib.hid (hd_no2 (f := f) (n := n) (j := i) (by rw [← HI.out]; exact hjn) (by rw [HPC.out]; omega))
                go_wp2
                go_ret
                exact ⟨ret_bool HF.out.symm, B3.out⟩
              · have HR := Lib.hid (show r < 0 by omega)
                go_wp2
                go_roundw
                case rel => exact ⟨j + 1, by omega, by go_num, ⟨fun i' hi' => by
                  by_cases e : i' < j
                  · exact HS.out.1 i' e
                  · obtain rfl : i' = j := by omega
                    rw [← HX.out]; exact HO.out, fun i' hi' => by
                  by_cases e : i' + 1 < j
                  · exact HS.out.2 i' e
                  · obtain rfl : i' = i := by have := HI.out; omega
                    rw [HPC.out]; exact HR.out⟩, B3.out⟩
                case measure => simp [intOf]; omega
          · have IN := Lib.hid (fun w => in_no x1 x2 w hof)
            have HF := Lib.hid (hd_no1 (f := f) hjn (by rw [← hx]; exact hof))
            clear hof hc1 R hx
            go_wp2_with fail
            generalize wr.alloc (.cells #[.int .i64 x1, .int .i64 x2] 58) = w1 at K7 B7 BW S7 ⊢
            have q0 := fun p : LowW w1.heap.size w1 => (K7.out.below p.below K7.out.lt).two.1
            have q1 := fun p : LowW w1.heap.size w1 => (K7.out.below p.below K7.out.lt).two.2.1
            refine wp_region_low w1.heap.size w1 (by kernel_rfl) (by kernel_rfl) (Below.refl _ _) ?_
            repeat (quiet_step (first | (go_at_call 64; with_reducible exact LowW.of_call _ (Nat.le_refl _) (SQ.out _)) | (go_at_call 63; with_reducible exact LowW.of_call _ (Nat.le_refl _) (IN.out _))))
            refine wpQuiet_nil ?_
            rintro w2 ⟨p, rfl⟩
            have B2 := Lib.hid (B7.out.trans (p.below.mono B7.out.size))
            clear q0 q1
            generalize p.w = w2 at B2 ⊢
            go_wp2
            go_ret
            exact ⟨ret_bool HF.out.symm, B2.out⟩
        · obtain rfl : j = n := by omega
          have HF := Lib.hid (show decide (Hd f j) = true from decide_eq_true ⟨⟨hn1, hn2⟩, HS.out.1, fun i hi => HS.out.2 i (by omega)⟩)
          clear R hbel
          go_wp2
          go_ret
          exact ⟨ret_bool HF.out.symm, HB.out⟩
    · have HF := Lib.hid (show decide (Hd f n) = false from decide_eq_false fun h => hn2 h.1.2)
      have hl1 : ¬ ((n : Int) < 1) := by omega
      have hl2 : 25 < (n : Int) := by omega
      clear h
      go_enter Tryz.func37, Tryz.ntmps37
      go_wp2
      go_ret
      exact ⟨ret_bool HF.out.symm, Below.refl _ _⟩
  · have HF := Lib.hid (show decide (Hd f n) = false from decide_eq_false fun h => hn1 h.1.1)
    have hl1 : (n : Int) < 1 := by omega
    clear h
    go_enter Tryz.func37, Tryz.ntmps37
    go_wp2
    go_ret
    exact ⟨ret_bool HF.out.symm, Below.refl _ _⟩
end Go.Proofs.YtcgkkppidkkjiaaGreatDoor
namespace Go.Proofs.YtcgkkppidkkjiaaGreatDoor
open Go.RowKit
/-- a small table -/
def Sm (T : Tab) : Prop := T.n ≤ 30 ∧ T.nv ≤ 50 ∧ T.nr ≤ 30 ∧ (∀ k, k < T.nv → (T.v k).length ≤ 30) ∧ ∀ k, k < T.nr → (T.ri k).length ≤ 30
/-- a bool came back; if it is true, S -/
def BoolThat (S : Prop) (w : World) (e : Ending) (w' : World) : Prop := ∃ q, e = .returned (.bool q) ∧ (q = true → S) ∧ Below w.heap.size w w'

set_option maxRecDepth 100000 in
set_option maxHeartbeats 2000000 in
theorem few_any (AH : Option Addr) (cH : Nat) (AV : Option Addr) (cV : Nat) (AR : Option Addr) (cR : Nat) (T : Tab) (w : World) (h : TR w AH AV AR T) (h1 : T.n < 9223372036854775808) (h2 : T.nv < 9223372036854775808) (h3 : T.nr < 9223372036854775808) (h4 : ∀ k, k < T.nv → (T.v k).length < 9223372036854775808) (h5 : ∀ k, k < T.nr → (T.ri k).length < 9223372036854775808) :
    Calls Tryz.prog 10 #[.agg #[.int .i64 T.st, .int .i64 T.sy, .slice AH T.n cH, .slice AV T.nv cV, .slice AR T.nr cR]] w fun e w' => BoolThat (Sm T) w e w' := by
  obtain ⟨-, hV, hR⟩ := h
  have SM := Lib.hid (show T.n ≤ 30 → T.nv ≤ 50 → T.nr ≤ 30 → (∀ k, k < T.nv → (T.v k).length ≤ 30) → (∀ k, k < T.nr → (T.ri k).length ≤ 30) → Sm T from fun a b c d e => ⟨a, b, c, d, e⟩)
  generalize Sm T = SMT at SM ⊢
  obtain ⟨st, k, n, f, nv, v, nr, ri, ro⟩ := T
  simp only at *
  have K1 := Blk.new w 26 #[.int .i64 st, .int .i64 k, .slice AH n cH, .slice AV nv cV, .slice AR nr cR]
  have B1 : Below w.heap.size w (w.alloc (.cells #[.int .i64 st, .int .i64 k, .slice AH n cH, .slice AV nv cV, .slice AR nr cR] 26)) := (Below.refl _ _).alloc (Nat.le_refl _) _
  have HV := Lib.hid hV
  have HR := Lib.hid hR
  have H4 := Lib.hid h4
  have H5 := Lib.hid h5
  clear hV hR h4 h5
  by_cases l1 : n ≤ 30
  · by_cases l2 : nv ≤ 50
    · by_cases l3 : nr ≤ 30
      · have d1 : decide (30 < (n : Int)) = false := by rw [decide_eq_false_iff_not]; omega
        have d2 : decide (50 < (nv : Int)) = false := by rw [decide_eq_false_iff_not]; omega
        have d3 : decide (30 < (nr : Int)) = false := by rw [decide_eq_false_iff_not]; omega
        go_enter Tryz.func10, Tryz.ntmps10
        go_wp2_with fail
        generalize w.alloc (.cells #[.int .i64 st, .int .i64 k, .slice AH n cH, .slice AV nv cV, .slice AR nr cR] 26) = w0 at K1 B1 ⊢
        obtain ⟨a0, a1, a2, a3, a4, a5⟩ := K1.five
        have B2 := Lib.hid B1
        clear K1 B1
        go_wp2
        go_loop [24] (fun iv => ∃ j : Nat, j ≤ nv ∧ iv = .int .i64 (j : Int) ∧ ∀ i, i < j → (v i).length ≤ 30) (fun iv => nv - (intOf iv).toNat)
        case atStart => exact ⟨0, Nat.zero_le _, rfl, fun i hi => absurd hi (by omega)⟩
        case round =>
          obtain ⟨j, hj, rfl, hno⟩ := hrel
          have HN := Lib.hid hno
          clear hno
          by_cases hlt : j < nv
          · obtain ⟨ad, rfl, hb, hc⟩ := HV.out.below B2.out (by omega)
            obtain ⟨A', c', hc, -⟩ := hc j hlt
            have hl := H4.out j hlt
            have HN2 := Lib.hid (show (v j).length ≤ 30 → ∀ i, i < j + 1 → (v i).length ≤ 30 from fun h i hi => by
              by_cases e : i < j
              · exact HN.out i e
              · obtain rfl : i = j := by omega
                exact h)
            generalize (v j).length = m at hc hl HN2
            by_cases hm : m ≤ 30
            · have HN3 := Lib.hid (HN2.out hm)
              go_wp2
              go_round
              case rel => exact ⟨j + 1, by omega, by go_num, HN3.out⟩
              case measure => simp [intOf]; omega
            · go_wp2
              go_ret
              exact ⟨_, rfl, fun h => (by cases h), B2.out⟩
          · obtain rfl : j = nv := by omega
            go_wp2
            go_loop [38] (fun iv => ∃ j : Nat, j ≤ nr ∧ iv = .int .i64 (j : Int) ∧ ∀ i, i < j → (ri i).length ≤ 30) (fun iv => nr - (intOf iv).toNat)
            case atStart => exact ⟨0, Nat.zero_le _, rfl, fun i hi => absurd hi (by omega)⟩
            case round =>
              obtain ⟨i, hi, rfl, hno⟩ := hrel
              have HM := Lib.hid hno
              clear hno
              by_cases hlt2 : i < nr
              · obtain ⟨g1, o1, rfl, hb1, hc⟩ := HR.out.below B2.out (by omega)
                obtain ⟨A', c', hc, -, -⟩ := hc i hlt2
                have hl := H5.out i hlt2
                have HN2 := Lib.hid (show (ri i).length ≤ 30 → ∀ i', i' < i + 1 → (ri i').length ≤ 30 from fun h i' hi' => by
                  by_cases e : i' < i
                  · exact HM.out i' e
                  · obtain rfl : i' = i := by omega
                    exact h)
                generalize (ri i).length = m at hc hl HN2
                by_cases hm : m ≤ 30
                · have HN3 := Lib.hid (HN2.out hm)
                  go_wp2
                  go_round
                  case rel => exact ⟨i + 1, by omega, by go_num, HN3.out⟩
                  case measure => simp [intOf]; omega
                · go_wp2
                  go_ret
                  exact ⟨_, rfl, fun h => (by cases h), B2.out⟩
              · obtain rfl : i = nr := by omega
                go_wp2
                go_ret
                exact ⟨_, rfl, fun _ => SM.out l1 l2 l3 HN.out HM.out, B2.out⟩
      · have d1 : decide (30 < (n : Int)) = false := by rw [decide_eq_false_iff_not]; omega
        have d2 : decide (50 < (nv : Int)) = false := by rw [decide_eq_false_iff_not]; omega
        have d3 : decide (30 < (nr : Int)) = true := by rw [decide_eq_true_iff]; omega
        go_enter Tryz.func10, Tryz.ntmps10
        go_wp2
        go_ret
        exact ⟨_, rfl, fun h => (by cases h), B1⟩
    · have d1 : decide (30 < (n : Int)) = false := by rw [decide_eq_false_iff_not]; omega
      have d2 : decide (50 < (nv : Int)) = true := by rw [decide_eq_true_iff]; omega
      go_enter Tryz.func10, Tryz.ntmps10
      go_wp2
      go_ret
      exact ⟨_, rfl, fun h => (by cases h), B1⟩
  · have d1 : decide (30 < (n : Int)) = true := by rw [decide_eq_true_iff]; omega
    go_enter Tryz.func10, Tryz.ntmps10
    go_wp2
    go_ret
    exact ⟨_, rfl, fun h => (by cases h), B1⟩
end Go.Proofs.YtcgkkppidkkjiaaGreatDoor
namespace Go.Proofs.YtcgkkppidkkjiaaGreatDoor
open Go.RowKit

/-- the number of states, from 1 to 9 -/
def bs (st : Int) : Nat := if st ≤ 1 then 1 else if 9 ≤ st then 9 else st.toNat
theorem bs_pos (st : Int) : 1 ≤ bs st ∧ bs st ≤ 9 := by
  unfold bs
  split
  · omega
  · split <;> omega
theorem bs_min (st : Int) : ∃ m : Int, (if (9 : Int) < st then (9 : Int) else st) = m ∧ (if (1 : Int) < m then m else 1) = (bs st : Int) := by
  unfold bs
  by_cases h9 : (9 : Int) < st
  · refine ⟨9, if_pos h9, ?_⟩
    rw [if_pos (show (1 : Int) < 9 by decide), if_neg (show ¬ st ≤ 1 by omega), if_pos (show 9 ≤ st by omega)]
    rfl
  · refine ⟨st, if_neg h9, ?_⟩
    by_cases h1 : (1 : Int) < st
    · rw [if_pos h1, if_neg (by omega)]
      split <;> omega
    · rw [if_neg h1, if_pos (by omega)]
      rfl
set_option maxRecDepth 100000 in
set_option maxHeartbeats 2000000 in
theorem tiny_any (AH : Option Addr) (cH : Nat) (AV : Option Addr) (cV : Nat) (AR : Option Addr) (cR : Nat) (T : Tab) (w : World) (h : TR w AH AV AR T) (h1 : T.n < 9223372036854775808) (h2 : T.nv < 9223372036854775808) (h3 : T.nr < 9223372036854775808) (h4 : ∀ k, k < T.nv → (T.v k).length < 9223372036854775808) (h5 : ∀ k, k < T.nr → (T.ri k).length < 9223372036854775808) :
    Calls Tryz.prog 4 #[.agg #[.int .i64 T.st, .int .i64 T.sy, .slice AH T.n cH, .slice AV T.nv cV, .slice AR T.nr cR]] w fun e w' => BoolThat (bs T.st ^ T.n ≤ 1024 ∧ Sm T) w e w' := by
  have FW := Lib.hid (fun w' (hb : Below w.heap.size w w') => few_any AH cH AV cV AR cR T w' (h.later hb) h1 h2 h3 h4 h5)
  generalize Sm T = SMT at FW ⊢
  clear h h2 h3 h4 h5
  obtain ⟨st, k, n, f, nv, v, nr, ri, ro⟩ := T
  simp only at *
  obtain ⟨hc1, hc9⟩ := bs_pos st
  obtain ⟨m, hm, hx⟩ := bs_min st
  generalize bs st = c at hx hc1 hc9 ⊢
  have K1 := Blk.new w 26 #[.int .i64 st, .int .i64 k, .slice AH n cH, .slice AV nv cV, .slice AR nr cR]
  have B1 : Below w.heap.size w (w.alloc (.cells #[.int .i64 st, .int .i64 k, .slice AH n cH, .slice AV nv cV, .slice AR nr cR] 26)) := (Below.refl _ _).alloc (Nat.le_refl _) _
  go_enter Tryz.func4, Tryz.ntmps4
  go_wp2_with fail
  generalize w.alloc (.cells #[.int .i64 st, .int .i64 k, .slice AH n cH, .slice AV nv cV, .slice AR nr cR] 26) = w0 at K1 B1 ⊢
  obtain ⟨a0, a1, a2, a3, a4, a5⟩ := K1.five
  have B2 := Lib.hid B1
  clear K1 B1
  go_wp2
  go_loop [3, 7] (fun pv iv => ∃ (j p : Nat), j ≤ n ∧ iv = .int .i64 (j : Int) ∧ pv = .int .i64 (p : Int) ∧ Hid (p = c ^ j) ∧ p ≤ 1024) (fun _ iv => n - (intOf iv).toNat)
  case atStart => exact ⟨0, 1, Nat.zero_le _, rfl, rfl, Lib.hid (by simp), by decide⟩
  case round =>
    obtain ⟨j, p, hj, rfl, rfl, HP, hp⟩ := hrel
    by_cases hlt : j < n
    · obtain ⟨q, hq⟩ : ∃ q, q = p * c := ⟨_, rfl⟩
      have hqq : q ≤ 9216 := by
        have : p * c ≤ 1024 * 9 := Nat.mul_le_mul hp hc9
        omega
      have HQ := Lib.hid (show q = c ^ (j + 1) by rw [hq, HP.out, Nat.pow_succ])
      have hw : IntKind.i64.wrap ((p : Int) * (c : Int)) = (q : Int) := by
        rw [← Int.natCast_mul, ← hq]
        exact IntWalk.i64_in _ (by omega)
      clear hq
      by_cases hs : q ≤ 1024
      · have e1 : decide ((1024 : Int) < (q : Int)) = false := decide_eq_false (by omega)
        go_wp2
        go_round
        case rel => exact ⟨j + 1, q, by omega, by go_num, rfl, HQ, hs⟩
        case measure => simp [intOf]; omega
      · have e1 : decide ((1024 : Int) < (q : Int)) = true := decide_eq_true (by omega)
        go_wp2
        go_ret
        exact ⟨_, rfl, fun h => (by cases h), B2.out⟩
    · obtain rfl : j = n := by omega
      have HS := Lib.hid (show c ^ j ≤ 1024 from HP.out ▸ hp)
      clear hm hx
      go_wp2_with (go_at_call 10; (with_reducible refine (FW.out _ B2.out).mono ?_); rintro e w1 ⟨q, rfl, hq, hb⟩)
      go_ret
      exact ⟨_, rfl, fun h => ⟨HS.out, hq h⟩, B2.out.trans (hb.mono B2.out.size)⟩
end Go.Proofs.YtcgkkppidkkjiaaGreatDoor
namespace Go.Proofs.YtcgkkppidkkjiaaGreatDoor
open Go.RowKit
/-- what the call owns stays owned behind a contract that turns nothing below the heap's size -/
theorem own_below2 {w w' : World} {base : Nat} {e : TypeId} {v : Value} {n : Nat} {xs : List Value} (h : w.ownsRow base e 2 v n xs) (hb : Below w.heap.size w w') : w'.ownsRow base e 2 v n xs := by
  refine ⟨h.1, ?_⟩
  rcases h.2 with hn | ⟨g, cap, cur, rfl, hb', hg, rest⟩
  · exact .inl hn
  · refine .inr ⟨g, cap, cur, rfl, hb', ?_, rest⟩
    rw [hb.block g (Array.getElem?_eq_some_iff.1 hg).1]; exact hg

theorem own_base {w : World} {base base' : Nat} {k : Nat} {e : TypeId} {v : Value} {n : Nat} {xs : List Value} (h : w.ownsRow base e k v n xs) (hb : base' ≤ base) : w.ownsRow base' e k v n xs := by
  refine ⟨h.1, ?_⟩
  rcases h.2 with hn | ⟨g, cap, cur, h1, h2, rest⟩
  · exact .inl hn
  · exact .inr ⟨g, cap, cur, h1, Nat.le_trans hb h2, rest⟩
end Go.Proofs.YtcgkkppidkkjiaaGreatDoor
