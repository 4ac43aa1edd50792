/- The walk of hood.Right on any list. -/
/- The walk of permits on valid neighbourhoods. -/
import Derived.Test.YtcgkkppidkkjiaaGreatDoorMaa
import Derived.Test.YtcgkkppidkkjiaaGreatDoorMac
import Derived.Test.YtcgkkppidkkjiaaGreatDoorMad
import Derived.Test.YtcgkkppidkkjiaaGreatDoorMab
import Derived.Below
import Derived.BigQuiet
import Derived.Deep.AppendLies
import Derived.Deep.Draws
import Derived.Deep.QuietTactic
import Derived.IntWalk
import Derived.Laws.OwnMore
import Derived.Laws.Rows
import Derived.Lib.Hide
import Derived.LoopN
import Derived.OwnWalk
import Derived.Sort.Statements
import Derived.StillTail
import Derived.StillTailTactics
import Derived.Test.YtcgkkppidkkjiaaGreatDoorRows
import Derived.WalkKit
import Derived.Test.YtcgkkppidkkjiaaGreatDoorMag
import Derived.Deep.CutRange
import Derived.Laws.BitsLemmas
import Derived.Lib.SliceRun
import Derived.Shelf.SlLaysF0
import Derived.Sort.Grow
namespace Go.Proofs.YtcgkkppidkkjiaaGreatDoor
open Go.RowKit
/-- an offset -/
def ofs (p : P2) : Prop := -2 ≤ p.1 ∧ p.1 ≤ 2 ∧ -2 ≤ p.2 ∧ p.2 ≤ 2
instance (p : P2) : Decidable (ofs p) := by unfold ofs; exact inferInstance
set_option maxHeartbeats 1000000 in
theorem in_no (x y : Int) (w : World) (h : ¬ ofs (x, y)) :
    Calls Tryz.prog 63 #[.agg #[.int .i64 (-2), .int .i64 (-2), .int .i64 5, .int .i64 5], .agg #[.int .i64 x, .int .i64 y]] w fun e w' => e = .returned (.bool false) ∧ Below w.heap.size w w' := by
  have R := Lib.hid (fun w => right_yes (-2) (-2) 5 5 w (by unfold Ok OkS; omega))
  have L := Lib.hid (fun w => by have := last_any (-2) (-2) 5 5 w (by omega) (by omega) (by omega) (by omega) (by omega) (by omega) (by omega) (by omega); rwa [show (-2 : Int) + 5 - 1 = 2 by decide] at this)
  have K1 := (Blk.new w 107 #[.int .i64 (-2), .int .i64 (-2), .int .i64 5, .int .i64 5]).alloc (.cells #[.int .i64 x, .int .i64 y] 58)
  have K2 := Blk.new (w.alloc (.cells #[.int .i64 (-2), .int .i64 (-2), .int .i64 5, .int .i64 5] 107)) 58 #[.int .i64 x, .int .i64 y]
  rw [show (w.alloc (.cells #[.int .i64 (-2), .int .i64 (-2), .int .i64 5, .int .i64 5] 107)).heap.size = w.heap.size + 1 by simp] at K2
  have B2 : Below w.heap.size w ((w.alloc (.cells #[.int .i64 (-2), .int .i64 (-2), .int .i64 5, .int .i64 5] 107)).alloc (.cells #[.int .i64 x, .int .i64 y] 58)) := ((Below.refl _ _).alloc (Nat.le_refl _) _).alloc (by simp) _
  by_cases h1 : -2 ≤ x
  · by_cases h2 : x ≤ 2
    · by_cases h3 : -2 ≤ y
      · by_cases h4 : y ≤ 2
        · exact absurd ⟨h1, h2, h3, h4⟩ h
        · have d := decide_eq_false h4
          clear h
          go_enter Tryz.func63, Tryz.ntmps63
          go_wp2_with fail
          generalize (w.alloc (.cells #[.int .i64 (-2), .int .i64 (-2), .int .i64 5, .int .i64 5] 107)).alloc (.cells #[.int .i64 x, .int .i64 y] 58) = w0 at K1 K2 B2 ⊢
          obtain ⟨a0, a1, a2, a3, a4⟩ := K1.four
          have K1 := Lib.hid K1
          have K2 := Lib.hid K2
          have B2 := Lib.hid B2
          go_wp2_with (first
            | (go_at_call 88; (with_reducible refine (R.out _).mono ?_); rintro e w1 ⟨rfl, hb⟩; have B3 := Lib.hid (B2.out.trans (hb.mono B2.out.size)); have C3 := Lib.hid hb; obtain ⟨b0, b1, b2, b3, b4⟩ := (K1.out.below hb K1.out.lt).four; clear hb)
            | (go_at_call 89; (with_reducible refine (L.out _).mono ?_); rintro e w2 ⟨rfl, hb⟩; have B4 := Lib.hid (B3.out.trans (hb.mono B3.out.size)); have C4 := C3.out.trans (hb.mono C3.out.size); obtain ⟨d0, d1, d2, d3, d4⟩ := ((K1.out.below C4 K1.out.lt).alloc (.cells #[.int .i64 2, .int .i64 2] 58)).four; obtain ⟨e0, e1, e2, e3, e4⟩ := ((K2.out.below C4 K2.out.lt).alloc (.cells #[.int .i64 2, .int .i64 2] 58)).two; have B5 := Lib.hid (B4.out.alloc B4.out.size (.cells #[.int .i64 2, .int .i64 2] 58)); clear hb C4))
          go_ret
          exact ⟨rfl, B5.out⟩
      · have d := decide_eq_false h3
        clear h
        go_enter Tryz.func63, Tryz.ntmps63
        go_wp2_with fail
        generalize (w.alloc (.cells #[.int .i64 (-2), .int .i64 (-2), .int .i64 5, .int .i64 5] 107)).alloc (.cells #[.int .i64 x, .int .i64 y] 58) = w0 at K1 K2 B2 ⊢
        obtain ⟨a0, a1, a2, a3, a4⟩ := K1.four
        have K1 := Lib.hid K1
        have K2 := Lib.hid K2
        have B2 := Lib.hid B2
        go_wp2_with (first
          | (go_at_call 88; (with_reducible refine (R.out _).mono ?_); rintro e w1 ⟨rfl, hb⟩; have B3 := Lib.hid (B2.out.trans (hb.mono B2.out.size)); have C3 := Lib.hid hb; obtain ⟨b0, b1, b2, b3, b4⟩ := (K1.out.below hb K1.out.lt).four; clear hb)
          | (go_at_call 89; (with_reducible refine (L.out _).mono ?_); rintro e w2 ⟨rfl, hb⟩; have B4 := Lib.hid (B3.out.trans (hb.mono B3.out.size)); have C4 := C3.out.trans (hb.mono C3.out.size); obtain ⟨d0, d1, d2, d3, d4⟩ := ((K1.out.below C4 K1.out.lt).alloc (.cells #[.int .i64 2, .int .i64 2] 58)).four; obtain ⟨e0, e1, e2, e3, e4⟩ := ((K2.out.below C4 K2.out.lt).alloc (.cells #[.int .i64 2, .int .i64 2] 58)).two; have B5 := Lib.hid (B4.out.alloc B4.out.size (.cells #[.int .i64 2, .int .i64 2] 58)); clear hb C4))
        go_ret
        exact ⟨rfl, B5.out⟩
    · have d := decide_eq_false h2
      clear h
      go_enter Tryz.func63, Tryz.ntmps63
      go_wp2_with fail
      generalize (w.alloc (.cells #[.int .i64 (-2), .int .i64 (-2), .int .i64 5, .int .i64 5] 107)).alloc (.cells #[.int .i64 x, .int .i64 y] 58) = w0 at K1 K2 B2 ⊢
      obtain ⟨a0, a1, a2, a3, a4⟩ := K1.four
      have K1 := Lib.hid K1
      have K2 := Lib.hid K2
      have B2 := Lib.hid B2
      go_wp2_with (first
        | (go_at_call 88; (with_reducible refine (R.out _).mono ?_); rintro e w1 ⟨rfl, hb⟩; have B3 := Lib.hid (B2.out.trans (hb.mono B2.out.size)); have C3 := Lib.hid hb; obtain ⟨b0, b1, b2, b3, b4⟩ := (K1.out.below hb K1.out.lt).four; clear hb)
        | (go_at_call 89; (with_reducible refine (L.out _).mono ?_); rintro e w2 ⟨rfl, hb⟩; have B4 := Lib.hid (B3.out.trans (hb.mono B3.out.size)); have C4 := C3.out.trans (hb.mono C3.out.size); obtain ⟨d0, d1, d2, d3, d4⟩ := ((K1.out.below C4 K1.out.lt).alloc (.cells #[.int .i64 2, .int .i64 2] 58)).four; obtain ⟨e0, e1, e2, e3, e4⟩ := ((K2.out.below C4 K2.out.lt).alloc (.cells #[.int .i64 2, .int .i64 2] 58)).two; have B5 := Lib.hid (B4.out.alloc B4.out.size (.cells #[.int .i64 2, .int .i64 2] 58)); clear hb C4))
      go_ret
      exact ⟨rfl, B5.out⟩
  · have d := decide_eq_false h1
    clear h
    go_enter Tryz.func63, Tryz.ntmps63
    go_wp2_with fail
    generalize (w.alloc (.cells #[.int .i64 (-2), .int .i64 (-2), .int .i64 5, .int .i64 5] 107)).alloc (.cells #[.int .i64 x, .int .i64 y] 58) = w0 at K1 K2 B2 ⊢
    obtain ⟨a0, a1, a2, a3, a4⟩ := K1.four
    have K1 := Lib.hid K1
    have K2 := Lib.hid K2
    have B2 := Lib.hid B2
    go_wp2_with (first
      | (go_at_call 88; (with_reducible refine (R.out _).mono ?_); rintro e w1 ⟨rfl, hb⟩; have B3 := Lib.hid (B2.out.trans (hb.mono B2.out.size)); have C3 := Lib.hid hb; obtain ⟨b0, b1, b2, b3, b4⟩ := (K1.out.below hb K1.out.lt).four; clear hb)
      | (go_at_call 89; (with_reducible refine (L.out _).mono ?_); rintro e w2 ⟨rfl, hb⟩; have B4 := Lib.hid (B3.out.trans (hb.mono B3.out.size)); have C4 := C3.out.trans (hb.mono C3.out.size); obtain ⟨d0, d1, d2, d3, d4⟩ := ((K1.out.below C4 K1.out.lt).alloc (.cells #[.int .i64 2, .int .i64 2] 58)).four; obtain ⟨e0, e1, e2, e3, e4⟩ := ((K2.out.below C4 K2.out.lt).alloc (.cells #[.int .i64 2, .int .i64 2] 58)).two; have B5 := Lib.hid (B4.out.alloc B4.out.size (.cells #[.int .i64 2, .int .i64 2] 58)); clear hb C4))
    go_ret
    exact ⟨rfl, B5.out⟩

theorem hd_no1 {f : Nat → P2} {n j : Nat} (hj : j < n) (h : ¬ ofs (f j)) : decide (Hd f n) = false := decide_eq_false fun h' => h (h'.2.1 j hj)
theorem hd_no2 {f : Nat → P2} {n j : Nat} (hj : j + 1 < n) (h : ¬ pc (f j) (f (j + 1)) < 0) : decide (Hd f n) = false := decide_eq_false fun h' => h (h'.2.2 j (by omega))

set_option maxRecDepth 100000 in
set_option maxHeartbeats 4000000 in
theorem hright_all (A : Option Addr) (n c : Nat) (f : Nat → P2) (w : World) (h : QReads w w.heap.size A n f) (hn : n ≤ 1000) :
    Calls Tryz.prog 37 #[.slice A n c] w fun e w' => e = .returned (.bool (decide (Hd f n))) ∧ Below w.heap.size w w' := by
  by_cases hn1 : 1 ≤ n
  · by_cases hn2 : n ≤ 25
    · have hl1 : ¬ ((n : Int) < 1) := by omega
      have hl2 : ¬ (25 < (n : Int)) := by omega
      have H := Lib.hid h
      have SQ := Lib.hid (fun w => square_any 2 5 w (by omega) (by omega) (by omega))
      clear h
      go_enter Tryz.func37, Tryz.ntmps37
      go_wp2
      go_loopw [15] (fun iv wr => ∃ j : Nat, j ≤ n ∧ iv = .int .i64 (j : Int) ∧ ((∀ i, i < j → ofs (f i)) ∧ ∀ i, i + 1 < j → pc (f i) (f (i + 1)) < 0) ∧ Below w.heap.size w wr) (fun iv _ => n - (intOf iv).toNat)
      case atStart => exact ⟨0, Nat.zero_le _, rfl, ⟨fun i hi => absurd hi (by omega), fun i hi => absurd hi (by omega)⟩, Below.refl _ _⟩
      case round =>
        obtain ⟨j, hj, rfl, hso, hbel⟩ := hrel
        have R := H.out.below hbel
        have HB := Lib.hid hbel
        have HS := Lib.hid hso
        clear hso
        by_cases hjn : j < n
        · obtain ⟨g1, o1, rfl, hb1, hc1⟩ := R (by omega)
          have c1 := hc1 j hjn
          have hgw : g1 < wr.heap.size := Nat.lt_of_lt_of_le hb1 hbel.size
          clear hbel
          obtain ⟨⟨x1, x2⟩, hx⟩ : ∃ x, x = f j := ⟨_, rfl⟩
          rw [← hx] at c1
          obtain ⟨c10, c11⟩ := c1
          simp only at c10 c11
          have K7 := Lib.hid (Blk.new wr 58 #[.int .i64 x1, .int .i64 x2])
          have B7 := Lib.hid (HB.out.alloc HB.out.size (.cells #[.int .i64 x1, .int .i64 x2] 58))
          have BW := Lib.hid ((Below.refl wr.heap.size wr).alloc (Nat.le_refl _) (.cells #[.int .i64 x1, .int .i64 x2] 58))
          have HX := Lib.hid hx
          have S7 : wr.heap.size < (wr.alloc (.cells #[.int .i64 x1, .int .i64 x2] 58)).heap.size := by simp
          by_cases hof : ofs (x1, x2)
          · have IN := Lib.hid (fun w => in_any x1 x2 w hof.1 hof.2.1 hof.2.2.1 hof.2.2.2)
            have HO := Lib.hid hof
            clear hof
            by_cases hj0 : j = 0
            · subst hj0
              simp only [Nat.zero_mul, Nat.add_zero, Nat.zero_add] at c10 c11
              clear hc1 R hx
              go_wp2_with fail
              generalize wr.alloc (.cells #[.int .i64 x1, .int .i64 x2] 58) = w1 at K7 B7 BW S7 ⊢
              have q0 := fun p : LowW w1.heap.size w1 => (K7.out.below p.below K7.out.lt).two.1
              have q1 := fun p : LowW w1.heap.size w1 => (K7.out.below p.below K7.out.lt).two.2.1
              refine wp_region_low w1.heap.size w1 (by kernel_rfl) (by kernel_rfl) (Below.refl _ _) ?_
              repeat (quiet_step (first | (go_at_call 64; with_reducible exact LowW.of_call _ (Nat.le_refl _) (SQ.out _)) | (go_at_call 63; with_reducible exact LowW.of_call _ (Nat.le_refl _) (IN.out _))))
              refine wpQuiet_nil ?_
              rintro w2 ⟨p, rfl⟩
              have B2 := Lib.hid (B7.out.trans (p.below.mono B7.out.size))
              clear q0 q1
              generalize p.w = w2 at B2 ⊢
              go_wp2_with fail
              go_region
              all_goals go_wp2
              all_goals go_roundw
              case rel => exact ⟨0 + 1, by omega, by go_num, ⟨fun i hi => by
                obtain rfl : i = 0 := by omega
                rw [← HX.out]; exact HO.out, fun i hi => absurd hi (by omega)⟩, B2.out.drew⟩
              case measure => simp [intOf]; omega
            · obtain ⟨i, hi⟩ : ∃ i, j = i + 1 := ⟨j - 1, by omega⟩
              have hin : i < n := by omega
              have e1 : (j : Int) - 1 = (i : Int) := by omega
              have hd1 : decide (0 < (j : Int)) = true := by rw [decide_eq_true_iff]; omega
              have hd2 : decide (0 < j) = true := by rw [decide_eq_true_iff]; omega
              have hw1 : IntKind.i64.wrap ((j : Int) - 1) = (i : Int) := by rw [e1]; exact IntWalk.i64_in _ (by omega)
              have c2 := hc1 i hin
              obtain ⟨⟨y1, y2⟩, hy⟩ : ∃ y, y = f i := ⟨_, rfl⟩
              rw [← hy] at c2
              have P := fun w => pcompare_any y1 y2 x1 x2 w
              have HPC := Lib.hid (show pc (f i) (f (i + 1)) = or2 (sg y2 x2) (sg y1 x1) by rw [← hi, ← hx, ← hy]; rfl)
              generalize or2 (sg y2 x2) (sg y1 x1) = r at P HPC
              have zz := Lib.hid P
              (try clear P)
              have P := zz
              clear zz
              have C2 := Lib.hid c2
              have HI := Lib.hid hi
              by_cases hr : 0 ≤ r
              all_goals
                clear hc1 R hx hy hi hj0 c2 e1
                go_wp2_with fail
                generalize wr.alloc (.cells #[.int .i64 x1, .int .i64 x2] 58) = w1 at K7 B7 BW S7 ⊢
                have q0 := fun p : LowW w1.heap.size w1 => (K7.out.below p.below K7.out.lt).two.1
                have q1 := fun p : LowW w1.heap.size w1 => (K7.out.below p.below K7.out.lt).two.2.1
                refine wp_region_low w1.heap.size w1 (by kernel_rfl) (by kernel_rfl) (Below.refl _ _) ?_
                repeat (quiet_step (first | (go_at_call 64; with_reducible exact LowW.of_call _ (Nat.le_refl _) (SQ.out _)) | (go_at_call 63; with_reducible exact LowW.of_call _ (Nat.le_refl _) (IN.out _))))
                refine wpQuiet_nil ?_
                rintro w2 ⟨p, rfl⟩
                have B2 := Lib.hid (B7.out.trans (p.below.mono B7.out.size))
                have BX := Lib.hid (BW.out.trans (p.below.mono BW.out.size))
                have K8 := Lib.hid (K7.out.below p.below K7.out.lt)
                clear q0 q1
                generalize p.w = w2 at B2 BX K8 ⊢
                go_wp2_with fail
                have d0 := fun p : LowW w2.heap.size w2 => LowW.cell (a := ⟨g1, o1 + i * 2, none⟩) (Nat.lt_of_lt_of_le hgw BX.out.size) ((BX.out.cell hgw).trans C2.out.1) p
                have d1 := fun p : LowW w2.heap.size w2 => LowW.cell (a := ⟨g1, o1 + i * 2 + 1, none⟩) (Nat.lt_of_lt_of_le hgw BX.out.size) ((BX.out.cell hgw).trans C2.out.2) p
                have q0 := fun p : LowW w2.heap.size w2 => (K8.out.below p.below K8.out.lt).two.1
                have q1 := fun p : LowW w2.heap.size w2 => (K8.out.below p.below K8.out.lt).two.2.1
                clear c10 c11
                refine wp_region_low w2.heap.size w2 (by kernel_rfl) (by kernel_rfl) (Below.refl _ _) ?_
                repeat (quiet_step (first | (go_at_call 65; with_reducible exact LowW.of_call _ (Nat.le_refl _) (P.out _))))
                refine wpQuiet_nil ?_
                rintro w3 ⟨p, rfl⟩
                have B3 := Lib.hid (B2.out.trans (p.below.mono B2.out.size))
                clear d0 d1 q0 q1 hw1
                generalize p.w = w3 at B3 ⊢
              · have HF := Lib.hid (hd_no2 (f := f) (n := n) (j := i) (by rw [← HI.out]; exact hjn) (by rw [HPC.out]; omega))
                go_wp2
                go_ret
                exact ⟨ret_bool HF.out.symm, B3.out⟩
              · have HR := Lib.hid (show r < 0 by omega)
                go_wp2
                go_roundw
                case rel => exact ⟨j + 1, by omega, by go_num, ⟨fun i' hi' => by
                  by_cases e : i' < j
                  · exact HS.out.1 i' e
                  · obtain rfl : i' = j := by omega
                    rw [← HX.out]; exact HO.out, fun i' hi' => by
                  by_cases e : i' + 1 < j
                  · exact HS.out.2 i' e
                  · obtain rfl : i' = i := by have := HI.out; omega
                    rw [HPC.out]; exact HR.out⟩, B3.out⟩
                case measure => simp [intOf]; omega
          · have IN := Lib.hid (fun w => in_no x1 x2 w hof)
            have HF := Lib.hid (hd_no1 (f := f) hjn (by rw [← hx]; exact hof))
            clear hof hc1 R hx
            go_wp2_with fail
            generalize wr.alloc (.cells #[.int .i64 x1, .int .i64 x2] 58) = w1 at K7 B7 BW S7 ⊢
            have q0 := fun p : LowW w1.heap.size w1 => (K7.out.below p.below K7.out.lt).two.1
            have q1 := fun p : LowW w1.heap.size w1 => (K7.out.below p.below K7.out.lt).two.2.1
            refine wp_region_low w1.heap.size w1 (by kernel_rfl) (by kernel_rfl) (Below.refl _ _) ?_
            repeat (quiet_step (first | (go_at_call 64; with_reducible exact LowW.of_call _ (Nat.le_refl _) (SQ.out _)) | (go_at_call 63; with_reducible exact LowW.of_call _ (Nat.le_refl _) (IN.out _))))
            refine wpQuiet_nil ?_
            rintro w2 ⟨p, rfl⟩
            have B2 := Lib.hid (B7.out.trans (p.below.mono B7.out.size))
            clear q0 q1
            generalize p.w = w2 at B2 ⊢
            go_wp2
            go_ret
            exact ⟨ret_bool HF.out.symm, B2.out⟩
        · obtain rfl : j = n := by omega
          have HF := Lib.hid (show decide (Hd f j) = true from decide_eq_true ⟨⟨hn1, hn2⟩, HS.out.1, fun i hi => HS.out.2 i (by omega)⟩)
          clear R hbel
          go_wp2
          go_ret
          exact ⟨ret_bool HF.out.symm, HB.out⟩
    · have HF := Lib.hid (show decide (Hd f n) = false from decide_eq_false fun h => hn2 h.1.2)
      have hl1 : ¬ ((n : Int) < 1) := by omega
      have hl2 : 25 < (n : Int) := by omega
      clear h
      go_enter Tryz.func37, Tryz.ntmps37
      go_wp2
      go_ret
      exact ⟨ret_bool HF.out.symm, Below.refl _ _⟩
  · have HF := Lib.hid (show decide (Hd f n) = false from decide_eq_false fun h => hn1 h.1.1)
    have hl1 : (n : Int) < 1 := by omega
    clear h
    go_enter Tryz.func37, Tryz.ntmps37
    go_wp2
    go_ret
    exact ⟨ret_bool HF.out.symm, Below.refl _ _⟩
end Go.Proofs.YtcgkkppidkkjiaaGreatDoor
namespace Go.Proofs.YtcgkkppidkkjiaaGreatDoor
open Go.RowKit
theorem ints_il (l : List Nat) : ints l = il (l.map fun (d : Nat) => (d : Int)) := by simp [ints, il, List.map_map]
theorem mem_cast (j : Nat) (l : List Nat) : decide ((j : Int) ∈ l.map fun (d : Nat) => (d : Int)) = decide (j ∈ l) := by
  rw [decide_eq_decide]
  simp only [List.mem_map]
  exact ⟨fun ⟨a, h1, h2⟩ => by rw [show j = a by omega]; exact h1, fun h => ⟨j, h, rfl⟩⟩
/-- the first m symmetries map the neighbourhood to itself -/
def own (f : Nat → P2) (n m : Nat) : Bool := (List.range m).all fun i => decide (i ∈ sy f n 8)
theorem own_iff (f : Nat → P2) (n m : Nat) : own f n m = true ↔ ∀ i, i < m → i ∈ sy f n 8 := by
  simp [own, List.all_eq_true]
/-- whether a neighbourhood may have a kind of symmetry -/
def pmt (f : Nat → P2) (n : Nat) (k : Int) : Bool := if k = 0 then true else if k = 3 then decide (n ≤ 9) else if k = 1 ∨ k = 2 then own f n (ns k) else false

set_option maxRecDepth 100000 in
set_option maxHeartbeats 2000000 in
theorem permits_sym (k : Int) (m : Nat) (A : Option Addr) (n c : Nat) (f : Nat → P2) (w : World) (hM : Mat w) (h : QReads w w.heap.size A n f) (hd : Hd f n) (hk : k = 1 ∧ m = 4 ∨ k = 2 ∧ m = 8) :
    Calls Tryz.prog 38 #[.slice A n c, .int .i64 k] w fun e w' => e = .returned (.bool (own f n m)) ∧ Below w.heap.size w w' := by
  have SY := Lib.hid (syms_any A n c f w hM h hd)
  have hns : (ns k : Int) = (m : Int) := by rcases hk with ⟨rfl, rfl⟩ | ⟨rfl, rfl⟩ <;> decide
  have SN := fun w => symmetries_any k w
  rw [hns] at SN
  have SN := Lib.hid SN
  have OI := Lib.hid (own_iff f n m)
  have hm : m ≤ 8 := by omega
  have HLL := Lib.hid (show (sy f n 8).length ≤ 1000000 by have := sy_len f n 8; omega)
  generalize own f n m = q at OI ⊢
  generalize sy f n 8 = l at SY OI HLL
  have k0 : (k == 0) = false := by rw [beq_eq_false_iff_ne]; omega
  have k3 : (k == 3) = false := by rw [beq_eq_false_iff_ne]; omega
  clear h hM hd hns
  rcases hk with ⟨rfl, rfl⟩ | ⟨rfl, rfl⟩
  · go_enter Tryz.func38, Tryz.ntmps38
    go_wp2_with (first
      | (go_at_call 66; (with_reducible refine SY.out.mono ?_); rintro e w1 ⟨A', c', rfl, h1, hb⟩; have B1 := Lib.hid hb; have R1 := Lib.hid h1; clear h1 hb)
      | (go_at_call 67; (with_reducible refine (SN.out _).mono ?_); rintro e w2 ⟨rfl, rfl⟩))
    go_loop [22] (fun iv => ∃ j : Nat, j ≤ 4 ∧ iv = .int .i64 (j : Int) ∧ ∀ i, i < j → i ∈ l) (fun iv => 4 - (intOf iv).toNat)
    case atStart => exact ⟨0, Nat.zero_le _, rfl, fun i hi => absurd hi (by omega)⟩
    case round =>
      obtain ⟨j, hj, rfl, hno⟩ := hrel
      have HN := Lib.hid hno
      clear hno
      by_cases hlt : j < 4
      · have CO := contains_any A' l.length c' _ _ (j : Int) w1 (by have h := R1.out; rw [ints_il] at h; exact h) HLL.out
        rw [mem_cast] at CO
        by_cases hq : j ∈ l
        · have HQ := Lib.hid hq
          rw [decide_eq_true hq] at CO
          have CO := Lib.hid CO
          clear hq
          go_wp2_with (go_at_call 68; (with_reducible refine CO.out.mono ?_); rintro e w2 ⟨rfl, rfl⟩)
          go_round
          case rel => exact ⟨j + 1, by omega, by go_num, fun i hi => by
            by_cases e : i < j
            · exact HN.out i e
            · obtain rfl : i = j := by omega
              exact HQ.out⟩
          case measure => simp [intOf]; omega
        · have HF := Lib.hid (show q = false by rw [← Bool.not_eq_true, OI.out]; exact fun h => hq (h j hlt))
          rw [decide_eq_false hq] at CO
          have CO := Lib.hid CO
          clear hq
          go_wp2_with (go_at_call 68; (with_reducible refine CO.out.mono ?_); rintro e w2 ⟨rfl, rfl⟩)
          go_ret
          exact ⟨ret_bool HF.out.symm, B1.out⟩
      · obtain rfl : j = 4 := by omega
        have HF := Lib.hid (show q = true by rw [OI.out]; exact HN.out)
        go_wp2
        go_ret
        exact ⟨ret_bool HF.out.symm, B1.out⟩
  · go_enter Tryz.func38, Tryz.ntmps38
    go_wp2_with (first
      | (go_at_call 66; (with_reducible refine SY.out.mono ?_); rintro e w1 ⟨A', c', rfl, h1, hb⟩; have B1 := Lib.hid hb; have R1 := Lib.hid h1; clear h1 hb)
      | (go_at_call 67; (with_reducible refine (SN.out _).mono ?_); rintro e w2 ⟨rfl, rfl⟩))
    go_loop [22] (fun iv => ∃ j : Nat, j ≤ 8 ∧ iv = .int .i64 (j : Int) ∧ ∀ i, i < j → i ∈ l) (fun iv => 8 - (intOf iv).toNat)
    case atStart => exact ⟨0, Nat.zero_le _, rfl, fun i hi => absurd hi (by omega)⟩
    case round =>
      obtain ⟨j, hj, rfl, hno⟩ := hrel
      have HN := Lib.hid hno
      clear hno
      by_cases hlt : j < 8
      · have CO := contains_any A' l.length c' _ _ (j : Int) w1 (by have h := R1.out; rw [ints_il] at h; exact h) HLL.out
        rw [mem_cast] at CO
        by_cases hq : j ∈ l
        · have HQ := Lib.hid hq
          rw [decide_eq_true hq] at CO
          have CO := Lib.hid CO
          clear hq
          go_wp2_with (go_at_call 68; (with_reducible refine CO.out.mono ?_); rintro e w2 ⟨rfl, rfl⟩)
          go_round
          case rel => exact ⟨j + 1, by omega, by go_num, fun i hi => by
            by_cases e : i < j
            · exact HN.out i e
            · obtain rfl : i = j := by omega
              exact HQ.out⟩
          case measure => simp [intOf]; omega
        · have HF := Lib.hid (show q = false by rw [← Bool.not_eq_true, OI.out]; exact fun h => hq (h j hlt))
          rw [decide_eq_false hq] at CO
          have CO := Lib.hid CO
          clear hq
          go_wp2_with (go_at_call 68; (with_reducible refine CO.out.mono ?_); rintro e w2 ⟨rfl, rfl⟩)
          go_ret
          exact ⟨ret_bool HF.out.symm, B1.out⟩
      · obtain rfl : j = 8 := by omega
        have HF := Lib.hid (show q = true by rw [OI.out]; exact HN.out)
        go_wp2
        go_ret
        exact ⟨ret_bool HF.out.symm, B1.out⟩
theorem permits_any (k : Int) (A : Option Addr) (n c : Nat) (f : Nat → P2) (w : World) (hM : Mat w) (h : QReads w w.heap.size A n f) (hd : Hd f n) :
    Calls Tryz.prog 38 #[.slice A n c, .int .i64 k] w fun e w' => e = .returned (.bool (pmt f n k)) ∧ Below w.heap.size w w' := by
  have hn : n ≤ 25 := hd.1.2
  by_cases h0 : k = 0
  · subst h0
    rw [show pmt f n 0 = true by rfl]
    clear h hM hd
    go_enter Tryz.func38, Tryz.ntmps38
    go_wp2
    go_ret
    exact ⟨rfl, Below.refl _ _⟩
  · by_cases h3 : k = 3
    · subst h3
      rw [show pmt f n 3 = decide (n ≤ 9) by rfl]
      clear h hM hd h0
      by_cases h9 : n ≤ 9
      · have d : decide ((n : Int) ≤ 9) = true := by rw [decide_eq_true_iff]; omega
        rw [decide_eq_true h9]
        go_enter Tryz.func38, Tryz.ntmps38
        go_wp2
        go_ret
        exact ⟨ret_bool (by first | (simp; done) | (simp; omega)), Below.refl _ _⟩
      · rw [decide_eq_false h9]
        go_enter Tryz.func38, Tryz.ntmps38
        go_wp2
        go_ret
        exact ⟨ret_bool (by first | (simp; done) | (simp; omega)), Below.refl _ _⟩
    · by_cases h12 : k = 1 ∨ k = 2
      · rw [pmt, if_neg h0, if_neg h3, if_pos h12]
        rcases h12 with rfl | rfl
        · exact permits_sym 1 4 A n c f w hM h hd (by omega)
        · exact permits_sym 2 8 A n c f w hM h hd (by omega)
      · rw [pmt, if_neg h0, if_neg h3, if_neg h12]
        have k0 : (k == 0) = false := by rw [beq_eq_false_iff_ne]; omega
        have k1 : (k == 1) = false := by rw [beq_eq_false_iff_ne]; omega
        have k2 : (k == 2) = false := by rw [beq_eq_false_iff_ne]; omega
        have k3 : (k == 3) = false := by rw [beq_eq_false_iff_ne]; omega
        clear h hM hd h0 h3 h12
        go_enter Tryz.func38, Tryz.ntmps38
        go_wp2
        go_ret
        exact ⟨rfl, Below.refl _ _⟩
end Go.Proofs.YtcgkkppidkkjiaaGreatDoor
