/- The walk of hood.Right on any list. -/
/- The first number that has a property. -/
/- The walks of Radius and of Index of positions. -/
import Derived.Test.YthgnjjpkmikokaaDoorBac
import Derived.Test.YthgnjjpkmikokaaDoorBab
namespace Go.Proofs.YthgnjjpkmikokaaDoor
open Go.RowKit

/-- an offset -/
def ofs (p : P2) : Prop := -2 ≤ p.1 ∧ p.1 ≤ 2 ∧ -2 ≤ p.2 ∧ p.2 ≤ 2
instance (p : P2) : Decidable (ofs p) := by unfold ofs; exact inferInstance
set_option maxHeartbeats 1000000 in
theorem in_no (x y : Int) (w : World) (h : ¬ ofs (x, y)) :
    Calls Tryd.prog 27 #[.agg #[.int .i64 (-2), .int .i64 (-2), .int .i64 5, .int .i64 5], .agg #[.int .i64 x, .int .i64 y]] w fun e w' => e = .returned (.bool false) ∧ Below w.heap.size w w' := by
  have R := Lib.hid (fun w => right_yes (-2) (-2) 5 5 w (by unfold Ok OkS; omega))
  have L := Lib.hid (fun w => by have := last_any (-2) (-2) 5 5 w (by omega) (by omega) (by omega) (by omega) (by omega) (by omega) (by omega) (by omega); rwa [show (-2 : Int) + 5 - 1 = 2 by decide] at this)
  have K1 := (Blk.new w 58 #[.int .i64 (-2), .int .i64 (-2), .int .i64 5, .int .i64 5]).alloc (.cells #[.int .i64 x, .int .i64 y] 40)
  have K2 := Blk.new (w.alloc (.cells #[.int .i64 (-2), .int .i64 (-2), .int .i64 5, .int .i64 5] 58)) 40 #[.int .i64 x, .int .i64 y]
  rw [show (w.alloc (.cells #[.int .i64 (-2), .int .i64 (-2), .int .i64 5, .int .i64 5] 58)).heap.size = w.heap.size + 1 by simp] at K2
  have B2 : Below w.heap.size w ((w.alloc (.cells #[.int .i64 (-2), .int .i64 (-2), .int .i64 5, .int .i64 5] 58)).alloc (.cells #[.int .i64 x, .int .i64 y] 40)) := ((Below.refl _ _).alloc (Nat.le_refl _) _).alloc (by simp) _
  by_cases h1 : -2 ≤ x
  · by_cases h2 : x ≤ 2
    · by_cases h3 : -2 ≤ y
      · by_cases h4 : y ≤ 2
        · exact absurd ⟨h1, h2, h3, h4⟩ h
        · have d := decide_eq_false h4
          clear h
          go_enter Tryd.func27, Tryd.ntmps27
          go_wp2_with fail
          generalize (w.alloc (.cells #[.int .i64 (-2), .int .i64 (-2), .int .i64 5, .int .i64 5] 58)).alloc (.cells #[.int .i64 x, .int .i64 y] 40) = w0 at K1 K2 B2 ⊢
          obtain ⟨a0, a1, a2, a3, a4⟩ := K1.four
          have K1 := Lib.hid K1
          have K2 := Lib.hid K2
          have B2 := Lib.hid B2
          go_wp2_with (first
            | (go_at_call 60; (with_reducible refine (R.out _).mono ?_); rintro e w1 ⟨rfl, hb⟩; have B3 := Lib.hid (B2.out.trans (hb.mono B2.out.size)); have C3 := Lib.hid hb; obtain ⟨b0, b1, b2, b3, b4⟩ := (K1.out.below hb K1.out.lt).four; clear hb)
            | (go_at_call 61; (with_reducible refine (L.out _).mono ?_); rintro e w2 ⟨rfl, hb⟩; have B4 := Lib.hid (B3.out.trans (hb.mono B3.out.size)); have C4 := C3.out.trans (hb.mono C3.out.size); obtain ⟨d0, d1, d2, d3, d4⟩ := ((K1.out.below C4 K1.out.lt).alloc (.cells #[.int .i64 2, .int .i64 2] 40)).four; obtain ⟨e0, e1, e2, e3, e4⟩ := ((K2.out.below C4 K2.out.lt).alloc (.cells #[.int .i64 2, .int .i64 2] 40)).two; have B5 := Lib.hid (B4.out.alloc B4.out.size (.cells #[.int .i64 2, .int .i64 2] 40)); clear hb C4))
          go_ret
          exact ⟨rfl, B5.out⟩
      · have d := decide_eq_false h3
        clear h
        go_enter Tryd.func27, Tryd.ntmps27
        go_wp2_with fail
        generalize (w.alloc (.cells #[.int .i64 (-2), .int .i64 (-2), .int .i64 5, .int .i64 5] 58)).alloc (.cells #[.int .i64 x, .int .i64 y] 40) = w0 at K1 K2 B2 ⊢
        obtain ⟨a0, a1, a2, a3, a4⟩ := K1.four
        have K1 := Lib.hid K1
        have K2 := Lib.hid K2
        have B2 := Lib.hid B2
        go_wp2_with (first
          | (go_at_call 60; (with_reducible refine (R.out _).mono ?_); rintro e w1 ⟨rfl, hb⟩; have B3 := Lib.hid (B2.out.trans (hb.mono B2.out.size)); have C3 := Lib.hid hb; obtain ⟨b0, b1, b2, b3, b4⟩ := (K1.out.below hb K1.out.lt).four; clear hb)
          | (go_at_call 61; (with_reducible refine (L.out _).mono ?_); rintro e w2 ⟨rfl, hb⟩; have B4 := Lib.hid (B3.out.trans (hb.mono B3.out.size)); have C4 := C3.out.trans (hb.mono C3.out.size); obtain ⟨d0, d1, d2, d3, d4⟩ := ((K1.out.below C4 K1.out.lt).alloc (.cells #[.int .i64 2, .int .i64 2] 40)).four; obtain ⟨e0, e1, e2, e3, e4⟩ := ((K2.out.below C4 K2.out.lt).alloc (.cells #[.int .i64 2, .int .i64 2] 40)).two; have B5 := Lib.hid (B4.out.alloc B4.out.size (.cells #[.int .i64 2, .int .i64 2] 40)); clear hb C4))
        go_ret
        exact ⟨rfl, B5.out⟩
    · have d := decide_eq_false h2
      clear h
      go_enter Tryd.func27, Tryd.ntmps27
      go_wp2_with fail
      generalize (w.alloc (.cells #[.int .i64 (-2), .int .i64 (-2), .int .i64 5, .int .i64 5] 58)).alloc (.cells #[.int .i64 x, .int .i64 y] 40) = w0 at K1 K2 B2 ⊢
      obtain ⟨a0, a1, a2, a3, a4⟩ := K1.four
      have K1 := Lib.hid K1
      have K2 := Lib.hid K2
      have B2 := Lib.hid B2
      go_wp2_with (first
        | (go_at_call 60; (with_reducible refine (R.out _).mono ?_); rintro e w1 ⟨rfl, hb⟩; have B3 := Lib.hid (B2.out.trans (hb.mono B2.out.size)); have C3 := Lib.hid hb; obtain ⟨b0, b1, b2, b3, b4⟩ := (K1.out.below hb K1.out.lt).four; clear hb)
        | (go_at_call 61; (with_reducible refine (L.out _).mono ?_); rintro e w2 ⟨rfl, hb⟩; have B4 := Lib.hid (B3.out.trans (hb.mono B3.out.size)); have C4 := C3.out.trans (hb.mono C3.out.size); obtain ⟨d0, d1, d2, d3, d4⟩ := ((K1.out.below C4 K1.out.lt).alloc (.cells #[.int .i64 2, .int .i64 2] 40)).four; obtain ⟨e0, e1, e2, e3, e4⟩ := ((K2.out.below C4 K2.out.lt).alloc (.cells #[.int .i64 2, .int .i64 2] 40)).two; have B5 := Lib.hid (B4.out.alloc B4.out.size (.cells #[.int .i64 2, .int .i64 2] 40)); clear hb C4))
      go_ret
      exact ⟨rfl, B5.out⟩
  · have d := decide_eq_false h1
    clear h
    go_enter Tryd.func27, Tryd.ntmps27
    go_wp2_with fail
    generalize (w.alloc (.cells #[.int .i64 (-2), .int .i64 (-2), .int .i64 5, .int .i64 5] 58)).alloc (.cells #[.int .i64 x, .int .i64 y] 40) = w0 at K1 K2 B2 ⊢
    obtain ⟨a0, a1, a2, a3, a4⟩ := K1.four
    have K1 := Lib.hid K1
    have K2 := Lib.hid K2
    have B2 := Lib.hid B2
    go_wp2_with (first
      | (go_at_call 60; (with_reducible refine (R.out _).mono ?_); rintro e w1 ⟨rfl, hb⟩; have B3 := Lib.hid (B2.out.trans (hb.mono B2.out.size)); have C3 := Lib.hid hb; obtain ⟨b0, b1, b2, b3, b4⟩ := (K1.out.below hb K1.out.lt).four; clear hb)
      | (go_at_call 61; (with_reducible refine (L.out _).mono ?_); rintro e w2 ⟨rfl, hb⟩; have B4 := Lib.hid (B3.out.trans (hb.mono B3.out.size)); have C4 := C3.out.trans (hb.mono C3.out.size); obtain ⟨d0, d1, d2, d3, d4⟩ := ((K1.out.below C4 K1.out.lt).alloc (.cells #[.int .i64 2, .int .i64 2] 40)).four; obtain ⟨e0, e1, e2, e3, e4⟩ := ((K2.out.below C4 K2.out.lt).alloc (.cells #[.int .i64 2, .int .i64 2] 40)).two; have B5 := Lib.hid (B4.out.alloc B4.out.size (.cells #[.int .i64 2, .int .i64 2] 40)); clear hb C4))
    go_ret
    exact ⟨rfl, B5.out⟩

theorem hd_no1 {f : Nat → P2} {n j : Nat} (hj : j < n) (h : ¬ ofs (f j)) : decide (Hd f n) = false := decide_eq_false fun h' => h (h'.2.1 j hj)
theorem hd_no2 {f : Nat → P2} {n j : Nat} (hj : j + 1 < n) (h : ¬ pc (f j) (f (j + 1)) < 0) : decide (Hd f n) = false := decide_eq_false fun h' => h (h'.2.2 j (by omega))

set_option maxRecDepth 100000 in
set_option maxHeartbeats 4000000 in
theorem hright_all (A : Option Addr) (n c : Nat) (f : Nat → P2) (w : World) (h : QReads w w.heap.size A n f) (hn : n ≤ 1000) :
    Calls Tryd.prog 8 #[.slice A n c] w fun e w' => e = .returned (.bool (decide (Hd f n))) ∧ Below w.heap.size w w' := by
  by_cases hn1 : 1 ≤ n
  · by_cases hn2 : n ≤ 25
    · have hl1 : ¬ ((n : Int) < 1) := by omega
      have hl2 : ¬ (25 < (n : Int)) := by omega
      have H := Lib.hid h
      have SQ := Lib.hid (fun w => square_any 2 5 w (by omega) (by omega) (by omega))
      clear h
      go_enter Tryd.func8, Tryd.ntmps8
      go_wp2
      go_loopw [15] (fun iv wr => ∃ j : Nat, j ≤ n ∧ iv = .int .i64 (j : Int) ∧ ((∀ i, i < j → ofs (f i)) ∧ ∀ i, i + 1 < j → pc (f i) (f (i + 1)) < 0) ∧ Below w.heap.size w wr) (fun iv _ => n - (intOf iv).toNat)
      case atStart => exact ⟨0, Nat.zero_le _, rfl, ⟨fun i hi => absurd hi (by omega), fun i hi => absurd hi (by omega)⟩, Below.refl _ _⟩
      case round =>
        obtain ⟨j, hj, rfl, hso, hbel⟩ := hrel
        have R := H.out.below hbel
        have HB := Lib.hid hbel
        have HS := Lib.hid hso
        clear hso
        by_cases hjn : j < n
        · obtain ⟨g1, o1, rfl, hb1, hc1⟩ := R (by omega)
          have c1 := hc1 j hjn
          have hgw : g1 < wr.heap.size := Nat.lt_of_lt_of_le hb1 hbel.size
          clear hbel
          obtain ⟨⟨x1, x2⟩, hx⟩ : ∃ x, x = f j := ⟨_, rfl⟩
          rw [← hx] at c1
          obtain ⟨c10, c11⟩ := c1
          simp only at c10 c11
          have K7 := Lib.hid (Blk.new wr 40 #[.int .i64 x1, .int .i64 x2])
          have B7 := Lib.hid (HB.out.alloc HB.out.size (.cells #[.int .i64 x1, .int .i64 x2] 40))
          have BW := Lib.hid ((Below.refl wr.heap.size wr).alloc (Nat.le_refl _) (.cells #[.int .i64 x1, .int .i64 x2] 40))
          have HX := Lib.hid hx
          have S7 : wr.heap.size < (wr.alloc (.cells #[.int .i64 x1, .int .i64 x2] 40)).heap.size := by simp
          by_cases hof : ofs (x1, x2)
          · have IN := Lib.hid (fun w => in_any x1 x2 w hof.1 hof.2.1 hof.2.2.1 hof.2.2.2)
            have HO := Lib.hid hof
            clear hof
            by_cases hj0 : j = 0
            · subst hj0
              simp only [Nat.zero_mul, Nat.add_zero, Nat.zero_add] at c10 c11
              clear hc1 R hx
              go_wp2_with fail
              generalize wr.alloc (.cells #[.int .i64 x1, .int .i64 x2] 40) = w1 at K7 B7 BW S7 ⊢
              have q0 := fun p : LowW w1.heap.size w1 => (K7.out.below p.below K7.out.lt).two.1
              have q1 := fun p : LowW w1.heap.size w1 => (K7.out.below p.below K7.out.lt).two.2.1
              refine wp_region_low w1.heap.size w1 (by kernel_rfl) (by kernel_rfl) (Below.refl _ _) ?_
              repeat (quiet_step (first | (go_at_call 28; with_reducible exact LowW.of_call _ (Nat.le_refl _) (SQ.out _)) | (go_at_call 27; with_reducible exact LowW.of_call _ (Nat.le_refl _) (IN.out _))))
              refine wpQuiet_nil ?_
              rintro w2 ⟨p, rfl⟩
              have B2 := Lib.hid (B7.out.trans (p.below.mono B7.out.size))
              clear q0 q1
              generalize p.w = w2 at B2 ⊢
              go_wp2_with fail
              go_region
              all_goals go_wp2
              all_goals go_roundw
              case rel => exact ⟨0 + 1, by omega, by go_num, ⟨fun i hi => by
                obtain rfl : i = 0 := by omega
                rw [← HX.out]; exact HO.out, fun i hi => absurd hi (by omega)⟩, B2.out.drew⟩
              case measure => simp [intOf]; omega
            · obtain ⟨i, hi⟩ : ∃ i, j = i + 1 := ⟨j - 1, by omega⟩
              have hin : i < n := by omega
              have e1 : (j : Int) - 1 = (i : Int) := by omega
              have hd1 : decide (0 < (j : Int)) = true := by rw [decide_eq_true_iff]; omega
              have hd2 : decide (0 < j) = true := by rw [decide_eq_true_iff]; omega
              have hw1 : IntKind.i64.wrap ((j : Int) - 1) = (i : Int) := by rw [e1]; exact IntWalk.i64_in _ (by omega)
              have c2 := hc1 i hin
              obtain ⟨⟨y1, y2⟩, hy⟩ : ∃ y, y = f i := ⟨_, rfl⟩
              rw [← hy] at c2
              have P := fun w => pcompare_any y1 y2 x1 x2 w
              have HPC := Lib.hid (show pc (f i) (f (i + 1)) = or2 (sg y2 x2) (sg y1 x1) by rw [← hi, ← hx, ← hy]; rfl)
              generalize or2 (sg y2 x2) (sg y1 x1) = r at P HPC
              have zz := Lib.hid P
              (try clear P)
              have P := zz
              clear zz
              have C2 := Lib.hid c2
              have HI := Lib.hid hi
              by_cases hr : 0 ≤ r
              all_goals
                clear hc1 R hx hy hi hj0 c2 e1
                go_wp2_with fail
                generalize wr.alloc (.cells #[.int .i64 x1, .int .i64 x2] 40) = w1 at K7 B7 BW S7 ⊢
                have q0 := fun p : LowW w1.heap.size w1 => (K7.out.below p.below K7.out.lt).two.1
                have q1 := fun p : LowW w1.heap.size w1 => (K7.out.below p.below K7.out.lt).two.2.1
                refine wp_region_low w1.heap.size w1 (by kernel_rfl) (by kernel_rfl) (Below.refl _ _) ?_
                repeat (quiet_step (first | (go_at_call 28; with_reducible exact LowW.of_call _ (Nat.le_refl _) (SQ.out _)) | (go_at_call 27; with_reducible exact LowW.of_call _ (Nat.le_refl _) (IN.out _))))
                refine wpQuiet_nil ?_
                rintro w2 ⟨p, rfl⟩
                have B2 := Lib.hid (B7.out.trans (p.below.mono B7.out.size))
                have BX := Lib.hid (BW.out.trans (p.below.mono BW.out.size))
                have K8 := Lib.hid (K7.out.below p.below K7.out.lt)
                clear q0 q1
                generalize p.w = w2 at B2 BX K8 ⊢
                go_wp2_with fail
                have d0 := fun p : LowW w2.heap.size w2 => LowW.cell (a := ⟨g1, o1 + i * 2, none⟩) (Nat.lt_of_lt_of_le hgw BX.out.size) ((BX.out.cell hgw).trans C2.out.1) p
                have d1 := fun p : LowW w2.heap.size w2 => LowW.cell (a := ⟨g1, o1 + i * 2 + 1, none⟩) (Nat.lt_of_lt_of_le hgw BX.out.size) ((BX.out.cell hgw).trans C2.out.2) p
                have q0 := fun p : LowW w2.heap.size w2 => (K8.out.below p.below K8.out.lt).two.1
                have q1 := fun p : LowW w2.heap.size w2 => (K8.out.below p.below K8.out.lt).two.2.1
                clear c10 c11
                refine wp_region_low w2.heap.size w2 (by kernel_rfl) (by kernel_rfl) (Below.refl _ _) ?_
                repeat (quiet_step (first | (go_at_call 29; with_reducible exact LowW.of_call _ (Nat.le_refl _) (P.out _))))
                refine wpQuiet_nil ?_
                rintro w3 ⟨p, rfl⟩
                have B3 := Lib.hid (B2.out.trans (p.below.mono B2.out.size))
                clear d0 d1 q0 q1 hw1
                generalize p.w = w3 at B3 ⊢
              · have HF := Lib.hid (hd_no2 (f := f) (n := n) (j := i) (by rw [← HI.out]; exact hjn) (by rw [HPC.out]; omega))
                go_wp2
                go_ret
                exact ⟨ret_bool HF.out.symm, B3.out⟩
              · have HR := Lib.hid (show r < 0 by omega)
                go_wp2
                go_roundw
                case rel => exact ⟨j + 1, by omega, by go_num, ⟨fun i' hi' => by
                  by_cases e : i' < j
                  · exact HS.out.1 i' e
                  · obtain rfl : i' = j := by omega
                    rw [← HX.out]; exact HO.out, fun i' hi' => by
                  by_cases e : i' + 1 < j
                  · exact HS.out.2 i' e
                  · obtain rfl : i' = i := by have := HI.out; omega
                    rw [HPC.out]; exact HR.out⟩, B3.out⟩
                case measure => simp [intOf]; omega
          · have IN := Lib.hid (fun w => in_no x1 x2 w hof)
            have HF := Lib.hid (hd_no1 (f := f) hjn (by rw [← hx]; exact hof))
            clear hof hc1 R hx
            go_wp2_with fail
            generalize wr.alloc (.cells #[.int .i64 x1, .int .i64 x2] 40) = w1 at K7 B7 BW S7 ⊢
            have q0 := fun p : LowW w1.heap.size w1 => (K7.out.below p.below K7.out.lt).two.1
            have q1 := fun p : LowW w1.heap.size w1 => (K7.out.below p.below K7.out.lt).two.2.1
            refine wp_region_low w1.heap.size w1 (by kernel_rfl) (by kernel_rfl) (Below.refl _ _) ?_
            repeat (quiet_step (first | (go_at_call 28; with_reducible exact LowW.of_call _ (Nat.le_refl _) (SQ.out _)) | (go_at_call 27; with_reducible exact LowW.of_call _ (Nat.le_refl _) (IN.out _))))
            refine wpQuiet_nil ?_
            rintro w2 ⟨p, rfl⟩
            have B2 := Lib.hid (B7.out.trans (p.below.mono B7.out.size))
            clear q0 q1
            generalize p.w = w2 at B2 ⊢
            go_wp2
            go_ret
            exact ⟨ret_bool HF.out.symm, B2.out⟩
        · obtain rfl : j = n := by omega
          have HF := Lib.hid (show decide (Hd f j) = true from decide_eq_true ⟨⟨hn1, hn2⟩, HS.out.1, fun i hi => HS.out.2 i (by omega)⟩)
          clear R hbel
          go_wp2
          go_ret
          exact ⟨ret_bool HF.out.symm, HB.out⟩
    · have HF := Lib.hid (show decide (Hd f n) = false from decide_eq_false fun h => hn2 h.1.2)
      have hl1 : ¬ ((n : Int) < 1) := by omega
      have hl2 : 25 < (n : Int) := by omega
      clear h
      go_enter Tryd.func8, Tryd.ntmps8
      go_wp2
      go_ret
      exact ⟨ret_bool HF.out.symm, Below.refl _ _⟩
  · have HF := Lib.hid (show decide (Hd f n) = false from decide_eq_false fun h => hn1 h.1.1)
    have hl1 : (n : Int) < 1 := by omega
    clear h
    go_enter Tryd.func8, Tryd.ntmps8
    go_wp2
    go_ret
    exact ⟨ret_bool HF.out.symm, Below.refl _ _⟩
end Go.Proofs.YthgnjjpkmikokaaDoor
namespace Go.Proofs.YthgnjjpkmikokaaDoor
open Go.RowKit

/-- the first number below n with a property; -1 if there is none -/
def fx (p : Nat → Bool) : Nat → Int
  | 0 => -1
  | n + 1 => if 0 ≤ fx p n then fx p n else if p n = true then (n : Int) else -1
theorem fx_none {p : Nat → Bool} {n : Nat} (h : ∀ i, i < n → p i = false) : fx p n = -1 := by
  induction n with
  | zero => rfl
  | succ n ih => rw [fx, ih (fun i hi => h i (by omega)), h n (by omega)]; simp
theorem fx_some {p : Nat → Bool} {n j : Nat} (hj : j < n) (h : ∀ i, i < j → p i = false) (hp : p j = true) : fx p n = (j : Int) := by
  induction n with
  | zero => omega
  | succ n ih =>
    rw [fx]
    by_cases e : j < n
    · rw [ih e, if_pos (by omega)]
    · obtain rfl : j = n := by omega
      rw [fx_none h, hp]
      simp
theorem fx_cases (p : Nat → Bool) (n : Nat) : (∃ j, j < n ∧ fx p n = (j : Int) ∧ p j = true ∧ ∀ i, i < j → p i = false) ∨ (fx p n = -1 ∧ ∀ i, i < n → p i = false) := by
  induction n with
  | zero => exact .inr ⟨rfl, fun i hi => absurd hi (by omega)⟩
  | succ n ih =>
    rcases ih with ⟨j, hj, e, h1, h2⟩ | ⟨e, h1⟩
    · exact .inl ⟨j, by omega, by rw [fx, e, if_pos (by omega)], h1, h2⟩
    · cases hp : p n with
      | true => exact .inl ⟨n, by omega, by rw [fx, e, hp]; simp, hp, h1⟩
      | false => exact .inr ⟨by rw [fx, e, hp]; simp, fun i hi => by
          by_cases e : i < n
          · exact h1 i e
          · obtain rfl : i = n := by omega
            exact hp⟩
theorem fx_congr {p q : Nat → Bool} {n : Nat} (h : ∀ i, i < n → p i = q i) : fx p n = fx q n := by
  induction n with
  | zero => rfl
  | succ n ih => rw [fx, fx, ih (fun i hi => h i (by omega)), h n (by omega)]

/-- where a number stands first in a list -/
def ix (l : List Int) (k : Int) : Int := fx (fun i => decide (ig l i = k)) l.length
/-- where a position stands first in a list -/
def px (f : Nat → P2) (n : Nat) (a : P2) : Int := fx (fun i => decide (f i = a)) n

end Go.Proofs.YthgnjjpkmikokaaDoor
namespace Go.Proofs.YthgnjjpkmikokaaDoor
open Go.RowKit

/-- the radius of the first n offsets -/
def rd (f : Nat → P2) : Nat → Int
  | 0 => 0
  | n + 1 => max (rd f n) (max (ab (f n).1) (ab (f n).2))
theorem rd_bd (f : Nat → P2) (n : Nat) (h : ∀ i, i < n → -2 ≤ (f i).1 ∧ (f i).1 ≤ 2 ∧ -2 ≤ (f i).2 ∧ (f i).2 ≤ 2) : 0 ≤ rd f n ∧ rd f n ≤ 2 := by
  induction n with
  | zero => simp [rd]
  | succ n ih =>
    have h1 := ih fun i hi => h i (by omega)
    have h2 := h n (by omega)
    unfold rd ab
    omega

theorem run_max3 {P : Program} (w : World) (ts : Array TypeId) (t : TypeId) (k : IntKind) (x y z : Int) : (Builtin.max_ ts t #[.int k x, .int k y, .int k z]).run P w = .ok (.int k (max x (max y z))) w := by
  have e : (if z > (if y > x then y else x) then z else (if y > x then y else x)) = max x (max y z) := by
    split <;> split at * <;> omega
  simp [Builtin.max_, Builtin.max2, e]
set_option maxRecDepth 100000 in
set_option maxHeartbeats 2000000 in
theorem radius_any (A : Option Addr) (n c : Nat) (f : Nat → P2) (w : World) (h : QReads w w.heap.size A n f) (hd : Hd f n) :
    Calls Tryd.prog 53 #[.slice A n c] w fun e w' => e = .returned (.int .i64 (rd f n)) ∧ Below w.heap.size w w' := by
  have RI := Lib.hid (hright_any A n c f w h hd)
  obtain ⟨⟨hn1, hn2⟩, hin, hup⟩ := hd
  have H := Lib.hid h
  have HI := Lib.hid hin
  clear h hin hup
  go_enter Tryd.func53, Tryd.ntmps53
  go_wp2_with (go_at_call 8; (with_reducible refine RI.out.mono ?_); rintro e w1 ⟨rfl, hb⟩; have B1 := Lib.hid hb; clear hb)
  go_loopw [3, 11] (fun rv iv wr => ∃ j : Nat, j ≤ n ∧ rv = .int .i64 (rd f j) ∧ iv = .int .i64 (j : Int) ∧ Below w.heap.size w wr) (fun _ iv _ => n - (intOf iv).toNat)
  case atStart => exact ⟨0, Nat.zero_le _, rfl, rfl, B1.out⟩
  case round =>
    obtain ⟨j, hj, rfl, rfl, hbel⟩ := hrel
    have R := H.out.below hbel
    have HB := Lib.hid hbel
    by_cases hjn : j < n
    · obtain ⟨g1, o1, rfl, hb1, hc1⟩ := R (by omega)
      have c1 := hc1 j hjn
      have hgw : g1 < wr.heap.size := Nat.lt_of_lt_of_le hb1 hbel.size
      have hx4 := HI.out j hjn
      have hr := rd_bd f j (fun i hi => HI.out i (by omega))
      clear hbel
      have hs : rd f (j + 1) = max (rd f j) (max (ab (f j).1) (ab (f j).2)) := rfl
      generalize f j = x at c1 hx4 hs
      obtain ⟨x1, x2⟩ := x
      obtain ⟨c10, c11⟩ := c1
      simp only at c10 c11 hx4 hs
      have S1 := Lib.hid (fun w => size_any x1 w (by omega) (by omega))
      have S2 := Lib.hid (fun w => size_any x2 w (by omega) (by omega))
      have b1 : 0 ≤ ab x1 ∧ ab x1 ≤ 2 := by unfold ab; omega
      have b2 : 0 ≤ ab x2 ∧ ab x2 ≤ 2 := by unfold ab; omega
      generalize rd f j = r at hr hs ⊢
      generalize ab x1 = s1 at S1 b1 hs
      generalize ab x2 = s2 at S2 b2 hs
      have hm : ∀ (w : World) (ts : Array TypeId) (t : TypeId), (Builtin.max_ ts t #[.int .i64 r, .int .i64 s1, .int .i64 s2]).run Tryd.prog w = .ok (.int .i64 (rd f (j + 1))) w := fun w ts t => by rw [hs]; exact run_max3 w ts t .i64 r s1 s2
      obtain ⟨r', hr'⟩ : ∃ r', r' = rd f (j + 1) := ⟨_, rfl⟩
      rw [← hr'] at hm
      have HR' := Lib.hid hr'
      clear hr'
      have B7 := Lib.hid (HB.out.alloc HB.out.size (.cells #[.int .i64 x1, .int .i64 x2] 40))
      clear hc1 R hx4 hs
      go_wp2_with fail
      go_quiet (first | (go_at_call 79; exact Calls.quiet_of_same ((S1.out _).mono fun _ _ h => ⟨h.1, h.2.symm⟩)) | (go_at_call 79; exact Calls.quiet_of_same ((S2.out _).mono fun _ _ h => ⟨h.1, h.2.symm⟩)))
      all_goals go_wp2
      all_goals go_roundw
      case rel => exact ⟨j + 1, by omega, by rw [HR'.out], by go_num, below_drewN B7.out _⟩
      case measure => simp [intOf]; omega
    · obtain rfl : j = n := by omega
      clear R hbel
      go_wp2
      go_ret
      exact ⟨rfl, HB.out⟩

set_option maxRecDepth 100000 in
set_option maxHeartbeats 2000000 in
theorem pindex_any (A : Option Addr) (n c : Nat) (f : Nat → P2) (u v : Int) (w : World) (h : QReads w w.heap.size A n f) (hn : n ≤ 1000) :
    Calls Tryd.prog 54 #[.slice A n c, .agg #[.int .i64 u, .int .i64 v]] w fun e w' => e = .returned (.int .i64 (px f n (u, v))) ∧ Below w.heap.size w w' := by
  have H := Lib.hid h
  have K0 := Lib.hid (Blk.new w 40 #[.int .i64 u, .int .i64 v])
  have B0 := Lib.hid ((Below.refl w.heap.size w).alloc (Nat.le_refl _) (.cells #[.int .i64 u, .int .i64 v] 40))
  clear h
  go_enter Tryd.func54, Tryd.ntmps54
  go_wp2_with fail
  generalize w.alloc (.cells #[.int .i64 u, .int .i64 v] 40) = w0 at K0 B0 ⊢
  go_wp2
  go_loopw [8] (fun iv wr => ∃ j : Nat, j ≤ n ∧ iv = .int .i64 (j : Int) ∧ (∀ i, i < j → f i ≠ (u, v)) ∧ Below w0.heap.size w0 wr) (fun iv _ => n - (intOf iv).toNat)
  case atStart => exact ⟨0, Nat.zero_le _, rfl, fun i hi => absurd hi (by omega), Below.refl _ _⟩
  case round =>
    obtain ⟨j, hj, rfl, hno, hbel⟩ := hrel
    have HB := Lib.hid (B0.out.trans (hbel.mono B0.out.size))
    have HX := Lib.hid hbel
    have HN := Lib.hid hno
    obtain ⟨k0, k1, k2, k3, k4⟩ := (K0.out.below hbel K0.out.lt).two
    clear hno hbel
    by_cases hjn : j < n
    · obtain ⟨g1, o1, rfl, hb1, hc1⟩ := H.out.below HB.out (by omega)
      obtain ⟨c0, c1⟩ := hc1 j hjn
      clear hc1
      obtain ⟨⟨x, y⟩, hx⟩ : ∃ x, x = f j := ⟨_, rfl⟩
      rw [← hx] at c0 c1
      simp only at c0 c1
      by_cases he : (x, y) = (u, v)
      · have HF := Lib.hid (show px f n (u, v) = (j : Int) from fx_some hjn (fun i hi => decide_eq_false (HN.out i hi)) (decide_eq_true (by rw [← hx]; exact he)))
        obtain ⟨rfl, rfl⟩ : x = u ∧ y = v := by injection he with h1 h2; exact ⟨h1, h2⟩
        clear hx he
        go_wp2_with fail
        go_quiet (fail)
        go_wp2
        go_ret
        exact ⟨ret_int HF.out.symm, below_drewN HB.out _⟩
      · have HS := Lib.hid (show ∀ i, i < j + 1 → f i ≠ (u, v) from fun i hi => by
          by_cases e : i < j
          · exact HN.out i e
          · obtain rfl : i = j := by omega
            rw [← hx]; exact he)
        clear hx
        by_cases e1 : u = x
        · subst e1
          have e2 : (v == y) = false := by rw [beq_eq_false_iff_ne]; intro e; exact he (by rw [e])
          clear he
          go_wp2_with fail
          go_quiet (fail)
          go_wp2
          go_roundw
          case rel => exact ⟨j + 1, by omega, by go_num, HS.out, below_drewN HX.out _⟩
          case measure => simp [intOf]; omega
        · have e1 : (u == x) = false := by rw [beq_eq_false_iff_ne]; intro e; exact e1 (by rw [e])
          clear he
          go_wp2_with fail
          go_quiet (fail)
          go_wp2
          go_roundw
          case rel => exact ⟨j + 1, by omega, by go_num, HS.out, below_drewN HX.out _⟩
          case measure => simp [intOf]; omega
    · obtain rfl : j = n := by omega
      have HF := Lib.hid (show px f j (u, v) = -1 from fx_none fun i hi => decide_eq_false (HN.out i hi))
      go_wp2
      go_ret
      exact ⟨ret_int HF.out.symm, HB.out⟩
end Go.Proofs.YthgnjjpkmikokaaDoor
