/- The walks of the reference's order of positions and of its Right for neighbourhoods. -/
import Derived.Test.YtaicehkphokacaaMad
import Derived.Test.YtaicehkphokacaaMag
import Derived.Test.YtaicehkphokacaaMaa
import Derived.Test.YtaicehkphokacaaMab
import Derived.Test.YtaicehkphokacaaMah
import Derived.Below
import Derived.BigQuiet
import Derived.Deep.AppendLies
import Derived.Deep.CutRange
import Derived.Deep.Draws
import Derived.Deep.QuietTactic
import Derived.IntWalk
import Derived.Laws.OwnMore
import Derived.Laws.Rows
import Derived.Lib.Hide
import Derived.LoopN
import Derived.OwnWalk
import Derived.StillTail
import Derived.StillTailTactics
import Derived.Test.YtaicehkphokacaaRows
import Derived.WalkKit
namespace Go.Proofs.Ytaicehkphokacaa
open Go.RowKit
theorem before_any (x y u v : Int) (w : World) :
    Calls Try.prog 62 #[.agg #[.int .i64 x, .int .i64 y], .agg #[.int .i64 u, .int .i64 v]] w fun e w' => e = .returned (.bool (decide (pc (x, y) (u, v) < 0))) ∧ Below w.heap.size w w' := by
  have B2 : Below w.heap.size w ((w.alloc (.cells #[.int .i64 x, .int .i64 y] 52)).alloc (.cells #[.int .i64 u, .int .i64 v] 52)) := ((Below.refl _ _).alloc (Nat.le_refl _) _).alloc (by simp) _
  have HP := Lib.hid (pc_lt (x, y) (u, v))
  by_cases h1 : y < v
  · have HD := Lib.hid (show decide (pc (x, y) (u, v) < 0) = true by rw [decide_eq_true_iff, HP.out]; exact .inl h1)
    go_enter Try.func62, Try.ntmps62
    go_wp2
    go_ret
    exact ⟨ret_bool HD.out.symm, B2⟩
  · by_cases h2 : y = v
    · subst h2
      by_cases h3 : x < u
      · have HD := Lib.hid (show decide (pc (x, y) (u, y) < 0) = true by rw [decide_eq_true_iff, HP.out]; exact .inr ⟨rfl, h3⟩)
        have d := decide_eq_false h1
        clear h1
        go_enter Try.func62, Try.ntmps62
        go_wp2
        go_ret
        exact ⟨ret_bool HD.out.symm, B2⟩
      · have HD := Lib.hid (show decide (pc (x, y) (u, y) < 0) = false by rw [decide_eq_false_iff_not, HP.out]; simp only; omega)
        have d := decide_eq_false h1
        have d3 := decide_eq_false h3
        clear h1 h3
        go_enter Try.func62, Try.ntmps62
        go_wp2
        go_ret
        exact ⟨ret_bool HD.out.symm, B2⟩
    · have HD := Lib.hid (show decide (pc (x, y) (u, v) < 0) = false by rw [decide_eq_false_iff_not, HP.out]; simp only; omega)
      have d := decide_eq_false h1
      have d3 : (y == v) = false := by rw [beq_eq_false_iff_ne]; exact h2
      clear h1 h2
      go_enter Try.func62, Try.ntmps62
      go_wp2
      go_ret
      exact ⟨ret_bool HD.out.symm, B2⟩

set_option maxRecDepth 100000 in
set_option maxHeartbeats 4000000 in
theorem rright_all (A : Option Addr) (n c : Nat) (f : Nat → P2) (w : World) (h : QReads w w.heap.size A n f) (hn : n ≤ 1000) :
    Calls Try.prog 39 #[.slice A n c] w fun e w' => BoolThat (Hd f n) w e w' := by
  have HD := Lib.hid (show (1 ≤ n ∧ n ≤ 25) → (∀ i, i < n → ofs (f i)) → (∀ i, i + 1 < n → pc (f i) (f (i + 1)) < 0) → Hd f n from fun a b c => ⟨a, b, fun i hi => c i (by omega)⟩)
  generalize Hd f n = HDN at HD ⊢
  by_cases hn1 : 1 ≤ n
  · by_cases hn2 : n ≤ 25
    · have hl1 : decide ((n : Int) < 1) = false := by rw [decide_eq_false_iff_not]; omega
      have hl2 : decide (25 < (n : Int)) = false := by rw [decide_eq_false_iff_not]; omega
      have H := Lib.hid h
      clear h
      go_enter Try.func39, Try.ntmps39
      go_wp2
      go_loopw [3] (fun iv wr => ∃ j : Nat, j ≤ n ∧ iv = .int .i64 (j : Int) ∧ ((∀ i, i < j → ofs (f i)) ∧ ∀ i, i + 1 < j → pc (f i) (f (i + 1)) < 0) ∧ Below w.heap.size w wr) (fun iv _ => n - (intOf iv).toNat)
      case atStart => exact ⟨0, Nat.zero_le _, rfl, ⟨fun i hi => absurd hi (by omega), fun i hi => absurd hi (by omega)⟩, Below.refl _ _⟩
      case round =>
        obtain ⟨j, hj, rfl, hso, hbel⟩ := hrel
        have R := H.out.below hbel
        have HB := Lib.hid hbel
        have HS := Lib.hid hso
        clear hso
        by_cases hjn : j < n
        · obtain ⟨g1, o1, rfl, hb1, hc1⟩ := R (by omega)
          have c1 := hc1 j hjn
          have hgw : g1 < wr.heap.size := Nat.lt_of_lt_of_le hb1 hbel.size
          clear hbel
          obtain ⟨⟨x1, x2⟩, hx⟩ : ∃ x, x = f j := ⟨_, rfl⟩
          rw [← hx] at c1
          obtain ⟨c10, c11⟩ := c1
          simp only at c10 c11
          have K7 := Lib.hid (Blk.new wr 52 #[.int .i64 x1, .int .i64 x2])
          have B7 := Lib.hid (HB.out.alloc HB.out.size (.cells #[.int .i64 x1, .int .i64 x2] 52))
          have BW := Lib.hid ((Below.refl wr.heap.size wr).alloc (Nat.le_refl _) (.cells #[.int .i64 x1, .int .i64 x2] 52))
          have HX := Lib.hid hx
          have S7 : wr.heap.size < (wr.alloc (.cells #[.int .i64 x1, .int .i64 x2] 52)).heap.size := by simp
          by_cases b1 : x1 < -2
          · have e1 : decide (x1 < -2) = true := decide_eq_true b1
            clear hc1 R hx b1
            go_wp2_with fail
            generalize wr.alloc (.cells #[.int .i64 x1, .int .i64 x2] 52) = w1 at K7 B7 BW S7 ⊢
            obtain ⟨q0, q1, q2, q3, q4⟩ := K7.out.two
            go_quiet (fail)
            go_wp2
            go_ret
            exact ⟨_, rfl, fun h => (by cases h), below_drewN B7.out _⟩
          · have e1 : decide (x1 < -2) = false := decide_eq_false b1
            by_cases b2 : 2 < x1
            · have e2 : decide (2 < x1) = true := decide_eq_true b2
              clear hc1 R hx b1 b2
              go_wp2_with fail
              generalize wr.alloc (.cells #[.int .i64 x1, .int .i64 x2] 52) = w1 at K7 B7 BW S7 ⊢
              obtain ⟨q0, q1, q2, q3, q4⟩ := K7.out.two
              go_quiet (fail)
              go_wp2
              go_ret
              exact ⟨_, rfl, fun h => (by cases h), below_drewN B7.out _⟩
            · have e2 : decide (2 < x1) = false := decide_eq_false b2
              by_cases b3 : x2 < -2
              · have e3 : decide (x2 < -2) = true := decide_eq_true b3
                clear hc1 R hx b1 b2 b3
                go_wp2_with fail
                generalize wr.alloc (.cells #[.int .i64 x1, .int .i64 x2] 52) = w1 at K7 B7 BW S7 ⊢
                obtain ⟨q0, q1, q2, q3, q4⟩ := K7.out.two
                go_quiet (fail)
                go_wp2
                go_ret
                exact ⟨_, rfl, fun h => (by cases h), below_drewN B7.out _⟩
              · have e3 : decide (x2 < -2) = false := decide_eq_false b3
                by_cases b4 : 2 < x2
                · have e4 : decide (2 < x2) = true := decide_eq_true b4
                  clear hc1 R hx b1 b2 b3 b4
                  go_wp2_with fail
                  generalize wr.alloc (.cells #[.int .i64 x1, .int .i64 x2] 52) = w1 at K7 B7 BW S7 ⊢
                  obtain ⟨q0, q1, q2, q3, q4⟩ := K7.out.two
                  go_quiet (fail)
                  go_wp2
                  go_ret
                  exact ⟨_, rfl, fun h => (by cases h), below_drewN B7.out _⟩
                · have e4 : decide (2 < x2) = false := decide_eq_false b4
                  have HO := Lib.hid (show ofs (f j) from by rw [← hx]; exact ⟨by omega, by omega, by omega, by omega⟩)
                  have HS2 := Lib.hid (show ∀ i, i < j + 1 → ofs (f i) from fun i hi => by
                    by_cases e : i < j
                    · exact HS.out.1 i e
                    · obtain rfl : i = j := by omega
                      exact HO.out)
                  by_cases hj0 : j = 0
                  · subst hj0
                    have d0 : decide ((0 : Int) < 0) = false := by decide
                    have d00 : decide ((0 : Nat) < 0) = false := by decide
                    simp only [Nat.zero_mul, Nat.add_zero, Nat.zero_add] at c10 c11
                    clear hc1 R hx b1 b2 b3 b4
                    go_wp2_with fail
                    generalize wr.alloc (.cells #[.int .i64 x1, .int .i64 x2] 52) = w1 at K7 B7 BW S7 ⊢
                    obtain ⟨q0, q1, q2, q3, q4⟩ := K7.out.two
                    go_quiet (fail)
                    go_wp2
                    go_roundw
                    case rel => exact ⟨0 + 1, by omega, by go_num, ⟨HS2.out, fun i hi => absurd hi (by omega)⟩, below_drewN B7.out _⟩
                    case measure => simp [intOf]; omega
                  · obtain ⟨i, hi⟩ : ∃ i, j = i + 1 := ⟨j - 1, by omega⟩
                    have hin : i < n := by omega
                    have e0 : (j : Int) - 1 = (i : Int) := by omega
                    have hd1 : decide (0 < (j : Int)) = true := by rw [decide_eq_true_iff]; omega
                    have hd2 : decide (0 < j) = true := by rw [decide_eq_true_iff]; omega
                    have hw1 : IntKind.i64.wrap ((j : Int) - 1) = (i : Int) := by rw [e0]; exact IntWalk.i64_in _ (by omega)
                    have c2 := hc1 i hin
                    obtain ⟨⟨y1, y2⟩, hy⟩ : ∃ y, y = f i := ⟨_, rfl⟩
                    rw [← hy] at c2
                    have P := fun w => before_any y1 y2 x1 x2 w
                    have HQ := Lib.hid (show decide (pc (y1, y2) (x1, x2) < 0) = true → ∀ i', i' + 1 < j + 1 → pc (f i') (f (i' + 1)) < 0 from fun hq i' hi' => by
                      by_cases e : i' + 1 < j
                      · exact HS.out.2 i' e
                      · obtain rfl : i' = i := by omega
                        rw [← hi, ← hx, ← hy]; exact of_decide_eq_true hq)
                    generalize decide (pc (y1, y2) (x1, x2) < 0) = q at P HQ
                    have PH := Lib.hid P
                    have C2 := Lib.hid c2
                    clear hc1 R hx b1 b2 b3 b4 hy hi hj0 c2 e0 P
                    cases q with
                    | true =>
                      have HQT := Lib.hid (HQ.out rfl)
                      go_wp2_with fail
                      generalize wr.alloc (.cells #[.int .i64 x1, .int .i64 x2] 52) = w1 at K7 B7 BW S7 ⊢
                      have d0 := fun p : LowW w1.heap.size w1 => LowW.cell (a := ⟨g1, o1 + i * 2, none⟩) (Nat.lt_of_lt_of_le hgw BW.out.size) ((BW.out.cell hgw).trans C2.out.1) p
                      have d1 := fun p : LowW w1.heap.size w1 => LowW.cell (a := ⟨g1, o1 + i * 2 + 1, none⟩) (Nat.lt_of_lt_of_le hgw BW.out.size) ((BW.out.cell hgw).trans C2.out.2) p
                      have q0 := fun p : LowW w1.heap.size w1 => (K7.out.below p.below K7.out.lt).two.1
                      have q1 := fun p : LowW w1.heap.size w1 => (K7.out.below p.below K7.out.lt).two.2.1
                      clear c10 c11
                      refine wp_region_low w1.heap.size w1 (by kernel_rfl) (by kernel_rfl) (Below.refl _ _) ?_
                      repeat (quiet_step (first | (go_at_call 62; with_reducible exact LowW.of_call _ (Nat.le_refl _) (PH.out _))))
                      refine wpQuiet_nil ?_
                      rintro w3 ⟨p, rfl⟩
                      have B3 := Lib.hid (B7.out.trans (p.below.mono B7.out.size))
                      clear d0 d1 q0 q1 hw1
                      generalize p.w = w3 at B3 ⊢
                      go_wp2
                      go_roundw
                      case rel => exact ⟨j + 1, by omega, by go_num, ⟨HS2.out, HQT.out⟩, B3.out⟩
                      case measure => simp [intOf]; omega
                    | false =>
                      go_wp2_with fail
                      generalize wr.alloc (.cells #[.int .i64 x1, .int .i64 x2] 52) = w1 at K7 B7 BW S7 ⊢
                      have d0 := fun p : LowW w1.heap.size w1 => LowW.cell (a := ⟨g1, o1 + i * 2, none⟩) (Nat.lt_of_lt_of_le hgw BW.out.size) ((BW.out.cell hgw).trans C2.out.1) p
                      have d1 := fun p : LowW w1.heap.size w1 => LowW.cell (a := ⟨g1, o1 + i * 2 + 1, none⟩) (Nat.lt_of_lt_of_le hgw BW.out.size) ((BW.out.cell hgw).trans C2.out.2) p
                      have q0 := fun p : LowW w1.heap.size w1 => (K7.out.below p.below K7.out.lt).two.1
                      have q1 := fun p : LowW w1.heap.size w1 => (K7.out.below p.below K7.out.lt).two.2.1
                      clear c10 c11
                      refine wp_region_low w1.heap.size w1 (by kernel_rfl) (by kernel_rfl) (Below.refl _ _) ?_
                      repeat (quiet_step (first | (go_at_call 62; with_reducible exact LowW.of_call _ (Nat.le_refl _) (PH.out _))))
                      refine wpQuiet_nil ?_
                      rintro w3 ⟨p, rfl⟩
                      have B3 := Lib.hid (B7.out.trans (p.below.mono B7.out.size))
                      clear d0 d1 q0 q1 hw1
                      generalize p.w = w3 at B3 ⊢
                      go_wp2
                      go_ret
                      exact ⟨_, rfl, fun h => (by cases h), B3.out⟩
        · obtain rfl : j = n := by omega
          clear R hbel
          go_wp2
          go_ret
          exact ⟨_, rfl, fun _ => HD.out ⟨hn1, hn2⟩ HS.out.1 HS.out.2, HB.out⟩
    · have hl1 : decide ((n : Int) < 1) = false := by rw [decide_eq_false_iff_not]; omega
      have hl2 : decide (25 < (n : Int)) = true := by rw [decide_eq_true_iff]; omega
      clear h
      go_enter Try.func39, Try.ntmps39
      go_wp2
      go_ret
      exact ⟨_, rfl, fun h => (by cases h), Below.refl _ _⟩
  · have hl1 : decide ((n : Int) < 1) = true := by rw [decide_eq_true_iff]; omega
    clear h
    go_enter Try.func39, Try.ntmps39
    go_wp2
    go_ret
    exact ⟨_, rfl, fun h => (by cases h), Below.refl _ _⟩
end Go.Proofs.Ytaicehkphokacaa
