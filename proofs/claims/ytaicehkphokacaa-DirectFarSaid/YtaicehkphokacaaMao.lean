/- The walks of the reference's Place, before and Right. -/
import Derived.Test.YtaicehkphokacaaMad
import Derived.Test.YtaicehkphokacaaMam
import Derived.Test.YtaicehkphokacaaMan
import Derived.Test.YtaicehkphokacaaMab
import Derived.Test.YtaicehkphokacaaMaf
import Derived.Test.YtaicehkphokacaaMaa
import Derived.Below
import Derived.BigQuiet
import Derived.Deep.AppendLies
import Derived.Deep.Draws
import Derived.Deep.QuietTactic
import Derived.IntWalk
import Derived.Laws.OwnMore
import Derived.Laws.Rows
import Derived.Lib.Hide
import Derived.LoopN
import Derived.Sort.Statements
import Derived.StillTail
import Derived.StillTailTactics
import Derived.Test.YtaicehkphokacaaRows
import Derived.WalkKit
namespace Go.Proofs.Ytaicehkphokacaa
open Go.RowKit
theorem rplace_any (a : C3) (w : World) :
    Calls Try.prog 20 #[.int .i64 a.1, .int .i64 a.2.1] w fun e w' => e = .returned (.bool (decide (OkP a))) ∧ w = w' := by
  obtain ⟨x, y, s⟩ := a
  show Calls Try.prog 20 #[.int .i64 x, .int .i64 y] w fun e w' => e = .returned (.bool (decide (OkP (x, y, s)))) ∧ w = w'
  by_cases h1 : -1048576 ≤ x
  · by_cases h2 : x ≤ 1048576
    · by_cases h3 : -1048576 ≤ y
      · by_cases h4 : y ≤ 1048576
        · rw [decide_eq_true (show OkP (x, y, s) from ⟨h1, h2, h3, h4⟩)]
          go_enter Try.func20, Try.ntmps20
          go_wp2
          go_ret
          exact ⟨by first | rfl | exact ret_bool (by simp; omega), rfl⟩
        · rw [decide_eq_false (show ¬ OkP (x, y, s) from fun h => h4 h.2.2.2)]
          go_enter Try.func20, Try.ntmps20
          go_wp2
          go_ret
          exact ⟨by first | rfl | exact ret_bool (by simp; omega), rfl⟩
      · rw [decide_eq_false (show ¬ OkP (x, y, s) from fun h => h3 h.2.2.1)]
        go_enter Try.func20, Try.ntmps20
        go_wp2
        go_ret
        exact ⟨by first | rfl | exact ret_bool (by simp; omega), rfl⟩
    · rw [decide_eq_false (show ¬ OkP (x, y, s) from fun h => h2 h.2.1)]
      go_enter Try.func20, Try.ntmps20
      go_wp2
      go_ret
      exact ⟨by first | rfl | exact ret_bool (by simp; omega), rfl⟩
  · rw [decide_eq_false (show ¬ OkP (x, y, s) from fun h => h1 h.1)]
    go_enter Try.func20, Try.ntmps20
    go_wp2
    go_ret
    exact ⟨by first | rfl | exact ret_bool (by simp; omega), rfl⟩
theorem before_anyA (a b : C3) (w : World) :
    Calls Try.prog 21 #[cv a, cv b] w fun e w' => e = .returned (.bool (decide (cp a b < 0))) ∧ Below w.heap.size w w' := by
  obtain ⟨x, y, s⟩ := a
  obtain ⟨u, v, r⟩ := b
  have L := cp_lt (x, y, s) (u, v, r)
  show Calls Try.prog 21 #[.agg #[.int .i64 x, .int .i64 y, .int .i64 s], .agg #[.int .i64 u, .int .i64 v, .int .i64 r]] w fun e w' => e = .returned (.bool (decide (cp (x, y, s) (u, v, r) < 0))) ∧ Below w.heap.size w w'
  simp only at L
  have B2 : Below w.heap.size w ((w.alloc (.cells #[.int .i64 x, .int .i64 y, .int .i64 s] 47)).alloc (.cells #[.int .i64 u, .int .i64 v, .int .i64 r] 47)) := ((Below.refl _ _).alloc (Nat.le_refl _) _).alloc (by simp) _
  have B2 := Lib.hid B2
  by_cases h1 : y < v
  · rw [decide_eq_true (L.2 (Or.inl h1))]
    clear L
    go_enter Try.func21, Try.ntmps21
    go_wp2
    go_ret
    exact ⟨rfl, B2.out⟩
  · by_cases h2 : y = v
    · subst h2
      by_cases h3 : x < u
      · rw [decide_eq_true (L.2 (Or.inr ⟨rfl, h3⟩))]
        clear L
        go_enter Try.func21, Try.ntmps21
        go_wp2
        go_ret
        exact ⟨by first | rfl | exact ret_bool (by simp), B2.out⟩
      · rw [decide_eq_false (fun h => by have := L.1 h; omega)]
        clear L
        go_enter Try.func21, Try.ntmps21
        go_wp2
        go_ret
        exact ⟨by first | rfl | exact ret_bool (by simp; omega), B2.out⟩
    · rw [decide_eq_false (fun h => by have := L.1 h; omega)]
      have h2' : (y == v) = false := by rw [beq_eq_false_iff_ne]; exact h2
      clear L h2
      go_enter Try.func21, Try.ntmps21
      go_wp2
      go_ret
      exact ⟨by first | rfl | exact ret_bool (by simp), B2.out⟩

/-- what ex says of a cell -/
theorem ex_zero (a : C3) : ex a = 0 ↔ OkP a ∧ 0 ≤ a.2.2 ∧ a.2.2 < 8 := by
  unfold ex
  by_cases h : OkP a
  · rw [if_neg (fun h' => h' h)]
    by_cases h2 : a.2.2 < 0 ∨ 8 ≤ a.2.2
    · rw [if_pos h2]
      exact ⟨fun h => (by cases h), fun h => (by omega)⟩
    · rw [if_neg h2]
      exact ⟨fun _ => ⟨h, by omega, by omega⟩, fun _ => rfl⟩
  · rw [if_pos h]
    exact ⟨fun h => (by cases h), fun h' => absurd h'.1 h⟩

section
variable (A : Option Addr) (n c : Nat) (f : Nat → C3) (w : World)
set_option maxRecDepth 100000 in
set_option maxHeartbeats 2000000 in
theorem rright_by (h : CReads w w.heap.size A n f) (hn : n ≤ 5000) (k : Nat) (hk : k ≤ n) (h1 : ∀ i, i < k → OkC f i) (h2 : k < n → ¬ OkC f k) :
    Calls Try.prog 7 #[.slice A n c] w fun e w' => e = .returned (.bool (decide (k = n))) ∧ Below w.heap.size w w' := by
  have H := Lib.hid h
  have H1 := Lib.hid h1
  have H2 := Lib.hid h2
  clear h h1 h2
  obtain ⟨b, hb⟩ : ∃ b, b = decide (k = n) := ⟨_, rfl⟩
  rw [← hb]
  have HBB := Lib.hid hb
  clear hb
  go_enter Try.func7, Try.ntmps7
  go_wp2
  go_loopw [3] (fun iv wr => ∃ j : Nat, j ≤ k ∧ iv = .int .i64 (j : Int) ∧ Below w.heap.size w wr) (fun iv _ => n - (intOf iv).toNat)
  case atStart => exact ⟨0, Nat.zero_le _, rfl, Below.refl _ _⟩
  case round =>
    obtain ⟨j, hj, rfl, hbel⟩ := hrel
    have R := H.out.below hbel
    have HB := Lib.hid hbel
    by_cases hjn : j < n
    · obtain ⟨g1, o1, rfl, hb1, hc1⟩ := R (by omega)
      have c1 := hc1 j hjn
      have hgw : g1 < wr.heap.size := Nat.lt_of_lt_of_le hb1 hbel.size
      have HJ1 := Lib.hid (H1.out j)
      have HJ2 := Lib.hid (fun (e : j = k) => H2.out (by omega))
      have HJK := Lib.hid (show ¬ OkC f j → k ≠ n from fun h e => h (HJ1.out (by omega)))
      have hokc : OkC f j → j + 1 ≤ k := fun h => by
        rcases Nat.lt_or_ge j k with h' | h'
        · exact h'
        · have e : j = k := by omega
          exact absurd (by rw [← e]; exact h) (HJ2.out e)
      have HOK := Lib.hid hokc
      have P1 := fun w => rplace_any (f j) w
      have hexz := ex_zero (f j)
      have hdef : OkC f j ↔ (ex (f j) = 0 ∧ (f j).2.2 ≠ 0 ∧ (0 < j → cp (f (j - 1)) (f j) < 0)) := Iff.rfl
      obtain ⟨⟨x1, x2, x3⟩, hx⟩ : ∃ x, x = f j := ⟨_, rfl⟩
      rw [← hx] at c1 P1 hexz hdef
      simp only at c1 P1 hexz hdef
      have HX := Lib.hid hx
      have HD := Lib.hid hdef
      have HE := Lib.hid hexz
      have HC := Lib.hid c1
      have c2 := fun i (hi : j = i + 1) => hc1 i (by omega)
      have HC2 := Lib.hid c2
      clear R hbel hokc hx hdef hexz c1 hc1 c2
      by_cases hp : OkP (x1, x2, x3)
      · rw [decide_eq_true hp] at P1
        have P1 := Lib.hid P1
        have HP := Lib.hid hp
        clear hp
        by_cases hs1 : x3 < 1
        · have hd1 : decide (x3 < 1) = true := decide_eq_true hs1
          have HK := Lib.hid (HJK.out (fun h => by have := HD.out.1 h; have := (HE.out.1 this.1).2.1; omega))
          obtain ⟨c10, c11, c12⟩ := HC.out
          go_wp2_with fail
          go_quiet ((go_at_call 20; exact Calls.quiet_of_same ((P1.out _).mono fun _ _ h => ⟨h.1, h.2.symm⟩)))
          go_wp2
          go_ret
          exact ⟨ret_bool (by rw [HBB.out]; simp [HK.out]), below_drewN HB.out _⟩
        · have hd1 : decide (x3 < 1) = false := decide_eq_false hs1
          by_cases hs2 : 8 ≤ x3
          · have hd2 : decide (8 ≤ x3) = true := decide_eq_true hs2
            have HK := Lib.hid (HJK.out (fun h => by have := HD.out.1 h; have := (HE.out.1 this.1).2.2; omega))
            obtain ⟨c10, c11, c12⟩ := HC.out
            go_wp2_with fail
            go_quiet ((go_at_call 20; exact Calls.quiet_of_same ((P1.out _).mono fun _ _ h => ⟨h.1, h.2.symm⟩)))
            go_wp2
            go_ret
            exact ⟨ret_bool (by rw [HBB.out]; simp [HK.out]), below_drewN HB.out _⟩
          · have hd2 : decide (8 ≤ x3) = false := decide_eq_false hs2
            have hz : ex (x1, x2, x3) = 0 := HE.out.2 ⟨HP.out, by omega, by omega⟩
            by_cases hj0 : j = 0
            · subst hj0
              have hk1 : 0 + 1 ≤ k := HOK.out (HD.out.2 ⟨hz, by omega, fun h => absurd h (by omega)⟩)
              have HC0 := HC.out
              simp only [Nat.zero_mul, Nat.add_zero] at HC0
              obtain ⟨c10, c11, c12⟩ := HC0
              clear hz
              go_wp2_with fail
              go_quiet ((go_at_call 20; exact Calls.quiet_of_same ((P1.out _).mono fun _ _ h => ⟨h.1, h.2.symm⟩)))
              go_wp2
              go_roundw
              case rel => exact ⟨0 + 1, hk1, by go_num, below_drewN HB.out _⟩
              case measure => simp [intOf]; omega
            · obtain ⟨i, hi⟩ : ∃ i, j = i + 1 := ⟨j - 1, by omega⟩
              have hin : i < n := by omega
              have e1 : (j : Int) - 1 = (i : Int) := by omega
              have hd3 : decide (0 < (j : Int)) = true := by rw [decide_eq_true_iff]; omega
              have hd4 : decide (0 < j) = true := by rw [decide_eq_true_iff]; omega
              have hw1 : IntKind.i64.wrap ((j : Int) - 1) = (i : Int) := by rw [e1]; exact IntWalk.i64_in _ (by omega)
              have c2 := HC2.out i hi
              have B := fun w => before_anyA (f i) (f j) w
              rw [← HX.out] at B
              have hm : OkC f j ↔ cp (f i) (x1, x2, x3) < 0 := by
                rw [HD.out, hi, Nat.add_sub_cancel]
                exact ⟨fun h => h.2.2 (by omega), fun h => ⟨hz, by omega, fun _ => h⟩⟩
              obtain ⟨⟨y1, y2, y3⟩, hy⟩ : ∃ y, y = f i := ⟨_, rfl⟩
              rw [← hy] at c2 B hm
              have HM := Lib.hid hm
              have c1 := HC.out
              have d0 := fun p : LowW wr.heap.size wr => LowW.cell (a := ⟨g1, o1 + j * 3, none⟩) hgw c1.1 p
              have d1 := fun p : LowW wr.heap.size wr => LowW.cell (a := ⟨g1, o1 + j * 3 + 1, none⟩) hgw c1.2.1 p
              have d2 := fun p : LowW wr.heap.size wr => LowW.cell (a := ⟨g1, o1 + j * 3 + 2, none⟩) hgw c1.2.2 p
              have q0 := fun p : LowW wr.heap.size wr => LowW.cell (a := ⟨g1, o1 + i * 3, none⟩) hgw c2.1 p
              have q1 := fun p : LowW wr.heap.size wr => LowW.cell (a := ⟨g1, o1 + i * 3 + 1, none⟩) hgw c2.2.1 p
              have q2 := fun p : LowW wr.heap.size wr => LowW.cell (a := ⟨g1, o1 + i * 3 + 2, none⟩) hgw c2.2.2 p
              obtain ⟨r, hr⟩ : ∃ r, r = decide (cp (y1, y2, y3) (x1, x2, x3) < 0) := ⟨_, rfl⟩
              rw [← hr] at B
              have HR := Lib.hid hr
              have B := Lib.hid B
              clear hm c1 c2 hy hz hi hj0 e1 hr
              cases r with
              | true =>
                have hk1 : j + 1 ≤ k := HOK.out (HM.out.2 (of_decide_eq_true HR.out.symm))
                go_wp2_with fail
                refine wp_region_low wr.heap.size wr (by kernel_rfl) (by kernel_rfl) (Below.refl _ _) ?_
                repeat (quiet_step (first | (go_at_call 20; with_reducible exact LowW.of_call _ (Nat.le_refl _) (below_quiet (P1.out _))) | (go_at_call 21; with_reducible exact LowW.of_call _ (Nat.le_refl _) (B.out _))))
                refine wpQuiet_nil ?_
                rintro w2 ⟨p, rfl⟩
                have B2 := Lib.hid (HB.out.trans (p.below.mono HB.out.size))
                clear d0 d1 d2 q0 q1 q2 hw1
                generalize p.w = w2 at B2 ⊢
                go_wp2
                go_roundw
                case rel => exact ⟨j + 1, hk1, by go_num, B2.out⟩
                case measure => simp [intOf]; omega
              | false =>
                have HK := Lib.hid (HJK.out (fun h => of_decide_eq_false HR.out.symm (HM.out.1 h)))
                go_wp2_with fail
                refine wp_region_low wr.heap.size wr (by kernel_rfl) (by kernel_rfl) (Below.refl _ _) ?_
                repeat (quiet_step (first | (go_at_call 20; with_reducible exact LowW.of_call _ (Nat.le_refl _) (below_quiet (P1.out _))) | (go_at_call 21; with_reducible exact LowW.of_call _ (Nat.le_refl _) (B.out _))))
                refine wpQuiet_nil ?_
                rintro w2 ⟨p, rfl⟩
                have B2 := Lib.hid (HB.out.trans (p.below.mono HB.out.size))
                clear d0 d1 d2 q0 q1 q2 hw1
                generalize p.w = w2 at B2 ⊢
                go_wp2
                go_ret
                exact ⟨ret_bool (by rw [HBB.out]; simp [HK.out]), B2.out⟩
      · rw [decide_eq_false hp] at P1
        have P1 := Lib.hid P1
        have HK := Lib.hid (HJK.out (fun h => hp (HE.out.1 (HD.out.1 h).1).1))
        clear hp
        obtain ⟨c10, c11, c12⟩ := HC.out
        go_wp2_with fail
        go_quiet ((go_at_call 20; exact Calls.quiet_of_same ((P1.out _).mono fun _ _ h => ⟨h.1, h.2.symm⟩)))
        go_wp2
        go_ret
        exact ⟨ret_bool (by rw [HBB.out]; simp [HK.out]), below_drewN HB.out _⟩
    · obtain rfl : j = k := by omega
      have HK := Lib.hid (show j = n by omega)
      clear R hbel
      go_wp2
      go_ret
      exact ⟨ret_bool (by rw [HBB.out]; simp [HK.out]; omega), HB.out⟩
end
end Go.Proofs.Ytaicehkphokacaa
