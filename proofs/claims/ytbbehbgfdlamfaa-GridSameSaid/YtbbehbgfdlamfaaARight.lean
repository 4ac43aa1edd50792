/- The walk of Right. -/
import Derived.Test.YtbbehbgfdlamfaaACell
import Derived.Test.YtbbehbgfdlamfaaACmp
import Derived.Test.YtbbehbgfdlamfaaAEx
import Derived.Test.YtbbehbgfdlamfaaCPCell
import Derived.Test.YtbbehbgfdlamfaaTMem
import Derived.Test.YtbbehbgfdlamfaaTSmall
import Derived.Test.YtbbehbgfdlamfaaTTree
import Derived.Below
import Derived.BigQuiet
import Derived.Deep.AppendLies
import Derived.Deep.Draws
import Derived.Deep.QuietTactic
import Derived.IntWalk
import Derived.Laws.OwnMore
import Derived.Laws.Rows
import Derived.Lib.Hide
import Derived.LoopN
import Derived.StillTail
import Derived.StillTailTactics
import Derived.Test.YtbbehbgfdlamfaaRows
import Derived.WalkKit
namespace Go.Proofs.Ytbbehbgfdlamfaa
open Go.RowKit
/-- the i-th cell of a list is right -/
def OkC (f : Nat → C3) (i : Nat) : Prop := ex (f i) = 0 ∧ (f i).2.2 ≠ 0 ∧ (0 < i → cp (f (i - 1)) (f i) < 0)
instance (f : Nat → C3) (i : Nat) : Decidable (OkC f i) := by unfold OkC; exact inferInstance
/-- a valid pattern -/
def OkL (f : Nat → C3) (n : Nat) : Prop := n ≤ 5000 ∧ ∀ i, i < n → OkC f i
instance (f : Nat → C3) (n : Nat) : Decidable (OkL f n) := by unfold OkL; exact inferInstance
section
variable (A : Option Addr) (n c : Nat) (f : Nat → C3) (w : World)
theorem pright_long (hn : 5000 < n) (hn2 : n ≤ 1000000) :
    Calls Try.prog 18 #[.slice A n c] w fun e w' => e = .returned (.bool false) ∧ Below w.heap.size w w' := by
  go_enter Try.func18, Try.ntmps18
  go_wp2
  go_ret
  exact ⟨rfl, Below.refl _ _⟩

set_option maxRecDepth 100000 in
set_option maxHeartbeats 2000000 in
theorem pright_by (h : CReads w w.heap.size A n f) (hn : n ≤ 5000) (k : Nat) (hk : k ≤ n) (h1 : ∀ i, i < k → OkC f i) (h2 : k < n → ¬ OkC f k) :
    Calls Try.prog 18 #[.slice A n c] w fun e w' => e = .returned (.bool (decide (k = n))) ∧ Below w.heap.size w w' := by
  have H := Lib.hid h
  have H1 := Lib.hid h1
  have H2 := Lib.hid h2
  clear h h1 h2
  obtain ⟨b, hb⟩ : ∃ b, b = decide (k = n) := ⟨_, rfl⟩
  rw [← hb]
  have HBB := Lib.hid hb
  clear hb
  go_enter Try.func18, Try.ntmps18
  go_wp2
  go_loopw [10] (fun iv wr => ∃ j : Nat, j ≤ k ∧ iv = .int .i64 (j : Int) ∧ Below w.heap.size w wr) (fun iv _ => n - (intOf iv).toNat)
  case atStart => exact ⟨0, Nat.zero_le _, rfl, Below.refl _ _⟩
  case round =>
    obtain ⟨j, hj, rfl, hbel⟩ := hrel
    have R := H.out.below hbel
    have HB := Lib.hid hbel
    by_cases hjn : j < n
    · obtain ⟨g1, o1, rfl, hb1, hc1⟩ := R (by omega)
      have c1 := hc1 j hjn
      have E := Lib.hid (fun w => examine_any (f j) w)
      have hgw : g1 < wr.heap.size := Nat.lt_of_lt_of_le hb1 hbel.size
      clear hbel
      by_cases hex : ex (f j) = 0
      · rw [hex] at E
        obtain ⟨⟨x1, x2, x3⟩, hx⟩ : ∃ x, x = f j := ⟨_, rfl⟩
        rw [← hx] at c1 E
        obtain ⟨c10, c11, c12⟩ := c1
        have K7 := Lib.hid (Blk.new wr 33 #[.int .i64 x1, .int .i64 x2, .int .i64 x3])
        have B7 := Lib.hid (HB.out.alloc HB.out.size (.cells #[.int .i64 x1, .int .i64 x2, .int .i64 x3] 33))
        have HX := Lib.hid hx
        have HE := Lib.hid hex
        by_cases hs : x3 = 0
        · have hkn : k ≠ n := fun e => (H1.out j (by omega)).2.1 (by rw [← hx]; exact hs)
          have HK := Lib.hid hkn
          subst hs
          clear hc1 R hex hkn hx
          go_wp2_with (go_at_call 25; (with_reducible refine (E.out _).mono ?_); rintro e w1 ⟨rfl, hb⟩; obtain ⟨k0, k1, k2, k3⟩ := (K7.out.below hb K7.out.lt).three; have B1 := Lib.hid (B7.out.trans (hb.mono B7.out.size)); clear hb)
          go_ret
          exact ⟨ret_bool (by rw [HBB.out]; simp [HK.out]), B1.out⟩
        · have hez : (x3 == 0) = false := by rw [beq_eq_false_iff_ne]; exact hs
          have HS := Lib.hid hs
          by_cases hj0 : j = 0
          · subst hj0
            have hk0 : k ≠ 0 := fun e => by subst e; exact H2.out hjn ⟨HE.out, (by rw [← HX.out]; exact HS.out), fun h => absurd h (by omega)⟩
            have hk1 : 0 + 1 ≤ k := by omega
            simp only [Nat.zero_mul, Nat.add_zero, Nat.zero_add] at c10 c11 c12
            clear hc1 R hex hx hs hk0
            go_wp2_with (go_at_call 25; (with_reducible refine (E.out _).mono ?_); rintro e w1 ⟨rfl, hb⟩; obtain ⟨k0, k1, k2, k3⟩ := (K7.out.below hb K7.out.lt).three; have B1 := Lib.hid (B7.out.trans (hb.mono B7.out.size)); clear hb)
            go_region
            all_goals go_wp2
            all_goals go_roundw
            case rel => exact ⟨0 + 1, hk1, by go_num, B1.out.drew⟩
            case measure => simp [intOf]; omega
          · obtain ⟨i, hi⟩ : ∃ i, j = i + 1 := ⟨j - 1, by omega⟩
            have hin : i < n := by omega
            have e1 : (j : Int) - 1 = (i : Int) := by omega
            have hd1 : decide (0 < (j : Int)) = true := by rw [decide_eq_true_iff]; omega
            have hd2 : decide (0 < j) = true := by rw [decide_eq_true_iff]; omega
            have hw1 : IntKind.i64.wrap ((j : Int) - 1) = (i : Int) := by rw [e1]; exact IntWalk.i64_in _ (by omega)
            have c2 := hc1 i hin
            have P := Lib.hid (fun w => places_any (f i) (f j) w)
            rw [← hx] at P
            have HI := Lib.hid hi
            obtain ⟨⟨y1, y2, y3⟩, hy⟩ : ∃ y, y = f i := ⟨_, rfl⟩
            obtain ⟨r, hr⟩ : ∃ r, r = cp (f i) (x1, x2, x3) := ⟨_, rfl⟩
            have HR := Lib.hid hr
            rw [← hr, ← hy] at P
            rw [← hy] at c2
            have HC2 := Lib.hid c2
            clear hc1 R hex hx hs hy hi hj0 c2 hr
            go_wp2_with (go_at_call 25; (with_reducible refine (E.out _).mono ?_); rintro e w1 ⟨rfl, hb⟩; obtain ⟨k0, k1, k2, k3⟩ := (K7.out.below hb K7.out.lt).three; have B1 := Lib.hid (B7.out.trans (hb.mono B7.out.size)); have BW := Lib.hid (((Below.refl wr.heap.size wr).alloc (Nat.le_refl _) (.cells #[.int .i64 x1, .int .i64 x2, .int .i64 x3] 33)).trans (hb.mono (Nat.le_of_lt K7.out.lt))); have K8 := Lib.hid (K7.out.below hb K7.out.lt); clear hb)
            have d0 := fun p : LowW w1.heap.size w1 => LowW.cell (a := ⟨g1, o1 + i * 3, none⟩) (Nat.lt_trans hgw k3) ((BW.out.cell hgw).trans HC2.out.1) p
            have d1 := fun p : LowW w1.heap.size w1 => LowW.cell (a := ⟨g1, o1 + i * 3 + 1, none⟩) (Nat.lt_trans hgw k3) ((BW.out.cell hgw).trans HC2.out.2.1) p
            have d2 := fun p : LowW w1.heap.size w1 => LowW.cell (a := ⟨g1, o1 + i * 3 + 2, none⟩) (Nat.lt_trans hgw k3) ((BW.out.cell hgw).trans HC2.out.2.2) p
            have q0 := fun p : LowW w1.heap.size w1 => LowW.cell (a := ⟨wr.heap.size, 0, none⟩) k3 k0 p
            have q1 := fun p : LowW w1.heap.size w1 => LowW.cell (a := ⟨wr.heap.size, 1, none⟩) k3 k1 p
            have q2 := fun p : LowW w1.heap.size w1 => LowW.cell (a := ⟨wr.heap.size, 2, none⟩) k3 k2 p
            clear k0 k1 k2 c10 c11 c12 e1
            refine wp_region_low w1.heap.size w1 (by kernel_rfl) (by kernel_rfl) (Below.refl _ _) ?_
            repeat (quiet_step (first | (go_at_call 26; with_reducible exact LowW.of_call _ (Nat.le_refl _) (P.out _))))
            refine wpQuiet_nil ?_
            rintro w2 ⟨p, rfl⟩
            have B2 := Lib.hid (B1.out.trans (p.below.mono B1.out.size))
            clear d0 d1 d2 q0 q1 q2
            generalize p.w = w2 at B2 ⊢
            have hlast := Lib.hid (show cp (f (j - 1)) (f j) = r by rw [← HX.out, HR.out, HI.out, Nat.add_sub_cancel])
            by_cases hr : r < 0
            · have hk1 : j + 1 ≤ k := by
                rcases Nat.lt_or_ge j k with h | h
                · exact h
                · have e : j = k := by omega
                  subst e
                  exact absurd ⟨HE.out, (by rw [← HX.out]; exact HS.out), fun _ => (by rw [hlast.out]; exact hr)⟩ (H2.out hjn)
              clear hw1
              go_wp2
              go_roundw
              case rel => exact ⟨j + 1, hk1, by go_num, B2.out⟩
              case measure => simp [intOf]; omega
            · have HK := Lib.hid (show k ≠ n from fun e => hr (by rw [← hlast.out]; exact (H1.out j (by omega)).2.2 (by have := HI.out; omega)))
              clear hw1
              go_wp2
              go_ret
              exact ⟨ret_bool (by rw [HBB.out]; simp [HK.out]), B2.out⟩
      · have hez : (ex (f j) != 0) = true := by simpa using hex
        have HK := Lib.hid (show k ≠ n from fun e => hex (H1.out j (by omega)).1)
        generalize ex (f j) = r at E hez
        generalize f j = x at c1 E
        obtain ⟨x1, x2, x3⟩ := x
        obtain ⟨c10, c11, c12⟩ := c1
        have B7 := Lib.hid (HB.out.alloc HB.out.size (.cells #[.int .i64 x1, .int .i64 x2, .int .i64 x3] 33))
        clear hc1 R hex
        go_wp2_with (go_at_call 25; (with_reducible refine (E.out _).mono ?_); rintro e w1 ⟨rfl, hb⟩; have B1 := Lib.hid (B7.out.trans (hb.mono B7.out.size)); clear hb)
        go_ret
        exact ⟨ret_bool (by rw [HBB.out]; simp [HK.out]), B1.out⟩
    · obtain rfl : j = k := by omega
      have HK := Lib.hid (show j = n by omega)
      clear R hbel
      go_wp2
      go_ret
      exact ⟨ret_bool (by rw [HBB.out]; simp [HK.out]), HB.out⟩
theorem pright_any (h : CReads w w.heap.size A n f) (hn : n ≤ 1000000) :
    Calls Try.prog 18 #[.slice A n c] w fun e w' => e = .returned (.bool (decide (OkL f n))) ∧ Below w.heap.size w w' := by
  by_cases h5 : n ≤ 5000
  · have : ∃ k, k ≤ n ∧ (∀ i, i < k → OkC f i) ∧ (k < n → ¬ OkC f k) := by
      clear h hn h5
      induction n with
      | zero => exact ⟨0, by omega, fun i hi => by omega, fun h => by omega⟩
      | succ n ih =>
        obtain ⟨k, a, b, d⟩ := ih
        by_cases e : k = n
        · subst e
          by_cases hc : OkC f k
          · exact ⟨k + 1, by omega, fun i hi => by
              by_cases e : i = k
              · rw [e]; exact hc
              · exact b i (by omega), fun h => by omega⟩
          · exact ⟨k, by omega, b, fun _ => hc⟩
        · exact ⟨k, by omega, b, fun _ => d (by omega)⟩
    obtain ⟨k, a, b, d⟩ := this
    have e : decide (k = n) = decide (OkL f n) := by
      by_cases hk : k = n
      · rw [decide_eq_true hk, decide_eq_true ⟨h5, by rw [← hk]; exact b⟩]
      · rw [decide_eq_false hk, decide_eq_false (fun h' => d (by omega) (h'.2 k (by omega)))]
    rw [← e]
    exact pright_by A n c f w h h5 k a b d
  · rw [decide_eq_false (fun h' => h5 h'.1)]
    exact pright_long A n c w (by omega) hn
end
end Go.Proofs.Ytbbehbgfdlamfaa
