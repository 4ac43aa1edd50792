/- The walks of the reference's find and Compose. -/
import Derived.Test.YthjamghemmanfaaDoorApp
import Derived.BigQuiet
namespace Go.Proofs.YthjamghemmanfaaDoor
open Go.RowKit

theorem find_ne : ∀ j, j < 8 → ∀ c, c < 8 → j ≠ c → turnX j 1 2 ≠ turnX c 1 2 ∨ turnY j 1 2 ≠ turnY c 1 2 := by decide
theorem turn_comp : ∀ a, a < 8 → ∀ b, b < 8 → turnX b (turnX a 1 2) (turnY a 1 2) = turnX (comp a b) 1 2 ∧ turnY b (turnX a 1 2) (turnY a 1 2) = turnY (comp a b) 1 2 := by decide +kernel

set_option maxHeartbeats 1000000 in
theorem find_any (c : Nat) (X Y : Int) (w : World) (hc : c < 8) (hX : turnX c 1 2 = X) (hY : turnY c 1 2 = Y) :
    Calls Tryd.prog 42 #[.agg #[.int .i64 X, .int .i64 Y]] w fun e w' => e = .returned (.int .i64 (c : Nat)) ∧ Below w.heap.size w w' := by
  have HX := Lib.hid hX
  have HY := Lib.hid hY
  have K := Lib.hid (Blk.new w 30 #[.int .i64 X, .int .i64 Y])
  have B0 := Lib.hid ((Below.refl w.heap.size w).alloc (Nat.le_refl _) (.cells #[.int .i64 X, .int .i64 Y] 30))
  clear hX hY
  go_enter Tryd.func42, Tryd.ntmps42
  go_wp2
  go_loopw [3] (fun iv wr => ∃ j : Nat, j ≤ c ∧ iv = .int .i64 (j : Int) ∧ Blk wr w.heap.size 30 #[.int .i64 X, .int .i64 Y] ∧ Below w.heap.size w wr) (fun iv _ => c - (intOf iv).toNat)
  case atStart => exact ⟨0, Nat.zero_le _, rfl, K.out, B0.out⟩
  case round =>
    obtain ⟨j, hj, rfl, k, hbel⟩ := hrel
    have KK := Lib.hid k
    have BB := Lib.hid hbel
    have hlt : w.heap.size < wr.heap.size := k.lt
    have A := Lib.hid (fun w => by have := rapply_any (j : Int) 1 2 w (by omega) (by omega) (by omega) (by omega) (by omega) (by omega); rwa [md_nat j (by omega)] at this)
    have c0 := fun p : LowW wr.heap.size wr => (k.below p.below k.lt).two.1
    have c1 := fun p : LowW wr.heap.size wr => (k.below p.below k.lt).two.2.1
    clear k hbel K B0
    have hj8 : j < 8 := by omega
    by_cases hjc : j = c
    · subst hjc
      have HX' := HX.out
      have HY' := HY.out
      rw [HX', HY'] at A
      clear HX' HY'
      go_wp2_with fail
      refine wp_region_low wr.heap.size wr (by kernel_rfl) (by kernel_rfl) (Below.refl _ _) ?_
      repeat (quiet_step (first | (go_at_call 33; exact LowW.of_call _ (Nat.le_refl _) (A.out _))))
      refine wpQuiet_nil ?_
      rintro w' ⟨p, rfl⟩
      have BZ := Lib.hid (BB.out.trans (p.below.mono BB.out.size))
      clear c0 c1
      generalize p.w = w2 at BZ ⊢
      go_wp2
      go_ret
      exact ⟨rfl, BZ.out⟩
    · have hne := find_ne j hj8 c hc hjc
      rw [HX.out, HY.out] at hne
      generalize turnX j 1 2 = a at hne A
      generalize turnY j 1 2 = b at hne A
      clear hc
      by_cases hax : a = X
      · have hby : ¬ b = Y := fun e => hne.elim (fun h => h hax) (fun h => h e)
        clear hne
        subst hax
        go_wp2_with fail
        refine wp_region_low wr.heap.size wr (by kernel_rfl) (by kernel_rfl) (Below.refl _ _) ?_
        repeat (quiet_step (first | (go_at_call 33; exact LowW.of_call _ (Nat.le_refl _) (A.out _))))
        refine wpQuiet_nil ?_
        rintro w' ⟨p, rfl⟩
        have BZ := Lib.hid (BB.out.trans (p.below.mono BB.out.size))
        have KZ := Lib.hid (KK.out.below p.below KK.out.lt)
        clear c0 c1
        generalize p.w = w2 at BZ KZ ⊢
        go_wp2
        go_roundw
        case rel => exact ⟨j + 1, by omega, by go_num, KZ.out, BZ.out⟩
        case measure => simp [intOf]; omega
      · clear hne
        go_wp2_with fail
        refine wp_region_low wr.heap.size wr (by kernel_rfl) (by kernel_rfl) (Below.refl _ _) ?_
        repeat (quiet_step (first | (go_at_call 33; exact LowW.of_call _ (Nat.le_refl _) (A.out _))))
        refine wpQuiet_nil ?_
        rintro w' ⟨p, rfl⟩
        have BZ := Lib.hid (BB.out.trans (p.below.mono BB.out.size))
        have KZ := Lib.hid (KK.out.below p.below KK.out.lt)
        clear c0 c1
        generalize p.w = w2 at BZ KZ ⊢
        go_wp2
        go_roundw
        case rel => exact ⟨j + 1, by omega, by go_num, KZ.out, BZ.out⟩
        case measure => simp [intOf]; omega
theorem rcompose_any (a b : Int) (w : World) (h1 : -9223372036854775808 ≤ a) (h2 : a ≤ 9223372036854775807) (h3 : -9223372036854775808 ≤ b) (h4 : b ≤ 9223372036854775807) :
    Calls Tryd.prog 29 #[.int .i64 a, .int .i64 b] w fun e w' => e = .returned (.int .i64 (comp (md a) (md b) : Nat)) ∧ Below w.heap.size w w' := by
  have A := Lib.hid (fun w => rapply_any a 1 2 w h1 h2 (by omega) (by omega) (by omega) (by omega))
  have bd := turn_bd (md a) 1 2 4194304 (md_lt a) (by omega) (by omega) (by omega) (by omega)
  have Bb := Lib.hid (fun w => rapply_any b (turnX (md a) 1 2) (turnY (md a) 1 2) w h3 h4 bd.1 bd.2.1 bd.2.2.1 bd.2.2.2)
  obtain ⟨t1, t2⟩ := turn_comp (md a) (md_lt a) (md b) (md_lt b)
  have F := Lib.hid (fun w => find_any (comp (md a) (md b)) _ _ w (comp_lt _ (md_lt a) _ (md_lt b)) t1.symm t2.symm)
  clear t1 t2 bd h1 h2 h3 h4
  generalize comp (md a) (md b) = c at F ⊢
  generalize turnX (md b) (turnX (md a) 1 2) (turnY (md a) 1 2) = r at Bb F
  generalize turnY (md b) (turnX (md a) 1 2) (turnY (md a) 1 2) = s at Bb F
  generalize turnX (md a) 1 2 = p at A Bb
  generalize turnY (md a) 1 2 = q at A Bb
  go_enter Tryd.func29, Tryd.ntmps29
  go_wp2_with (first
    | (go_at_call 33; (with_reducible refine (A.out _).mono ?_); rintro e w1 ⟨rfl, hb1⟩; have B1 := Lib.hid hb1; clear hb1)
    | (go_at_call 33; (with_reducible refine (Bb.out _).mono ?_); rintro e w2 ⟨rfl, hb2⟩; have B2 := Lib.hid (B1.out.trans (hb2.mono B1.out.size)); clear hb2)
    | (go_at_call 42; (with_reducible refine (F.out _).mono ?_); rintro e w3 ⟨rfl, hb3⟩; have B3 := Lib.hid (B2.out.trans (hb3.mono B2.out.size)); clear hb3))
  go_ret
  exact ⟨rfl, B3.out⟩
end Go.Proofs.YthjamghemmanfaaDoor
