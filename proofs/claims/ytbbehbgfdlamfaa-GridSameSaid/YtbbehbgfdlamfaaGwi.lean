/- The walks of within, index and indexOfCell at any positions. -/
import Derived.Test.YtbbehbgfdlamfaaGqu
import Derived.Test.YtbbehbgfdlamfaaCUl
namespace Go.Proofs.Ytbbehbgfdlamfaa
open Go.RowKit

/-- the coordinate of the cells to which a coordinate leads -/
def wn (e n c : Int) : Int := if e = 2 then (if n ≤ c % (2 * n) then 2 * n - 1 - c % (2 * n) else c % (2 * n)) else if e = 1 then c % n else c
/-- whether it leads to one -/
def wf (e n c : Int) : Bool := if e = 0 then decide (0 ≤ c) && decide (c < n) else true
theorem wn_bd {e n c : Int} (hn : 1 ≤ n) (he : e = 1 ∨ e = 2) : 0 ≤ wn e n c ∧ wn e n c < n := by
  unfold wn
  rcases he with rfl | rfl
  · simp only [if_neg (show ¬ ((1 : Int) = 2) by decide), if_pos]
    exact ⟨Int.emod_nonneg _ (by omega), Int.emod_lt_of_pos _ (by omega)⟩
  · have a := Int.emod_nonneg c (show 2 * n ≠ 0 by omega)
    have b := Int.emod_lt_of_pos c (show 0 < 2 * n by omega)
    simp only [if_pos]
    split <;> omega
theorem wf_bd {e n c : Int} (hn : 1 ≤ n) (h0 : 0 ≤ e) (h2 : e ≤ 2) (h : wf e n c = true) : 0 ≤ wn e n c ∧ wn e n c < n := by
  rcases (show e = 0 ∨ e = 1 ∨ e = 2 by omega) with rfl | he
  · simp [wf] at h
    simpa [wn] using h
  · exact wn_bd hn he
set_option maxHeartbeats 1000000 in
theorem gwithin_any (e n c : Int) (w : World) (h0 : 0 ≤ e) (h2 : e ≤ 2) (hn : 1 ≤ n) (hn' : n ≤ 256) : Calls Try.prog 24 #[.int .i64 e, .int .i64 n, .int .i64 c] w fun x w' => x = .returned (.tuple #[.int .i64 (wn e n c), .bool (wf e n c)]) ∧ w = w' := by
  rcases (show e = 0 ∨ e = 1 ∨ e = 2 by omega) with rfl | rfl | rfl
  · rw [show wn 0 n c = c from rfl]
    by_cases a : 0 ≤ c
    · by_cases b : c < n
      · rw [show wf 0 n c = true by simp [wf, a, b]]
        go_enter Try.func24, Try.ntmps24
        go_wp2
        refine bodyPost_ret (results_tmp2 rfl _ _ _) rfl ?_
        exact ⟨rfl, rfl⟩
      · rw [show wf 0 n c = false by simp [wf, b]]
        go_enter Try.func24, Try.ntmps24
        go_wp2
        refine bodyPost_ret (results_tmp2 rfl _ _ _) rfl ?_
        exact ⟨rfl, rfl⟩
    · rw [show wf 0 n c = false by simp [wf, a]]
      go_enter Try.func24, Try.ntmps24
      go_wp2
      refine bodyPost_ret (results_tmp2 rfl _ _ _) rfl ?_
      exact ⟨rfl, rfl⟩
  · have R := fun w => grem_any c n w hn (by omega)
    rw [show wf 1 n c = true from rfl, show wn 1 n c = c % n from rfl]
    have a := Int.emod_nonneg c (show n ≠ 0 by omega)
    have b := Int.emod_lt_of_pos c (show 0 < n by omega)
    generalize c % n = r at *
    go_enter Try.func24, Try.ntmps24
    go_wp2_with (go_at_call 16; (with_reducible refine (R _).mono ?_); rintro e w' ⟨rfl, rfl⟩)
    refine bodyPost_ret (results_tmp2 rfl _ _ _) rfl ?_
    exact ⟨rfl, rfl⟩
  · have R := fun w => grem_any c (2 * n) w (by omega) (by omega)
    rw [show wf 2 n c = true from rfl, show wn 2 n c = if n ≤ c % (2 * n) then 2 * n - 1 - c % (2 * n) else c % (2 * n) from rfl]
    have a := Int.emod_nonneg c (show 2 * n ≠ 0 by omega)
    have b := Int.emod_lt_of_pos c (show 0 < 2 * n by omega)
    generalize c % (2 * n) = r at *
    by_cases h : n ≤ r
    · rw [if_pos h]
      have z0 : 0 ≤ 2 * n - 1 - r := by omega
      have z1 : 2 * n - 1 - r < n := by omega
      have S := fun w => grem_any (2 * n - 1 - r) n w hn (by omega)
      rw [Int.emod_eq_of_lt (by omega) (by omega)] at S
      go_enter Try.func24, Try.ntmps24
      go_wp2_with (first | (go_at_call 16; (with_reducible refine (R _).mono ?_); rintro e w' ⟨rfl, rfl⟩) | (go_at_call 16; (with_reducible refine (S _).mono ?_); rintro e w' ⟨rfl, rfl⟩))
      refine bodyPost_ret (results_tmp2 rfl _ _ _) rfl ?_
      exact ⟨rfl, rfl⟩
    · rw [if_neg h]
      have S := fun w => grem_any r n w hn (by omega)
      rw [Int.emod_eq_of_lt (by omega) (by omega)] at S
      go_enter Try.func24, Try.ntmps24
      go_wp2_with (first | (go_at_call 16; (with_reducible refine (R _).mono ?_); rintro e w' ⟨rfl, rfl⟩) | (go_at_call 16; (with_reducible refine (S _).mono ?_); rintro e w' ⟨rfl, rfl⟩))
      refine bodyPost_ret (results_tmp2 rfl _ _ _) rfl ?_
      exact ⟨rfl, rfl⟩
section
variable (A : Option Addr) (W H E : Int) (n c : Nat) (w : World)
/-- the index of the cell to which a position leads, or 0 -/
def wi (W H e x y : Int) : Int := if (wf e W x && wf e H y) = true then wn e H y * W + wn e W x else 0
theorem wi_bd {W H e x y : Int} (hw : 1 ≤ W) (hh : 1 ≤ H) (h0 : 0 ≤ e) (h2 : e ≤ 2) (h : (wf e W x && wf e H y) = true) : 0 ≤ wi W H e x y ∧ wi W H e x y < W * H := by
  unfold wi
  rw [if_pos h]
  rw [Bool.and_eq_true] at h
  obtain ⟨a, b⟩ := wf_bd hw h0 h2 h.1
  obtain ⟨p, q⟩ := wf_bd hh h0 h2 h.2
  have r := Int.mul_nonneg p (show 0 ≤ W by omega)
  have s : wn e H y * W ≤ (H - 1) * W := Int.mul_le_mul_of_nonneg_right (by omega) (by omega)
  rw [Int.sub_mul, Int.mul_comm H W] at s
  omega
set_option maxHeartbeats 2000000 in
theorem gindex_any (e x y : Int) (h0 : 0 ≤ e) (h2 : e ≤ 2) (hw : 1 ≤ W) (hw' : W ≤ 256) (hh : 1 ≤ H) (hh' : H ≤ 256) :
    Calls Try.prog 17 #[.agg #[.int .i64 W, .int .i64 H, .int .i64 E, .slice A n c], .int .i64 e, .int .i64 x, .int .i64 y] w fun r w' => r = .returned (.tuple #[.int .i64 (wi W H e x y), .bool (wf e W x && wf e H y)]) ∧ Below w.heap.size w w' := by
  have P := Lib.hid (fun w => gwithin_any e W x w h0 h2 hw hw')
  have Q := Lib.hid (fun w => gwithin_any e H y w h0 h2 hh hh')
  have K := Blk.new w 24 #[.int .i64 W, .int .i64 H, .int .i64 E, .slice A n c]
  have B := Lib.hid ((Below.refl w.heap.size w).alloc (Nat.le_refl _) (.cells #[.int .i64 W, .int .i64 H, .int .i64 E, .slice A n c] 24))
  obtain ⟨k0, k1, k2, k3, k4⟩ := K.four
  clear K
  have bx := fun h => wf_bd hw h0 h2 (show wf e W x = true from h)
  have by' := fun h => wf_bd hh h0 h2 (show wf e H y = true from h)
  have PB := prod_bd hw hw' hh hh'
  have MB := fun (i : Int) (h : 0 ≤ i ∧ i < H) => show 0 ≤ i * W ∧ i * W ≤ H * W from ⟨Int.mul_nonneg h.1 (by omega), Int.mul_le_mul_of_nonneg_right (by omega) (by omega)⟩
  rw [Int.mul_comm] at PB
  unfold wi
  generalize hi : wn e W x = i at *
  generalize hj : wn e H y = j at *
  generalize hp : wf e W x = p at *
  generalize hq : wf e H y = q at *
  clear hi hj hp hq
  cases p with
  | false =>
    clear bx by' MB PB
    go_enter Try.func17, Try.ntmps17
    go_wp2_with (first | (go_at_call 24; (with_reducible refine (P.out _).mono ?_); rintro e w' ⟨rfl, rfl⟩) | (go_at_call 24; (with_reducible refine (Q.out _).mono ?_); rintro e w' ⟨rfl, rfl⟩))
    refine bodyPost_ret (results_tmp2 rfl _ _ _) rfl ?_
    exact ⟨rfl, B.out⟩
  | true =>
    cases q with
    | false =>
      clear bx by' MB PB
      go_enter Try.func17, Try.ntmps17
      go_wp2_with (first | (go_at_call 24; (with_reducible refine (P.out _).mono ?_); rintro e w' ⟨rfl, rfl⟩) | (go_at_call 24; (with_reducible refine (Q.out _).mono ?_); rintro e w' ⟨rfl, rfl⟩))
      refine bodyPost_ret (results_tmp2 rfl _ _ _) rfl ?_
      exact ⟨rfl, B.out⟩
    | true =>
      obtain ⟨b1, b2⟩ := bx rfl
      obtain ⟨b3, b4⟩ := MB j (by' rfl)
      obtain ⟨b5, b6⟩ := by' rfl
      clear bx by' MB
      go_enter Try.func17, Try.ntmps17
      go_wp2_with (first | (go_at_call 24; (with_reducible refine (P.out _).mono ?_); rintro e w' ⟨rfl, rfl⟩) | (go_at_call 24; (with_reducible refine (Q.out _).mono ?_); rintro e w' ⟨rfl, rfl⟩))
      refine bodyPost_ret (results_tmp2 rfl _ _ _) rfl ?_
      exact ⟨rfl, B.out⟩
theorem gcell_any (x y : Int) (hw : 1 ≤ W) (hw' : W ≤ 256) (hh : 1 ≤ H) (hh' : H ≤ 256) :
    Calls Try.prog 19 #[.agg #[.int .i64 W, .int .i64 H, .int .i64 E, .slice A n c], .int .i64 x, .int .i64 y] w fun r w' => r = .returned (.tuple #[.int .i64 (wi W H 0 x y), .bool (wf 0 W x && wf 0 H y)]) ∧ Below w.heap.size w w' := by
  have P := Lib.hid (fun w => gindex_any A W H E n c w 0 x y (by decide) (by decide) hw hw' hh hh')
  have K := Blk.new w 24 #[.int .i64 W, .int .i64 H, .int .i64 E, .slice A n c]
  have B := Lib.hid ((Below.refl w.heap.size w).alloc (Nat.le_refl _) (.cells #[.int .i64 W, .int .i64 H, .int .i64 E, .slice A n c] 24))
  obtain ⟨k0, k1, k2, k3, k4⟩ := K.four
  clear K
  go_enter Try.func19, Try.ntmps19
  go_wp2_with (go_at_call 17; (with_reducible refine (P.out _).mono ?_); rintro e w' ⟨rfl, hb⟩; have B := Lib.hid (B.out.trans (hb.mono B.out.size)); clear hb)
  refine bodyPost_ret (results_tmp2 rfl _ _ _) rfl ?_
  exact ⟨rfl, B.out⟩
end
end Go.Proofs.Ytbbehbgfdlamfaa
