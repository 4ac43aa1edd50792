/- The walks of the two Applys. -/
import Derived.Test.YthjamghemmanfaaDoorNum
namespace Go.Proofs.YthjamghemmanfaaDoor
open Go.RowKit

/-- the matrices' numbers -/
def mxx (m : Nat) : Int := match m with | 0 => 1 | 1 => 0 | 2 => -1 | 3 => 0 | 4 => -1 | 5 => 0 | 6 => 1 | _ => 0
def mxy (m : Nat) : Int := match m with | 0 => 0 | 1 => -1 | 2 => 0 | 3 => 1 | 4 => 0 | 5 => -1 | 6 => 0 | _ => 1
def myx (m : Nat) : Int := match m with | 0 => 0 | 1 => 1 | 2 => 0 | 3 => -1 | 4 => 0 | 5 => -1 | 6 => 0 | _ => 1
def myy (m : Nat) : Int := match m with | 0 => 1 | 1 => 0 | 2 => -1 | 3 => 0 | 4 => 1 | 5 => 0 | 6 => -1 | _ => 0
/-- the matrices lie in block 0 -/
def Mat (w : World) : Prop := 0 < w.heap.size ∧ ∀ m : Nat, m < 8 → w.cell? ⟨0, m * 4, none⟩ = some (.int .i64 (mxx m)) ∧ w.cell? ⟨0, m * 4 + 1, none⟩ = some (.int .i64 (mxy m)) ∧ w.cell? ⟨0, m * 4 + 2, none⟩ = some (.int .i64 (myx m)) ∧ w.cell? ⟨0, m * 4 + 3, none⟩ = some (.int .i64 (myy m))
section
variable {w w' : World}
theorem Mat.below {B : Nat} (h : Mat w) (hb : Below B w w') (hB : 0 < B) : Mat w' :=
  ⟨Nat.lt_of_lt_of_le h.1 hb.size, fun m hm => ⟨(hb.cell (p := ⟨0, _, none⟩) hB).trans (h.2 m hm).1, (hb.cell (p := ⟨0, _, none⟩) hB).trans (h.2 m hm).2.1, (hb.cell (p := ⟨0, _, none⟩) hB).trans (h.2 m hm).2.2.1, (hb.cell (p := ⟨0, _, none⟩) hB).trans (h.2 m hm).2.2.2⟩⟩
theorem Mat.alloc (h : Mat w) (o : Obj) : Mat (w.alloc o) := h.below ((Below.refl w.heap.size w).alloc (Nat.le_refl _) o) h.1
theorem Mat.drew (h : Mat w) : Mat w.drew := h
end
theorem apply_val (m : Nat) (x y : Int) (hm : m < 8) (hx : -4194304 ≤ x) (hx' : x ≤ 4194304) (hy : -4194304 ≤ y) (hy' : y ≤ 4194304) :
    wrap64 (wrap64 (mxx m * x) + wrap64 (mxy m * y)) = turnX m x y ∧ wrap64 (wrap64 (myx m * x) + wrap64 (myy m * y)) = turnY m x y := by
  refine eight (P := fun m => wrap64 (wrap64 (mxx m * x) + wrap64 (mxy m * y)) = turnX m x y ∧ wrap64 (wrap64 (myx m * x) + wrap64 (myy m * y)) = turnY m x y) ?_ ?_ ?_ ?_ ?_ ?_ ?_ ?_ m hm <;> simp only [mxx, mxy, myx, myy, turnX, turnY, wrap64] <;> omega
theorem turn_bd (m : Nat) (x y b : Int) (hm : m < 8) (hx : -b ≤ x) (hx' : x ≤ b) (hy : -b ≤ y) (hy' : y ≤ b) : -b ≤ turnX m x y ∧ turnX m x y ≤ b ∧ -b ≤ turnY m x y ∧ turnY m x y ≤ b := by
  refine eight (P := fun m => -b ≤ turnX m x y ∧ turnX m x y ≤ b ∧ -b ≤ turnY m x y ∧ turnY m x y ≤ b) ?_ ?_ ?_ ?_ ?_ ?_ ?_ ?_ m hm <;> simp only [turnX, turnY] <;> omega

theorem turn_four : ∀ (n : Nat) (x y : Int), n < 4 → turnX n (-x) y = turnX (n + 4) x y ∧ turnY n (-x) y = turnY (n + 4) x y := by
  intro n x y h
  match n, h with
  | 0, _ => exact ⟨rfl, rfl⟩
  | 1, _ => exact ⟨rfl, by show -x = -x; rfl⟩
  | 2, _ => exact ⟨by show -(-x) = x; omega, rfl⟩
  | 3, _ => exact ⟨rfl, by show -(-x) = x; omega⟩
theorem turn_next : ∀ (n : Nat) (x y : Int), n < 3 → turnX (n + 1) x y = -(turnY n x y) ∧ turnY (n + 1) x y = turnX n x y := by
  intro n x y h
  match n, h with
  | 0, _ => exact ⟨rfl, rfl⟩
  | 1, _ => exact ⟨rfl, rfl⟩
  | 2, _ => exact ⟨by show y = -(-y); omega, rfl⟩
theorem two_blk (w : World) (c1 c2 : Array Value) (t1 t2 : TypeId) :
    Blk ((w.alloc (.cells c1 t1)).alloc (.cells c2 t2)) w.heap.size t1 c1 ∧ Blk ((w.alloc (.cells c1 t1)).alloc (.cells c2 t2)) (w.heap.size + 1) t2 c2 ∧ Below w.heap.size w ((w.alloc (.cells c1 t1)).alloc (.cells c2 t2)) := by
  have s1 : (w.alloc (.cells c1 t1)).heap.size = w.heap.size + 1 := by simp
  have h1 := Blk.new w t1 c1
  have h2 := Blk.new (w.alloc (.cells c1 t1)) t2 c2
  rw [s1] at h2
  exact ⟨h1.alloc _, h2, ((Below.refl _ _).alloc (Nat.le_refl _) _).alloc (by omega) _⟩

theorem apply_any (k : Int) (x y : Int) (w : World) (hM : Mat w) (hx : -4194304 ≤ x) (hx' : x ≤ 4194304) (hy : -4194304 ≤ y) (hy' : y ≤ 4194304) :
    Calls Tryd.prog 8 #[.int .i64 k, .agg #[.int .i64 x, .int .i64 y]] w fun e w' => e = .returned (.agg #[.int .i64 (turnX (md k) x y), .int .i64 (turnY (md k) x y)]) ∧ Below w.heap.size w w' := by
  have H := Lib.hid (fun w => number_any k w)
  have hm := md_lt k
  have V := Lib.hid (apply_val (md k) x y hm hx hx' hy hy')
  generalize md k = m at H hm V ⊢
  obtain ⟨hz, hM⟩ := hM
  obtain ⟨m0, m1, m2, m3⟩ := hM m hm
  clear hx hx' hy hy' hM
  go_enter Tryd.func8, Tryd.ntmps8
  go_wp2_with (go_at_call 20; (with_reducible refine (H.out _).mono ?_); rintro e w' ⟨rfl, rfl⟩)
  exact bodyPost_ret (v := .agg #[.int .i64 (turnX m x y), .int .i64 (turnY m x y)]) (by simp [results, Tryd.results8, go_sem, V.out.1, V.out.2]) rfl ⟨rfl, (((Below.refl _ _).alloc (Nat.le_refl _) _).alloc (by simp) _).alloc (by simp; omega) _⟩
set_option maxHeartbeats 1000000 in
/-- the loop of quarter turns, from whatever the position is -/
theorem rapply_any (k : Int) (x y : Int) (w : World) (h1 : -9223372036854775808 ≤ k) (h2 : k ≤ 9223372036854775807) (hx : -4194304 ≤ x) (hx' : x ≤ 4194304) (hy : -4194304 ≤ y) (hy' : y ≤ 4194304) :
    Calls Tryd.prog 33 #[.int .i64 k, .agg #[.int .i64 x, .int .i64 y]] w fun e w' => e = .returned (.agg #[.int .i64 (turnX (md k) x y), .int .i64 (turnY (md k) x y)]) ∧ Below w.heap.size w w' := by
  have H := Lib.hid (fun w => mod_any k w h1 h2)
  have hm := md_lt k
  generalize md k = m at H hm ⊢
  by_cases h4 : 4 ≤ m
  · obtain ⟨n, rfl⟩ : ∃ n, m = n + 4 := ⟨m - 4, by omega⟩
    have hn : n < 4 := by omega
    have eX := Lib.hid (turn_four n x y hn).1
    have eY := Lib.hid (turn_four n x y hn).2
    obtain ⟨p, hp⟩ : ∃ p, p = -x := ⟨_, rfl⟩
    have hw : wrap64 (-x) = p := by rw [hp]; unfold wrap64; omega
    rw [← hp] at eX eY
    have hp1 : -4194304 ≤ p := by omega
    have hp2 : p ≤ 4194304 := by omega
    have hx3 : -x = p := hp.symm
    clear hp h1 h2 hm h4
    obtain ⟨k3, k4, b4⟩ := two_blk w #[.int .i64 p, .int .i64 y] #[.int .i64 0, .int .i64 0] 30 30
    have K3 := Lib.hid k3
    have K4 := Lib.hid k4
    have B4 := Lib.hid b4
    clear k3 k4 b4
    go_enter Tryd.func33, Tryd.ntmps33
    go_wp2_with (go_at_call 28; (with_reducible refine (H.out _).mono ?_); rintro e w' ⟨rfl, rfl⟩)
    go_loopw [5] (fun iv wr => ∃ (j : Nat) (a b : Int), j ≤ n ∧ iv = .int .i64 (j : Int) ∧ a = turnX j p y ∧ b = turnY j p y ∧ -4194304 ≤ a ∧ a ≤ 4194304 ∧ -4194304 ≤ b ∧ b ≤ 4194304 ∧ Blk wr w.heap.size 30 #[.int .i64 a, .int .i64 b] ∧ Blk wr (w.heap.size + 1) 30 #[.int .i64 0, .int .i64 0] ∧ Below w.heap.size w wr) (fun iv _ => n - (intOf iv).toNat)
    case atStart => exact ⟨0, p, y, Nat.zero_le _, rfl, rfl, rfl, by omega, by omega, by omega, by omega, K3.out, K4.out, B4.out⟩
    case round =>
      obtain ⟨j, a, b, hj, rfl, ha, hb, a1, a2, b1, b2, k3, k4, hbel⟩ := hrel
      have HA := Lib.hid ha
      have HB := Lib.hid hb
      have I3 := Lib.hid k3
      have I4 := Lib.hid k4
      have IB := Lib.hid hbel
      obtain ⟨c0, c1, c2, c3, c4⟩ := k3.two
      obtain ⟨d0, d1, d2, d3, d4⟩ := k4.two
      clear ha hb k3 k4 hbel K3 K4 B4
      by_cases hlt : j < n
      · go_wp2
        go_roundw
        case rel =>
          have hn := turn_next j p y (by omega)
          rw [← HA.out, ← HB.out] at hn
          have E3 := (I3.out.set_ 0 (.int .i64 (-b))).set_ 1 (.int .i64 a)
          have E4 := (I4.out.far (p := ⟨w.heap.size, 0, none⟩) (show w.heap.size + 1 ≠ w.heap.size by omega) (.int .i64 (-b))).far (p := ⟨w.heap.size, 1, none⟩) (show w.heap.size + 1 ≠ w.heap.size by omega) (.int .i64 a)
          exact ⟨j + 1, -b, a, by omega, by go_num, hn.1.symm, hn.2.symm, by omega, by omega, by omega, by omega, by simpa using E3, E4, (IB.out.setCell (p := ⟨w.heap.size, 0, none⟩) (Nat.le_refl _) _).setCell (p := ⟨w.heap.size, 1, none⟩) (Nat.le_refl _) _⟩
        case measure => simp [intOf]; omega
      · obtain rfl : j = n := by omega
        go_wp2
        have E4 := (I4.out.set_ 0 (.int .i64 a)).set_ 1 (.int .i64 b)
        have HZ := (IB.out.setCell (p := ⟨w.heap.size + 1, 0, none⟩) (Nat.le_succ _) (.int .i64 a)).setCell (p := ⟨w.heap.size + 1, 1, none⟩) (Nat.le_succ _) (.int .i64 b)
        have ea := HA.out
        have eb := HB.out
        rw [eX.out] at ea
        rw [eY.out] at eb
        generalize (wr.setCell ⟨w.heap.size + 1, 0, none⟩ (.int .i64 a)).setCell ⟨w.heap.size + 1, 1, none⟩ (.int .i64 b) = wz at E4 HZ ⊢
        have E4' : Blk wz (w.heap.size + 1) 30 #[.int .i64 a, .int .i64 b] := by simpa using E4
        obtain ⟨j0, j1, j2, j3, j4⟩ := E4'.two
        rw [← ea, ← eb]
        exact bodyPost_ret (v := .agg #[.int .i64 a, .int .i64 b]) (by simp [results, Tryd.results33, go_sem, j0, j1]) rfl ⟨rfl, HZ⟩
  · obtain ⟨n, rfl⟩ : ∃ n, n = m := ⟨m, rfl⟩
    obtain ⟨p, rfl⟩ : ∃ p, p = x := ⟨x, rfl⟩
    have hn : n < 4 := by omega
    have h4' : n < 4 := by omega
    clear h1 h2 hm h4
    obtain ⟨k3, k4, b4⟩ := two_blk w #[.int .i64 p, .int .i64 y] #[.int .i64 0, .int .i64 0] 30 30
    have K3 := Lib.hid k3
    have K4 := Lib.hid k4
    have B4 := Lib.hid b4
    clear k3 k4 b4
    go_enter Tryd.func33, Tryd.ntmps33
    go_wp2_with (go_at_call 28; (with_reducible refine (H.out _).mono ?_); rintro e w' ⟨rfl, rfl⟩)
    go_loopw [5] (fun iv wr => ∃ (j : Nat) (a b : Int), j ≤ n ∧ iv = .int .i64 (j : Int) ∧ a = turnX j p y ∧ b = turnY j p y ∧ -4194304 ≤ a ∧ a ≤ 4194304 ∧ -4194304 ≤ b ∧ b ≤ 4194304 ∧ Blk wr w.heap.size 30 #[.int .i64 a, .int .i64 b] ∧ Blk wr (w.heap.size + 1) 30 #[.int .i64 0, .int .i64 0] ∧ Below w.heap.size w wr) (fun iv _ => n - (intOf iv).toNat)
    case atStart => exact ⟨0, p, y, Nat.zero_le _, rfl, rfl, rfl, by omega, by omega, by omega, by omega, K3.out, K4.out, B4.out⟩
    case round =>
      obtain ⟨j, a, b, hj, rfl, ha, hb, a1, a2, b1, b2, k3, k4, hbel⟩ := hrel
      have HA := Lib.hid ha
      have HB := Lib.hid hb
      have I3 := Lib.hid k3
      have I4 := Lib.hid k4
      have IB := Lib.hid hbel
      obtain ⟨c0, c1, c2, c3, c4⟩ := k3.two
      obtain ⟨d0, d1, d2, d3, d4⟩ := k4.two
      clear ha hb k3 k4 hbel K3 K4 B4
      by_cases hlt : j < n
      · go_wp2
        go_roundw
        case rel =>
          have hn := turn_next j p y (by omega)
          rw [← HA.out, ← HB.out] at hn
          have E3 := (I3.out.set_ 0 (.int .i64 (-b))).set_ 1 (.int .i64 a)
          have E4 := (I4.out.far (p := ⟨w.heap.size, 0, none⟩) (show w.heap.size + 1 ≠ w.heap.size by omega) (.int .i64 (-b))).far (p := ⟨w.heap.size, 1, none⟩) (show w.heap.size + 1 ≠ w.heap.size by omega) (.int .i64 a)
          exact ⟨j + 1, -b, a, by omega, by go_num, hn.1.symm, hn.2.symm, by omega, by omega, by omega, by omega, by simpa using E3, E4, (IB.out.setCell (p := ⟨w.heap.size, 0, none⟩) (Nat.le_refl _) _).setCell (p := ⟨w.heap.size, 1, none⟩) (Nat.le_refl _) _⟩
        case measure => simp [intOf]; omega
      · obtain rfl : j = n := by omega
        go_wp2
        have E4 := (I4.out.set_ 0 (.int .i64 a)).set_ 1 (.int .i64 b)
        have HZ := (IB.out.setCell (p := ⟨w.heap.size + 1, 0, none⟩) (Nat.le_succ _) (.int .i64 a)).setCell (p := ⟨w.heap.size + 1, 1, none⟩) (Nat.le_succ _) (.int .i64 b)
        have ea := HA.out
        have eb := HB.out
        generalize (wr.setCell ⟨w.heap.size + 1, 0, none⟩ (.int .i64 a)).setCell ⟨w.heap.size + 1, 1, none⟩ (.int .i64 b) = wz at E4 HZ ⊢
        have E4' : Blk wz (w.heap.size + 1) 30 #[.int .i64 a, .int .i64 b] := by simpa using E4
        obtain ⟨j0, j1, j2, j3, j4⟩ := E4'.two
        rw [← ea, ← eb]
        exact bodyPost_ret (v := .agg #[.int .i64 a, .int .i64 b]) (by simp [results, Tryd.results33, go_sem, j0, j1]) rfl ⟨rfl, HZ⟩
end Go.Proofs.YthjamghemmanfaaDoor
