/- The walks of Radius, Index and Centre on valid neighbourhoods. -/
import Derived.Test.YtgnnemlnjflifaaDoorUsual
namespace Go.Proofs.YtgnnemlnjflifaaDoor
open Go.RowKit

/-- the radius of the first n offsets -/
def rd (f : Nat → P2) : Nat → Int
  | 0 => 0
  | n + 1 => max (rd f n) (max (ab (f n).1) (ab (f n).2))
theorem rd_bd (f : Nat → P2) (n : Nat) (h : ∀ i, i < n → -2 ≤ (f i).1 ∧ (f i).1 ≤ 2 ∧ -2 ≤ (f i).2 ∧ (f i).2 ≤ 2) : 0 ≤ rd f n ∧ rd f n ≤ 2 := by
  induction n with
  | zero => simp [rd]
  | succ n ih =>
    have h1 := ih fun i hi => h i (by omega)
    have h2 := h n (by omega)
    unfold rd ab
    omega

theorem run_max3 {P : Program} (w : World) (ts : Array TypeId) (t : TypeId) (k : IntKind) (x y z : Int) : (Builtin.max_ ts t #[.int k x, .int k y, .int k z]).run P w = .ok (.int k (max x (max y z))) w := by
  have e : (if z > (if y > x then y else x) then z else (if y > x then y else x)) = max x (max y z) := by
    split <;> split at * <;> omega
  simp [Builtin.max_, Builtin.max2, e]
set_option maxRecDepth 100000 in
set_option maxHeartbeats 2000000 in
theorem radius_any (A : Option Addr) (n c : Nat) (f : Nat → P2) (w : World) (h : QReads w w.heap.size A n f) (hd : Hd f n) :
    Calls Tryd.prog 11 #[.slice A n c] w fun e w' => e = .returned (.int .i64 (rd f n)) ∧ Below w.heap.size w w' := by
  have RI := Lib.hid (hright_any A n c f w h hd)
  obtain ⟨⟨hn1, hn2⟩, hin, hup⟩ := hd
  have H := Lib.hid h
  have HI := Lib.hid hin
  clear h hin hup
  go_enter Tryd.func11, Tryd.ntmps11
  go_wp2_with (go_at_call 12; (with_reducible refine RI.out.mono ?_); rintro e w1 ⟨rfl, hb⟩; have B1 := Lib.hid hb; clear hb)
  go_loopw [3, 11] (fun rv iv wr => ∃ j : Nat, j ≤ n ∧ rv = .int .i64 (rd f j) ∧ iv = .int .i64 (j : Int) ∧ Below w.heap.size w wr) (fun _ iv _ => n - (intOf iv).toNat)
  case atStart => exact ⟨0, Nat.zero_le _, rfl, rfl, B1.out⟩
  case round =>
    obtain ⟨j, hj, rfl, rfl, hbel⟩ := hrel
    have R := H.out.below hbel
    have HB := Lib.hid hbel
    by_cases hjn : j < n
    · obtain ⟨g1, o1, rfl, hb1, hc1⟩ := R (by omega)
      have c1 := hc1 j hjn
      have hgw : g1 < wr.heap.size := Nat.lt_of_lt_of_le hb1 hbel.size
      have hx4 := HI.out j hjn
      have hr := rd_bd f j (fun i hi => HI.out i (by omega))
      clear hbel
      have hs : rd f (j + 1) = max (rd f j) (max (ab (f j).1) (ab (f j).2)) := rfl
      generalize f j = x at c1 hx4 hs
      obtain ⟨x1, x2⟩ := x
      obtain ⟨c10, c11⟩ := c1
      simp only at c10 c11 hx4 hs
      have S1 := Lib.hid (fun w => size_any x1 w (by omega) (by omega))
      have S2 := Lib.hid (fun w => size_any x2 w (by omega) (by omega))
      have b1 : 0 ≤ ab x1 ∧ ab x1 ≤ 2 := by unfold ab; omega
      have b2 : 0 ≤ ab x2 ∧ ab x2 ≤ 2 := by unfold ab; omega
      generalize rd f j = r at hr hs ⊢
      generalize ab x1 = s1 at S1 b1 hs
      generalize ab x2 = s2 at S2 b2 hs
      have hm : ∀ (w : World) (ts : Array TypeId) (t : TypeId), (Builtin.max_ ts t #[.int .i64 r, .int .i64 s1, .int .i64 s2]).run Tryd.prog w = .ok (.int .i64 (rd f (j + 1))) w := fun w ts t => by rw [hs]; exact run_max3 w ts t .i64 r s1 s2
      obtain ⟨r', hr'⟩ : ∃ r', r' = rd f (j + 1) := ⟨_, rfl⟩
      rw [← hr'] at hm
      have HR' := Lib.hid hr'
      clear hr'
      have B7 := Lib.hid (HB.out.alloc HB.out.size (.cells #[.int .i64 x1, .int .i64 x2] 27))
      clear hc1 R hx4 hs
      go_wp2_with fail
      go_quiet (first | (go_at_call 18; exact Calls.quiet_of_same ((S1.out _).mono fun _ _ h => ⟨h.1, h.2.symm⟩)) | (go_at_call 18; exact Calls.quiet_of_same ((S2.out _).mono fun _ _ h => ⟨h.1, h.2.symm⟩)))
      all_goals go_wp2
      all_goals go_roundw
      case rel => exact ⟨j + 1, by omega, by rw [HR'.out], by go_num, below_drewN B7.out _⟩
      case measure => simp [intOf]; omega
    · obtain rfl : j = n := by omega
      clear R hbel
      go_wp2
      go_ret
      exact ⟨rfl, HB.out⟩

set_option maxRecDepth 100000 in
set_option maxHeartbeats 2000000 in
theorem index_any (A : Option Addr) (n c k : Nat) (f : Nat → P2) (u v : Int) (w : World) (h : QReads w w.heap.size A n f) (hn : n ≤ 1000) (hk : k < n) (h1 : f k = (u, v)) (h2 : ∀ i, i < k → f i ≠ (u, v)) :
    Calls Tryd.prog 21 #[.slice A n c, .agg #[.int .i64 u, .int .i64 v]] w fun e w' => e = .returned (.int .i64 (k : Int)) ∧ Below w.heap.size w w' := by
  have H := Lib.hid h
  have H1 := Lib.hid h1
  have H2 := Lib.hid h2
  have K0 := Lib.hid (Blk.new w 27 #[.int .i64 u, .int .i64 v])
  have B0 := Lib.hid ((Below.refl w.heap.size w).alloc (Nat.le_refl _) (.cells #[.int .i64 u, .int .i64 v] 27))
  clear h h1 h2
  go_enter Tryd.func21, Tryd.ntmps21
  go_wp2_with fail
  generalize w.alloc (.cells #[.int .i64 u, .int .i64 v] 27) = w0 at K0 B0 ⊢
  go_wp2
  go_loopw [8] (fun iv wr => ∃ j : Nat, j ≤ k ∧ iv = .int .i64 (j : Int) ∧ Below w0.heap.size w0 wr) (fun iv _ => n - (intOf iv).toNat)
  case atStart => exact ⟨0, Nat.zero_le _, rfl, Below.refl _ _⟩
  case round =>
    obtain ⟨j, hj, rfl, hbel⟩ := hrel
    have HB := Lib.hid (B0.out.trans (hbel.mono B0.out.size))
    have HX := Lib.hid hbel
    obtain ⟨k0, k1, k2, k3, k4⟩ := (K0.out.below hbel K0.out.lt).two
    obtain ⟨g1, o1, rfl, hb1, hc1⟩ := H.out.below HB.out (by omega)
    have hjn : j < n := by omega
    obtain ⟨c0, c1⟩ := hc1 j hjn
    clear hc1 hbel
    by_cases hlt : j < k
    · have hne := H2.out j hlt
      obtain ⟨⟨x, y⟩, hx⟩ : ∃ x, x = f j := ⟨_, rfl⟩
      rw [← hx] at c0 c1 hne
      simp only at c0 c1
      clear hx
      by_cases e1 : u = x
      · subst e1
        have e2 : (v == y) = false := by rw [beq_eq_false_iff_ne]; intro e; exact hne (by rw [e])
        clear hne
        go_wp2_with fail
        go_quiet (fail)
        go_wp2
        go_roundw
        case rel => exact ⟨j + 1, by omega, by go_num, below_drewN HX.out _⟩
        case measure => simp [intOf]; omega
      · have e1 : (u == x) = false := by rw [beq_eq_false_iff_ne]; exact e1
        clear hne
        go_wp2_with fail
        go_quiet (fail)
        go_wp2
        go_roundw
        case rel => exact ⟨j + 1, by omega, by go_num, below_drewN HX.out _⟩
        case measure => simp [intOf]; omega
    · obtain rfl : j = k := by omega
      rw [H1.out] at c0 c1
      simp only at c0 c1
      go_wp2_with fail
      go_quiet (fail)
      go_wp2
      go_ret
      exact ⟨rfl, below_drewN HB.out _⟩
theorem centre_any (A : Option Addr) (n c k : Nat) (f : Nat → P2) (w : World) (h : QReads w w.heap.size A n f) (hd : Hd f n) (hk : k < n) (h1 : f k = (0, 0)) (h2 : ∀ i, i < k → f i ≠ (0, 0)) :
    Calls Tryd.prog 10 #[.slice A n c] w fun e w' => e = .returned (.int .i64 (k : Int)) ∧ Below w.heap.size w w' := by
  have RI := Lib.hid (hright_any A n c f w h hd)
  have hn := hd.1.2
  have IX := Lib.hid (fun w1 (hb : Below w.heap.size w w1) => index_any A n c k f 0 0 w1 (h.later hb) (by omega) hk h1 h2)
  clear h hd h1 h2
  go_enter Tryd.func10, Tryd.ntmps10
  go_wp2_with (first
    | (go_at_call 12; (with_reducible refine RI.out.mono ?_); rintro e w1 ⟨rfl, hb⟩; have B1 := Lib.hid hb; clear hb)
    | (go_at_call 21; (with_reducible refine (IX.out _ B1.out).mono ?_); rintro e w2 ⟨rfl, hb⟩; have B2 := Lib.hid (B1.out.trans (hb.mono B1.out.size)); clear hb))
  go_ret
  exact ⟨rfl, B2.out⟩
end Go.Proofs.YtgnnemlnjflifaaDoor
