/- The walks of Right at the zero tree, Size and Quiet at the examples. -/
import Derived.Test.YtkdcciajihoimaaSam
import Derived.Test.YtkdcciajihoimaaFol
import Derived.Deep.RegionWith
namespace Go.Proofs.Ytkdcciajihoimaa
open Go.RowKit

instance (st : Int) (lv : Nat → Int) (i : Nat) (l k : Int) : Decidable (El st lv i l k) := by unfold El; exact inferInstance
instance (st : Int) (n : Nat) (lv : Nat → Int) (i : Nat) (l : Int) (e : List Int) : Decidable (Nd st n lv i l e) := by unfold Nd; exact inferInstance
theorem tp_rt : Rt TP := ⟨by decide, by decide, line_hd, by decide, by decide, by decide +kernel, by decide⟩
theorem tc_rt : Rt TC := ⟨by decide, by decide, line_hd, by decide, by decide, by decide +kernel, by decide⟩

theorem right_zero (w : World) : Calls Try.prog 8 #[.agg #[.int .i64 0, .slice none 0 0, .slice none 0 0]] w fun e w' => e = .returned (.bool false) ∧ Below w.heap.size w w' := by
  have PO := Lib.hid (fun w => possible_zero none 0 0 w)
  have K1 := Blk.new w 25 #[.int .i64 0, .slice none 0 0, .slice none 0 0]
  have B1 := (Below.refl w.heap.size w).alloc (Nat.le_refl _) (.cells #[.int .i64 0, .slice none 0 0, .slice none 0 0] 25)
  go_enter Try.func8, Try.ntmps8
  go_wp2_with fail
  generalize w.alloc (.cells #[.int .i64 0, .slice none 0 0, .slice none 0 0] 25) = w0 at *
  obtain ⟨a0, a1, a2, a3⟩ := K1.three
  have B1 := Lib.hid B1
  clear K1
  go_wp2_with (go_at_call 20; (with_reducible refine (PO.out _).mono ?_); rintro e w1 ⟨rfl, rfl⟩)
  go_ret
  exact ⟨rfl, B1.out⟩

theorem mk_2 (w : World) : (Instr.makeSlice 26 (.int .i64 2) (.int .i64 2)).run Try.prog w = .ok (.slice (some ⟨w.heap.size, 0, none⟩) 2 2) (w.alloc (.cells (zs 2) 3)) := mk_zs (S := 2) (by omega) (by omega) w
set_option maxRecDepth 100000 in
set_option maxHeartbeats 4000000 in
theorem size_ex (AH AN : Option Addr) (cH cN : Nat) (w : World) (h : TS w AH AN TP) :
    Calls Try.prog 15 #[.agg #[.int .i64 2, .slice AH 2 cH, .slice AN 3 cN]] w fun e w' => ∃ g, e = .returned (.slice (some ⟨g, 0, none⟩) 2 2) ∧ Reads w' w'.heap.size (some ⟨g, 0, none⟩) 2 (il [2, 1]) ∧ Below w.heap.size w w' := by
  have RI := Lib.hid (fun w' (hb : Below w.heap.size w w') => show Calls Try.prog 8 #[.agg #[.int .i64 2, .slice AH 2 cH, .slice AN 3 cN]] w' fun e w'' => e = .returned (.bool true) ∧ Below w'.heap.size w' w'' from tright_yes AH cH AN cN TP w' (h.later hb) tp_rt)
  have HN := Lib.hid (fun w' (hb : Below w.heap.size w w') => h.2.below hb)
  have mk := mk_2
  have K1 := Blk.new w 25 #[.int .i64 2, .slice AH 2 cH, .slice AN 3 cN]
  have B1 := (Below.refl w.heap.size w).alloc (Nat.le_refl _) (.cells #[.int .i64 2, .slice AH 2 cH, .slice AN 3 cN] 25)
  clear h
  go_enter Try.func15, Try.ntmps15
  go_wp2_with fail
  generalize w.alloc (.cells #[.int .i64 2, .slice AH 2 cH, .slice AN 3 cN] 25) = w0 at *
  obtain ⟨a0, a1, a2, a3⟩ := K1.three
  have B1 := Lib.hid B1
  have K1 := Lib.hid K1
  go_upto_region 4 with (go_at_call 8; (with_reducible refine (RI.out _ B1.out).mono ?_); rintro e w1 ⟨rfl, hb⟩; have B2 := Lib.hid (B1.out.trans (hb.mono B1.out.size)); have K2 := Lib.hid (K1.out.below hb K1.out.lt); obtain ⟨b0, b1, b2, b3⟩ := K2.out.three; clear hb)
  have G3 := Lib.hid (show Blk (w1.alloc (.cells (zs 2) 3)) w1.heap.size 3 #[.int .i64 0, .int .i64 0] from Blk.new w1 3 (zs 2))
  have K3 := Lib.hid (K2.out.alloc (.cells (zs 2) 3))
  have B3 := Lib.hid (B2.out.alloc B2.out.size (.cells (zs 2) 3))
  have s1 := B2.out.size
  generalize w1.alloc (.cells (zs 2) 3) = w2 at *
  have hwg : w.heap.size ≤ w1.heap.size := s1
  generalize w1.heap.size = gs at *
  clear a0 a1 a2 a3 b0 b1 b2 b3 K1 K2 B1 B2 mk RI
  obtain ⟨b0, b1, b2, b3⟩ := K3.out.three
  go_wp2
  go_loopw [16] (fun iv wr => ∃ (j : Nat) (p q : Int), j ≤ 3 ∧ iv = .int .i64 (j : Int) ∧ p = ((min j 2 : Nat) : Int) ∧ q = ((j - 2 : Nat) : Int) ∧ Blk wr gs 3 #[.int .i64 p, .int .i64 q] ∧ Below w.heap.size w wr) (fun iv _ => 3 - (intOf iv).toNat)
  case atStart => exact ⟨0, 0, 0, by omega, rfl, rfl, rfl, G3.out, B3.out⟩
  case round =>
    obtain ⟨j, p, q, hj, rfl, hp, hq, hG, hbel⟩ := hrel
    have HG := Lib.hid hG
    have HB := Lib.hid hbel
    have HP := Lib.hid hp
    have HQ := Lib.hid hq
    have hbp : 0 ≤ p ∧ p ≤ 2 ∧ 0 ≤ q ∧ q ≤ 1 := by omega
    clear hG hbel hp hq b0 b1 b2 b3
    by_cases hlt : j < 3
    · obtain ⟨g1, o1, rfl, hb1, hc⟩ := HN.out _ HB.out (by decide)
      obtain ⟨A', c', h1, h2, -⟩ := hc j hlt
      have hgs : gs < wr.heap.size := HG.out.lt
      by_cases hj2 : j = 2
      · subst hj2
        have e1 : TP.lv 2 = 2 := rfl
        rw [e1] at h1
        generalize (TP.nx 2).length = m at h2
        have G5 := Lib.hid (HG.out.alloc (.cells #[.int .i64 2, .slice A' m c'] 30))
        have B5 := Lib.hid (HB.out.alloc HB.out.size (.cells #[.int .i64 2, .slice A' m c'] 30))
        obtain ⟨k0, k1, k2, k3, k4⟩ := G5.out.two
        clear hc
        go_wp2
        go_roundw
        case rel => exact ⟨3, p, q + 1, by omega, rfl, by have := HP.out; omega, by have := HQ.out; omega, (HG.out.set_ 1 (.int .i64 (q + 1))).alloc _, (HB.out.setCell (p := ⟨gs, 1, none⟩) hwg (.int .i64 (q + 1))).alloc (by simp [World.setCell]; exact HB.out.size) _⟩
        case measure => simp [intOf]
      · have e1 : TP.lv j = 1 := if_neg hj2
        rw [e1] at h1
        generalize (TP.nx j).length = m at h2
        have G5 := Lib.hid (HG.out.alloc (.cells #[.int .i64 1, .slice A' m c'] 30))
        have B5 := Lib.hid (HB.out.alloc HB.out.size (.cells #[.int .i64 1, .slice A' m c'] 30))
        obtain ⟨k0, k1, k2, k3, k4⟩ := G5.out.two
        clear hc
        go_wp2
        go_roundw
        case rel => exact ⟨j + 1, p + 1, q, by omega, by go_num, by have := HP.out; omega, by have := HQ.out; omega, (HG.out.set_ 0 (.int .i64 (p + 1))).alloc _, (HB.out.setCell (p := ⟨gs, 0, none⟩) hwg (.int .i64 (p + 1))).alloc (by simp [World.setCell]; exact HB.out.size) _⟩
        case measure => simp [intOf]; omega
    · obtain rfl : j = 3 := by omega
      have hp := HP.out
      have hq := HQ.out
      have hp2 : p = 2 := by omega
      have hq2 : q = 1 := by omega
      subst hp2 hq2
      clear hp hq
      go_wp2
      go_ret
      exact ⟨gs, rfl, ⟨by simp [il], fun _ => ⟨_, rfl, HG.out.lt, fun j u hj => by
        match j, hj with
        | 0, hj => simp [il] at hj; subst hj; exact HG.out.two.1
        | 1, hj => simp [il] at hj; subst hj; exact HG.out.two.2.1⟩⟩, HB.out⟩
end Go.Proofs.Ytkdcciajihoimaa
