/- The walks of the reference's Moore, Neumann and Hex. -/
import Derived.Test.YtbcihgimflljoaaGreatDoorUsual
namespace Go.Proofs.YtbcihgimflljoaaGreatDoor
open Go.RowKit

theorem QReads.of_blk {w : World} {g : Nat} {t : TypeId} {l : List P2} (h : Blk w g t (cl l).toArray) : QReads w w.heap.size (some ⟨g, 0, none⟩) l.length (lf l) := fun _ => by
  refine ⟨g, 0, rfl, h.lt, fun k hk => ?_⟩
  rw [cl_lf] at h
  obtain ⟨c1, c2⟩ := cells2_at (lf l) l.length k hk
  simp only [Nat.zero_add]
  refine ⟨?_, ?_⟩
  · rw [h.cell, List.getElem?_toArray, c1]
  · rw [h.cell, List.getElem?_toArray, c2]
theorem M1_sq : lst (sq 1 3) 9 = M1 := by decide +kernel
theorem N1_M1 : (lst (lf M1) 9).filter (pdN 1) = N1 := by decide +kernel
theorem sq_at (j i : Nat) (hi : i < 3) : sq 1 3 (j * 3 + i) = ((i : Int) - 1, (j : Int) - 1) := by
  unfold sq
  rw [ptF_at _ _ _ _ _ hi]
  refine Prod.ext ?_ ?_ <;> simp only [] <;> omega
theorem bd_M1 : ∀ i, i < 9 → -1 ≤ (lf M1 i).1 ∧ (lf M1 i).1 ≤ 1 ∧ -1 ≤ (lf M1 i).2 ∧ (lf M1 i).2 ≤ 1 := by decide +kernel

set_option maxRecDepth 100000 in
set_option maxHeartbeats 2000000 in
theorem rmoore1 (w : World) : Calls Tryz.prog 36 #[.int .i64 1] w fun e w' => ∃ A c, e = .returned (.slice A 9 c) ∧ QReads w' w'.heap.size A 9 (lf M1) ∧ Below w.heap.size w w' := by
  obtain ⟨i0, hi, hz0, hz1, hz2⟩ := info_parts Tryz.info_point
  go_enter Tryz.func36, Tryz.ntmps36
  go_wp2
  go_loopw [3, 4] (fun lv yv wr => ∃ (j q : Nat) (A : Option Addr) (c : Nat), q = j * 3 ∧ j ≤ 3 ∧ yv = .int .i64 ((j : Int) - 1) ∧ lv = .slice A q c ∧ wr.ownsRow w.heap.size 35 2 (.slice A q c) q (cl (lst (sq 1 3) q)) ∧ Below w.heap.size w wr) (fun _ yv _ => (2 - intOf yv).toNat)
  case atStart => exact ⟨0, 0, none, 0, rfl, Nat.zero_le _, rfl, rfl, World.ownsRow_nil _ _ _ _, Below.refl _ _⟩
  case round =>
    obtain ⟨j, q, A, c, hq, hj, rfl, rfl, hown, hbel⟩ := hrel
    by_cases hjm : j < 3
    · have HQ := Lib.hid hq
      have HO := Lib.hid hown
      have HB := Lib.hid hbel
      have h1 : (j : Int) - 1 ≤ 1 := by omega
      clear hq hown hbel
      obtain ⟨wo, rfl⟩ : ∃ wo, wo = wr := ⟨_, rfl⟩
      go_wp2
      go_loopw [3, 5] (fun lv xv wr => ∃ (i r : Nat) (A : Option Addr) (c : Nat), r = q + i ∧ i ≤ 3 ∧ xv = .int .i64 ((i : Int) - 1) ∧ lv = .slice A r c ∧ wr.ownsRow w.heap.size 35 2 (.slice A r c) r (cl (lst (sq 1 3) r)) ∧ Below w.heap.size w wr) (fun _ xv _ => (2 - intOf xv).toNat)
      case atStart => exact ⟨0, q, A, c, rfl, Nat.zero_le _, rfl, rfl, HO.out, HB.out⟩
      case round =>
        obtain ⟨i, r, A, c, hr, hin, rfl, rfl, hown, hbel⟩ := hrel
        by_cases hlt : i < 3
        · have h2 : (i : Int) - 1 ≤ 1 := by omega
          have hrN : r ≤ 8 := by have h2 := HQ.out; omega
          have hs := hbel.size
          have HPT := Lib.hid (show cl (lst (sq 1 3) (r + 1)) = cl (lst (sq 1 3) r) ++ [.int .i64 ((i : Int) - 1), .int .i64 ((j : Int) - 1)] by
            rw [lst_succ, cl_add, hr, HQ.out, sq_at _ _ hlt])
          have HR := Lib.hid hr
          have HBE := Lib.hid hbel
          clear hr hbel
          go_wp2_with (at_builtin; refine wpList_append2 rfl _ _ 22 rfl w.heap.size 35 i0 (.agg #[.int .i64 0, .int .i64 0]) 16 Tryz.underlying22 hi hz0 hz1 hz2 rfl A r c _ rfl hown (.int .i64 ((i : Int) - 1)) (.int .i64 ((j : Int) - 1)) rfl rfl rfl (by unfold maxLen; omega) (by omega) hs ?_; intro g5 c5 w5 hown5 hbel5)
          go_roundw
          case rel => exact ⟨i + 1, r + 1, _, c5, by have := HR.out; omega, by omega, by go_num, rfl, by rw [HPT.out]; exact hown5, HBE.out.trans hbel5⟩
          case measure => simp [intOf]; omega
        · obtain rfl : i = 3 := by omega
          have HR := Lib.hid hr
          clear hr
          go_wp2
          go_roundw
          case rel => exact ⟨j + 1, r, A, c, by rw [HR.out, HQ.out, Nat.add_mul], by omega, by go_num, rfl, hown, hbel⟩
          case measure => simp [intOf]; omega
    · obtain rfl : j = 3 := by omega
      obtain rfl : q = 9 := by omega
      rw [M1_sq] at hown
      have HO := Lib.hid (show QReads wr wr.heap.size A 9 (lf M1) by
        have h9 := QReads.of_list (w := wr) (base := w.heap.size) (c := c) (e := 35) (A := A) (l := M1) (by rw [len_M1]; exact hown)
        rwa [len_M1] at h9)
      have HB := Lib.hid hbel
      clear hown hbel
      go_wp2
      go_ret
      exact ⟨A, ⟨c, rfl⟩, HO.out, HB.out⟩
theorem abs_any (c : Int) (w : World) (h1 : -1000000 ≤ c) (h2 : c ≤ 1000000) :
    Calls Tryz.prog 37 #[.int .i64 c] w fun e w' => e = .returned (.int .i64 (ab c)) ∧ w = w' := by
  rcases Int.lt_trichotomy c 0 with h | h | h
  · have e : ab c = -c := by unfold ab; omega
    rw [e]
    clear e
    go_enter Tryz.func37, Tryz.ntmps37
    go_wp2
    go_ret
    exact ⟨rfl, rfl⟩
  · subst h
    go_enter Tryz.func37, Tryz.ntmps37
    go_wp2
    go_ret
    exact ⟨rfl, rfl⟩
  · have e : ab c = c := by unfold ab; omega
    rw [e]
    clear e
    go_enter Tryz.func37, Tryz.ntmps37
    go_wp2
    go_ret
    exact ⟨rfl, rfl⟩
theorem n1_len (j : Nat) : ((lst (lf M1) j).filter (pdN 1)).length ≤ j := by
  have := List.length_filter_le (pdN 1) (lst (lf M1) j)
  rwa [lst_len] at this
set_option maxRecDepth 100000 in
set_option maxHeartbeats 2000000 in
theorem rneumann1 (w : World) : Calls Tryz.prog 19 #[.int .i64 1] w fun e w' => ∃ A c, e = .returned (.slice A 5 c) ∧ QReads w' w'.heap.size A 5 (lf N1) ∧ Below w.heap.size w w' := by
  obtain ⟨i0, hi, hz0, hz1, hz2⟩ := info_parts Tryz.info_point
  have MO := Lib.hid (rmoore1 w)
  go_enter Tryz.func19, Tryz.ntmps19
  go_wp2_with (go_at_call 36; (with_reducible refine MO.out.mono ?_); rintro e w2 ⟨A0, c0, rfl, hr, hb⟩; have R2 := Lib.hid hr; have B2 := Lib.hid hb; clear hr hb)
  go_loopw [4, 5] (fun lv jv wr => ∃ (j : Nat) (l : List P2) (A : Option Addr) (c : Nat), j ≤ 9 ∧ jv = .int .i64 (j : Int) ∧ l.length ≤ j ∧ lv = .slice A l.length c ∧ l = (lst (lf M1) j).filter (pdN 1) ∧ wr.ownsRow w2.heap.size 35 2 (.slice A l.length c) l.length (cl l) ∧ Below w2.heap.size w2 wr) (fun _ jv _ => 9 - (intOf jv).toNat)
  case atStart => exact ⟨0, [], none, 0, Nat.zero_le _, rfl, Nat.le_refl _, rfl, rfl, World.ownsRow_nil _ _ _ _, Below.refl _ _⟩
  case round =>
    obtain ⟨j, l, A, c, hj, rfl, hl, rfl, hll, hown, hbel⟩ := hrel
    have HL := Lib.hid hll
    have HW := Lib.hid hown
    have HE := Lib.hid hbel
    clear hll hown
    by_cases hjn : j < 9
    · obtain ⟨g1, o1, rfl, hb1, hc1⟩ := (R2.out.below hbel) (by omega)
      have hgw : g1 < wr.heap.size := Nat.lt_of_lt_of_le hb1 hbel.size
      obtain ⟨c0, c1⟩ := hc1 j hjn
      obtain ⟨b1, b2, b3, b4⟩ := bd_M1 j hjn
      have step := fun (l' : List P2) (e : l' = if pdN 1 (lf M1 j) = true then l ++ [lf M1 j] else l) => (show l' = (lst (lf M1) (j + 1)).filter (pdN 1) by
        rw [e, lst_succ, List.filter_append, ← HL.out]
        by_cases hp : pdN 1 (lf M1 j) = true <;> simp [hp])
      have hpd : pdN 1 (lf M1 j) = decide (ab (lf M1 j).1 + ab (lf M1 j).2 ≤ 1) := rfl
      obtain ⟨⟨x, y⟩, hx⟩ : ∃ x, x = lf M1 j := ⟨_, rfl⟩
      rw [← hx] at c0 c1 b1 b2 b3 b4 step hpd
      simp only at c0 c1 b1 b2 b3 b4 hpd
      clear hx hc1 hbel
      have STEP := Lib.hid step
      clear step
      have bx : 0 ≤ ab x ∧ ab x ≤ 1 := by unfold ab; omega
      have by_ : 0 ≤ ab y ∧ ab y ≤ 1 := by unfold ab; omega
      have S1 := Lib.hid (fun w => abs_any x w (by omega) (by omega))
      have S2 := Lib.hid (fun w => abs_any y w (by omega) (by omega))
      have HW3 := Lib.hid (show ∀ k, (wr.drewN k).ownsRow w2.heap.size 35 2 (.slice A l.length c) l.length (cl l) from fun k => HW.out)
      have HE3 := Lib.hid (fun k => below_drewN HE.out k)
      generalize ab x = s1 at S1 bx hpd
      generalize ab y = s2 at S2 by_ hpd
      by_cases hle : s1 + s2 ≤ 1
      · rw [decide_eq_true hle] at hpd
        have HP := Lib.hid hpd
        clear hpd
        go_wp2_with fail
        go_quiet (first | (go_at_call 37; exact Calls.quiet_of_same ((S1.out _).mono fun _ _ h => ⟨h.1, h.2.symm⟩)) | (go_at_call 37; exact Calls.quiet_of_same ((S2.out _).mono fun _ _ h => ⟨h.1, h.2.symm⟩)))
        go_wp2_with (at_builtin; refine wpList_append2 rfl _ _ 22 rfl w2.heap.size 35 i0 (.agg #[.int .i64 0, .int .i64 0]) 16 Tryz.underlying22 hi hz0 hz1 hz2 rfl A l.length c _ rfl (HW3.out _) (.int .i64 x) (.int .i64 y) rfl rfl rfl (by unfold maxLen; omega) (by omega) (HE3.out _).size ?_; intro g5 c5 w5 hown5 hbel5)
        go_roundw
        case rel =>
          refine ⟨j + 1, l ++ [(x, y)], some ⟨g5, 0, none⟩, c5, by omega, by go_num, by (simp; omega), by simp, STEP.out _ (by rw [HP.out]; rfl), by (rw [cl_add]; simpa using hown5), (HE3.out _).trans hbel5⟩
        case measure => simp [intOf]; omega
      · rw [decide_eq_false hle] at hpd
        have HP := Lib.hid hpd
        clear hpd
        go_wp2_with fail
        go_quiet (first | (go_at_call 37; exact Calls.quiet_of_same ((S1.out _).mono fun _ _ h => ⟨h.1, h.2.symm⟩)) | (go_at_call 37; exact Calls.quiet_of_same ((S2.out _).mono fun _ _ h => ⟨h.1, h.2.symm⟩)))
        go_wp2
        go_roundw
        case rel => exact ⟨j + 1, l, A, c, by omega, by go_num, by omega, rfl, STEP.out _ (by rw [HP.out]; rfl), HW.out, below_drewN HE.out _⟩
        case measure => simp [intOf]; omega
    · obtain rfl : j = 9 := by omega
      have hl := HL.out
      rw [N1_M1] at hl
      have h5 : l.length = 5 := by rw [hl, len_N1]
      have HO := Lib.hid (show QReads wr wr.heap.size A 5 (lf N1) by
        have h9 := QReads.of_list HW.out
        rwa [h5, hl] at h9)
      have HB := Lib.hid (B2.out.trans (HE.out.mono B2.out.size))
      rw [h5]
      clear hbel hl h5 HW HL
      go_wp2
      go_ret
      exact ⟨A, c, rfl, HO.out, HB.out⟩
end Go.Proofs.YtbcihgimflljoaaGreatDoor
