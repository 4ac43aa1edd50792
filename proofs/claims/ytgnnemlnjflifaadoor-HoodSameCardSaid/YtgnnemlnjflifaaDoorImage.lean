/- The walks of image and Syms on valid neighbourhoods. -/
import Derived.Test.YtgnnemlnjflifaaDoorImg
import Derived.Test.YtgnnemlnjflifaaDoorRight
namespace Go.Proofs.YtgnnemlnjflifaaDoor
open Go.RowKit

/-- the images of the offsets, unsorted -/
def tn (m : Nat) (f : Nat → P2) (i : Nat) : P2 := (turnX m (f i).1 (f i).2, turnY m (f i).1 (f i).2)
theorem tn_inj (m : Nat) (hm : m < 8) (f : Nat → P2) (i j : Nat) (h : tn m f i = tn m f j) : f i = f j := by
  unfold tn at h
  generalize f i = a at h ⊢
  generalize f j = b at h ⊢
  obtain ⟨x, y⟩ := a
  obtain ⟨u, v⟩ := b
  refine eight (P := fun m => (turnX m x y, turnY m x y) = (turnX m u v, turnY m u v) → (x, y) = (u, v)) ?_ ?_ ?_ ?_ ?_ ?_ ?_ ?_ m hm h <;> simp only [turnX, turnY, Prod.mk.injEq] <;> omega
theorem Hd.up {f : Nat → P2} {n : Nat} (h : Hd f n) : Up f n := by
  intro i j hij hj
  induction j with
  | zero => omega
  | succ j ih =>
    have h1 := h.2.2 j (by omega)
    by_cases e : i = j
    · rw [e]; exact h1
    · have h2 := ih (by omega) (by omega)
      rw [pc_lt] at *
      omega
theorem Up.ne {f : Nat → P2} {n : Nat} (h : Up f n) (i j : Nat) (hij : i < j) (hj : j < n) : f i ≠ f j := fun e => by
  have h1 := h i j hij hj
  rw [e, pc_lt] at h1
  omega

set_option maxRecDepth 100000 in
set_option maxHeartbeats 2000000 in
theorem image_any (k : Int) (A : Option Addr) (n c : Nat) (f : Nat → P2) (w : World) (hM : Mat w) (h : QReads w w.heap.size A n f) (hd : Hd f n) :
    Calls Tryd.prog 25 #[.int .i64 k, .slice A n c] w fun e w' => ∃ A' c' f', e = .returned (.slice A' n c') ∧ QReads w' w'.heap.size A' n f' ∧ (lst f' n).Perm (lst (tn (md k) f) n) ∧ Up f' n ∧ Below w.heap.size w w' := by
  obtain ⟨i0, hi, hz0, hz1, hz2⟩ := info_parts Tryd.info_point
  have hap : ∀ i j, i < j → j < n → tn (md k) f i ≠ tn (md k) f j := fun i j hij hj e => hd.up.ne i j hij hj (tn_inj _ (md_lt k) f i j e)
  obtain ⟨⟨hn1, hn2⟩, hin, _⟩ := hd
  have H := Lib.hid h
  have HI := Lib.hid hin
  have MH := Lib.hid hM
  have ST := Lib.hid (fun A c w (h : QReads w w.heap.size A n (tn (md k) f)) => psort_any A n c (tn (md k) f) w h hn1 (by omega) hap)
  have hz : 0 < w.heap.size := hM.1
  clear h hin hM hap
  go_enter Tryd.func25, Tryd.ntmps25
  go_wp2_with (at_make; refine wpList_make_own _ rfl _ _ 22 rfl w.heap.size 27 i0 (.agg #[.int .i64 0, .int .i64 0]) 2 Tryd.underlying22 hi hz0 hz1 .i64 .i64 _ n rfl rfl (by omega) (by rw [hz2]; omega) (by unfold maxLen; omega) (Nat.le_refl _) ?_; intro w2 hown2 hgrow2; have PB2 := Lib.hid ((Below.refl w.heap.size w).grown hgrow2 (Nat.le_refl _) (fun k hk => by cases hk)))
  have HO2 := Lib.hid hown2
  have HP2 := PB2.out
  clear hown2 hgrow2
  go_loopw [5, 13] (fun lv jv wr => ∃ j : Nat, j ≤ n ∧ jv = .int .i64 (j : Int) ∧ lv = .slice (some ⟨w.heap.size, 0, none⟩) j n ∧ wr.ownsRow w.heap.size 27 2 (.slice (some ⟨w.heap.size, 0, none⟩) j n) j (cells2 (tn (md k) f) j) ∧ Below w.heap.size w wr) (fun _ jv _ => n - (intOf jv).toNat)
  case atStart => exact ⟨0, Nat.zero_le _, rfl, rfl, HO2.out, HP2⟩
  case round =>
    obtain ⟨j, hj, rfl, rfl, hown, hbel⟩ := hrel
    have R := H.out.below hbel
    have HB := Lib.hid hbel
    have HW := Lib.hid hown
    clear hown HP2
    by_cases hjn : j < n
    · obtain ⟨g1, o1, rfl, hb1, hc1⟩ := R (by omega)
      obtain ⟨c10, c11⟩ := hc1 j hjn
      have hx4 := HI.out j hjn
      have hgw : g1 < wr.heap.size := Nat.lt_of_lt_of_le hb1 hbel.size
      have hcell : cells2 (tn (md k) f) (j + 1) = cells2 (tn (md k) f) j ++ [.int .i64 (turnX (md k) (f j).1 (f j).2), .int .i64 (turnY (md k) (f j).1 (f j).2)] := rfl
      generalize f j = x at c10 c11 hx4 hcell
      obtain ⟨x1, x2⟩ := x
      simp only at c10 c11 hx4 hcell
      have HC := Lib.hid hcell
      have B7 := HB.out.alloc HB.out.size (.cells #[.int .i64 x1, .int .i64 x2] 27)
      have BW := Lib.hid ((Below.refl wr.heap.size wr).alloc (Nat.le_refl _) (.cells #[.int .i64 x1, .int .i64 x2] 27))
      have AP := Lib.hid (apply_any k x1 x2 (wr.alloc (.cells #[.int .i64 x1, .int .i64 x2] 27)) (MH.out.below B7 hz) (by omega) (by omega) (by omega) (by omega))
      clear hc1 R hx4 hbel hcell B7
      go_wp2_with (first
        | (go_at_call 31; (with_reducible refine AP.out.mono ?_); rintro e w4 ⟨rfl, hb⟩; have BX := Lib.hid (BW.out.trans (hb.mono BW.out.size)); have B4 := Lib.hid (HB.out.trans (BX.out.mono HB.out.size)); have W4 := own_below2 HW.out BX.out; have hs4 := B4.out.size; clear hb)
        | (at_builtin; refine wpList_fit2 rfl _ _ 22 rfl w.heap.size 27 i0 Tryd.underlying22 hi hz1 w.heap.size j n _ rfl W4 (.int .i64 (turnX (md k) x1 x2)) (.int .i64 (turnY (md k) x1 x2)) rfl rfl rfl (by omega) hs4 ?_; intro w5 hown5 hbel5))
      go_roundw
      case rel => exact ⟨j + 1, by omega, by go_num, rfl, by rw [HC.out]; exact hown5, B4.out.trans hbel5⟩
      case measure => simp [intOf]; omega
    · obtain rfl : j = n := by omega
      have S1 := Lib.hid (ST.out (some ⟨w.heap.size, 0, none⟩) j wr (QReads.of_own HW.out))
      clear R hbel
      go_wp2_with (go_at_call 32; (with_reducible refine S1.out.mono ?_); rintro e w4 ⟨A', c', f', rfl, h1, h2, h3, hb⟩; have R4 := Lib.hid h1; have P4 := Lib.hid h2; have U4 := Lib.hid h3; have B4 := Lib.hid (HB.out.trans (hb.mono HB.out.size)); clear h1 h2 h3 hb)
      go_ret
      exact ⟨A', c', f', rfl, R4.out, P4.out, U4.out, B4.out⟩
end Go.Proofs.YtgnnemlnjflifaaDoor
