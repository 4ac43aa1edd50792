/- The walk of Turn on a valid pattern. -/
import Derived.Test.YtobaabankhpfjaaDoorFrom
import Derived.Test.YtobaabankhpfjaaDoorApp
namespace Go.Proofs.YtobaabankhpfjaaDoor
open Go.RowKit

/-- a cell turned -/
def tc (m : Nat) (a : C3) : C3 := (turnX m a.1 a.2.1, turnY m a.1 a.2.1, a.2.2)
/-- a list turned -/
def tn (m : Nat) (f : Nat → C3) : Nat → C3 := fun i => tc m (f i)
theorem tc_ex (m : Nat) (a : C3) (hm : m < 8) (h : ex a = 0) : ex (tc m a) = 0 := by
  obtain ⟨x, y, s⟩ := a
  have hp : OkP (x, y, s) := by
    unfold ex at h
    by_cases hp : OkP (x, y, s)
    · exact hp
    · rw [if_pos hp] at h; cases h
  have hs : ¬ (s < 0 ∨ 8 ≤ s) := by
    unfold ex at h
    rw [if_neg (fun h' => h' hp)] at h
    intro h'
    rw [if_pos h'] at h
    cases h
  obtain ⟨p1, p2, p3, p4⟩ := hp
  have hq : OkP (tc m (x, y, s)) := by
    have := turn_bd m x y 1048576 hm p1 p2 p3 p4
    exact this
  unfold ex
  rw [if_neg (fun h' => h' hq)]
  exact if_neg hs
theorem tc_apart (m : Nat) (a b : C3) (hm : m < 8) (h : cp a b ≠ 0) : cp (tc m a) (tc m b) ≠ 0 := by
  intro e
  apply h
  rw [cp_zero] at *
  obtain ⟨x, y, s⟩ := a
  obtain ⟨u, v, r⟩ := b
  simp only [tc] at *
  revert e
  refine eight (P := fun m => turnX m x y = turnX m u v ∧ turnY m x y = turnY m u v → x = u ∧ y = v) ?_ ?_ ?_ ?_ ?_ ?_ ?_ ?_ m hm <;> (simp only [turnX, turnY]; omega)
theorem tn_ok {f : Nat → C3} {n m : Nat} (hm : m < 8) (h : OkL f n) : (∀ i, i < n → ex (tn m f i) = 0 ∧ (tn m f i).2.2 ≠ 0) ∧ ∀ i j, i < j → j < n → cp (tn m f i) (tn m f j) ≠ 0 :=
  ⟨fun i hi => ⟨tc_ex m _ hm (h.ex i hi).1, (h.ex i hi).2⟩, fun i j hij hj => tc_apart m _ _ hm (by have := h.up i j hij hj; omega)⟩

theorem size_al (w : World) (o : Obj) : (w.alloc o).heap.size = w.heap.size + 1 := by simp
theorem tn_cells (f : Nat → C3) (j : Nat) : cells3 f (j + 1) = cells3 f j ++ [.int .i64 (f j).1, .int .i64 (f j).2.1, .int .i64 (f j).2.2] := rfl

set_option maxRecDepth 100000 in
set_option maxHeartbeats 2000000 in
theorem turn_any (k : Int) (A : Option Addr) (n c : Nat) (f : Nat → C3) (w : World) (hM : Mat w) (h : CReads w w.heap.size A n f) (hok : OkL f n) :
    Calls Tryd.prog 6 #[.int .i64 k, .slice A n c] w fun e w' => ∃ A' c' f', e = .returned (.tuple #[.slice A' n c', .int .i64 0]) ∧ CReads w' w'.heap.size A' n f' ∧ (lst f' n).Perm (lst (tn (md k) f) n) ∧ OkL f' n ∧ Below w.heap.size w w' := by
  obtain ⟨i0, hi, hz0, hz1, hz2⟩ := info_parts Tryd.info_cell
  have hn := hok.1
  have R := pright_any A n c f w h (by omega)
  rw [decide_eq_true hok] at R
  have R := Lib.hid R
  have HP := Lib.hid (fun x y (w : World) hM => apply_any k x y w hM)
  have hm := md_lt k
  have TO := Lib.hid (tn_ok hm hok)
  have HO := Lib.hid hok
  have H := Lib.hid h
  have HM := Lib.hid hM
  generalize md k = m at HP hm TO ⊢
  clear h hok hM
  go_enter Tryd.func6, Tryd.ntmps6
  go_wp2_with (first
    | (go_at_call 19; (with_reducible refine R.out.mono ?_); rintro e w1 ⟨rfl, hb⟩; have B1 := Lib.hid hb; clear hb)
    | (at_make; refine wpList_make_own _ rfl _ _ 22 rfl w.heap.size 40 i0 (.agg #[.int .i64 0, .int .i64 0, .int .i64 0]) 3 Tryd.underlying22 hi hz0 hz1 .i64 .i64 _ n rfl rfl (by omega) (by rw [hz2]; omega) (by unfold maxLen; omega) B1.out.size ?_; intro w3 hown3 hgrow3; have B3 := Lib.hid (B1.out.grown hgrow3 B1.out.size (fun k hk => by cases hk)); clear hgrow3))
  obtain ⟨g, hg⟩ : ∃ g, g = w1.heap.size := ⟨_, rfl⟩
  rw [← hg] at hown3 ⊢
  clear hg R B1
  go_loopw [6, 18] (fun lv jv wr => ∃ j : Nat, j ≤ n ∧ jv = .int .i64 (j : Int) ∧ lv = .slice (some ⟨g, 0, none⟩) j n ∧ wr.ownsRow w.heap.size 40 3 (.slice (some ⟨g, 0, none⟩) j n) j (cells3 (tn m f) j) ∧ Below w.heap.size w wr) (fun _ jv _ => n - (intOf jv).toNat)
  case atStart => exact ⟨0, Nat.zero_le _, rfl, rfl, hown3, B3.out⟩
  case round =>
    obtain ⟨j, hj, rfl, rfl, hown, hbel⟩ := hrel
    have R := H.out.below hbel
    have HB := Lib.hid hbel
    have HW := Lib.hid hown
    by_cases hjn : j < n
    · obtain ⟨g1, o1, rfl, hb1, hc1⟩ := R (by omega)
      have c1 := hc1 j hjn
      have hgw : g1 < wr.heap.size := Nat.lt_of_lt_of_le hb1 hbel.size
      have hx0 := (HO.out.ex j hjn).1
      have hpk : OkP (f j) := by
        unfold ex at hx0
        by_cases h : OkP (f j)
        · exact h
        · rw [if_pos h] at hx0; cases hx0
      obtain ⟨⟨x, y, s⟩, hx⟩ : ∃ x, x = f j := ⟨_, rfl⟩
      have hmv : tn m f j = (turnX m x y, turnY m x y, s) := by unfold tn tc; rw [← hx]
      rw [← hx] at c1 hpk
      obtain ⟨p1, p2, p3, p4⟩ := hpk
      obtain ⟨c10, c11, c12⟩ := c1
      simp only at p1 p2 p3 p4 c10 c11 c12
      have HMV := Lib.hid hmv
      have K7 := Lib.hid (Blk.new wr 40 #[.int .i64 x, .int .i64 y, .int .i64 s])
      have B7 := Lib.hid (HB.out.alloc HB.out.size (.cells #[.int .i64 x, .int .i64 y, .int .i64 s] 40))
      have BW := Lib.hid ((Below.refl wr.heap.size wr).alloc (Nat.le_refl _) (.cells #[.int .i64 x, .int .i64 y, .int .i64 s] 40))
      have MW := (HM.out.below HB.out HM.out.1).alloc (.cells #[.int .i64 x, .int .i64 y, .int .i64 s] 40)
      have AP := Lib.hid (HP.out x y _ MW (by omega) (by omega) (by omega) (by omega))
      have CO := Lib.hid (tn_cells (tn m f) j)
      rw [HMV.out] at CO
      generalize turnX m x y = x' at HMV AP CO
      generalize turnY m x y = y' at HMV AP CO
      have hj5 : j + 1 ≤ n := by omega
      clear hc1 R hx0 hbel hown hx hmv MW
      go_wp2_with (first
        | (go_at_call 20; (with_reducible refine AP.out.mono ?_); rintro e w4 ⟨rfl, hb⟩; obtain ⟨k0, k1, k2, k3⟩ := (K7.out.below hb K7.out.lt).three; have B4 := Lib.hid ((B7.out.trans (hb.mono B7.out.size)).alloc (B7.out.trans (hb.mono B7.out.size)).size (.cells #[.int .i64 x', .int .i64 y'] 46)); have W4 := (own_below3 HW.out (BW.out.trans (hb.mono BW.out.size))).alloc (.cells #[.int .i64 x', .int .i64 y'] 46); have hs4 := B4.out.size; have k2' := (World.cell?_alloc_lt w4 (.cells #[.int .i64 x', .int .i64 y'] 46) ⟨wr.heap.size, 2, none⟩ k3).trans k2; clear hb)
        | (at_builtin; refine wpList_fit3 rfl _ _ 22 rfl w.heap.size 40 i0 Tryd.underlying22 hi hz1 g j n _ rfl W4 (.int .i64 x') (.int .i64 y') (.int .i64 s) (by rw [size_al]; rfl) rfl rfl rfl hj5 hs4 ?_; intro w5 hown5 hbel5))
      go_roundw
      case rel => exact ⟨j + 1, by omega, by go_num, rfl, by rw [CO.out]; exact hown5, B4.out.trans hbel5⟩
      case measure => simp [intOf]; omega
    · obtain rfl : j = n := by omega
      have FR := Lib.hid (from_any (some ⟨g, 0, none⟩) j j (tn m f) wr (CReads.of_own hown) hn TO.out.1 TO.out.2)
      clear R hbel hown
      go_wp2_with (go_at_call 21; (with_reducible refine FR.out.mono ?_); rintro e w4 ⟨A', c', f', rfl, h1, h2, h3, h4⟩; have F1 := Lib.hid h1; have F2 := Lib.hid h2; have F3 := Lib.hid h3; have F4 := Lib.hid (HB.out.trans (h4.mono HB.out.size)); clear h1 h2 h3 h4)
      go_ret2
      exact ⟨A', c', f', rfl, F1.out, F2.out, F3.out, F4.out⟩
end Go.Proofs.YtobaabankhpfjaaDoor
