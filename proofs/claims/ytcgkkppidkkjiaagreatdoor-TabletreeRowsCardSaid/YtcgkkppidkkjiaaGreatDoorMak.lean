/- The walks of Compact and point.Sort on positions that are all different, and of image. -/
import Derived.Test.YtcgkkppidkkjiaaGreatDoorMaa
import Derived.Test.YtcgkkppidkkjiaaGreatDoorMah
import Derived.Test.YtcgkkppidkkjiaaGreatDoorMae
import Derived.Test.YtcgkkppidkkjiaaGreatDoorMac
import Derived.Test.YtcgkkppidkkjiaaGreatDoorMaf
import Derived.Test.YtcgkkppidkkjiaaGreatDoorMab
import Derived.Test.YtcgkkppidkkjiaaGreatDoorMaj
import Derived.Below
import Derived.BigQuiet
import Derived.Deep.AppendLies
import Derived.Deep.CutRange
import Derived.Deep.Draws
import Derived.Deep.QuietTactic
import Derived.IntWalk
import Derived.Laws.BitsLemmas
import Derived.Laws.OwnMore
import Derived.Laws.Rows
import Derived.Lib.Hide
import Derived.Lib.SliceRun
import Derived.LoopN
import Derived.OwnWalk
import Derived.Shelf.SlLaysF0
import Derived.Sort.Grow
import Derived.Sort.Statements
import Derived.StillTail
import Derived.StillTailTactics
import Derived.Test.YtcgkkppidkkjiaaGreatDoorRows
import Derived.WalkKit
namespace Go.Proofs.YtcgkkppidkkjiaaGreatDoor
open Go.RowKit
set_option maxRecDepth 100000 in
set_option maxHeartbeats 1000000 in
theorem compact_any (A : Option Addr) (n c : Nat) (f : Nat → P2) (w : World) (h : QReads w w.heap.size A n f) (hn : n ≤ 5000) (hne : ∀ i, i + 1 < n → f i ≠ f (i + 1)) :
    Calls Tryz.prog 130 #[.slice A n c] w fun e w' => e = .returned (.slice A n c) ∧ Below w.heap.size w w' := by
  have H := Lib.hid h
  have HN := Lib.hid hne
  clear h hne
  by_cases h2 : n < 2
  · go_enter Tryz.func130, Tryz.ntmps130
    go_wp2
    go_ret
    exact ⟨rfl, Below.refl _ _⟩
  · go_enter Tryz.func130, Tryz.ntmps130
    go_wp2
    go_loopw [3] (fun iv wr => ∃ j : Nat, 1 ≤ j ∧ j ≤ n ∧ iv = .int .i64 (j : Int) ∧ Below w.heap.size w wr) (fun iv _ => n - (intOf iv).toNat)
    case atStart => exact ⟨1, Nat.le_refl _, by omega, rfl, Below.refl _ _⟩
    case round =>
      obtain ⟨j, hj1, hj, rfl, hbel⟩ := hrel
      have R := H.out.below hbel
      have HB := Lib.hid hbel
      clear hbel
      by_cases hjn : j < n
      · obtain ⟨i, hi⟩ : ∃ i, j = i + 1 := ⟨j - 1, by omega⟩
        have hin : i < n := by omega
        have e1 : (j : Int) - 1 = (i : Int) := by omega
        have hw1 : IntKind.i64.wrap ((j : Int) - 1) = (i : Int) := by rw [e1]; exact IntWalk.i64_in _ (by omega)
        obtain ⟨g1, o1, rfl, hb1, hc1⟩ := R (by omega)
        obtain ⟨c10, c11⟩ := hc1 j hjn
        obtain ⟨c20, c21⟩ := hc1 i hin
        have hne := HN.out i (by omega)
        rw [← hi] at hne
        obtain ⟨⟨x1, x2⟩, hx⟩ : ∃ x, x = f j := ⟨_, rfl⟩
        obtain ⟨⟨y1, y2⟩, hy⟩ : ∃ y, y = f i := ⟨_, rfl⟩
        rw [← hx] at c10 c11 hne
        rw [← hy] at c20 c21 hne
        simp only at c10 c11 c20 c21
        clear hx hy hc1 R hi e1
        by_cases e1 : x1 = y1
        · subst e1
          have e2 : (x2 == y2) = false := by rw [beq_eq_false_iff_ne]; intro e; exact hne (by rw [e])
          clear hne
          go_wp2_with fail
          go_quiet (fail)
          clear hw1
          go_wp2
          go_roundw
          case rel => exact ⟨j + 1, by omega, by omega, by go_num, below_drewN HB.out _⟩
          case measure => simp [intOf]; omega
        · have e1 : (x1 == y1) = false := by rw [beq_eq_false_iff_ne]; exact e1
          clear hne
          go_wp2_with fail
          go_quiet (fail)
          clear hw1
          go_wp2
          go_roundw
          case rel => exact ⟨j + 1, by omega, by omega, by go_num, below_drewN HB.out _⟩
          case measure => simp [intOf]; omega
      · obtain rfl : j = n := by omega
        clear R
        go_wp2
        go_ret
        exact ⟨rfl, HB.out⟩
theorem psort_any (A : Option Addr) (n c : Nat) (f : Nat → P2) (w : World) (h : QReads w w.heap.size A n f) (hn0 : 1 ≤ n) (hn : n ≤ 5000) (hap : ∀ i j, i < j → j < n → f i ≠ f j) :
    Calls Tryz.prog 111 #[.slice A n c] w fun e w' => ∃ A' c' f', e = .returned (.slice A' n c') ∧ QReads w' w'.heap.size A' n f' ∧ (lst f' n).Perm (lst f n) ∧ Up f' n ∧ Below w.heap.size w w' := by
  have CL := Lib.hid (clone_any A n c f w h hn)
  have ST := Lib.hid (fun g c base e (w : World) (h : w.ownsRow base e 2 (.slice (some ⟨g, 0, none⟩) n c) n (cells2 f n)) => sortf_any g c n base e f w h (by omega) hap)
  clear h hap
  go_enter Tryz.func111, Tryz.ntmps111
  go_wp2_with (first
    | (go_at_call 35; (with_reducible refine CL.out.mono ?_); rintro e w1 ⟨A', c', rfl, hown, hb⟩; have B1 := Lib.hid hb; obtain ⟨g, cc, hv, hg, hs5⟩ := hown.form (by omega); injection hv with hv1 hv2 hv3; subst hv1 hv3; have hb5 := (hown.lt g rfl).1; have S1 := Lib.hid (ST.out _ _ _ _ _ hown); clear hb hown hv2)
    | (go_at_call 129; (with_reducible refine S1.out.mono ?_); rintro e w2 ⟨rfl, f', h1, h2, h3, h4⟩; have R5 := Lib.hid h1; have P5 := Lib.hid h2; have U5 := Lib.hid h3; have B2 := Lib.hid (B1.out.trans (h4.mono hb5)); have CP := Lib.hid (compact_any (some ⟨g, 0, none⟩) n c' f' w2 h1 hn (fun i hi e => by have := h3 i (i + 1) (by omega) hi; rw [e, pc_lt] at this; omega)); clear h1 h2 h3 h4)
    | (go_at_call 130; (with_reducible refine CP.out.mono ?_); rintro e w3 ⟨rfl, hb⟩; have R6 := Lib.hid (R5.out.later hb); have B3 := Lib.hid (B2.out.trans (hb.mono B2.out.size)); clear hb))
  go_ret
  exact ⟨_, _, f', rfl, R6.out, P5.out, U5.out, B3.out⟩
end Go.Proofs.YtcgkkppidkkjiaaGreatDoor
namespace Go.Proofs.YtcgkkppidkkjiaaGreatDoor
open Go.RowKit
/-- the images of the offsets, unsorted -/
def tn (m : Nat) (f : Nat → P2) (i : Nat) : P2 := (turnX m (f i).1 (f i).2, turnY m (f i).1 (f i).2)
theorem tn_inj (m : Nat) (hm : m < 8) (f : Nat → P2) (i j : Nat) (h : tn m f i = tn m f j) : f i = f j := by
  unfold tn at h
  generalize f i = a at h ⊢
  generalize f j = b at h ⊢
  obtain ⟨x, y⟩ := a
  obtain ⟨u, v⟩ := b
  refine eight (P := fun m => (turnX m x y, turnY m x y) = (turnX m u v, turnY m u v) → (x, y) = (u, v)) ?_ ?_ ?_ ?_ ?_ ?_ ?_ ?_ m hm h <;> simp only [turnX, turnY, Prod.mk.injEq] <;> omega
theorem Hd.up {f : Nat → P2} {n : Nat} (h : Hd f n) : Up f n := by
  intro i j hij hj
  induction j with
  | zero => omega
  | succ j ih =>
    have h1 := h.2.2 j (by omega)
    by_cases e : i = j
    · rw [e]; exact h1
    · have h2 := ih (by omega) (by omega)
      rw [pc_lt] at *
      omega
theorem Up.ne {f : Nat → P2} {n : Nat} (h : Up f n) (i j : Nat) (hij : i < j) (hj : j < n) : f i ≠ f j := fun e => by
  have h1 := h i j hij hj
  rw [e, pc_lt] at h1
  omega

set_option maxRecDepth 100000 in
set_option maxHeartbeats 2000000 in
theorem image_any (k : Int) (A : Option Addr) (n c : Nat) (f : Nat → P2) (w : World) (hM : Mat w) (h : QReads w w.heap.size A n f) (hd : Hd f n) :
    Calls Tryz.prog 93 #[.int .i64 k, .slice A n c] w fun e w' => ∃ A' c' f', e = .returned (.slice A' n c') ∧ QReads w' w'.heap.size A' n f' ∧ (lst f' n).Perm (lst (tn (md k) f) n) ∧ Up f' n ∧ Below w.heap.size w w' := by
  obtain ⟨i0, hi, hz0, hz1, hz2⟩ := info_parts Tryz.info_point
  have hap : ∀ i j, i < j → j < n → tn (md k) f i ≠ tn (md k) f j := fun i j hij hj e => hd.up.ne i j hij hj (tn_inj _ (md_lt k) f i j e)
  obtain ⟨⟨hn1, hn2⟩, hin, _⟩ := hd
  have H := Lib.hid h
  have HI := Lib.hid hin
  have MH := Lib.hid hM
  have ST := Lib.hid (fun A c w (h : QReads w w.heap.size A n (tn (md k) f)) => psort_any A n c (tn (md k) f) w h hn1 (by omega) hap)
  have hz : 0 < w.heap.size := hM.1
  clear h hin hM hap
  go_enter Tryz.func93, Tryz.ntmps93
  go_wp2_with (at_make; refine wpList_make_own _ rfl _ _ 22 rfl w.heap.size 58 i0 (.agg #[.int .i64 0, .int .i64 0]) 2 Tryz.underlying22 hi hz0 hz1 .i64 .i64 _ n rfl rfl (by omega) (by rw [hz2]; omega) (by unfold maxLen; omega) (Nat.le_refl _) ?_; intro w2 hown2 hgrow2; have PB2 := Lib.hid ((Below.refl w.heap.size w).grown hgrow2 (Nat.le_refl _) (fun k hk => by cases hk)))
  have HO2 := Lib.hid hown2
  have HP2 := PB2.out
  clear hown2 hgrow2
  go_loopw [5, 13] (fun lv jv wr => ∃ j : Nat, j ≤ n ∧ jv = .int .i64 (j : Int) ∧ lv = .slice (some ⟨w.heap.size, 0, none⟩) j n ∧ wr.ownsRow w.heap.size 58 2 (.slice (some ⟨w.heap.size, 0, none⟩) j n) j (cells2 (tn (md k) f) j) ∧ Below w.heap.size w wr) (fun _ jv _ => n - (intOf jv).toNat)
  case atStart => exact ⟨0, Nat.zero_le _, rfl, rfl, HO2.out, HP2⟩
  case round =>
    obtain ⟨j, hj, rfl, rfl, hown, hbel⟩ := hrel
    have R := H.out.below hbel
    have HB := Lib.hid hbel
    have HW := Lib.hid hown
    clear hown HP2
    by_cases hjn : j < n
    · obtain ⟨g1, o1, rfl, hb1, hc1⟩ := R (by omega)
      obtain ⟨c10, c11⟩ := hc1 j hjn
      have hx4 := HI.out j hjn
      have hgw : g1 < wr.heap.size := Nat.lt_of_lt_of_le hb1 hbel.size
      have hcell : cells2 (tn (md k) f) (j + 1) = cells2 (tn (md k) f) j ++ [.int .i64 (turnX (md k) (f j).1 (f j).2), .int .i64 (turnY (md k) (f j).1 (f j).2)] := rfl
      generalize f j = x at c10 c11 hx4 hcell
      obtain ⟨x1, x2⟩ := x
      simp only at c10 c11 hx4 hcell
      have HC := Lib.hid hcell
      have B7 := HB.out.alloc HB.out.size (.cells #[.int .i64 x1, .int .i64 x2] 58)
      have BW := Lib.hid ((Below.refl wr.heap.size wr).alloc (Nat.le_refl _) (.cells #[.int .i64 x1, .int .i64 x2] 58))
      have AP := Lib.hid (apply_any k x1 x2 (wr.alloc (.cells #[.int .i64 x1, .int .i64 x2] 58)) (MH.out.below B7 hz) (by omega) (by omega) (by omega) (by omega))
      clear hc1 R hx4 hbel hcell B7
      go_wp2_with (first
        | (go_at_call 96; (with_reducible refine AP.out.mono ?_); rintro e w4 ⟨rfl, hb⟩; have BX := Lib.hid (BW.out.trans (hb.mono BW.out.size)); have B4 := Lib.hid (HB.out.trans (BX.out.mono HB.out.size)); have W4 := own_below2 HW.out BX.out; have hs4 := B4.out.size; clear hb)
        | (at_builtin; refine wpList_fit2 rfl _ _ 22 rfl w.heap.size 58 i0 Tryz.underlying22 hi hz1 w.heap.size j n _ rfl W4 (.int .i64 (turnX (md k) x1 x2)) (.int .i64 (turnY (md k) x1 x2)) rfl rfl rfl (by omega) hs4 ?_; intro w5 hown5 hbel5))
      go_roundw
      case rel => exact ⟨j + 1, by omega, by go_num, rfl, by rw [HC.out]; exact hown5, B4.out.trans hbel5⟩
      case measure => simp [intOf]; omega
    · obtain rfl : j = n := by omega
      have S1 := Lib.hid (ST.out (some ⟨w.heap.size, 0, none⟩) j wr (QReads.of_own HW.out))
      clear R hbel
      go_wp2_with (go_at_call 111; (with_reducible refine S1.out.mono ?_); rintro e w4 ⟨A', c', f', rfl, h1, h2, h3, hb⟩; have R4 := Lib.hid h1; have P4 := Lib.hid h2; have U4 := Lib.hid h3; have B4 := Lib.hid (HB.out.trans (hb.mono HB.out.size)); clear h1 h2 h3 hb)
      go_ret
      exact ⟨A', c', f', rfl, R4.out, P4.out, U4.out, B4.out⟩
end Go.Proofs.YtcgkkppidkkjiaaGreatDoor
namespace Go.Proofs.YtcgkkppidkkjiaaGreatDoor
open Go.RowKit
theorem Tryz.info_int : (Tryz.prog.info? 3).map (fun i => (i.zero, i.size, i.bytes)) = some (some (.int .i64 0), 1, 8) := by kernel_rfl
/-- whether the symmetry number k maps the offsets to themselves -/
def sk (f : Nat → P2) (n k : Nat) : Bool := decide ((lst (tn k f) n).Perm (lst f n))
/-- the numbers below j that do -/
def sy (f : Nat → P2) (n j : Nat) : List Nat := (List.range j).filter (sk f n)
theorem sy_succ (f : Nat → P2) (n j : Nat) : sy f n (j + 1) = if sk f n j = true then sy f n j ++ [j] else sy f n j := by
  unfold sy
  rw [List.range_succ, List.filter_append]
  by_cases h : sk f n j = true <;> simp [h]
theorem sy_len (f : Nat → P2) (n j : Nat) : (sy f n j).length ≤ j := by
  have := List.length_filter_le (sk f n) (List.range j)
  simpa [sy] using this
theorem sm_sk {f f' : Nat → P2} {n k : Nat} (hf : Up f n) (hf' : Up f' n) (hp : (lst f' n).Perm (lst (tn k f) n)) : sm f' n f n = sk f n k := by
  rw [Bool.eq_iff_iff, sm_iff, sk, decide_eq_true_iff]
  constructor
  · rintro ⟨_, h⟩
    rw [lst_congr h] at hp
    exact hp.symm
  · exact fun h => ⟨rfl, up_same hf' hf (hp.trans h)⟩

set_option maxRecDepth 100000 in
set_option maxHeartbeats 2000000 in
theorem syms_any (A : Option Addr) (n c : Nat) (f : Nat → P2) (w : World) (hM : Mat w) (h : QReads w w.heap.size A n f) (hd : Hd f n) :
    Calls Tryz.prog 66 #[.slice A n c] w fun e w' => ∃ A' c', e = .returned (.slice A' (sy f n 8).length c') ∧ Reads w' w'.heap.size A' (sy f n 8).length (ints (sy f n 8)) ∧ Below w.heap.size w w' := by
  obtain ⟨i0, hi, hz0, hz1, hz2⟩ := info_parts Tryz.info_int
  have RI := Lib.hid (hright_any A n c f w h hd)
  have hn := hd.1.2
  have hz : 0 < w.heap.size := hM.1
  have H := Lib.hid h
  have MH := Lib.hid hM
  have HD := Lib.hid hd
  clear h hM hd
  go_enter Tryz.func66, Tryz.ntmps66
  go_wp2_with (go_at_call 37; (with_reducible refine RI.out.mono ?_); rintro e w1 ⟨rfl, hb⟩; have B1 := Lib.hid hb; clear hb)
  go_loopw [3, 8] (fun lv jv wr => ∃ (j : Nat) (l : List Nat) (A' : Option Addr) (c' : Nat), j ≤ 8 ∧ jv = .int .i64 (j : Int) ∧ l = sy f n j ∧ l.length ≤ j ∧ lv = .slice A' l.length c' ∧ wr.ownsRow w.heap.size 3 1 (.slice A' l.length c') l.length (ints l) ∧ Below w.heap.size w wr) (fun _ jv _ => 8 - (intOf jv).toNat)
  case atStart => exact ⟨0, [], none, 0, Nat.zero_le _, rfl, rfl, Nat.zero_le _, rfl, World.ownsRow_nil _ _ _ _, B1.out⟩
  case round =>
    obtain ⟨j, l, A', c', hj, rfl, hl, hll, rfl, hown, hbel⟩ := hrel
    have HB := Lib.hid hbel
    have HW := Lib.hid hown
    have HL := Lib.hid hl
    have hsz := hbel.size
    clear hown hbel hl RI B1
    by_cases hjn : j < 8
    · have IM := Lib.hid (image_any (j : Int) A n c f wr (MH.out.below HB.out hz) ((H.out.below HB.out).more hsz) HD.out)
      rw [md_nat j hjn] at IM
      have SM := Lib.hid (fun (w2 w4 : World) (A2 : Option Addr) (c2 : Nat) (f' : Nat → P2) (hb : Below wr.heap.size wr w4) (h1 : QReads w4 w4.heap.size A2 n f') (h2 : (lst f' n).Perm (lst (tn j f) n)) (h3 : Up f' n) => by
        have := hsame_any A2 A n n c2 c f' f w4 h1 ((((H.out.below HB.out).more hsz).below hb).more hb.size) (by omega) (by omega)
        rwa [sm_sk HD.out.up h3 h2] at this)
      have step := sy_succ f n j
      generalize sk f n j = q at SM step
      have STEP := Lib.hid step
      clear step
      cases q with
      | true =>
        go_wp2_with (first
          | (go_at_call 93; (with_reducible refine IM.out.mono ?_); rintro e w4 ⟨A2, c2, f', rfl, h1, h2, h3, hb⟩; have S4 := Lib.hid (SM.out w4 w4 A2 c2 f' hb h1 h2 h3); have C4 := Lib.hid hb; clear h1 h2 h3 hb)
          | (go_at_call 92; (with_reducible refine S4.out.mono ?_); rintro e w5 ⟨rfl, hb⟩; have C5 := Lib.hid (C4.out.trans (hb.mono C4.out.size)); have B5 := Lib.hid (HB.out.trans (C5.out.mono hsz)); have W5 := own_below HW.out C5.out; have hs5 := B5.out.size; clear hb)
          | (at_builtin; refine wpList_append1 rfl _ _ 27 rfl w.heap.size 3 i0 (.int .i64 0) 8 Tryz.underlying27 hi hz0 hz1 hz2 rfl A' l.length c' _ rfl W5 (.int .i64 (j : Int)) rfl rfl (by unfold maxLen; omega) (by omega) hs5 ?_; intro g6 c6 w6 hown6 hbel6))
        go_roundw
        case rel => exact ⟨j + 1, l ++ [j], some ⟨g6, 0, none⟩, c6, by omega, by go_num, by rw [STEP.out, HL.out]; rfl, by (simp; omega), by simp, by simpa [ints] using hown6, B5.out.trans hbel6⟩
        case measure => simp [intOf]; omega
      | false =>
        go_wp2_with (first
          | (go_at_call 93; (with_reducible refine IM.out.mono ?_); rintro e w4 ⟨A2, c2, f', rfl, h1, h2, h3, hb⟩; have S4 := Lib.hid (SM.out w4 w4 A2 c2 f' hb h1 h2 h3); have C4 := Lib.hid hb; clear h1 h2 h3 hb)
          | (go_at_call 92; (with_reducible refine S4.out.mono ?_); rintro e w5 ⟨rfl, hb⟩; have C5 := Lib.hid (C4.out.trans (hb.mono C4.out.size)); have B5 := Lib.hid (HB.out.trans (C5.out.mono hsz)); have W5 := own_below HW.out C5.out; have hs5 := B5.out.size; clear hb))
        go_roundw
        case rel => exact ⟨j + 1, l, A', c', by omega, by go_num, by rw [STEP.out, HL.out]; rfl, by omega, rfl, W5, B5.out⟩
        case measure => simp [intOf]; omega
    · obtain rfl : j = 8 := by omega
      go_wp2
      go_ret
      have hl := HL.out
      subst hl
      exact ⟨A', c', rfl, Reads.of_own HW.out, HB.out⟩
end Go.Proofs.YtcgkkppidkkjiaaGreatDoor
