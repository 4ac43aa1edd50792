/- The walk of Orbits at valid sizes. -/
import Derived.Test.YthjamghemmanfaaDoorGrp
import Derived.Test.YthjamghemmanfaaDoorCf
import Derived.Test.YthjamghemmanfaaDoorOrb
namespace Go.Proofs.YthjamghemmanfaaDoor
open Go.RowKit

/-- the first r numbers of orbits -/
def olist (G : List Nat) (p q r : Nat) : List Nat := (List.range r).map (orb G p q)
theorem olist_succ (G : List Nat) (p q r : Nat) : olist G p q (r + 1) = olist G p q r ++ [orb G p q r] := by simp [olist, List.range_succ]
theorem olist_len (G : List Nat) (p q r : Nat) : (olist G p q r).length = r := by simp [olist]

set_option maxHeartbeats 1000000 in
theorem orbits_bad (A : Option Addr) (n c B W H : Nat) (l : List Int) (w : World) (h : Ins w B A n l) (hB : B ≤ w.heap.size) (hn : n ≤ 100) (hs : Size W H) (hWH : W ≠ H) (hex : ∃ k ∈ grp (mds l), k % 2 = 1) :
    Calls Tryd.prog 5 #[.slice A n c, .int .i64 (W : Nat), .int .i64 (H : Nat)] w fun e w' => e = .returned (.tuple #[.slice none 0 0, .int .i64 2]) ∧ Below w.heap.size w w' := by
  obtain ⟨s1, s2, s3, s4, s5⟩ := hs
  obtain ⟨S, hS⟩ : ∃ S, S = (W : Int) * (H : Int) := ⟨_, rfl⟩
  rw [← hS] at s5
  have hS0 : 0 ≤ S := by rw [hS]; exact Int.mul_nonneg (by omega) (by omega)
  have hS2 : (W : Int) * (H : Int) = S := hS.symm
  have G := Lib.hid (group_any A n c B l w h hB hn)
  have HL := Lib.hid (grp_len (mds l))
  have HC := Lib.hid (fun b c' w (hr : Reads w w.heap.size (some ⟨b, 0, none⟩) (grp (mds l)).length (ints (grp (mds l)))) => containsf_yes (some ⟨b, 0, none⟩) (grp (mds l)).length c' w.heap.size (grp (mds l)) w hr (by have := grp_len (mds l); omega) (fun k hk => grp_lt hk) hex)
  have hne : ((W : Int) == (H : Int)) = false := by rw [beq_eq_false_iff_ne]; omega
  have hne2 : ((W : Int) != (H : Int)) = true := by rw [bne_iff_ne]; omega
  clear hS h hex
  go_enter Tryd.func5, Tryd.ntmps5
  go_wp2_with (first | (go_at_call 12; (with_reducible refine G.out.mono ?_); rintro e w1 ⟨b, c', rfl, hr, hb⟩; have HR := Lib.hid hr; have HB := Lib.hid hb; clear hr hb) | (go_at_call 14; (with_reducible refine (HC.out _ _ _ HR.out).mono ?_); rintro e w' ⟨rfl, rfl⟩))
  go_ret2
  exact ⟨rfl, HB.out⟩

/-- what both Orbits hand back where there is a result -/
def OrbSays (G : List Nat) (p q S : Nat) (w : World) (e : Ending) (w' : World) : Prop :=
  ∃ b c', e = .returned (.tuple #[.slice (some ⟨b, 0, none⟩) S c', .int .i64 0]) ∧ Reads w' w'.heap.size (some ⟨b, 0, none⟩) S (ints (olist G p q S)) ∧ Below w.heap.size w w'

set_option maxRecDepth 100000 in
set_option maxHeartbeats 4000000 in
theorem orbits_good (A : Option Addr) (n c B W H p q S : Nat) (l : List Int) (w : World) (h : Ins w B A n l) (hB : B ≤ w.heap.size) (hn : n ≤ 100) (hM : Mat w) (hW : W = p + 1) (hH : H = q + 1) (hp : p ≤ 255) (hq : q ≤ 255) (hS : W * H = S) (hS4 : S ≤ 4096) (hk : ∀ k ∈ grp (mds l), keeps k p q) :
    Calls Tryd.prog 5 #[.slice A n c, .int .i64 (W : Nat), .int .i64 (H : Nat)] w (OrbSays (grp (mds l)) p q S w) := by
  obtain ⟨i0, hi, hz0, hz1, hz2⟩ := info_parts Tryd.info_int
  have hS2 : (W : Int) * (H : Int) = (S : Int) := by rw [← hS]; simp
  have hS1 : 1 ≤ S := by rw [← hS]; exact Nat.mul_le_mul (show 1 ≤ W by omega) (show 1 ≤ H by omega)
  have GR := Lib.hid (group_any A n c B l w h hB hn)
  have hGl := grp_len (mds l)
  have hG0 := grp_zero (mds l)
  have HC := Lib.hid (fun (hno : ∀ k ∈ grp (mds l), k % 2 = 0) b c' w (hr : Reads w w.heap.size (some ⟨b, 0, none⟩) (grp (mds l)).length (ints (grp (mds l)))) => containsf_no (some ⟨b, 0, none⟩) (grp (mds l)).length c' w.heap.size (grp (mds l)) w hr (by have := grp_len (mds l); omega) (fun k hk => grp_lt hk) hno)
  have HG8 := Lib.hid (fun k (hk : k ∈ grp (mds l)) => grp_lt hk)
  have HKE := Lib.hid hk
  have HM := Lib.hid hM
  unfold GroupSays at GR
  generalize grp (mds l) = G at *
  have HG0 := Lib.hid hG0
  obtain ⟨m, hm⟩ : ∃ m, m = G.length := ⟨_, rfl⟩
  rw [← hm] at GR HC hGl
  clear h hk hM hG0 hm
  by_cases hWH : W = H
  · have hne : ((W : Int) == (H : Int)) = true := by rw [beq_iff_eq]; omega
    have hne2 : ((W : Int) != (H : Int)) = false := by rw [bne_eq_false_iff_eq]; omega
    have HWW := Lib.hid hW
    have HHH := Lib.hid hH
    have HSS := Lib.hid hS
    have hW2 : W ≤ 256 := by omega
    have hH2 : H ≤ 256 := by omega
    have hW1 : 1 ≤ W := by omega
    have hH1 : 1 ≤ H := by omega
    clear hWH HC hW hH hS
    go_enter Tryd.func5, Tryd.ntmps5
    go_upto_region 6 with ((go_at_call 12; (with_reducible refine GR.out.mono ?_); rintro e w1 ⟨b, c', rfl, hr, hb⟩; have HR := Lib.hid hr; have HB := Lib.hid hb; clear hr hb))
    have MM := Lib.hid (HM.out.below HB.out HM.out.1)
    have hbs := HB.out.size
    have KP := Lib.hid (fun wr (hb : Below w1.heap.size w1 wr) => (show Reads wr wr.heap.size (some ⟨b, 0, none⟩) m (ints G) from (HR.out.below hb).more hb.size))
    have KM := Lib.hid (fun wr (hb : Below w1.heap.size w1 wr) => (show Mat wr from MM.out.below hb MM.out.1))
    clear GR HM HR MM
    go_wp2_with (at_make; refine wpList_make_own _ rfl _ _ 22 rfl w1.heap.size 3 i0 (.int .i64 0) 1 Tryd.underlying22 hi hz0 hz1 .i64 .i64 _ S rfl rfl (by omega) (by rw [hz2]; omega) (by unfold maxLen; omega) (Nat.le_refl _) ?_; intro w2 hown2 hgrow2; have PB2 := Lib.hid ((Below.refl w1.heap.size w1).grown hgrow2 (Nat.le_refl _) (fun k hk => by cases hk)); have HO2 := Lib.hid hown2; clear hown2 hgrow2)
    go_loopw [9, 46] (fun lv jv wr => ∃ (j r g cc : Nat), r = j * W ∧ j ≤ H ∧ jv = .int .i64 (j : Int) ∧ lv = .slice (some ⟨g, 0, none⟩) r cc ∧ wr.ownsRow w1.heap.size 3 1 (.slice (some ⟨g, 0, none⟩) r cc) r (ints (olist G p q r)) ∧ Below w1.heap.size w1 wr) (fun _ jv _ => H - (intOf jv).toNat)
    case atStart => exact ⟨0, 0, _, S, by simp, Nat.zero_le _, rfl, rfl, HO2.out, PB2.out⟩
    case round =>
      obtain ⟨j, r, g, cc, hr, hj, rfl, rfl, hown, hbel⟩ := hrel
      have HRR := Lib.hid hr
      have HO := Lib.hid hown
      have HBB := Lib.hid hbel
      clear hr hown hbel HO2 PB2
      by_cases hjm : j < H
      · obtain ⟨wo, hwo⟩ : ∃ wo, wo = wr := ⟨_, rfl⟩
        subst hwo
        go_wp2
        go_loopw [9, 50] (fun lv iv wr => ∃ (i r g cc : Nat), r = j * W + i ∧ i ≤ W ∧ iv = .int .i64 (i : Int) ∧ lv = .slice (some ⟨g, 0, none⟩) r cc ∧ wr.ownsRow w1.heap.size 3 1 (.slice (some ⟨g, 0, none⟩) r cc) r (ints (olist G p q r)) ∧ Below w1.heap.size w1 wr) (fun _ iv _ => W - (intOf iv).toNat)
        case atStart => exact ⟨0, r, g, cc, HRR.out, Nat.zero_le _, rfl, rfl, HO.out, HBB.out⟩
        case round =>
          obtain ⟨i, r2, g2, c2, hr, hin, rfl, rfl, hown, hbel⟩ := hrel
          have HR2 := Lib.hid hr
          by_cases hlt : i < W
          · have hrS : r2 + 1 ≤ S := by
              have h1 := Nat.mul_le_mul_right W (show j + 1 ≤ H from hjm)
              rw [Nat.add_mul, Nat.one_mul, Nat.mul_comm H W, HSS.out] at h1
              omega
            have hs3 : w1.heap.size ≤ wr.heap.size := hbel.size
            have hxp : i ≤ p := by have := HWW.out; omega
            have hyq : j ≤ q := by have := HHH.out; omega
            have FF := Lib.hid (first_any (some ⟨b, 0, none⟩) m c' wr.heap.size W H p q i j G wr (KP.out wr hbel) (Nat.le_refl _) hGl.2 HG8.out (KM.out wr hbel) HWW.out HHH.out hp hq hxp hyq HKE.out)
            obtain ⟨v, hv⟩ : ∃ v, v = mn G (W * H) p q i j := ⟨_, rfl⟩
            rw [← hv] at FF
            have HV := Lib.hid (show v = orb G p q r2 by
              have hW' := HWW.out
              rw [hv, hr, hW', orb_at G hxp]
              refine mn_start HG0.out _ _ _ _ _ ?_
              have h2 : j * W + i ≤ W * H := by rw [HSS.out]; omega
              rw [hW'] at h2
              exact h2)
            have HO3 := Lib.hid hown
            have HB3 := Lib.hid hbel
            clear hr hown hbel hv
            go_wp2_with (first | (go_at_call 16; (with_reducible refine FF.out.mono ?_); rintro e w3 ⟨rfl, hb⟩; have hown := own_below HO3.out hb; have HB4 := Lib.hid (HB3.out.trans (hb.mono hs3)); have hs4 : w1.heap.size ≤ w3.heap.size := Nat.le_trans hs3 hb.size; clear hb) | (at_builtin; refine wpList_append1 rfl _ _ 22 rfl w1.heap.size 3 i0 (.int .i64 0) 8 Tryd.underlying22 hi hz0 hz1 hz2 rfl _ _ _ _ rfl hown (.int .i64 (v : Int)) rfl rfl (by unfold maxLen; omega) (by omega) hs4 ?_; intro g' c4 w4 hown' hbel'))
            go_roundw
            case rel => exact ⟨i + 1, r2 + 1, g', c4, by have := HR2.out; omega, by omega, by go_num, rfl, by rw [olist_succ, ints_snoc, ← HV.out]; exact hown', HB4.out.trans hbel'⟩
            case measure => simp [intOf]; omega
          · obtain rfl : i = W := by omega
            clear hr
            go_wp2
            go_roundw
            case rel => exact ⟨j + 1, r2, g2, c2, by rw [HR2.out, Nat.add_mul, Nat.one_mul], by omega, by go_num, rfl, hown, hbel⟩
            case measure => simp [intOf]; omega
      · obtain rfl : j = H := by omega
        have hrS : r = S := by rw [HRR.out, Nat.mul_comm]; exact HSS.out
        subst hrS
        go_wp2
        go_ret2
        exact ⟨g, cc, rfl, Reads.of_own HO.out, HB.out.trans (HBB.out.mono hbs)⟩
  · have hne : ((W : Int) == (H : Int)) = false := by rw [beq_eq_false_iff_ne]; omega
    have hne2 : ((W : Int) != (H : Int)) = true := by rw [bne_iff_ne]; omega
    have HC2 := Lib.hid (HC.out fun k hk => by have := HKE.out k hk; unfold keeps at this; omega)
    have HWW := Lib.hid hW
    have HHH := Lib.hid hH
    have HSS := Lib.hid hS
    have hW2 : W ≤ 256 := by omega
    have hH2 : H ≤ 256 := by omega
    have hW1 : 1 ≤ W := by omega
    have hH1 : 1 ≤ H := by omega
    clear hWH HC hW hH hS
    go_enter Tryd.func5, Tryd.ntmps5
    go_upto_region 6 with (first | (go_at_call 12; (with_reducible refine GR.out.mono ?_); rintro e w1 ⟨b, c', rfl, hr, hb⟩; have HR := Lib.hid hr; have HB := Lib.hid hb; clear hr hb) | (go_at_call 14; (with_reducible refine (HC2.out _ _ _ HR.out).mono ?_); rintro e w' ⟨rfl, rfl⟩))
    have MM := Lib.hid (HM.out.below HB.out HM.out.1)
    have hbs := HB.out.size
    have KP := Lib.hid (fun wr (hb : Below w1.heap.size w1 wr) => (show Reads wr wr.heap.size (some ⟨b, 0, none⟩) m (ints G) from (HR.out.below hb).more hb.size))
    have KM := Lib.hid (fun wr (hb : Below w1.heap.size w1 wr) => (show Mat wr from MM.out.below hb MM.out.1))
    clear GR HM HR MM
    go_wp2_with (at_make; refine wpList_make_own _ rfl _ _ 22 rfl w1.heap.size 3 i0 (.int .i64 0) 1 Tryd.underlying22 hi hz0 hz1 .i64 .i64 _ S rfl rfl (by omega) (by rw [hz2]; omega) (by unfold maxLen; omega) (Nat.le_refl _) ?_; intro w2 hown2 hgrow2; have PB2 := Lib.hid ((Below.refl w1.heap.size w1).grown hgrow2 (Nat.le_refl _) (fun k hk => by cases hk)); have HO2 := Lib.hid hown2; clear hown2 hgrow2)
    go_loopw [9, 46] (fun lv jv wr => ∃ (j r g cc : Nat), r = j * W ∧ j ≤ H ∧ jv = .int .i64 (j : Int) ∧ lv = .slice (some ⟨g, 0, none⟩) r cc ∧ wr.ownsRow w1.heap.size 3 1 (.slice (some ⟨g, 0, none⟩) r cc) r (ints (olist G p q r)) ∧ Below w1.heap.size w1 wr) (fun _ jv _ => H - (intOf jv).toNat)
    case atStart => exact ⟨0, 0, _, S, by simp, Nat.zero_le _, rfl, rfl, HO2.out, PB2.out⟩
    case round =>
      obtain ⟨j, r, g, cc, hr, hj, rfl, rfl, hown, hbel⟩ := hrel
      have HRR := Lib.hid hr
      have HO := Lib.hid hown
      have HBB := Lib.hid hbel
      clear hr hown hbel HO2 PB2
      by_cases hjm : j < H
      · obtain ⟨wo, hwo⟩ : ∃ wo, wo = wr := ⟨_, rfl⟩
        subst hwo
        go_wp2
        go_loopw [9, 50] (fun lv iv wr => ∃ (i r g cc : Nat), r = j * W + i ∧ i ≤ W ∧ iv = .int .i64 (i : Int) ∧ lv = .slice (some ⟨g, 0, none⟩) r cc ∧ wr.ownsRow w1.heap.size 3 1 (.slice (some ⟨g, 0, none⟩) r cc) r (ints (olist G p q r)) ∧ Below w1.heap.size w1 wr) (fun _ iv _ => W - (intOf iv).toNat)
        case atStart => exact ⟨0, r, g, cc, HRR.out, Nat.zero_le _, rfl, rfl, HO.out, HBB.out⟩
        case round =>
          obtain ⟨i, r2, g2, c2, hr, hin, rfl, rfl, hown, hbel⟩ := hrel
          have HR2 := Lib.hid hr
          by_cases hlt : i < W
          · have hrS : r2 + 1 ≤ S := by
              have h1 := Nat.mul_le_mul_right W (show j + 1 ≤ H from hjm)
              rw [Nat.add_mul, Nat.one_mul, Nat.mul_comm H W, HSS.out] at h1
              omega
            have hs3 : w1.heap.size ≤ wr.heap.size := hbel.size
            have hxp : i ≤ p := by have := HWW.out; omega
            have hyq : j ≤ q := by have := HHH.out; omega
            have FF := Lib.hid (first_any (some ⟨b, 0, none⟩) m c' wr.heap.size W H p q i j G wr (KP.out wr hbel) (Nat.le_refl _) hGl.2 HG8.out (KM.out wr hbel) HWW.out HHH.out hp hq hxp hyq HKE.out)
            obtain ⟨v, hv⟩ : ∃ v, v = mn G (W * H) p q i j := ⟨_, rfl⟩
            rw [← hv] at FF
            have HV := Lib.hid (show v = orb G p q r2 by
              have hW' := HWW.out
              rw [hv, hr, hW', orb_at G hxp]
              refine mn_start HG0.out _ _ _ _ _ ?_
              have h2 : j * W + i ≤ W * H := by rw [HSS.out]; omega
              rw [hW'] at h2
              exact h2)
            have HO3 := Lib.hid hown
            have HB3 := Lib.hid hbel
            clear hr hown hbel hv
            go_wp2_with (first | (go_at_call 16; (with_reducible refine FF.out.mono ?_); rintro e w3 ⟨rfl, hb⟩; have hown := own_below HO3.out hb; have HB4 := Lib.hid (HB3.out.trans (hb.mono hs3)); have hs4 : w1.heap.size ≤ w3.heap.size := Nat.le_trans hs3 hb.size; clear hb) | (at_builtin; refine wpList_append1 rfl _ _ 22 rfl w1.heap.size 3 i0 (.int .i64 0) 8 Tryd.underlying22 hi hz0 hz1 hz2 rfl _ _ _ _ rfl hown (.int .i64 (v : Int)) rfl rfl (by unfold maxLen; omega) (by omega) hs4 ?_; intro g' c4 w4 hown' hbel'))
            go_roundw
            case rel => exact ⟨i + 1, r2 + 1, g', c4, by have := HR2.out; omega, by omega, by go_num, rfl, by rw [olist_succ, ints_snoc, ← HV.out]; exact hown', HB4.out.trans hbel'⟩
            case measure => simp [intOf]; omega
          · obtain rfl : i = W := by omega
            clear hr
            go_wp2
            go_roundw
            case rel => exact ⟨j + 1, r2, g2, c2, by rw [HR2.out, Nat.add_mul, Nat.one_mul], by omega, by go_num, rfl, hown, hbel⟩
            case measure => simp [intOf]; omega
      · obtain rfl : j = H := by omega
        have hrS : r = S := by rw [HRR.out, Nat.mul_comm]; exact HSS.out
        subst hrS
        go_wp2
        go_ret2
        exact ⟨g, cc, rfl, Reads.of_own HO.out, HB.out.trans (HBB.out.mono hbs)⟩
end Go.Proofs.YthjamghemmanfaaDoor
