/- The walk of the reference's Orbits where there is a result. -/
import Derived.Test.YthjamghemmanfaaDoorROrb
namespace Go.Proofs.YthjamghemmanfaaDoor
open Go.RowKit
attribute [local go_sem] GDoes GUpon

theorem reads_cell {w : World} {B b n j : Nat} {G : List Nat} (h : Reads w B (some ⟨b, 0, none⟩) n (ints G)) (hj : j < n) : w.cell? ⟨b, j, none⟩ = some (.int .i64 (G.getD j 0 : Nat)) ∧ b < B := by
  obtain ⟨ad, e1, hadb, hcz⟩ := ints_at h hj
  injection e1 with e1
  subst e1
  refine ⟨?_, hadb⟩
  by_cases h0 : j = 0
  · subst h0; simpa [Addr.add] using hcz
  · simpa [Addr.add, h0] using hcz

set_option maxRecDepth 100000 in
set_option maxHeartbeats 4000000 in
theorem rorbits_good (A : Option Addr) (n c B W H p q S : Nat) (l : List Int) (w : World) (h : Ins w B A n l) (hB : B ≤ w.heap.size) (hn : n ≤ 100) (hW : W = p + 1) (hH : H = q + 1) (hp : p ≤ 255) (hq : q ≤ 255) (hS : W * H = S) (hS4 : S ≤ 4096) (hk : ∀ k ∈ grp (mds l), keeps k p q) :
    Calls Tryd.prog 6 #[.slice A n c, .int .i64 (W : Nat), .int .i64 (H : Nat)] w (OrbSays (grp (mds l)) p q S w) := by
  obtain ⟨i0, hi, hz0, hz1, hz2⟩ := info_parts Tryd.info_int
  have hS2 : (W : Int) * (H : Int) = (S : Int) := by rw [← hS]; simp
  have hS1 : 1 ≤ S := by rw [← hS]; exact Nat.mul_le_mul (show 1 ≤ W by omega) (show 1 ≤ H by omega)
  have GR := Lib.hid (rgroup_any A n c B l w h hB hn)
  have hGl := grp_len (mds l)
  have HG8 := Lib.hid (fun k (hk : k ∈ grp (mds l)) => grp_lt hk)
  have HKE := Lib.hid hk
  unfold GroupSays at GR
  generalize grp (mds l) = G at *
  obtain ⟨m, hm⟩ : ∃ m, m = G.length := ⟨_, rfl⟩
  rw [← hm] at GR hGl
  have HMG := Lib.hid hm
  have HWW := Lib.hid hW
  have HHH := Lib.hid hH
  have HSS := Lib.hid hS
  have hW2 : W ≤ 256 := by omega
  have hH2 : H ≤ 256 := by omega
  have hW1 : 1 ≤ W := by omega
  have hH1 : 1 ≤ H := by omega
  clear h hk hm hW hH hS
  go_enter Tryd.func6, Tryd.ntmps6
  go_wp2_with (go_at_call 17; (with_reducible refine GR.out.mono ?_); rintro e w1 ⟨b, c', rfl, hr, hb⟩; have HR := Lib.hid hr; have HB := Lib.hid hb; clear hr hb)
  clear GR hS2
  go_loop [9] (fun iv => ∃ j : Nat, j ≤ m ∧ iv = .int .i64 (j : Int)) (fun iv => m - (intOf iv).toNat)
  case atStart => exact ⟨0, Nat.zero_le _, rfl⟩
  case round =>
    obtain ⟨j, hj, rfl⟩ := hrel
    by_cases hlt : j < m
    · have hrow := (reads_cell HR.out hlt).1
      have hm := getD_mem (show j < G.length by rw [← HMG.out]; exact hlt)
      have E := Lib.hid (fun w => keeps_yes (G.getD j 0) W H w (HG8.out _ hm) (by have := HKE.out _ hm; unfold keeps at this; have := HWW.out; have := HHH.out; omega))
      generalize G.getD j 0 = x at hrow E
      clear hm
      go_wp2_with (go_at_call 18; (with_reducible refine (E.out _).mono ?_); rintro e w' ⟨rfl, rfl⟩)
      go_round
      case rel => exact ⟨j + 1, by omega, by go_num⟩
      case measure => simp [intOf]; omega
    · obtain rfl : j = m := by omega
      have hbs := HB.out.size
      have B0 : Below w1.heap.size w1 (w1.alloc (.cells #[.int .i64 0, .int .i64 0, .int .i64 (W : Nat), .int .i64 (H : Nat)] 35)) := (Below.refl _ _).alloc (Nat.le_refl _) _
      have K0 := Lib.hid (Blk.new w1 35 #[.int .i64 0, .int .i64 0, .int .i64 (W : Nat), .int .i64 (H : Nat)])
      have R0 := Lib.hid ((HR.out.below B0).more B0.size)
      have HB0 := Lib.hid (HB.out.trans (B0.mono hbs))
      clear B0
      go_wp2
      obtain ⟨sb, hsb⟩ : ∃ sb, sb = w1.heap.size := ⟨_, rfl⟩
      rw [← hsb] at K0
      rw [← hsb]
      clear hsb HR HB hbs
      generalize w1.alloc (.cells #[.int .i64 0, .int .i64 0, .int .i64 (W : Nat), .int .i64 (H : Nat)] 35) = w2 at K0 R0 HB0 ⊢
      have hbs := HB0.out.size
      have KP := Lib.hid (fun wr (hb : Below w2.heap.size w2 wr) => (show Reads wr wr.heap.size (some ⟨b, 0, none⟩) j (ints G) from (R0.out.below hb).more hb.size))
      have KK := Lib.hid (fun wr (hb : Below w2.heap.size w2 wr) => K0.out.below' hb)
      go_loopw [11, 12] (fun lv jv wr => ∃ (y r cc : Nat) (A2 : Option Addr), r = y * W ∧ y ≤ H ∧ jv = .int .i64 (y : Int) ∧ lv = .slice A2 r cc ∧ wr.ownsRow w2.heap.size 3 1 (.slice A2 r cc) r (ints (olist G p q r)) ∧ Below w2.heap.size w2 wr) (fun _ jv _ => H - (intOf jv).toNat)
      case atStart => exact ⟨0, 0, 0, none, by simp, Nat.zero_le _, rfl, rfl, ⟨rfl, .inl ⟨rfl, rfl⟩⟩, Below.refl _ _⟩
      case round =>
        obtain ⟨y, r, cc, A2, hr, hy, rfl, rfl, hown, hbel⟩ := hrel
        have HRR := Lib.hid hr
        have HO := Lib.hid hown
        have HBB := Lib.hid hbel
        clear hr hown hbel
        by_cases hym : y < H
        · obtain ⟨wo, hwo⟩ : ∃ wo, wo = wr := ⟨_, rfl⟩
          subst hwo
          go_wp2
          go_loopw [11, 13] (fun lv iv wr => ∃ (x r cc : Nat) (A2 : Option Addr), r = y * W + x ∧ x ≤ W ∧ iv = .int .i64 (x : Int) ∧ lv = .slice A2 r cc ∧ wr.ownsRow w2.heap.size 3 1 (.slice A2 r cc) r (ints (olist G p q r)) ∧ Below w2.heap.size w2 wr) (fun _ iv _ => W - (intOf iv).toNat)
          case atStart => exact ⟨0, r, cc, A2, HRR.out, Nat.zero_le _, rfl, rfl, HO.out, HBB.out⟩
          case round =>
            obtain ⟨x, r2, c2, A3, hr, hxn, rfl, rfl, hown, hbel⟩ := hrel
            have HR2 := Lib.hid hr
            have HO3 := Lib.hid hown
            have HB3 := Lib.hid hbel
            by_cases hxm : x < W
            · have hrS : r2 + 1 ≤ S := by
                have h1 := Nat.mul_le_mul_right W (show y + 1 ≤ H from hym)
                rw [Nat.add_mul, Nat.one_mul, Nat.mul_comm H W, HSS.out] at h1
                omega
              have hs3 : w2.heap.size ≤ wr.heap.size := hbel.size
              have hxp : x ≤ p := by have := HWW.out; omega
              have hyq : y ≤ q := by have := HHH.out; omega
              obtain ⟨r0, hr0⟩ : ∃ r0, r0 = y * W := ⟨_, rfl⟩
              have hre : (y : Int) * (W : Int) = (r0 : Int) := by rw [hr0]; simp
              have hr2 : r2 = r0 + x := by omega
              have HR0 := Lib.hid hr0
              clear hr hown hbel hr0
              subst hr2
              obtain ⟨wm, hwm⟩ : ∃ wm, wm = wr := ⟨_, rfl⟩
              subst hwm
              go_wp2
              go_loopw [14, 15] (fun fv iv wr => ∃ (i f : Nat), i ≤ j ∧ iv = .int .i64 (i : Int) ∧ fv = .int .i64 (f : Int) ∧ f = mn (G.take i) (r0 + x) p q x y ∧ f ≤ r0 + x ∧ Below wm.heap.size wm wr) (fun _ iv _ => j - (intOf iv).toNat)
              case atStart => exact ⟨0, r0 + x, Nat.zero_le _, rfl, by go_num, rfl, Nat.le_refl _, Below.refl _ _⟩
              case round =>
                obtain ⟨i, f, him, rfl, rfl, hf, hfS, hbel⟩ := hrel
                have HF := Lib.hid hf
                have DB := Lib.hid (HB3.out.trans (hbel.mono hs3))
                have DM := Lib.hid hbel
                clear hf hbel
                by_cases hlt : i < j
                · have hcz := (reads_cell (KP.out _ DB.out) hlt).1
                  have hbw := (reads_cell (KP.out _ DB.out) hlt).2
                  have hmem := getD_mem (show i < G.length by have := HMG.out; omega)
                  have hk8 := HG8.out _ hmem
                  have hke := HKE.out _ hmem
                  obtain ⟨k, hkk⟩ : ∃ k, k = G.getD i 0 := ⟨_, rfl⟩
                  have HT := Lib.hid (mn_take (show i < G.length by have := HMG.out; omega) (r0 + x) p q x y)
                  rw [← hkk] at hcz hk8 hke HT
                  have WI := Lib.hid (fun w => by have := rwithin_any (k : Int) W H p q x y w (by omega) (by omega) HWW.out HHH.out hp hq hxp hyq; rwa [md_nat k hk8] at this)
                  obtain ⟨i1, i2⟩ := img_in k p q x y hk8 hke hxp hyq
                  obtain ⟨r, hr⟩ : ∃ r, r = imgY k p q x y * W := ⟨_, rfl⟩
                  have hr2 : r ≤ 65536 := by rw [hr]; exact Nat.mul_le_mul (show imgY k p q x y ≤ 256 by omega) (show W ≤ 256 from hW2)
                  have hre2 : (imgY k p q x y : Int) * (W : Int) = (r : Int) := by rw [hr]; simp
                  have HV := Lib.hid (show val k p q x y = r + imgX k p q x y by unfold val; rw [hr, HWW.out])
                  generalize imgX k p q x y = ix at *
                  generalize imgY k p q x y = iy at *
                  have k4 := KK.out _ DB.out
                  have cg := fun pp : LowW wr.heap.size wr => (pp.below.cell (p := ⟨b, i, none⟩) hbw).trans hcz
                  have c40 := fun pp : LowW wr.heap.size wr => (k4.below' pp.below).four.1
                  have c41 := fun pp : LowW wr.heap.size wr => (k4.below' pp.below).four.2.1
                  have c42 := fun pp : LowW wr.heap.size wr => (k4.below' pp.below).four.2.2.1
                  have c43 := fun pp : LowW wr.heap.size wr => (k4.below' pp.below).four.2.2.2.1
                  clear hkk hmem hke hr k4 hcz
                  go_upto_region 21 with (fail)
                  refine wp_region_mix 9 1 (by kernel_rfl) (by kernel_rfl) ?_
                  simp only [List.take_succ_cons, List.take_zero, List.drop_succ_cons, List.drop_zero]
                  repeat (refine wpG_step (fun K hK => ?_); go_simp; first | (refine hK _ ?_; clear hK K) | (apply Exists.intro; refine ⟨fun pp => ?_, hK _ ?_⟩; (go_at_call 19; with_reducible exact WI.out _); clear hK K))
                  refine wpG_nil ?_
                  refine ⟨30, #[.int .i64 0, .int .i64 0], ⟨fun _ => rfl, fun a w => by kernel_rfl⟩, fun ga => ?_⟩
                  intro w3 hw3
                  have P7 := (hw3.blk _ (.head _)).1
                  have la : wr.heap.size ≤ ga := (hw3.blk _ (.head _)).2
                  simp only at P7
                  have hla2 : wm.heap.size ≤ ga := Nat.le_trans DM.out.size la
                  have EM := Lib.hid (Below.all2 (DM.out.trans (hw3.low.mono DM.out.size)) hla2 (.int .i64 (ix : Nat)) (.int .i64 (iy : Nat)))
                  have E7 := Lib.hid (P7.all2 (.int .i64 (ix : Nat)) (.int .i64 (iy : Nat)))
                  obtain ⟨p70, p71, p72, p73, p74⟩ := P7.two
                  clear cg c40 c41 c42 c43 hw3 P7
                  go_upto_region 22 with (fail)
                  clear p70 p71 p72 p73 p74
                  generalize (w3.setCell ⟨ga, 0, none⟩ (.int .i64 (ix : Nat))).setCell ⟨ga, 1, none⟩ (.int .i64 (iy : Nat)) = w4 at EM E7 ⊢
                  obtain ⟨p70, p71, p72, p73, p74⟩ := E7.out.two
                  go_wp2
                  all_goals
                    go_roundw
                    case rel =>
                      have hf := HF.out
                      have ht := HT.out
                      have hv := HV.out
                      rw [hv, ← hf] at ht
                      refine ⟨i + 1, min f (r + ix), by omega, by go_num, ?_, ht.symm, by omega, EM.out⟩
                      congr 1; omega
                    case measure => simp [intOf]; omega
                · obtain rfl : i = j := by omega
                  have HV := Lib.hid (show f = orb G p q (r0 + x) by
                    have hf := HF.out
                    rw [List.take_of_length_le (by have := HMG.out; omega)] at hf
                    rw [hf, HR0.out, HWW.out, orb_at G hxp])
                  have hown := own_below HO3.out DM.out
                  have hs4 : w2.heap.size ≤ wr.heap.size := DB.out.size
                  go_wp2_with (at_builtin; refine wpList_append1 rfl _ _ 22 rfl w2.heap.size 3 i0 (.int .i64 0) 8 Tryd.underlying22 hi hz0 hz1 hz2 rfl _ _ _ _ rfl hown (.int .i64 (f : Int)) rfl rfl (by unfold maxLen; omega) (by omega) hs4 ?_; intro g' c4 w4 hown' hbel')
                  go_roundw
                  case rel => exact ⟨x + 1, r0 + x + 1, c4, _, by have := HR0.out; omega, by omega, by go_num, rfl, by rw [olist_succ, ints_snoc, ← HV.out]; exact hown', DB.out.trans hbel'⟩
                  case measure => simp [intOf]; omega
            · obtain rfl : x = W := by omega
              clear hr
              go_wp2
              go_roundw
              case rel => exact ⟨y + 1, r2, c2, A3, by rw [HR2.out, Nat.add_mul, Nat.one_mul], by omega, by go_num, rfl, hown, hbel⟩
              case measure => simp [intOf]; omega
        · obtain rfl : y = H := by omega
          have hrS : r = S := by rw [HRR.out, Nat.mul_comm]; exact HSS.out
          subst hrS
          obtain ⟨b3, c3, hv3, hb3, hb4⟩ := HO.out.form (by omega)
          injection hv3 with hv31 hv32 hv33
          subst hv31 hv33
          go_wp2
          go_ret2
          exact ⟨b3, cc, rfl, Reads.of_own HO.out, HB0.out.trans (HBB.out.mono hbs)⟩
end Go.Proofs.YthjamghemmanfaaDoor
