/- The walk of Roll at any valid torus. -/
import Derived.Test.YtbbehbgfdlamfaaGri
import Derived.Test.YtbbehbgfdlamfaaGap
import Derived.Test.YtbbehbgfdlamfaaCIArr
namespace Go.Proofs.Ytbbehbgfdlamfaa
open Go.RowKit

/-- the cell of a rolled torus -/
def rlF (W H : Nat) (dx dy : Int) (l : List Int) (k : Nat) : Int := ig l (wi W H 1 ((k % W : Nat) - dx % W) ((k / W : Nat) - dy % H)).toNat
/-- the first cells of a rolled torus -/
def rlP (W H : Nat) (dx dy : Int) (l : List Int) (q : Nat) : List Int := (List.range q).map (rlF W H dx dy l)
theorem rlP_next (W H : Nat) (dx dy : Int) (l : List Int) (j i : Nat) (hi : i < W) : il (rlP W H dx dy l (j * W + i + 1)) = il (rlP W H dx dy l (j * W + i)) ++ [.int .i64 (ig l (wi W H 1 ((i : Int) - dx % W) ((j : Int) - dy % H)).toNat)] := by
  have e1 : (j * W + i) % W = i := by rw [Nat.add_comm, Nat.add_mul_mod_self_right, Nat.mod_eq_of_lt hi]
  have e2 : (j * W + i) / W = j := by rw [Nat.add_comm, Nat.add_mul_div_right _ _ (by omega), Nat.div_eq_of_lt hi, Nat.zero_add]
  simp only [rlP, List.range_succ, il, List.map_append, List.map_cons, List.map_nil, rlF, e1, e2]
theorem gtorus_any (A : Option Addr) (W H E : Int) (n c : Nat) (w : World) (x y : Int) (hw : 1 ≤ W) (hw' : W ≤ 256) (hh : 1 ≤ H) (hh' : H ≤ 256) :
    Calls Try.prog 17 #[.agg #[.int .i64 W, .int .i64 H, .int .i64 E, .slice A n c], .int .i64 1, .int .i64 x, .int .i64 y] w fun r w' => r = .returned (.tuple #[.int .i64 (wi W H 1 x y), .bool true]) ∧ Below w.heap.size w w' :=
  gindex_any A W H E n c w 1 x y (by decide) (by decide) hw hw' hh hh'
theorem wi1_bd {W H x y : Int} (hw : 1 ≤ W) (hh : 1 ≤ H) : 0 ≤ wi W H 1 x y ∧ wi W H 1 x y < W * H := wi_bd hw hh (by decide) (by decide) rfl
section
variable (A : Option Addr) (c : Nat) (l : List Int) (w : World)
set_option maxRecDepth 100000 in
set_option maxHeartbeats 400000 in
theorem groll_any (W H n : Nat) (dx dy : Int) (hN : H * W = n) (h : Reads w w.heap.size A n (il l)) (hr : grt W H 1 l = true) :
    Calls Try.prog 8 #[.agg #[.int .i64 (W : Int), .int .i64 (H : Int), .int .i64 1, .slice A n c], .int .i64 dx, .int .i64 dy] w fun e w' => ∃ A' c', e = .returned (.tuple #[.agg #[.int .i64 (W : Int), .int .i64 (H : Int), .int .i64 1, .slice A' n c'], .int .i64 0]) ∧ Reads w' w'.heap.size A' n (il (rlP W H dx dy l n)) ∧ Below w.heap.size w w' := by
  obtain ⟨i0, hi, hz0, hz1, hz2⟩ := info_parts Try.info_int
  have hr' := hr
  simp only [grt, Bool.and_eq_true, decide_eq_true_eq] at hr'
  obtain ⟨hs, hl, hc⟩ := hr'
  obtain ⟨⟨w1, w2⟩, ⟨h1, h2⟩, p1, _, _⟩ := (vsh_iff W H 1).1 hs
  have hnI : (n : Int) = (W : Int) * (H : Int) := by rw [← hN, Int.mul_comm]; simp
  have hn : n ≤ 4096 := by omega
  obtain ⟨K1, K2, B0, S0⟩ := two_blks w #[.int .i64 (W : Int), .int .i64 (H : Int), .int .i64 1, .slice A n c] #[.int .i64 0, .int .i64 0, .int .i64 0, .slice none 0 0] 24 24
  generalize hw0 : (w.alloc (.cells #[.int .i64 (W : Int), .int .i64 (H : Int), .int .i64 1, .slice A n c] 24)).alloc (.cells #[.int .i64 0, .int .i64 0, .int .i64 0, .slice none 0 0] 24) = w0 at K1 K2 B0 S0
  have R := Lib.hid (by have := gright_any A W H 1 n c l w0 (h.later B0) (by omega); rwa [hr] at this)
  have RX := Lib.hid (fun w => grem_any dx W w w1 (by omega))
  have RY := Lib.hid (fun w => grem_any dy H w h1 (by omega))
  have d1 := Int.emod_nonneg dx (show (W : Int) ≠ 0 by omega)
  have d2 := Int.emod_lt_of_pos dx (show 0 < (W : Int) by omega)
  have d3 := Int.emod_nonneg dy (show (H : Int) ≠ 0 by omega)
  have d4 := Int.emod_lt_of_pos dy (show 0 < (H : Int) by omega)
  have NX := Lib.hid (rlP_next W H dx dy l)
  have hP0 : il (rlP W H dx dy l 0) = [] := rfl
  have HP0 := Lib.hid hP0
  generalize hP : rlP W H dx dy l = P at *
  generalize dx % (W : Int) = ex at *
  generalize dy % (H : Int) = ey at *
  have IX := Lib.hid (fun w x y => gtorus_any A W H 1 n c w x y w1 w2 h1 h2)
  have IB := Lib.hid (fun x y => wi1_bd (x := x) (y := y) w1 h1)
  generalize wi (W : Int) (H : Int) 1 = ix at *
  have K1 := Lib.hid K1
  have K2 := Lib.hid K2
  have B0 := Lib.hid B0
  have HR := Lib.hid h
  have HN := Lib.hid hN
  have HI := Lib.hid hnI
  clear hN hnI
  clear h hs hl hc hP hP0 p1 hr
  obtain ⟨k0, k1, k2, k3, k4⟩ := K1.out.four
  go_enter Try.func8, Try.ntmps8
  go_upto_region 1 with (fail)
  clear hw0
  go_upto_region 3 with (go_at_call 14; (with_reducible refine R.out.mono ?_); rintro e w3 ⟨rfl, hb⟩; have B3 := Lib.hid hb; obtain ⟨j0, j1, j2, j3, j4⟩ := (K1.out.below hb K1.out.lt).four; clear hb)
  clear k0 k1 k2 k3 k4
  go_quiet (first | (go_at_call 16; with_reducible exact Calls.quiet_of_same ((RX.out _).mono fun _ _ h => ⟨h.1, h.2.symm⟩)) | (go_at_call 16; with_reducible exact Calls.quiet_of_same ((RY.out _).mono fun _ _ h => ⟨h.1, h.2.symm⟩)))
  have K3 := K1.out.below B3.out K1.out.lt
  have K3 := Lib.hid (K3.drewN nq)
  have K4 := Lib.hid ((K2.out.below B3.out K2.out.lt).drewN nq)
  have B3 := Lib.hid ((B0.out.trans (B3.out.mono B0.out.size)) |> fun h => below_drewN h nq)
  have s3 : w.heap.size + 2 ≤ (w3.drewN nq).heap.size := by have := K4.out.lt; omega
  clear j0 j1 j2 j3 j4
  generalize w3.drewN nq = w4 at *
  obtain ⟨k0, k1, k2, k3, k4⟩ := K3.out.four
  go_wp2_with (at_make; refine wpList_make_own _ rfl _ _ 22 rfl (w.heap.size + 2) 3 i0 (.int .i64 0) 1 Try.underlying22 hi hz0 hz1 .i64 .i64 _ n rfl rfl rfl (by rw [hz2]; omega) (by unfold maxLen; omega) s3 ?_; intro w5 hown5 hgrow5; have L5 := Lib.hid (Below.grown (Below.refl w4.heap.size w4) hgrow5 (Nat.le_refl _) (fun k hk => by cases hk)); obtain ⟨l0, l1, l2, l3, l4⟩ := (K3.out.below L5.out K3.out.lt).four)
  clear k0 k1 k2 k3 k4
  have K5 := Lib.hid (K3.out.below L5.out K3.out.lt)
  have C5 := Lib.hid (K4.out.below L5.out K4.out.lt)
  have B5 := Lib.hid (B3.out.trans (L5.out.mono B3.out.size))
  have R5 := Lib.hid (HR.out.below B5.out)
  have O5 := Lib.hid (show w5.ownsRow (w.heap.size + 2) 3 1 (.slice (some ⟨w4.heap.size, 0, none⟩) 0 n) 0 (il (P 0)) from by rw [HP0.out]; exact hown5)
  clear hown5 hgrow5
  generalize w4.heap.size = g4 at *
  go_loopw [8, 36] (fun lv jv wr => ∃ (j q : Nat) (A' : Option Addr) (c' : Nat), Hid (q = j * W) ∧ j ≤ H ∧ jv = .int .i64 (j : Int) ∧ lv = .slice A' q c' ∧ Hid (wr.ownsRow (w.heap.size + 2) 3 1 (.slice A' q c') q (il (P q))) ∧ Hid (Below (w.heap.size + 2) w5 wr)) (fun _ jv _ => H - (intOf jv).toNat)
  case atStart => exact ⟨0, 0, _, _, Lib.hid (by simp), Nat.zero_le _, rfl, rfl, O5, Lib.hid (Below.refl _ _)⟩
  case round =>
    obtain ⟨j, q, A', c', HQ, hj, rfl, rfl, HO, HB⟩ := hrel
    by_cases hjm : j < H
    · obtain ⟨k0, k1, k2, k3, k4⟩ := (K5.out.below HB.out (by omega)).four
      clear l0 l1 l2 l3 l4
      obtain ⟨wo, rfl⟩ : ∃ wo, wo = wr := ⟨_, rfl⟩
      go_wp2
      clear k0 k1 k2 k3 k4
      go_loopw [8, 41] (fun lv iv wr => ∃ (i r : Nat) (A' : Option Addr) (c' : Nat), Hid (r = j * W + i) ∧ i ≤ W ∧ iv = .int .i64 (i : Int) ∧ lv = .slice A' r c' ∧ Hid (wr.ownsRow (w.heap.size + 2) 3 1 (.slice A' r c') r (il (P r))) ∧ Hid (Below (w.heap.size + 2) w5 wr)) (fun _ iv _ => W - (intOf iv).toNat)
      case atStart => exact ⟨0, q, _, _, Lib.hid (by rw [HQ.out]; rfl), Nat.zero_le _, rfl, rfl, HO, HB⟩
      case round =>
        clear HO HB
        obtain ⟨i, r, A2, c2, HR2, hin, rfl, rfl, HO, HB⟩ := hrel
        by_cases hlt : i < W
        · have K6 := Lib.hid (K5.out.below HB.out (by omega))
          have R6 := Lib.hid (R5.out.below (HB.out.mono (by omega)))
          have NX2 := NX.out j i hlt
          obtain ⟨b1, b2⟩ := IB.out ((i : Int) - ex) ((j : Int) - ey)
          have I2 := Lib.hid (fun w => IX.out w ((i : Int) - ex) ((j : Int) - ey))
          generalize ix ((i : Int) - ex) ((j : Int) - ey) = v at *
          obtain ⟨v, rfl⟩ : ∃ k : Nat, v = (k : Int) := ⟨v.toNat, by omega⟩
          have b3 : v < n := by have := HI.out; omega
          clear b1 b2
          rw [Int.toNat_natCast, ← HR2.out] at NX2
          obtain ⟨ad, rfl, hbb, hcc⟩ := il_at R6.out b3
          generalize ig l v = s at *
          have NX2 := Lib.hid NX2
          have HC := Lib.hid hcc
          have HBB := Lib.hid hbb
          have HRN : r + 1 ≤ n := by
            have h1 := HR2.out
            have h2 := HN.out
            have h3 : (j + 1) * W ≤ H * W := Nat.mul_le_mul_right _ hjm
            rw [Nat.add_mul, Nat.one_mul] at h3
            omega
          have hsz : w.heap.size + 2 ≤ wr.heap.size := by have := HB.out.size; have := C5.out.lt; omega
          clear hcc hbb R6
          obtain ⟨k0, k1, k2, k3, k4⟩ := K6.out.four
          go_wp2_with (first
            | (go_at_call 17; (with_reducible refine (I2.out _).mono ?_); rintro e w6 ⟨rfl, hb⟩; have B6 := Lib.hid (HB.out.trans (hb.mono hsz)); have O6 := Lib.hid (own_below HO.out hb); obtain ⟨m0, m1, m2, m3, m4⟩ := (K6.out.below hb K6.out.lt).four; have c4 := (hb.cell (by rw [block_of_add]; exact Nat.lt_of_lt_of_le HBB.out (Nat.le_trans (Nat.le_add_right _ 2) hsz))).trans HC.out; have s6 := hb.size; clear hb)
            | (at_builtin; refine wpList_append1 rfl _ _ 22 rfl (w.heap.size + 2) 3 i0 (.int .i64 0) 8 Try.underlying22 hi hz0 hz1 hz2 rfl _ _ _ _ rfl O6.out (.int .i64 s) rfl rfl (by unfold maxLen; omega) (by omega) (by omega) ?_; intro g7 c7 w7 hown7 hbel7; have O7 := Lib.hid hown7; have B7 := Lib.hid (B6.out.trans hbel7); clear hown7 hbel7))
          go_roundw
          case rel => exact ⟨i + 1, r + 1, _, _, Lib.hid (by rw [HR2.out]; omega), by omega, by go_num, rfl, Lib.hid (by rw [HR2.out] at NX2 O7 ⊢; rw [NX2.out]; exact O7.out), B7⟩
          case measure => simp [intOf]; omega
        · obtain rfl : i = W := by omega
          go_wp2
          go_roundw
          case rel => exact ⟨j + 1, r, _, _, Lib.hid (by rw [HR2.out, Nat.add_mul, Nat.one_mul]), by omega, by go_num, rfl, HO, HB⟩
          case measure => simp [intOf]; omega
    · obtain rfl : j = H := by omega
      have hq : q = n := by rw [HQ.out, HN.out]
      subst hq
      have K6 := Lib.hid (K5.out.below HB.out (by omega))
      have C6 := Lib.hid (C5.out.below HB.out (by omega))
      have B6 := Lib.hid (B5.out.trans (HB.out.mono (by omega)))
      have R7 := Lib.hid (Reads.of_own HO.out)
      have hne := HO.out.lt
      clear l0 l1 l2 l3 l4 hne
      obtain ⟨k0, k1, k2, k3, k4, k5, k6, k7, k8⟩ := K6.out.four8
      go_upto_region 16 with (fail)
      clear k0 k1 k2 k3 k4 k5 k6 k7 k8
      have K7 : Blk (wr.setCell ⟨w.heap.size, 3, none⟩ (.slice A' q c')) w.heap.size 24 #[.int .i64 (W : Int), .int .i64 (j : Int), .int .i64 1, .slice A' q c'] := by simpa using K6.out.set_ 3 (.slice A' q c')
      have C7 := Lib.hid (C6.out.far (p := ⟨w.heap.size, 3, none⟩) (show w.heap.size + 1 ≠ w.heap.size by omega) (.slice A' q c'))
      have B7 := Lib.hid (B6.out.setCell (p := ⟨w.heap.size, 3, none⟩) (Nat.le_refl _) (.slice A' q c'))
      have R8 : Reads (wr.setCell ⟨w.heap.size, 3, none⟩ (.slice A' q c')) wr.heap.size A' q (il (P q)) := R7.out.far (fun ad hn ha => by
        obtain ⟨g, cap, hv, hg, _⟩ := HO.out.form hn
        injection hv with hv
        rw [ha] at hv
        injection hv with hv
        rw [hv]
        show g ≠ w.heap.size
        omega) _
      have s8 : (wr.setCell ⟨w.heap.size, 3, none⟩ (.slice A' q c')).heap.size = wr.heap.size := by simp
      rw [← s8] at R8
      have R8 := Lib.hid R8
      clear R7 s8 K6 C6 B6
      generalize wr.setCell ⟨w.heap.size, 3, none⟩ (.slice A' q c') = w8 at *
      obtain ⟨k0, k1, k2, k3, k4⟩ := K7.four
      obtain ⟨j0, j1, j2, j3, j4, j5, j6, j7, j8⟩ := C7.out.four8
      go_wp2
      have E := Blk.put4 (a := .int .i64 (W : Int)) (b := .int .i64 (j : Int)) (c := .int .i64 1) (d := .slice A' q c') C7.out
      have HZ := Below.put4 (a := .int .i64 (W : Int)) (b := .int .i64 (j : Int)) (c := .int .i64 1) (d := .slice A' q c') B7.out (Nat.le_succ w.heap.size)
      have RZ : Reads (put4 w8 (w.heap.size + 1) (.int .i64 (W : Int)) (.int .i64 (j : Int)) (.int .i64 1) (.slice A' q c')) w8.heap.size A' q (il (P q)) := by
        have hf : ∀ ad : Addr, 0 < q → A' = some ad → ad.block ≠ w.heap.size + 1 := fun ad hn ha => by
          obtain ⟨g, cap, hv, hg, _⟩ := HO.out.form hn
          injection hv with hv
          rw [ha] at hv
          injection hv with hv
          rw [hv]
          show g ≠ w.heap.size + 1
          omega
        exact (((R8.out.far (p := ⟨w.heap.size + 1, 0, none⟩) hf _).far (p := ⟨w.heap.size + 1, 1, none⟩) hf _).far (p := ⟨w.heap.size + 1, 2, none⟩) hf _).far (p := ⟨w.heap.size + 1, 3, none⟩) hf _
      have sz : (put4 w8 (w.heap.size + 1) (.int .i64 (W : Int)) (.int .i64 (j : Int)) (.int .i64 1) (.slice A' q c')).heap.size = w8.heap.size := by simp [put4]
      rw [← sz] at RZ
      change bodyPost _ _ _ _ _ (put4 w8 (w.heap.size + 1) (.int .i64 (W : Int)) (.int .i64 (j : Int)) (.int .i64 1) (.slice A' q c'))
      generalize put4 w8 (w.heap.size + 1) (.int .i64 (W : Int)) (.int .i64 (j : Int)) (.int .i64 1) (.slice A' q c') = wz at E HZ RZ ⊢
      obtain ⟨z0, z1, z2, z3, z4⟩ := E.four
      refine bodyPost_ret (v := .tuple #[.agg #[.int .i64 (W : Int), .int .i64 (j : Int), .int .i64 1, .slice A' q c'], .int .i64 0]) (by simp [results, Try.results8, go_sem, z0, z1, z2, z3, z4]) rfl ⟨A', c', rfl, RZ, HZ⟩
end
end Go.Proofs.Ytbbehbgfdlamfaa
