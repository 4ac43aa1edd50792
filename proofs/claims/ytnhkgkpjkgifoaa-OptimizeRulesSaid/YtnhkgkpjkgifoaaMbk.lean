/- The walk of needed. -/
import Derived.Test.YtnhkgkpjkgifoaaMbj
namespace Go.Proofs.Ytnhkgkpjkgifoaa
open Go.RowKit

theorem ndO_snoc : ∀ (l : List Int) (x : Int) (nd : List Bool), ndO nd (l ++ [x]) = (ndO nd l).set x.toNat true
  | [], _, _ => rfl
  | o :: r, x, nd => by rw [List.cons_append, ndO, ndO, ndO_snoc r]
section
variable {wk b0 N : Nat} {gs : List C3} {os ws : List Int} {A O V : Option Addr} {cA cO cV mb : Nat} {w : World}
set_option maxRecDepth 100000 in
set_option maxHeartbeats 8000000 in
theorem needed_any (h : WK wk b0 N gs os ws A O V cA cO cV mb w) (hc : COk N gs os) (hol : os.length ≤ 1000) :
    Calls Try.prog 89 #[.pointer (some ⟨wk, 0, none⟩)] w fun e w' => ∃ g, e = .returned (.slice (some ⟨g, 0, none⟩) (N + gs.length) (N + gs.length)) ∧ Blk w' g 4 (bl (ndA N gs os)).toArray ∧ w.heap.size ≤ g ∧ Below w.heap.size w w' := by
  obtain ⟨c0, c1, c2, _, _, c5⟩ := h.blk.five
  have hN := hc.n
  have hn := hc.g
  have HC := Lib.hid hc
  have HW := Lib.hid h
  obtain ⟨n, hnn⟩ : ∃ n, gs.length = n := ⟨_, rfl⟩
  obtain ⟨q, hqq⟩ : ∃ q, os.length = q := ⟨_, rfl⟩
  rw [hnn] at c1 hn ⊢
  rw [hqq] at c2 hol
  obtain ⟨M, hM⟩ : ∃ M, N + n = M := ⟨_, rfl⟩
  rw [hM]
  have e1 : IntKind.i64.wrap ((N : Int) + (n : Int)) = (M : Int) := by rw [show (N : Int) + (n : Int) = (M : Int) by omega]; exact IntWalk.i64_in _ ⟨by omega, by omega⟩
  have mk : ∀ w', (Instr.makeSlice 37 (.int .i64 (M : Int)) (.int .i64 (M : Int))).run Try.prog w' = .ok (.slice (some ⟨w'.heap.size, 0, none⟩) M M) (w'.alloc (.cells (bl (List.replicate M false)).toArray 4)) := fun w' => mk_bools M (by omega) w'
  have HNN := Lib.hid hnn
  have HQQ := Lib.hid hqq
  have HM := Lib.hid hM
  clear h hc hnn hqq hM
  go_enter Try.func89, Try.ntmps89
  go_upto_region 1 with (fail)
  go_cut [3] from 8 to 20 (fun s3 wx => s3 = .slice (some ⟨w.heap.size, 0, none⟩) M M ∧ Blk wx w.heap.size 4 (bl (List.replicate M false)).toArray ∧ Below w.heap.size w wx)
  case first =>
    go_region
    all_goals
      go_wp2_with fail
      go_meet
      exact ⟨rfl, Blk.drew (Blk.new w 4 (bl (List.replicate M false)).toArray), ((Below.refl _ w).alloc (Nat.le_refl _) _).drew⟩
  case rest =>
    obtain ⟨rfl, hX, hBx⟩ := hcut
    have G1 := Lib.hid hX
    have B1 := Lib.hid hBx
    clear hX hBx
    obtain ⟨g, hg⟩ : ∃ g, w.heap.size = g := ⟨_, rfl⟩
    have G1 : Hid (Blk wc g 4 (bl (List.replicate M false)).toArray) := by rw [← hg]; exact G1
    rw [hg]
    have hgw : w.heap.size ≤ g := Nat.le_of_eq hg
    have HGE := Lib.hid hg
    have c2 := (HW.out.later B1.out).blk.five.2.2.1
    rw [HQQ.out] at c2
    clear c0 c1 c5 mk hg
    exact (by
      go_upto_region 3 with (fail)
      go_loopw [27] (fun iv wr => ∃ (j : Nat), j ≤ q ∧ iv = .int .i64 (j : Int) ∧ Hid (Blk wr g 4 (bl (ndO (List.replicate M false) (os.take j))).toArray) ∧ Hid (Below w.heap.size w wr)) (fun iv _ => q - (intOf iv).toNat)
      case atStart => exact ⟨0, Nat.zero_le _, rfl, by simpa [ndO] using G1, B1⟩
      case round =>
        obtain ⟨j, hj, rfl, HG, HB⟩ := hrel
        clear c2
        by_cases hlt : j < q
        · have hjI : (j : Int) < (q : Int) := by omega
          obtain ⟨ad, hO, _, hcx⟩ := il_at (HW.out.later HB.out).or_ (k := j) (by rw [HQQ.out]; exact hlt)
          obtain ⟨x1, x2⟩ := HC.out.os j (by rw [HQQ.out]; exact hlt)
          rw [HNN.out] at x2
          have htk : os.take (j + 1) = os.take j ++ [ig os j] := by
            have hjo : j < os.length := by rw [HQQ.out]; exact hlt
            rw [List.take_add_one, List.getElem?_eq_getElem hjo]
            simp [ig, List.getD_eq_getElem?_getD, hjo]
          have hnx := ndO_snoc (os.take j) (ig os j) (List.replicate M false)
          rw [← htk] at hnx
          subst hO
          generalize ig os j = x at *
          obtain ⟨x, rfl⟩ : ∃ k : Nat, x = (k : Int) := ⟨x.toNat, by omega⟩
          rw [Int.toNat_natCast] at hnx
          have HNX := Lib.hid hnx
          have hxM : x < M := by have := HM.out; omega
          have xI : (x : Int) < (M : Int) := by omega
          have hln : (ndO (List.replicate M false) (os.take j)).length = M := by rw [ndO_len]; simp
          generalize ndO (List.replicate M false) (os.take j) = nd at *
          have cx := (HG.out.cell x).trans (bl_get (l := nd) (k := x) (by omega))
          have fx := HG.out.frozen x
          have G5 := Lib.hid (show Blk (wr.setCell ⟨g, x, none⟩ (.bool true)) g 4 (bl (nd.set x true)).toArray from by have := HG.out.set_ x (.bool true); rwa [bl_set] at this)
          have B5 := Lib.hid (HB.out.setCell (p := ⟨g, x, none⟩) hgw (.bool true))
          clear hnx htk x1 x2 hln
          go_wp2_with fail
          go_roundw
          case rel => exact ⟨j + 1, by omega, by go_num, Lib.hid (by rw [HNX.out]; exact G5.out), B5⟩
          case measure => simp [intOf]; omega
        · obtain rfl : j = q := by omega
          have htk : os.take j = os := by rw [← HQQ.out]; exact List.take_length
          rw [htk] at HG
          have c1 : wr.cell? ⟨wk, 1, none⟩ = some (.slice A n cA) := by have := (HW.out.later HB.out).blk.five.2.1; rwa [HNN.out] at this
          have hl0 : (ndO (List.replicate M false) os).length = M := by rw [ndO_len]; simp
          have HR0 := Lib.hid (show ndS N gs n (ndO (List.replicate M false) os) = ndA N gs os by unfold ndA; rw [HNN.out, HM.out])
          have HL0 := Lib.hid hl0
          generalize ndO (List.replicate M false) os = nd0 at *
          have e2 : IntKind.i64.wrap ((n : Int) - 1) = (n : Int) - 1 := IntWalk.i64_in _ ⟨by omega, by omega⟩
          clear hl0 htk
          exact (by
            go_upto_region 8 with (fail)
            go_loopw [6] (fun iv wr => ∃ (i : Nat) (nd : List Bool), i ≤ n ∧ iv = .int .i64 ((i : Int) - 1) ∧ Hid (ndS N gs i nd = ndA N gs os) ∧ Hid (Blk wr g 4 (bl nd).toArray) ∧ Hid (nd.length = M) ∧ Hid (Below w.heap.size w wr)) (fun iv _ => (intOf iv + 1).toNat)
            case atStart => exact ⟨n, nd0, Nat.le_refl _, rfl, HR0, HG, HL0, HB⟩
            case round =>
              obtain ⟨i1, nd, hi, rfl, HR, HG, HL, HB⟩ := hrel
              clear c1
              cases i1 with
              | zero =>
                have e3 : ¬ (0 : Int) ≤ ((0 : Nat) : Int) - 1 := by omega
                have e4 : ((0 : Nat) : Int) - 1 = -1 := by omega
                rw [e4]
                go_wp2
                go_ret
                refine ⟨g, rfl, ?_, hgw, HB.out⟩
                rw [← HR.out]
                exact HG.out
              | succ i =>
                rw [show ((i + 1 : Nat) : Int) - 1 = (i : Int) by omega]
                have hL := HL.out
                have cN0 := (HW.out.later HB.out).blk.five.1
                have c1 : wr.cell? ⟨wk, 1, none⟩ = some (.slice A n cA) := by have := (HW.out.later HB.out).blk.five.2.1; rwa [HNN.out] at this
                have iM : N + i < M := by have := HM.out; omega
                have cN := (HG.out.cell (N + i)).trans (bl_get (l := nd) (k := N + i) (by omega))
                have e5 : IntKind.i64.wrap ((N : Int) + (i : Int)) = ((N + i : Nat) : Int) := by rw [show (N : Int) + (i : Int) = ((N + i : Nat) : Int) by omega]; exact IntWalk.i64_in _ ⟨by omega, by omega⟩
                obtain ⟨P, hP⟩ : ∃ P, N + i = P := ⟨_, rfl⟩
                rw [hP] at e5 cN iM
                have PI : (P : Int) < (M : Int) := by omega
                have iI : (i : Int) < (n : Int) := by omega
                have e6 : IntKind.i64.wrap ((i : Int) - 1) = (i : Int) - 1 := IntWalk.i64_in _ ⟨by omega, by omega⟩
                have i0 : (0 : Int) ≤ (i : Int) := by omega
                have hR := HR.out
                rw [ndS, hP] at hR
                have HP := Lib.hid hP
                clear hP
                rcases hb : bg nd P with _ | _
                · rw [hb] at cN hR
                  rw [if_neg (by decide)] at hR
                  have HR2 := Lib.hid hR
                  clear hR hb
                  exact (by
                    go_wp2_with fail
                    go_roundw
                    case rel => exact ⟨i, nd, by omega, by go_num, HR2, HG, HL, HB⟩
                    case measure => simp only [intOf]; omega)
                · rw [hb] at cN hR
                  rw [if_pos rfl] at hR
                  have HR2 := Lib.hid hR
                  have hrd := (HW.out.later HB.out).rk.rd
                  rw [HNN.out] at hrd
                  obtain ⟨gg, oo, hA, hgg, hcc⟩ := hrd (by omega)
                  subst hA
                  obtain ⟨y0, y1, y2⟩ := hcc i (by omega)
                  have hrg := HC.out.gd i (by rw [HNN.out]; omega)
                  simp only at y0 y1 y2
                  have hMM := HM.out
                  clear hR hb hcc hrd
                  generalize gs.getD i (0, 0, 0) = gx at y0 y1 y2 hrg HR2
                  obtain ⟨op, a, b⟩ := gx
                  simp only at y0 y1 y2
                  rcases rg_cases hrg with ⟨ho, rfl, rfl⟩ | ⟨rfl, h0, ha, rfl⟩ | ⟨ho, h0, ha, h1, hb⟩
                  · rcases ho with rfl | rfl
                    · have A4 := Lib.hid ((Below.refl wr.heap.size wr).alloc (Nat.le_refl _) (.cells #[.int .i64 0, .int .i64 0, .int .i64 0] 57))
                      have K5 := Blk.new wr 57 #[.int .i64 0, .int .i64 0, .int .i64 0]
                      have G4 := Lib.hid (HG.out.alloc (.cells #[.int .i64 0, .int .i64 0, .int .i64 0] 57))
                      exact (by
                        go_upto_region 12 with (fail)
                        generalize wr.alloc (.cells #[.int .i64 0, .int .i64 0, .int .i64 0] 57) = w4 at *
                        obtain ⟨k0, k1, k2, _, _, _, k6⟩ := K5.three6
                        have K5 := Lib.hid K5
                        have B4 := Lib.hid (HB.out.trans (A4.out.mono HB.out.size))
                        have gne : wr.heap.size ≠ g := by have := HG.out.lt; omega
                        clear y0 y1 y2 cN c1 cN0 hMM
                        go_wp2_with fail
                        go_roundw
                        case rel => exact ⟨i, ndG nd (0, 0, 0), by omega, by go_num, Lib.hid (by rw [← HR2.out]), G4, Lib.hid (by rw [ndG_len]; exact HL.out), B4⟩
                        case measure => simp only [intOf]; omega)
                    · have A4 := Lib.hid ((Below.refl wr.heap.size wr).alloc (Nat.le_refl _) (.cells #[.int .i64 1, .int .i64 0, .int .i64 0] 57))
                      have K5 := Blk.new wr 57 #[.int .i64 1, .int .i64 0, .int .i64 0]
                      have G4 := Lib.hid (HG.out.alloc (.cells #[.int .i64 1, .int .i64 0, .int .i64 0] 57))
                      exact (by
                        go_upto_region 12 with (fail)
                        generalize wr.alloc (.cells #[.int .i64 1, .int .i64 0, .int .i64 0] 57) = w4 at *
                        obtain ⟨k0, k1, k2, _, _, _, k6⟩ := K5.three6
                        have K5 := Lib.hid K5
                        have B4 := Lib.hid (HB.out.trans (A4.out.mono HB.out.size))
                        have gne : wr.heap.size ≠ g := by have := HG.out.lt; omega
                        clear y0 y1 y2 cN c1 cN0 hMM
                        go_wp2_with fail
                        go_roundw
                        case rel => exact ⟨i, ndG nd (1, 0, 0), by omega, by go_num, Lib.hid (by rw [← HR2.out]), G4, Lib.hid (by rw [ndG_len]; exact HL.out), B4⟩
                        case measure => simp only [intOf]; omega)
                  · obtain ⟨k, rfl⟩ : ∃ k : Nat, a = (k : Int) := ⟨a.toNat, by omega⟩
                    have hkM : k < M := by omega
                    have A4 := Lib.hid ((Below.refl wr.heap.size wr).alloc (Nat.le_refl _) (.cells #[.int .i64 2, .int .i64 (k : Int), .int .i64 0] 57))
                    have K5 := Blk.new wr 57 #[.int .i64 2, .int .i64 (k : Int), .int .i64 0]
                    have G4 := Lib.hid (HG.out.alloc (.cells #[.int .i64 2, .int .i64 (k : Int), .int .i64 0] 57))
                    exact (by
                      go_upto_region 12 with (fail)
                      generalize wr.alloc (.cells #[.int .i64 2, .int .i64 (k : Int), .int .i64 0] 57) = w4 at *
                      obtain ⟨k0, k1, k2, _, _, _, k6⟩ := K5.three6
                      have K5 := Lib.hid K5
                      have B4 := Lib.hid (HB.out.trans (A4.out.mono HB.out.size))
                      have gne : wr.heap.size ≠ g := by have := HG.out.lt; omega
                      clear y0 y1 y2 cN c1 cN0 hMM
                      have ca := (G4.out.cell k).trans (bl_get (l := nd) (k := k) (by first | omega | (rw [List.length_set]; omega)))
                      have fa := G4.out.frozen k
                      have kI : (k : Int) < (M : Int) := by omega
                      have G7 := Lib.hid (show Blk (w4.setCell ⟨g, k, none⟩ (.bool true)) g 4 (bl (nd.set k true)).toArray from by have := G4.out.set_ k (.bool true); rwa [bl_set] at this)
                      have B7 := Lib.hid (B4.out.setCell (p := ⟨g, k, none⟩) hgw (.bool true))
                      go_wp2_with fail
                      go_roundw
                      case rel => exact ⟨i, ndG nd (2, (k : Int), 0), by omega, by go_num, Lib.hid (by rw [← HR2.out]), G7, Lib.hid (by rw [ndG_len]; exact HL.out), B7⟩
                      case measure => simp only [intOf]; omega)
                  · obtain ⟨k, rfl⟩ : ∃ k : Nat, a = (k : Int) := ⟨a.toNat, by omega⟩
                    obtain ⟨j2, rfl⟩ : ∃ k : Nat, b = (k : Int) := ⟨b.toNat, by omega⟩
                    have hkM : k < M := by omega
                    have hjM : j2 < M := by omega
                    rcases ho with rfl | rfl | rfl
                    · have A4 := Lib.hid ((Below.refl wr.heap.size wr).alloc (Nat.le_refl _) (.cells #[.int .i64 3, .int .i64 (k : Int), .int .i64 (j2 : Int)] 57))
                      have K5 := Blk.new wr 57 #[.int .i64 3, .int .i64 (k : Int), .int .i64 (j2 : Int)]
                      have G4 := Lib.hid (HG.out.alloc (.cells #[.int .i64 3, .int .i64 (k : Int), .int .i64 (j2 : Int)] 57))
                      exact (by
                        go_upto_region 12 with (fail)
                        generalize wr.alloc (.cells #[.int .i64 3, .int .i64 (k : Int), .int .i64 (j2 : Int)] 57) = w4 at *
                        obtain ⟨k0, k1, k2, _, _, _, k6⟩ := K5.three6
                        have K5 := Lib.hid K5
                        have B4 := Lib.hid (HB.out.trans (A4.out.mono HB.out.size))
                        have gne : wr.heap.size ≠ g := by have := HG.out.lt; omega
                        clear y0 y1 y2 cN c1 cN0 hMM
                        have cb := (G4.out.cell j2).trans (bl_get (l := nd) (k := j2) (by omega))
                        have fb := G4.out.frozen j2
                        have jI : (j2 : Int) < (M : Int) := by omega
                        have G5 := Lib.hid (show Blk (w4.setCell ⟨g, j2, none⟩ (.bool true)) g 4 (bl (nd.set j2 true)).toArray from by have := G4.out.set_ j2 (.bool true); rwa [bl_set] at this)
                        have K6 := Lib.hid (K5.out.far (p := ⟨g, j2, none⟩) gne (.bool true))
                        have B5 := Lib.hid (B4.out.setCell (p := ⟨g, j2, none⟩) hgw (.bool true))
                        go_upto_region 18 with (fail)
                        generalize w4.setCell ⟨g, j2, none⟩ (.bool true) = w5 at *
                        clear cb fb k0 k1 k2
                        obtain ⟨k0, k1, k2, _, _, _, _⟩ := K6.out.three6
                        have ca := (G5.out.cell k).trans (bl_get (l := (nd.set j2 true)) (k := k) (by first | omega | (rw [List.length_set]; omega)))
                        have fa := G5.out.frozen k
                        have kI : (k : Int) < (M : Int) := by omega
                        have G7 := Lib.hid (show Blk (w5.setCell ⟨g, k, none⟩ (.bool true)) g 4 (bl ((nd.set j2 true).set k true)).toArray from by have := G5.out.set_ k (.bool true); rwa [bl_set] at this)
                        have B7 := Lib.hid (B5.out.setCell (p := ⟨g, k, none⟩) hgw (.bool true))
                        go_wp2_with fail
                        go_roundw
                        case rel => exact ⟨i, ndG nd (3, (k : Int), (j2 : Int)), by omega, by go_num, Lib.hid (by rw [← HR2.out]), G7, Lib.hid (by rw [ndG_len]; exact HL.out), B7⟩
                        case measure => simp only [intOf]; omega)
                    · have A4 := Lib.hid ((Below.refl wr.heap.size wr).alloc (Nat.le_refl _) (.cells #[.int .i64 4, .int .i64 (k : Int), .int .i64 (j2 : Int)] 57))
                      have K5 := Blk.new wr 57 #[.int .i64 4, .int .i64 (k : Int), .int .i64 (j2 : Int)]
                      have G4 := Lib.hid (HG.out.alloc (.cells #[.int .i64 4, .int .i64 (k : Int), .int .i64 (j2 : Int)] 57))
                      exact (by
                        go_upto_region 12 with (fail)
                        generalize wr.alloc (.cells #[.int .i64 4, .int .i64 (k : Int), .int .i64 (j2 : Int)] 57) = w4 at *
                        obtain ⟨k0, k1, k2, _, _, _, k6⟩ := K5.three6
                        have K5 := Lib.hid K5
                        have B4 := Lib.hid (HB.out.trans (A4.out.mono HB.out.size))
                        have gne : wr.heap.size ≠ g := by have := HG.out.lt; omega
                        clear y0 y1 y2 cN c1 cN0 hMM
                        have cb := (G4.out.cell j2).trans (bl_get (l := nd) (k := j2) (by omega))
                        have fb := G4.out.frozen j2
                        have jI : (j2 : Int) < (M : Int) := by omega
                        have G5 := Lib.hid (show Blk (w4.setCell ⟨g, j2, none⟩ (.bool true)) g 4 (bl (nd.set j2 true)).toArray from by have := G4.out.set_ j2 (.bool true); rwa [bl_set] at this)
                        have K6 := Lib.hid (K5.out.far (p := ⟨g, j2, none⟩) gne (.bool true))
                        have B5 := Lib.hid (B4.out.setCell (p := ⟨g, j2, none⟩) hgw (.bool true))
                        go_upto_region 18 with (fail)
                        generalize w4.setCell ⟨g, j2, none⟩ (.bool true) = w5 at *
                        clear cb fb k0 k1 k2
                        obtain ⟨k0, k1, k2, _, _, _, _⟩ := K6.out.three6
                        have ca := (G5.out.cell k).trans (bl_get (l := (nd.set j2 true)) (k := k) (by first | omega | (rw [List.length_set]; omega)))
                        have fa := G5.out.frozen k
                        have kI : (k : Int) < (M : Int) := by omega
                        have G7 := Lib.hid (show Blk (w5.setCell ⟨g, k, none⟩ (.bool true)) g 4 (bl ((nd.set j2 true).set k true)).toArray from by have := G5.out.set_ k (.bool true); rwa [bl_set] at this)
                        have B7 := Lib.hid (B5.out.setCell (p := ⟨g, k, none⟩) hgw (.bool true))
                        go_wp2_with fail
                        go_roundw
                        case rel => exact ⟨i, ndG nd (4, (k : Int), (j2 : Int)), by omega, by go_num, Lib.hid (by rw [← HR2.out]), G7, Lib.hid (by rw [ndG_len]; exact HL.out), B7⟩
                        case measure => simp only [intOf]; omega)
                    · have A4 := Lib.hid ((Below.refl wr.heap.size wr).alloc (Nat.le_refl _) (.cells #[.int .i64 5, .int .i64 (k : Int), .int .i64 (j2 : Int)] 57))
                      have K5 := Blk.new wr 57 #[.int .i64 5, .int .i64 (k : Int), .int .i64 (j2 : Int)]
                      have G4 := Lib.hid (HG.out.alloc (.cells #[.int .i64 5, .int .i64 (k : Int), .int .i64 (j2 : Int)] 57))
                      exact (by
                        go_upto_region 12 with (fail)
                        generalize wr.alloc (.cells #[.int .i64 5, .int .i64 (k : Int), .int .i64 (j2 : Int)] 57) = w4 at *
                        obtain ⟨k0, k1, k2, _, _, _, k6⟩ := K5.three6
                        have K5 := Lib.hid K5
                        have B4 := Lib.hid (HB.out.trans (A4.out.mono HB.out.size))
                        have gne : wr.heap.size ≠ g := by have := HG.out.lt; omega
                        clear y0 y1 y2 cN c1 cN0 hMM
                        have cb := (G4.out.cell j2).trans (bl_get (l := nd) (k := j2) (by omega))
                        have fb := G4.out.frozen j2
                        have jI : (j2 : Int) < (M : Int) := by omega
                        have G5 := Lib.hid (show Blk (w4.setCell ⟨g, j2, none⟩ (.bool true)) g 4 (bl (nd.set j2 true)).toArray from by have := G4.out.set_ j2 (.bool true); rwa [bl_set] at this)
                        have K6 := Lib.hid (K5.out.far (p := ⟨g, j2, none⟩) gne (.bool true))
                        have B5 := Lib.hid (B4.out.setCell (p := ⟨g, j2, none⟩) hgw (.bool true))
                        go_upto_region 18 with (fail)
                        generalize w4.setCell ⟨g, j2, none⟩ (.bool true) = w5 at *
                        clear cb fb k0 k1 k2
                        obtain ⟨k0, k1, k2, _, _, _, _⟩ := K6.out.three6
                        have ca := (G5.out.cell k).trans (bl_get (l := (nd.set j2 true)) (k := k) (by first | omega | (rw [List.length_set]; omega)))
                        have fa := G5.out.frozen k
                        have kI : (k : Int) < (M : Int) := by omega
                        have G7 := Lib.hid (show Blk (w5.setCell ⟨g, k, none⟩ (.bool true)) g 4 (bl ((nd.set j2 true).set k true)).toArray from by have := G5.out.set_ k (.bool true); rwa [bl_set] at this)
                        have B7 := Lib.hid (B5.out.setCell (p := ⟨g, k, none⟩) hgw (.bool true))
                        go_wp2_with fail
                        go_roundw
                        case rel => exact ⟨i, ndG nd (5, (k : Int), (j2 : Int)), by omega, by go_num, Lib.hid (by rw [← HR2.out]), G7, Lib.hid (by rw [ndG_len]; exact HL.out), B7⟩
                        case measure => simp only [intOf]; omega)))
end
end Go.Proofs.Ytnhkgkpjkgifoaa
