/- The walk of Around: the box of a list whose first and last positions are the corners. -/
import Derived.Test.YtegednbebmkmhaaPts
import Derived.Deep.CutRange
namespace Go.Proofs.Ytegednbebmkmhaa
open Go.RowKit

theorem three_blks (w : World) (c1 c2 c3 : Array Value) (t1 t2 t3 : TypeId) :
    Blk (((w.alloc (.cells c1 t1)).alloc (.cells c2 t2)).alloc (.cells c3 t3)) w.heap.size t1 c1 ∧ Blk (((w.alloc (.cells c1 t1)).alloc (.cells c2 t2)).alloc (.cells c3 t3)) (w.heap.size + 1) t2 c2 ∧
    Blk (((w.alloc (.cells c1 t1)).alloc (.cells c2 t2)).alloc (.cells c3 t3)) (w.heap.size + 1 + 1) t3 c3 ∧ Below w.heap.size w (((w.alloc (.cells c1 t1)).alloc (.cells c2 t2)).alloc (.cells c3 t3)) := by
  have s1 : (w.alloc (.cells c1 t1)).heap.size = w.heap.size + 1 := by simp
  have s2 : ((w.alloc (.cells c1 t1)).alloc (.cells c2 t2)).heap.size = w.heap.size + 1 + 1 := by simp
  have h1 := Blk.new w t1 c1
  have h2 := Blk.new (w.alloc (.cells c1 t1)) t2 c2
  have h3 := Blk.new ((w.alloc (.cells c1 t1)).alloc (.cells c2 t2)) t3 c3
  rw [s1] at h2
  rw [s2] at h3
  exact ⟨(h1.alloc _).alloc _, h2.alloc _, h3, (((Below.refl _ _).alloc (Nat.le_refl _) _).alloc (by omega) _).alloc (by omega) _⟩

theorem Blk.two' {w : World} {g : Nat} {t : TypeId} {a b : Value} (h : Blk w g t #[a, b]) : w.cell? ⟨g, 0, none⟩ = some a ∧ w.cell? ⟨g, 1, none⟩ = some b ∧ w.frozen? ⟨g, 0, none⟩ = false ∧ w.frozen? ⟨g, 1, none⟩ = false ∧ g < w.heap.size := h.two

set_option maxRecDepth 100000 in
set_option maxHeartbeats 2000000 in
theorem around_any (g N c : Nat) (f : Nat → Int × Int) (x y X Y : Int) (w : World) (h : PReads w w.heap.size g N f) (hN : 1 ≤ N) (hN2 : N ≤ 5000)
    (hf : ∀ k, k < N → x ≤ (f k).1 ∧ (f k).1 ≤ X ∧ y ≤ (f k).2 ∧ (f k).2 ≤ Y) (h0 : f 0 = (x, y)) (hl : f (N - 1) = (X, Y)) (b1 : -1048576 ≤ x) (b2 : X ≤ 1048576) (b3 : -1048576 ≤ y) (b4 : Y ≤ 1048576) :
    Calls Try.prog 27 #[.slice (some ⟨g, 0, none⟩) N c] w fun e w' => e = .returned (.tuple #[.agg #[.int .i64 x, .int .i64 y, .int .i64 (X - x + 1), .int .i64 (Y - y + 1)], .bool true]) ∧ Below w.heap.size w w' := by
  have hg := h.1
  have hN0 : 0 < N := hN
  have hNz : ((N : Int) == 0) = false := by rw [beq_eq_false_iff_ne]; omega
  have c0 : w.cell? ⟨g, 0, none⟩ = some (.int .i64 x) := by have := (h.2 0 hN).1; rw [h0] at this; simpa using this
  have c1 : w.cell? ⟨g, 1, none⟩ = some (.int .i64 y) := by have := (h.2 0 hN).2; rw [h0] at this; simpa using this
  have q0 : ∀ o1, (w.alloc o1).cell? ⟨g, 0, none⟩ = some (.int .i64 x) := fun o1 => (World.cell?_alloc_lt w o1 _ hg).trans c0
  have q1 : ∀ o1, (w.alloc o1).cell? ⟨g, 1, none⟩ = some (.int .i64 y) := fun o1 => (World.cell?_alloc_lt w o1 _ hg).trans c1
  have q2 : ∀ o1 o2, ((w.alloc o1).alloc o2).cell? ⟨g, 0, none⟩ = some (.int .i64 x) := fun o1 o2 => (World.cell?_alloc_lt _ o2 _ (by simp; omega)).trans (q0 o1)
  have q3 : ∀ o1 o2, ((w.alloc o1).alloc o2).cell? ⟨g, 1, none⟩ = some (.int .i64 y) := fun o1 o2 => (World.cell?_alloc_lt _ o2 _ (by simp; omega)).trans (q1 o1)
  have q4 : ∀ o1 o2 o3, (((w.alloc o1).alloc o2).alloc o3).cell? ⟨g, 0, none⟩ = some (.int .i64 x) := fun o1 o2 o3 => (World.cell?_alloc_lt _ o3 _ (by simp; omega)).trans (q2 o1 o2)
  have q5 : ∀ o1 o2 o3, (((w.alloc o1).alloc o2).alloc o3).cell? ⟨g, 1, none⟩ = some (.int .i64 y) := fun o1 o2 o3 => (World.cell?_alloc_lt _ o3 _ (by simp; omega)).trans (q3 o1 o2)
  have HF := Lib.hid hf
  have HH := Lib.hid h
  have HL := Lib.hid hl
  clear hf h h0 hl
  go_enter Try.func27, Try.ntmps27
  go_wp2_with fail
  go_cut [4, 5] from 12 to 17 (fun s4 s5 wx => ∃ ga gb : Nat, s4 = .pointer (some ⟨ga, 0, none⟩) ∧ s5 = .pointer (some ⟨gb, 0, none⟩) ∧ Blk wx ga 51 #[.int .i64 x, .int .i64 y] ∧ Blk wx gb 51 #[.int .i64 x, .int .i64 y] ∧ ga ≠ gb ∧ w.heap.size < ga ∧ w.heap.size < gb ∧ Blk wx w.heap.size 37 #[.int .i64 0, .int .i64 0, .int .i64 0, .int .i64 0] ∧ Below w.heap.size w wx)
  case first =>
    go_region
    all_goals
      go_wp2_with fail
      go_meet
      obtain ⟨k1, k2, k3, k4⟩ := three_blks w #[.int .i64 0, .int .i64 0, .int .i64 0, .int .i64 0] #[.int .i64 x, .int .i64 y] #[.int .i64 x, .int .i64 y] 37 51 51
      first
        | exact ⟨_, _, rfl, rfl, k2.drew, k3.drew, by omega, by omega, by omega, k1.drew, k4.drew⟩
        | exact ⟨_, _, rfl, rfl, k3.drew, k2.drew, by omega, by omega, by omega, k1.drew, k4.drew⟩
  case rest =>
    obtain ⟨ga, gb, rfl, rfl, K4, K5, hne, ha, hb, K2, hbel⟩ := hcut
    clear q0 q1 q2 q3 q4 q5 c0 c1
    have HB := Lib.hid hbel
    have h4 := Lib.hid K4
    have h5 := Lib.hid K5
    have h2 := Lib.hid K2
    clear hbel K4 K5 K2
    go_wp2
    go_loopw [20] (fun iv wr => ∃ (i : Nat) (ex ey : Int), i ≤ N ∧ iv = .int .i64 (i : Int) ∧ Blk wr ga 51 #[.int .i64 x, .int .i64 y] ∧ Blk wr gb 51 #[.int .i64 ex, .int .i64 ey] ∧
      Blk wr w.heap.size 37 #[.int .i64 0, .int .i64 0, .int .i64 0, .int .i64 0] ∧ Below w.heap.size w wr ∧ x ≤ ex ∧ ex ≤ X ∧ y ≤ ey ∧ ey ≤ Y ∧ (∀ k, k < i → (f k).1 ≤ ex ∧ (f k).2 ≤ ey)) (fun iv _ => N - (intOf iv).toNat)
    case atStart => exact ⟨0, x, y, Nat.zero_le _, rfl, h4.out, h5.out, h2.out, HB.out, Int.le_refl _, (by have := HF.out 0 hN; omega), Int.le_refl _, (by have := HF.out 0 hN; omega), fun k hk => by omega⟩
    case round =>
      obtain ⟨i, ex, ey, hi, rfl, K4, K5, K2, hbel, e1, e2, e3, e4, hmax⟩ := hrel
      by_cases hlt : i < N
      · obtain ⟨⟨px, py⟩, hp⟩ : ∃ p, f i = p := ⟨_, rfl⟩
        have hfi := HF.out i hlt
        rw [hp] at hfi
        simp only at hfi
        obtain ⟨p1, p2, p3, p4⟩ := hfi
        have hc := (HH.out.below hbel).2 i hlt
        rw [hp] at hc
        obtain ⟨c0, c1⟩ := hc
        have hgr : g < wr.heap.size := Nat.lt_of_lt_of_le hg hbel.size
        clear h4 h5 h2 HB
        have HM := Lib.hid hmax
        have HP := Lib.hid hp
        have H4 := Lib.hid K4
        have H5 := Lib.hid K5
        have H2 := Lib.hid K2
        have HB := Lib.hid hbel
        clear hmax hp K4 K5 K2 hbel
        have v1 := Lib.hid (fun w => validCoord_yes px w (by omega) (by omega))
        have v2 := Lib.hid (fun w => validCoord_yes py w (by omega) (by omega))
        have K7 := Lib.hid (Blk.new wr 51 #[.int .i64 px, .int .i64 py])
        have HW := Lib.hid ((HB.out).alloc HB.out.size (.cells #[.int .i64 px, .int .i64 py] 51))
        have G4 := Lib.hid (H4.out.alloc (.cells #[.int .i64 px, .int .i64 py] 51))
        have G5 := Lib.hid (H5.out.alloc (.cells #[.int .i64 px, .int .i64 py] 51))
        have G2 := Lib.hid (H2.out.alloc (.cells #[.int .i64 px, .int .i64 py] 51))
        have hm1 : min x px = x := by omega
        have hm2 : min y py = y := by omega
        obtain ⟨fx, hfx⟩ : ∃ fx, fx = max ex px := ⟨_, rfl⟩
        obtain ⟨fy, hfy⟩ : ∃ fy, fy = max ey py := ⟨_, rfl⟩
        have L1 := Lib.hid (fun w => least_any x y px py w)
        have L2 := Lib.hid (fun w => greatest_any ex ey px py w)
        rw [hm1, hm2] at L1
        rw [← hfx, ← hfy] at L2
        have HFX := Lib.hid hfx
        have HFY := Lib.hid hfy
        clear hm1 hm2 hfx hfy
        go_wp2_with (first | (go_at_call 35; (with_reducible refine (v1.out _).mono ?_); rintro e w' ⟨rfl, rfl⟩) | (go_at_call 35; (with_reducible refine (v2.out _).mono ?_); rintro e w' ⟨rfl, rfl⟩))
        obtain ⟨r, hr⟩ : ∃ r, r = wr.heap.size := ⟨_, rfl⟩
        rw [← hr] at K7
        clear c0 c1
        generalize wr.alloc (.cells #[.int .i64 px, .int .i64 py] 51) = w1 at K7 HW G4 G5 G2 ⊢
        have C4 := fun p : LowW w1.heap.size w1 => (G4.out.below p.below G4.out.lt).two
        have C5 := fun p : LowW w1.heap.size w1 => (G5.out.below p.below G5.out.lt).two
        have C7 := fun p : LowW w1.heap.size w1 => (K7.out.below p.below K7.out.lt).two
        have c40 := fun p => (C4 p).1
        have c41 := fun p => (C4 p).2.1
        have c50 := fun p => (C5 p).1
        have c51 := fun p => (C5 p).2.1
        have c70 := fun p => (C7 p).1
        have c71 := fun p => (C7 p).2.1
        clear C4 C5 C7
        rw [← hr]
        clear hr
        refine wp_region_low_tail w1.heap.size w1 6 (by kernel_rfl) (by kernel_rfl) (Below.refl _ _) ?_
        simp only [List.take_succ_cons, List.take_zero, List.drop_succ_cons, List.drop_zero]
        repeat (quiet_step (first | (go_at_call 36; exact LowW.of_call _ (Nat.le_refl _) (L1.out _)) | (go_at_call 37; exact LowW.of_call _ (Nat.le_refl _) (L2.out _))))
        refine wpQuiet_nil ?_
        rintro w' ⟨p, rfl⟩
        have I4 := G4.out.below p.below G4.out.lt
        have I5 := G5.out.below p.below G5.out.lt
        have I2 := G2.out.below p.below G2.out.lt
        have IB := Lib.hid (HW.out.trans (p.below.mono HW.out.size))
        obtain ⟨i40, i41, i42, i43, i44⟩ := I4.two
        obtain ⟨i50, i51, i52, i53, i54⟩ := I5.two
        have J4 := Lib.hid I4
        have J5 := Lib.hid I5
        have J2 := Lib.hid I2
        clear c40 c41 c50 c51 c70 c71 I4 I5 I2
        generalize p.w = w2 at i40 i41 i42 i43 i44 i50 i51 i52 i53 i54 IB J4 J5 J2 ⊢
        go_wp2
        go_roundw
        case rel =>
          have hpx := HP.out
          have hfx := HFX.out
          have hfy := HFY.out
          have E4 := (((J4.out.set_ 0 (.int .i64 x)).set_ 1 (.int .i64 y)).far (p := ⟨gb, 0, none⟩) hne (.int .i64 fx)).far (p := ⟨gb, 1, none⟩) hne (.int .i64 fy)
          have E5 := (((J5.out.far (p := ⟨ga, 0, none⟩) hne.symm (.int .i64 x)).far (p := ⟨ga, 1, none⟩) hne.symm (.int .i64 y)).set_ 0 (.int .i64 fx)).set_ 1 (.int .i64 fy)
          have E2 := (((J2.out.far (p := ⟨ga, 0, none⟩) (show w.heap.size ≠ ga by omega) (.int .i64 x)).far (p := ⟨ga, 1, none⟩) (show w.heap.size ≠ ga by omega) (.int .i64 y)).far (p := ⟨gb, 0, none⟩) (show w.heap.size ≠ gb by omega) (.int .i64 fx)).far (p := ⟨gb, 1, none⟩) (show w.heap.size ≠ gb by omega) (.int .i64 fy)
          refine ⟨i + 1, fx, fy, by omega, by go_num, by simpa using E4, by simpa using E5, E2, ?_, by omega, by omega, by omega, by omega, fun k hk => ?_⟩
          · exact (((IB.out.setCell (p := ⟨ga, 0, none⟩) (Nat.le_of_lt ha) _).setCell (p := ⟨ga, 1, none⟩) (Nat.le_of_lt ha) _).setCell (p := ⟨gb, 0, none⟩) (Nat.le_of_lt hb) _).setCell (p := ⟨gb, 1, none⟩) (Nat.le_of_lt hb) _
          · by_cases hki : k < i
            · have := HM.out k hki; omega
            · obtain rfl : k = i := by omega
              rw [hpx]
              exact ⟨by show px ≤ fx; omega, by show py ≤ fy; omega⟩
        case measure => simp [intOf]; omega
      · obtain rfl : i = N := by omega
        have hlast := hmax (i - 1) (by omega)
        rw [HL.out] at hlast
        obtain rfl : ex = X := Int.le_antisymm e2 hlast.1
        obtain rfl : ey = Y := Int.le_antisymm e4 hlast.2
        obtain ⟨k40, k41, k42, k43, k44⟩ := K4.two
        obtain ⟨k50, k51, k52, k53, k54⟩ := K5.two
        have H2' := Lib.hid K2
        have HB' := Lib.hid hbel
        have BT := Lib.hid (fun w => between_any x y ex ey w e1 (by omega) e3 (by omega))
        clear hlast hmax K4 K5 K2 hbel h4 h5 h2 HB
        go_wp2_with (go_at_call 38; (with_reducible refine (BT.out _).mono ?_); rintro e w3 ⟨rfl, hb3⟩; have K3 := H2'.out.below hb3 H2'.out.lt; have HB3 := Lib.hid (HB'.out.trans (hb3.mono HB'.out.size)); have k3f0 := K3.frozen 0; have k3f1 := K3.frozen 1; have k3f2 := K3.frozen 2; have k3f3 := K3.frozen 3; obtain ⟨k30, k31, k32, k33, k34⟩ := K3.four; clear hb3)
        have E := (((K3.set_ 0 (.int .i64 x)).set_ 1 (.int .i64 y)).set_ 2 (.int .i64 (ex - x + 1))).set_ 3 (.int .i64 (ey - y + 1))
        have E' : Blk ((((w3.setCell ⟨w.heap.size, 0, none⟩ (.int .i64 x)).setCell ⟨w.heap.size, 1, none⟩ (.int .i64 y)).setCell ⟨w.heap.size, 2, none⟩ (.int .i64 (ex - x + 1))).setCell ⟨w.heap.size, 3, none⟩ (.int .i64 (ey - y + 1))) w.heap.size 37 #[.int .i64 x, .int .i64 y, .int .i64 (ex - x + 1), .int .i64 (ey - y + 1)] := by simpa using E
        obtain ⟨j0, j1, j2, j3, j4⟩ := E'.four
        have HZ := (((HB3.out.setCell (p := ⟨w.heap.size, 0, none⟩) (Nat.le_refl _) (.int .i64 x)).setCell (p := ⟨w.heap.size, 1, none⟩) (Nat.le_refl _) (.int .i64 y)).setCell (p := ⟨w.heap.size, 2, none⟩) (Nat.le_refl _) (.int .i64 (ex - x + 1))).setCell (p := ⟨w.heap.size, 3, none⟩) (Nat.le_refl _) (.int .i64 (ey - y + 1))
        clear E E'
        generalize (((w3.setCell ⟨w.heap.size, 0, none⟩ (.int .i64 x)).setCell ⟨w.heap.size, 1, none⟩ (.int .i64 y)).setCell ⟨w.heap.size, 2, none⟩ (.int .i64 (ex - x + 1))).setCell ⟨w.heap.size, 3, none⟩ (.int .i64 (ey - y + 1)) = wz at j0 j1 j2 j3 j4 HZ ⊢
        refine bodyPost_ret (v := .tuple #[.agg #[.int .i64 x, .int .i64 y, .int .i64 (ex - x + 1), .int .i64 (ey - y + 1)], .bool true]) (by simp [results, Try.results27, go_sem, j0, j1, j2, j3, j4]) rfl ⟨rfl, HZ⟩
end Go.Proofs.Ytegednbebmkmhaa
