/- The walk of Around: the box of a list whose first and last positions are the corners. -/
import Derived.Test.YtobaabankhpfjaaDoorPts
import Derived.OwnWalk
import Derived.IntWalk
import Derived.Deep.CutRange
namespace Go.Proofs.YtobaabankhpfjaaDoor
open Go.RowKit

theorem three_blks (w : World) (c1 c2 c3 : Array Value) (t1 t2 t3 : TypeId) :
    Blk (((w.alloc (.cells c1 t1)).alloc (.cells c2 t2)).alloc (.cells c3 t3)) w.heap.size t1 c1 ∧ Blk (((w.alloc (.cells c1 t1)).alloc (.cells c2 t2)).alloc (.cells c3 t3)) (w.heap.size + 1) t2 c2 ∧
    Blk (((w.alloc (.cells c1 t1)).alloc (.cells c2 t2)).alloc (.cells c3 t3)) (w.heap.size + 1 + 1) t3 c3 ∧ Below w.heap.size w (((w.alloc (.cells c1 t1)).alloc (.cells c2 t2)).alloc (.cells c3 t3)) := by
  have s1 : (w.alloc (.cells c1 t1)).heap.size = w.heap.size + 1 := by simp
  have s2 : ((w.alloc (.cells c1 t1)).alloc (.cells c2 t2)).heap.size = w.heap.size + 1 + 1 := by simp
  have h1 := Blk.new w t1 c1
  have h2 := Blk.new (w.alloc (.cells c1 t1)) t2 c2
  have h3 := Blk.new ((w.alloc (.cells c1 t1)).alloc (.cells c2 t2)) t3 c3
  rw [s1] at h2
  rw [s2] at h3
  exact ⟨(h1.alloc _).alloc _, h2.alloc _, h3, (((Below.refl _ _).alloc (Nat.le_refl _) _).alloc (by omega) _).alloc (by omega) _⟩

theorem Blk.two' {w : World} {g : Nat} {t : TypeId} {a b : Value} (h : Blk w g t #[a, b]) : w.cell? ⟨g, 0, none⟩ = some a ∧ w.cell? ⟨g, 1, none⟩ = some b ∧ w.frozen? ⟨g, 0, none⟩ = false ∧ w.frozen? ⟨g, 1, none⟩ = false ∧ g < w.heap.size := h.two

def lo (f : Nat → Int) : Nat → Int
  | 0 => f 0
  | i + 1 => min (lo f i) (f i)
def hi (f : Nat → Int) : Nat → Int
  | 0 => f 0
  | i + 1 => max (hi f i) (f i)
theorem lo_bd (f : Nat → Int) (N : Nat) (b : Int) (h0 : 0 < N) (h : ∀ k, k < N → -b ≤ f k ∧ f k ≤ b) : ∀ i, i ≤ N → -b ≤ lo f i ∧ lo f i ≤ b
  | 0, _ => h 0 h0
  | i + 1, hi => by
    have h1 := lo_bd f N b h0 h i (by omega)
    have h2 := h i (by omega)
    unfold lo; omega
theorem hi_bd (f : Nat → Int) (N : Nat) (b : Int) (h0 : 0 < N) (h : ∀ k, k < N → -b ≤ f k ∧ f k ≤ b) : ∀ i, i ≤ N → -b ≤ hi f i ∧ hi f i ≤ b
  | 0, _ => h 0 h0
  | i + 1, hj => by
    have h1 := hi_bd f N b h0 h i (by omega)
    have h2 := h i (by omega)
    unfold hi; omega
theorem lo_hi (f : Nat → Int) : ∀ i, lo f i ≤ hi f i
  | 0 => Int.le_refl _
  | i + 1 => by have := lo_hi f i; unfold lo hi; omega

set_option maxRecDepth 100000 in
set_option maxHeartbeats 2000000 in
theorem around_any (g N c : Nat) (f : Nat → Int × Int) (x y : Int) (w : World) (h : PReads w w.heap.size g N f) (hN : 1 ≤ N) (hN2 : N ≤ 5000)
    (hf : ∀ k, k < N → -1048576 ≤ (f k).1 ∧ (f k).1 ≤ 1048576 ∧ -1048576 ≤ (f k).2 ∧ (f k).2 ≤ 1048576) (h0 : f 0 = (x, y)) :
    Calls Tryd.prog 43 #[.slice (some ⟨g, 0, none⟩) N c] w fun e w' => e = .returned (.tuple #[.agg #[.int .i64 (lo (fun k => (f k).1) N), .int .i64 (lo (fun k => (f k).2) N), .int .i64 (hi (fun k => (f k).1) N - lo (fun k => (f k).1) N + 1), .int .i64 (hi (fun k => (f k).2) N - lo (fun k => (f k).2) N + 1)], .bool true]) ∧ Below w.heap.size w w' := by
  obtain ⟨fx, hfx⟩ : ∃ fx : Nat → Int, fx = fun k => (f k).1 := ⟨_, rfl⟩
  obtain ⟨fy, hfy⟩ : ∃ fy : Nat → Int, fy = fun k => (f k).2 := ⟨_, rfl⟩
  rw [← hfx, ← hfy]
  have bx1 := lo_bd fx N 1048576 hN (fun k hk => by subst hfx; exact ⟨(hf k hk).1, (hf k hk).2.1⟩)
  have bx2 := hi_bd fx N 1048576 hN (fun k hk => by subst hfx; exact ⟨(hf k hk).1, (hf k hk).2.1⟩)
  have by1 := lo_bd fy N 1048576 hN (fun k hk => by subst hfy; exact ⟨(hf k hk).2.2.1, (hf k hk).2.2.2⟩)
  have by2 := hi_bd fy N 1048576 hN (fun k hk => by subst hfy; exact ⟨(hf k hk).2.2.1, (hf k hk).2.2.2⟩)
  have x0 : fx 0 = x := by subst hfx; show (f 0).1 = x; rw [h0]
  have y0 : fy 0 = y := by subst hfy; show (f 0).2 = y; rw [h0]
  have HX0 := Lib.hid x0
  have HY0 := Lib.hid y0
  have HFX := Lib.hid hfx
  have HFY := Lib.hid hfy
  have BD := Lib.hid (And.intro (And.intro bx1 bx2) (And.intro by1 by2))
  clear x0 y0 hfx hfy bx1 bx2 by1 by2
  have hg := h.1
  have hN0 : 0 < N := hN
  have hNz : ((N : Int) == 0) = false := by rw [beq_eq_false_iff_ne]; omega
  have c0 : w.cell? ⟨g, 0, none⟩ = some (.int .i64 x) := by have := (h.2 0 hN).1; rw [h0] at this; simpa using this
  have c1 : w.cell? ⟨g, 1, none⟩ = some (.int .i64 y) := by have := (h.2 0 hN).2; rw [h0] at this; simpa using this
  have q0 : ∀ o1, (w.alloc o1).cell? ⟨g, 0, none⟩ = some (.int .i64 x) := fun o1 => (World.cell?_alloc_lt w o1 _ hg).trans c0
  have q1 : ∀ o1, (w.alloc o1).cell? ⟨g, 1, none⟩ = some (.int .i64 y) := fun o1 => (World.cell?_alloc_lt w o1 _ hg).trans c1
  have q2 : ∀ o1 o2, ((w.alloc o1).alloc o2).cell? ⟨g, 0, none⟩ = some (.int .i64 x) := fun o1 o2 => (World.cell?_alloc_lt _ o2 _ (by simp; omega)).trans (q0 o1)
  have q3 : ∀ o1 o2, ((w.alloc o1).alloc o2).cell? ⟨g, 1, none⟩ = some (.int .i64 y) := fun o1 o2 => (World.cell?_alloc_lt _ o2 _ (by simp; omega)).trans (q1 o1)
  have q4 : ∀ o1 o2 o3, (((w.alloc o1).alloc o2).alloc o3).cell? ⟨g, 0, none⟩ = some (.int .i64 x) := fun o1 o2 o3 => (World.cell?_alloc_lt _ o3 _ (by simp; omega)).trans (q2 o1 o2)
  have q5 : ∀ o1 o2 o3, (((w.alloc o1).alloc o2).alloc o3).cell? ⟨g, 1, none⟩ = some (.int .i64 y) := fun o1 o2 o3 => (World.cell?_alloc_lt _ o3 _ (by simp; omega)).trans (q3 o1 o2)
  have HF := Lib.hid hf
  have HH := Lib.hid h
  clear hf h h0
  go_enter Tryd.func43, Tryd.ntmps43
  go_wp2_with fail
  go_cut [4, 5] from 12 to 17 (fun s4 s5 wx => ∃ ga gb : Nat, s4 = .pointer (some ⟨ga, 0, none⟩) ∧ s5 = .pointer (some ⟨gb, 0, none⟩) ∧ Blk wx ga 46 #[.int .i64 x, .int .i64 y] ∧ Blk wx gb 46 #[.int .i64 x, .int .i64 y] ∧ ga ≠ gb ∧ w.heap.size < ga ∧ w.heap.size < gb ∧ Blk wx w.heap.size 53 #[.int .i64 0, .int .i64 0, .int .i64 0, .int .i64 0] ∧ Below w.heap.size w wx)
  case first =>
    go_region
    all_goals
      go_wp2_with fail
      go_meet
      obtain ⟨k1, k2, k3, k4⟩ := three_blks w #[.int .i64 0, .int .i64 0, .int .i64 0, .int .i64 0] #[.int .i64 x, .int .i64 y] #[.int .i64 x, .int .i64 y] 53 46 46
      first
        | exact ⟨_, _, rfl, rfl, k2.drew, k3.drew, by omega, by omega, by omega, k1.drew, k4.drew⟩
        | exact ⟨_, _, rfl, rfl, k3.drew, k2.drew, by omega, by omega, by omega, k1.drew, k4.drew⟩
  case rest =>
    obtain ⟨ga, gb, rfl, rfl, K4, K5, hne, ha, hb, K2, hbel⟩ := hcut
    clear q0 q1 q2 q3 q4 q5 c0 c1
    have HB := Lib.hid hbel
    have h4 := Lib.hid K4
    have h5 := Lib.hid K5
    have h2 := Lib.hid K2
    clear hbel K4 K5 K2
    go_wp2
    go_loopw [20] (fun iv wr => ∃ (i : Nat) (dx dy ex ey : Int), i ≤ N ∧ iv = .int .i64 (i : Int) ∧ dx = lo fx i ∧ dy = lo fy i ∧ ex = hi fx i ∧ ey = hi fy i ∧ Blk wr ga 46 #[.int .i64 dx, .int .i64 dy] ∧ Blk wr gb 46 #[.int .i64 ex, .int .i64 ey] ∧
      Blk wr w.heap.size 53 #[.int .i64 0, .int .i64 0, .int .i64 0, .int .i64 0] ∧ Below w.heap.size w wr) (fun iv _ => N - (intOf iv).toNat)
    case atStart => exact ⟨0, x, y, x, y, Nat.zero_le _, rfl, HX0.out.symm, HY0.out.symm, HX0.out.symm, HY0.out.symm, h4.out, h5.out, h2.out, HB.out⟩
    case round =>
      obtain ⟨i, dx, dy, ex, ey, hi, rfl, hdx, hdy, hex, hey, K4, K5, K2, hbel⟩ := hrel
      have HDX := Lib.hid hdx
      have HDY := Lib.hid hdy
      have HEX := Lib.hid hex
      have HEY := Lib.hid hey
      clear hdx hdy hex hey
      by_cases hlt : i < N
      · obtain ⟨⟨px, py⟩, hp⟩ : ∃ p, f i = p := ⟨_, rfl⟩
        have hfi := HF.out i hlt
        rw [hp] at hfi
        simp only at hfi
        obtain ⟨p1, p2, p3, p4⟩ := hfi
        have hc := (HH.out.below hbel).2 i hlt
        rw [hp] at hc
        obtain ⟨c0, c1⟩ := hc
        have hgr : g < wr.heap.size := Nat.lt_of_lt_of_le hg hbel.size
        clear h4 h5 h2 HB
        have HPX := Lib.hid (show fx i = px by rw [HFX.out]; show (f i).1 = px; rw [hp])
        have HPY := Lib.hid (show fy i = py by rw [HFY.out]; show (f i).2 = py; rw [hp])
        have H4 := Lib.hid K4
        have H5 := Lib.hid K5
        have H2 := Lib.hid K2
        have HB := Lib.hid hbel
        clear hp K4 K5 K2 hbel
        have v1 := Lib.hid (fun w => validCoord_yes px w (by omega) (by omega))
        have v2 := Lib.hid (fun w => validCoord_yes py w (by omega) (by omega))
        have K7 := Lib.hid (Blk.new wr 46 #[.int .i64 px, .int .i64 py])
        have HW := Lib.hid ((HB.out).alloc HB.out.size (.cells #[.int .i64 px, .int .i64 py] 46))
        have G4 := Lib.hid (H4.out.alloc (.cells #[.int .i64 px, .int .i64 py] 46))
        have G5 := Lib.hid (H5.out.alloc (.cells #[.int .i64 px, .int .i64 py] 46))
        have G2 := Lib.hid (H2.out.alloc (.cells #[.int .i64 px, .int .i64 py] 46))
        obtain ⟨ux, hux⟩ : ∃ ux, ux = min dx px := ⟨_, rfl⟩
        obtain ⟨uy, huy⟩ : ∃ uy, uy = min dy py := ⟨_, rfl⟩
        obtain ⟨vx, hvx⟩ : ∃ vx, vx = max ex px := ⟨_, rfl⟩
        obtain ⟨vy, hvy⟩ : ∃ vy, vy = max ey py := ⟨_, rfl⟩
        have L1 := Lib.hid (fun w => least_any dx dy px py w)
        have L2 := Lib.hid (fun w => greatest_any ex ey px py w)
        rw [← hux, ← huy] at L1
        rw [← hvx, ← hvy] at L2
        have HUX := Lib.hid (show ux = lo fx (i + 1) by show ux = min (lo fx i) (fx i); rw [← HDX.out, HPX.out]; exact hux)
        have HUY := Lib.hid (show uy = lo fy (i + 1) by show uy = min (lo fy i) (fy i); rw [← HDY.out, HPY.out]; exact huy)
        have HVX := Lib.hid (show vx = _root_.Go.Proofs.YtobaabankhpfjaaDoor.hi fx (i + 1) by show vx = max (_root_.Go.Proofs.YtobaabankhpfjaaDoor.hi fx i) (fx i); rw [← HEX.out, HPX.out]; exact hvx)
        have HVY := Lib.hid (show vy = _root_.Go.Proofs.YtobaabankhpfjaaDoor.hi fy (i + 1) by show vy = max (_root_.Go.Proofs.YtobaabankhpfjaaDoor.hi fy i) (fy i); rw [← HEY.out, HPY.out]; exact hvy)
        clear hux huy hvx hvy
        go_wp2_with (first | (go_at_call 50; (with_reducible refine (v1.out _).mono ?_); rintro e w' ⟨rfl, rfl⟩) | (go_at_call 50; (with_reducible refine (v2.out _).mono ?_); rintro e w' ⟨rfl, rfl⟩))
        obtain ⟨r, hr⟩ : ∃ r, r = wr.heap.size := ⟨_, rfl⟩
        rw [← hr] at K7
        clear c0 c1
        generalize wr.alloc (.cells #[.int .i64 px, .int .i64 py] 46) = w1 at K7 HW G4 G5 G2 ⊢
        have C4 := fun p : LowW w1.heap.size w1 => (G4.out.below p.below G4.out.lt).two
        have C5 := fun p : LowW w1.heap.size w1 => (G5.out.below p.below G5.out.lt).two
        have C7 := fun p : LowW w1.heap.size w1 => (K7.out.below p.below K7.out.lt).two
        have c40 := fun p => (C4 p).1
        have c41 := fun p => (C4 p).2.1
        have c50 := fun p => (C5 p).1
        have c51 := fun p => (C5 p).2.1
        have c70 := fun p => (C7 p).1
        have c71 := fun p => (C7 p).2.1
        clear C4 C5 C7
        rw [← hr]
        clear hr
        refine wp_region_low_tail w1.heap.size w1 6 (by kernel_rfl) (by kernel_rfl) (Below.refl _ _) ?_
        simp only [List.take_succ_cons, List.take_zero, List.drop_succ_cons, List.drop_zero]
        repeat (quiet_step (first | (go_at_call 51; exact LowW.of_call _ (Nat.le_refl _) (L1.out _)) | (go_at_call 52; exact LowW.of_call _ (Nat.le_refl _) (L2.out _))))
        refine wpQuiet_nil ?_
        rintro w' ⟨p, rfl⟩
        have I4 := G4.out.below p.below G4.out.lt
        have I5 := G5.out.below p.below G5.out.lt
        have I2 := G2.out.below p.below G2.out.lt
        have IB := Lib.hid (HW.out.trans (p.below.mono HW.out.size))
        obtain ⟨i40, i41, i42, i43, i44⟩ := I4.two
        obtain ⟨i50, i51, i52, i53, i54⟩ := I5.two
        have J4 := Lib.hid I4
        have J5 := Lib.hid I5
        have J2 := Lib.hid I2
        clear c40 c41 c50 c51 c70 c71 I4 I5 I2
        generalize p.w = w2 at i40 i41 i42 i43 i44 i50 i51 i52 i53 i54 IB J4 J5 J2 ⊢
        go_wp2
        go_roundw
        case rel =>
          have E4 := (((J4.out.set_ 0 (.int .i64 ux)).set_ 1 (.int .i64 uy)).far (p := ⟨gb, 0, none⟩) hne (.int .i64 vx)).far (p := ⟨gb, 1, none⟩) hne (.int .i64 vy)
          have E5 := (((J5.out.far (p := ⟨ga, 0, none⟩) hne.symm (.int .i64 ux)).far (p := ⟨ga, 1, none⟩) hne.symm (.int .i64 uy)).set_ 0 (.int .i64 vx)).set_ 1 (.int .i64 vy)
          have E2 := (((J2.out.far (p := ⟨ga, 0, none⟩) (show w.heap.size ≠ ga by omega) (.int .i64 ux)).far (p := ⟨ga, 1, none⟩) (show w.heap.size ≠ ga by omega) (.int .i64 uy)).far (p := ⟨gb, 0, none⟩) (show w.heap.size ≠ gb by omega) (.int .i64 vx)).far (p := ⟨gb, 1, none⟩) (show w.heap.size ≠ gb by omega) (.int .i64 vy)
          refine ⟨i + 1, ux, uy, vx, vy, by omega, by go_num, HUX.out, HUY.out, HVX.out, HVY.out, by simpa using E4, by simpa using E5, E2, ?_⟩
          exact (((IB.out.setCell (p := ⟨ga, 0, none⟩) (Nat.le_of_lt ha) _).setCell (p := ⟨ga, 1, none⟩) (Nat.le_of_lt ha) _).setCell (p := ⟨gb, 0, none⟩) (Nat.le_of_lt hb) _).setCell (p := ⟨gb, 1, none⟩) (Nat.le_of_lt hb) _
        case measure => simp [intOf]; omega
      · obtain rfl : i = N := by omega
        have q1 := lo_hi fx i
        have q2 := lo_hi fy i
        have q3 := BD.out.1.1 i (Nat.le_refl _)
        have q4 := BD.out.1.2 i (Nat.le_refl _)
        have q5 := BD.out.2.1 i (Nat.le_refl _)
        have q6 := BD.out.2.2 i (Nat.le_refl _)
        rw [← HDX.out] at q1 q3
        rw [← HDY.out] at q2 q5
        rw [← HEX.out] at q1 q4
        rw [← HEY.out] at q2 q6
        obtain ⟨k40, k41, k42, k43, k44⟩ := K4.two
        obtain ⟨k50, k51, k52, k53, k54⟩ := K5.two
        have H2' := Lib.hid K2
        have HB' := Lib.hid hbel
        have BT := Lib.hid (fun w => between_any dx dy ex ey w q1 (by omega) q2 (by omega))
        clear K4 K5 K2 hbel h4 h5 h2 HB
        go_wp2_with (go_at_call 53; (with_reducible refine (BT.out _).mono ?_); rintro e w3 ⟨rfl, hb3⟩; have K3 := H2'.out.below hb3 H2'.out.lt; have HB3 := Lib.hid (HB'.out.trans (hb3.mono HB'.out.size)); have k3f0 := K3.frozen 0; have k3f1 := K3.frozen 1; have k3f2 := K3.frozen 2; have k3f3 := K3.frozen 3; obtain ⟨k30, k31, k32, k33, k34⟩ := K3.four; clear hb3)
        have E := (((K3.set_ 0 (.int .i64 dx)).set_ 1 (.int .i64 dy)).set_ 2 (.int .i64 (ex - dx + 1))).set_ 3 (.int .i64 (ey - dy + 1))
        have E' : Blk ((((w3.setCell ⟨w.heap.size, 0, none⟩ (.int .i64 dx)).setCell ⟨w.heap.size, 1, none⟩ (.int .i64 dy)).setCell ⟨w.heap.size, 2, none⟩ (.int .i64 (ex - dx + 1))).setCell ⟨w.heap.size, 3, none⟩ (.int .i64 (ey - dy + 1))) w.heap.size 53 #[.int .i64 dx, .int .i64 dy, .int .i64 (ex - dx + 1), .int .i64 (ey - dy + 1)] := by simpa using E
        obtain ⟨j0, j1, j2, j3, j4⟩ := E'.four
        have HZ := (((HB3.out.setCell (p := ⟨w.heap.size, 0, none⟩) (Nat.le_refl _) (.int .i64 dx)).setCell (p := ⟨w.heap.size, 1, none⟩) (Nat.le_refl _) (.int .i64 dy)).setCell (p := ⟨w.heap.size, 2, none⟩) (Nat.le_refl _) (.int .i64 (ex - dx + 1))).setCell (p := ⟨w.heap.size, 3, none⟩) (Nat.le_refl _) (.int .i64 (ey - dy + 1))
        clear E E'
        generalize (((w3.setCell ⟨w.heap.size, 0, none⟩ (.int .i64 dx)).setCell ⟨w.heap.size, 1, none⟩ (.int .i64 dy)).setCell ⟨w.heap.size, 2, none⟩ (.int .i64 (ex - dx + 1))).setCell ⟨w.heap.size, 3, none⟩ (.int .i64 (ey - dy + 1)) = wz at j0 j1 j2 j3 j4 HZ ⊢
        rw [← HDX.out, ← HDY.out, ← HEX.out, ← HEY.out]
        refine bodyPost_ret (v := .tuple #[.agg #[.int .i64 dx, .int .i64 dy, .int .i64 (ex - dx + 1), .int .i64 (ey - dy + 1)], .bool true]) (by simp [results, Tryd.results43, go_sem, j0, j1, j2, j3, j4]) rfl ⟨rfl, HZ⟩
end Go.Proofs.YtobaabankhpfjaaDoor
