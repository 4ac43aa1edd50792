/- The walks of first and take. -/
import Derived.Test.YtobaabankhpfjaaDoorPCmp
import Derived.Test.YtobaabankhpfjaaDoorRight
import Derived.Test.YtobaabankhpfjaaDoorMath
namespace Go.Proofs.YtobaabankhpfjaaDoor
open Go.RowKit

/-- the cells from the i-th on -/
def sh (f : Nat → C3) (i : Nat) : Nat → C3 := fun k => f (i + k)
/-- the cell that first returns -/
def fst2 (f : Nat → C3) (n : Nat) (g : Nat → C3) (m : Nat) : C3 := if m = 0 ∨ (0 < n ∧ cl f 1 g 1 < 0) then f 0 else g 0

section
variable (A A' : Option Addr) (n m c c' : Nat) (f g : Nat → C3) (w : World)
theorem CReads.take_one {w : World} {B n : Nat} {A : Option Addr} {f : Nat → C3} (h : CReads w B A n f) (hn : 0 < n) : CReads w B A 1 f := fun _ => by
  obtain ⟨g, o, e, hg, hc⟩ := h hn
  exact ⟨g, o, e, hg, fun k hk => hc k (by omega)⟩

set_option maxRecDepth 100000 in
set_option maxHeartbeats 1000000 in
/-- no cell on the right -/
theorem first_left (h : CReads w w.heap.size A n f) (hn : 0 < n) :
    Calls Tryd.prog 44 #[.slice A n c, .slice A' 0 c'] w fun e w' => e = .returned (cv (f 0)) ∧ Below w.heap.size w w' := by
  obtain ⟨g1, o1, rfl, hb1, hc1⟩ := h hn
  obtain ⟨c10, c11, c12⟩ := hc1 0 hn
  simp only [Nat.zero_mul, Nat.add_zero] at c10 c11 c12
  generalize f 0 = x at c10 c11 c12 ⊢
  obtain ⟨x1, x2, x3⟩ := x
  simp only at c10 c11 c12
  have C := Lib.hid (And.intro c10 (And.intro c11 c12))
  have K := Lib.hid (Blk.new w 40 #[.int .i64 0, .int .i64 0, .int .i64 0])
  have B := Lib.hid ((Below.refl w.heap.size w).alloc (Nat.le_refl _) (.cells #[.int .i64 0, .int .i64 0, .int .i64 0] 40))
  show Calls Tryd.prog 44 #[.slice (some ⟨g1, o1, none⟩) n c, .slice A' 0 c'] w fun e w' => e = .returned (.agg #[.int .i64 x1, .int .i64 x2, .int .i64 x3]) ∧ Below w.heap.size w w'
  clear hc1 h c10 c11 c12
  go_enter Tryd.func44, Tryd.ntmps44
  go_wp2_with fail
  go_quiet (fail)
  have K1 := Lib.hid (K.out.drewN nq)
  have B1 := Lib.hid (below_drewN B.out nq)
  have e0 := (B1.out.cell (p := ⟨g1, o1, none⟩) hb1).trans C.out.1
  have e1 := (B1.out.cell (p := ⟨g1, o1 + 1, none⟩) hb1).trans C.out.2.1
  have e2 := (B1.out.cell (p := ⟨g1, o1 + 2, none⟩) hb1).trans C.out.2.2
  have z0 := K1.out.frozen 0
  have z1 := K1.out.frozen 1
  have z2 := K1.out.frozen 2
  obtain ⟨y0, y1, y2, y3⟩ := K1.out.three
  generalize (w.alloc (.cells #[.int .i64 0, .int .i64 0, .int .i64 0] 40)).drewN nq = w1 at K1 B1 e0 e1 e2 z0 z1 z2 y0 y1 y2 y3 ⊢
  go_wp2_with fail
  have E := ((K1.out.set_ 0 (.int .i64 x1)).set_ 1 (.int .i64 x2)).set_ 2 (.int .i64 x3)
  have E' : Blk (((w1.setCell ⟨w.heap.size, 0, none⟩ (.int .i64 x1)).setCell ⟨w.heap.size, 1, none⟩ (.int .i64 x2)).setCell ⟨w.heap.size, 2, none⟩ (.int .i64 x3)) w.heap.size 40 #[.int .i64 x1, .int .i64 x2, .int .i64 x3] := by simpa using E
  obtain ⟨j0, j1, j2, j3⟩ := E'.three
  have HZ := ((B1.out.setCell (p := ⟨w.heap.size, 0, none⟩) (Nat.le_refl _) (.int .i64 x1)).setCell (p := ⟨w.heap.size, 1, none⟩) (Nat.le_refl _) (.int .i64 x2)).setCell (p := ⟨w.heap.size, 2, none⟩) (Nat.le_refl _) (.int .i64 x3)
  clear E E'
  generalize ((w1.setCell ⟨w.heap.size, 0, none⟩ (.int .i64 x1)).setCell ⟨w.heap.size, 1, none⟩ (.int .i64 x2)).setCell ⟨w.heap.size, 2, none⟩ (.int .i64 x3) = wz at j0 j1 j2 j3 HZ ⊢
  refine bodyPost_ret (v := .agg #[.int .i64 x1, .int .i64 x2, .int .i64 x3]) (by simp [results, Tryd.results44, go_sem, j0, j1, j2]) rfl ⟨rfl, HZ⟩
set_option maxRecDepth 100000 in
set_option maxHeartbeats 1000000 in
/-- no cell on the left -/
theorem first_right (h : CReads w w.heap.size A' m g) (hn : 0 < m) :
    Calls Tryd.prog 44 #[.slice A 0 c, .slice A' m c'] w fun e w' => e = .returned (cv (g 0)) ∧ Below w.heap.size w w' := by
  obtain ⟨g1, o1, rfl, hb1, hc1⟩ := h hn
  obtain ⟨c10, c11, c12⟩ := hc1 0 hn
  simp only [Nat.zero_mul, Nat.add_zero] at c10 c11 c12
  generalize g 0 = x at c10 c11 c12 ⊢
  obtain ⟨x1, x2, x3⟩ := x
  simp only at c10 c11 c12
  have C := Lib.hid (And.intro c10 (And.intro c11 c12))
  have K := Lib.hid (Blk.new w 40 #[.int .i64 0, .int .i64 0, .int .i64 0])
  have B := Lib.hid ((Below.refl w.heap.size w).alloc (Nat.le_refl _) (.cells #[.int .i64 0, .int .i64 0, .int .i64 0] 40))
  show Calls Tryd.prog 44 #[.slice A 0 c, .slice (some ⟨g1, o1, none⟩) m c'] w fun e w' => e = .returned (.agg #[.int .i64 x1, .int .i64 x2, .int .i64 x3]) ∧ Below w.heap.size w w'
  have hm0 : ((m : Int) == 0) = false := by rw [beq_eq_false_iff_ne]; omega
  clear hc1 h c10 c11 c12
  go_enter Tryd.func44, Tryd.ntmps44
  go_wp2_with fail
  go_quiet (fail)
  have K1 := Lib.hid (K.out.drewN nq)
  have B1 := Lib.hid (below_drewN B.out nq)
  have e0 := (B1.out.cell (p := ⟨g1, o1, none⟩) hb1).trans C.out.1
  have e1 := (B1.out.cell (p := ⟨g1, o1 + 1, none⟩) hb1).trans C.out.2.1
  have e2 := (B1.out.cell (p := ⟨g1, o1 + 2, none⟩) hb1).trans C.out.2.2
  have z0 := K1.out.frozen 0
  have z1 := K1.out.frozen 1
  have z2 := K1.out.frozen 2
  obtain ⟨y0, y1, y2, y3⟩ := K1.out.three
  generalize (w.alloc (.cells #[.int .i64 0, .int .i64 0, .int .i64 0] 40)).drewN nq = w1 at K1 B1 e0 e1 e2 z0 z1 z2 y0 y1 y2 y3 ⊢
  go_wp2_with fail
  have E := ((K1.out.set_ 0 (.int .i64 x1)).set_ 1 (.int .i64 x2)).set_ 2 (.int .i64 x3)
  have E' : Blk (((w1.setCell ⟨w.heap.size, 0, none⟩ (.int .i64 x1)).setCell ⟨w.heap.size, 1, none⟩ (.int .i64 x2)).setCell ⟨w.heap.size, 2, none⟩ (.int .i64 x3)) w.heap.size 40 #[.int .i64 x1, .int .i64 x2, .int .i64 x3] := by simpa using E
  obtain ⟨j0, j1, j2, j3⟩ := E'.three
  have HZ := ((B1.out.setCell (p := ⟨w.heap.size, 0, none⟩) (Nat.le_refl _) (.int .i64 x1)).setCell (p := ⟨w.heap.size, 1, none⟩) (Nat.le_refl _) (.int .i64 x2)).setCell (p := ⟨w.heap.size, 2, none⟩) (Nat.le_refl _) (.int .i64 x3)
  clear E E'
  generalize ((w1.setCell ⟨w.heap.size, 0, none⟩ (.int .i64 x1)).setCell ⟨w.heap.size, 1, none⟩ (.int .i64 x2)).setCell ⟨w.heap.size, 2, none⟩ (.int .i64 x3) = wz at j0 j1 j2 j3 HZ ⊢
  refine bodyPost_ret (v := .agg #[.int .i64 x1, .int .i64 x2, .int .i64 x3]) (by simp [results, Tryd.results44, go_sem, j0, j1, j2]) rfl ⟨rfl, HZ⟩
set_option maxRecDepth 100000 in
set_option maxHeartbeats 1000000 in
/-- a cell on both sides -/
theorem first_both (h : CReads w w.heap.size A n f) (h' : CReads w w.heap.size A' m g) (hn0 : 0 < n) (hm0 : 0 < m) (hn : n ≤ c) (hm : m ≤ c') :
    Calls Tryd.prog 44 #[.slice A n c, .slice A' m c'] w fun e w' => e = .returned (cv (if cl f 1 g 1 < 0 then f 0 else g 0)) ∧ Below w.heap.size w w' := by
  have B := Lib.hid ((Below.refl w.heap.size w).alloc (Nat.le_refl _) (.cells #[.int .i64 0, .int .i64 0, .int .i64 0] 40))
  have K := Lib.hid (Blk.new w 40 #[.int .i64 0, .int .i64 0, .int .i64 0])
  have CC := Lib.hid (fun c1 c2 (w' : World) (hb : Below w.heap.size w w') => compare_any A A' 1 1 c1 c2 f g w' ((h.below hb).more hb.size |>.take_one hn0) ((h'.below hb).more hb.size |>.take_one hm0) (by omega) (by omega))
  obtain ⟨g1, o1, rfl, hb1, hc1⟩ := h hn0
  obtain ⟨g2, o2, rfl, hb2, hc2⟩ := h' hm0
  have C1 := hc1 0 hn0
  have C2 := hc2 0 hm0
  simp only [Nat.zero_mul, Nat.add_zero] at C1 C2
  have hm0' : ((m : Int) == 0) = false := by rw [beq_eq_false_iff_ne]; omega
  have hc1' : 1 ≤ c := by omega
  have hc2' : 1 ≤ c' := by omega
  have hc3 : 0 < c := by omega
  have hc4 : 0 < c' := by omega
  have hc5 : (1 : Int) ≤ (c : Int) := by omega
  have hc6 : (1 : Int) ≤ (c' : Int) := by omega
  have hc7 : (0 : Int) < (c : Int) := by omega
  have hc8 : (0 : Int) < (c' : Int) := by omega
  have d1 : decide (0 < (n : Int)) = true := by rw [decide_eq_true_iff]; omega
  have d2 : decide (0 < n) = true := by rw [decide_eq_true_iff]; omega
  generalize cl f 1 g 1 = r at CC ⊢
  generalize f 0 = a at C1 ⊢
  generalize g 0 = b at C2 ⊢
  obtain ⟨a1, a2, a3⟩ := a
  obtain ⟨b1, b2, b3⟩ := b
  have C1 := Lib.hid C1
  have C2 := Lib.hid C2
  clear h h' hc1 hc2
  have key : ∀ (x1 x2 x3 : Int), (if r < 0 then (a1, a2, a3) else (b1, b2, b3)) = (x1, x2, x3) → Calls Tryd.prog 44 #[.slice (some ⟨g1, o1, none⟩) n c, .slice (some ⟨g2, o2, none⟩) m c'] w fun e w' => e = .returned (.agg #[.int .i64 x1, .int .i64 x2, .int .i64 x3]) ∧ Below w.heap.size w w' := by
    intro x1 x2 x3 hx
    by_cases hr : r < 0
    · rw [if_pos hr] at hx
      injection hx with e1 hx
      injection hx with e2 e3
      subst e1 e2 e3
      have hd : decide (r < 0) = true := decide_eq_true hr
      go_enter Tryd.func44, Tryd.ntmps44
      go_wp2_with fail
      generalize w.alloc (.cells #[.int .i64 0, .int .i64 0, .int .i64 0] 40) = W at B K ⊢
      have C3 := Lib.hid (fun c1 c2 (p : LowW W.heap.size W) => CC.out c1 c2 p.w (B.out.trans (p.below.mono B.out.size)))
      refine wp_region_low W.heap.size W (by kernel_rfl) (by kernel_rfl) (Below.refl _ _) ?_
      repeat (quiet_step (first | (go_at_call 54; with_reducible exact LowW.of_call _ (Nat.le_refl _) (C3.out _ _ _))))
      refine wpQuiet_nil ?_
      rintro w2 ⟨p, rfl⟩
      have K1 := Lib.hid (K.out.below p.below K.out.lt)
      have B1 := Lib.hid (B.out.trans (p.below.mono B.out.size))
      generalize p.w = w1 at K1 B1 ⊢
      have e0 := (B1.out.cell (p := ⟨g1, o1, none⟩) hb1).trans C1.out.1
      have e1 := (B1.out.cell (p := ⟨g1, o1 + 1, none⟩) hb1).trans C1.out.2.1
      have e2 := (B1.out.cell (p := ⟨g1, o1 + 2, none⟩) hb1).trans C1.out.2.2
      have z0 := K1.out.frozen 0
      have z1 := K1.out.frozen 1
      have z2 := K1.out.frozen 2
      obtain ⟨y0, y1, y2, y3⟩ := K1.out.three
      clear C3
      go_wp2_with fail
      have E := ((K1.out.set_ 0 (.int .i64 a1)).set_ 1 (.int .i64 a2)).set_ 2 (.int .i64 a3)
      have E' : Blk (((w1.setCell ⟨w.heap.size, 0, none⟩ (.int .i64 a1)).setCell ⟨w.heap.size, 1, none⟩ (.int .i64 a2)).setCell ⟨w.heap.size, 2, none⟩ (.int .i64 a3)) w.heap.size 40 #[.int .i64 a1, .int .i64 a2, .int .i64 a3] := by simpa using E
      obtain ⟨j0, j1, j2, j3⟩ := E'.three
      have HZ := ((B1.out.setCell (p := ⟨w.heap.size, 0, none⟩) (Nat.le_refl _) (.int .i64 a1)).setCell (p := ⟨w.heap.size, 1, none⟩) (Nat.le_refl _) (.int .i64 a2)).setCell (p := ⟨w.heap.size, 2, none⟩) (Nat.le_refl _) (.int .i64 a3)
      clear E E'
      generalize ((w1.setCell ⟨w.heap.size, 0, none⟩ (.int .i64 a1)).setCell ⟨w.heap.size, 1, none⟩ (.int .i64 a2)).setCell ⟨w.heap.size, 2, none⟩ (.int .i64 a3) = wz at j0 j1 j2 j3 HZ ⊢
      refine bodyPost_ret (v := .agg #[.int .i64 a1, .int .i64 a2, .int .i64 a3]) (by simp [results, Tryd.results44, go_sem, j0, j1, j2]) rfl ⟨rfl, HZ⟩
    · rw [if_neg hr] at hx
      injection hx with e1 hx
      injection hx with e2 e3
      subst e1 e2 e3
      have hd : decide (r < 0) = false := decide_eq_false hr
      go_enter Tryd.func44, Tryd.ntmps44
      go_wp2_with fail
      generalize w.alloc (.cells #[.int .i64 0, .int .i64 0, .int .i64 0] 40) = W at B K ⊢
      have C3 := Lib.hid (fun c1 c2 (p : LowW W.heap.size W) => CC.out c1 c2 p.w (B.out.trans (p.below.mono B.out.size)))
      refine wp_region_low W.heap.size W (by kernel_rfl) (by kernel_rfl) (Below.refl _ _) ?_
      repeat (quiet_step (first | (go_at_call 54; with_reducible exact LowW.of_call _ (Nat.le_refl _) (C3.out _ _ _))))
      refine wpQuiet_nil ?_
      rintro w2 ⟨p, rfl⟩
      have K1 := Lib.hid (K.out.below p.below K.out.lt)
      have B1 := Lib.hid (B.out.trans (p.below.mono B.out.size))
      generalize p.w = w1 at K1 B1 ⊢
      have e0 := (B1.out.cell (p := ⟨g2, o2, none⟩) hb2).trans C2.out.1
      have e1 := (B1.out.cell (p := ⟨g2, o2 + 1, none⟩) hb2).trans C2.out.2.1
      have e2 := (B1.out.cell (p := ⟨g2, o2 + 2, none⟩) hb2).trans C2.out.2.2
      have z0 := K1.out.frozen 0
      have z1 := K1.out.frozen 1
      have z2 := K1.out.frozen 2
      obtain ⟨y0, y1, y2, y3⟩ := K1.out.three
      clear C3
      go_wp2_with fail
      have E := ((K1.out.set_ 0 (.int .i64 b1)).set_ 1 (.int .i64 b2)).set_ 2 (.int .i64 b3)
      have E' : Blk (((w1.setCell ⟨w.heap.size, 0, none⟩ (.int .i64 b1)).setCell ⟨w.heap.size, 1, none⟩ (.int .i64 b2)).setCell ⟨w.heap.size, 2, none⟩ (.int .i64 b3)) w.heap.size 40 #[.int .i64 b1, .int .i64 b2, .int .i64 b3] := by simpa using E
      obtain ⟨j0, j1, j2, j3⟩ := E'.three
      have HZ := ((B1.out.setCell (p := ⟨w.heap.size, 0, none⟩) (Nat.le_refl _) (.int .i64 b1)).setCell (p := ⟨w.heap.size, 1, none⟩) (Nat.le_refl _) (.int .i64 b2)).setCell (p := ⟨w.heap.size, 2, none⟩) (Nat.le_refl _) (.int .i64 b3)
      clear E E'
      generalize ((w1.setCell ⟨w.heap.size, 0, none⟩ (.int .i64 b1)).setCell ⟨w.heap.size, 1, none⟩ (.int .i64 b2)).setCell ⟨w.heap.size, 2, none⟩ (.int .i64 b3) = wz at j0 j1 j2 j3 HZ ⊢
      refine bodyPost_ret (v := .agg #[.int .i64 b1, .int .i64 b2, .int .i64 b3]) (by simp [results, Tryd.results44, go_sem, j0, j1, j2]) rfl ⟨rfl, HZ⟩
  exact key _ _ _ rfl

theorem CReads.rest {w : World} {B g1 o1 n : Nat} {f : Nat → C3} (h : CReads w B (some ⟨g1, o1, none⟩) n f) : CReads w B (some ⟨g1, o1 + 3, none⟩) (n - 1) (sh f 1) := fun hn => by
  obtain ⟨g, o, e, hg, hc⟩ := h (by omega)
  injection e with e
  injection e with e1 e2
  subst e1 e2
  refine ⟨_, _, rfl, hg, fun k hk => ?_⟩
  have := hc (1 + k) (by omega)
  rw [show o1 + (1 + k) * 3 = o1 + 3 + k * 3 by omega] at this
  exact this
set_option maxRecDepth 100000 in
set_option maxHeartbeats 1000000 in
/-- the first cell is at another position, or there is none -/
theorem take_miss (a : C3) (h : CReads w w.heap.size A n f) (hm : ¬ (0 < n ∧ (f 0).1 = a.1 ∧ (f 0).2.1 = a.2.1)) :
    Calls Tryd.prog 45 #[.slice A n c, cv a] w fun e w' => e = .returned (.tuple #[.int .i64 0, .slice A n c]) ∧ Below w.heap.size w w' := by
  obtain ⟨u, v, r⟩ := a
  have B := Lib.hid ((Below.refl w.heap.size w).alloc (Nat.le_refl _) (.cells #[.int .i64 u, .int .i64 v, .int .i64 r] 40))
  rcases Nat.eq_zero_or_pos n with hn | hn
  · subst hn
    clear hm h
    go_enter Tryd.func45, Tryd.ntmps45
    go_wp2_with fail
    go_quiet (fail)
    go_wp2
    go_ret2
    exact ⟨rfl, below_drewN B.out _⟩
  · obtain ⟨g1, o1, rfl, hb1, hc1⟩ := h hn
    obtain ⟨c10, c11, c12⟩ := hc1 0 hn
    simp only [Nat.zero_mul, Nat.add_zero] at c10 c11 c12
    generalize f 0 = x at c10 c11 c12 hm
    obtain ⟨x1, x2, x3⟩ := x
    simp only at c10 c11 c12 hm
    have hn0 : ((n : Int) == 0) = false := by rw [beq_eq_false_iff_ne]; omega
    clear h hc1
    by_cases e1 : x1 = u
    · subst e1
      have e2 : (x2 != v) = true := by simp; exact fun e => hm ⟨hn, rfl, e⟩
      clear hm
      go_enter Tryd.func45, Tryd.ntmps45
      go_wp2_with fail
      go_quiet (fail)
      go_wp2
      go_ret2
      exact ⟨rfl, below_drewN B.out _⟩
    · have e1 : (x1 != u) = true := by simp; exact e1
      clear hm
      go_enter Tryd.func45, Tryd.ntmps45
      go_wp2_with fail
      go_quiet (fail)
      go_wp2
      go_ret2
      exact ⟨rfl, below_drewN B.out _⟩
set_option maxRecDepth 100000 in
set_option maxHeartbeats 1000000 in
/-- the first cell is at that position -/
theorem take_hit (a : C3) (h : CReads w w.heap.size A n f) (hn : 0 < n) (hc : n ≤ c) (hx : (f 0).1 = a.1) (hy : (f 0).2.1 = a.2.1) :
    Calls Tryd.prog 45 #[.slice A n c, cv a] w fun e w' => ∃ A', e = .returned (.tuple #[.int .i64 (f 0).2.2, .slice A' (n - 1) (c - 1)]) ∧ (∀ w B, CReads w B A n f → CReads w B A' (n - 1) (sh f 1)) ∧ Below w.heap.size w w' := by
  obtain ⟨u, v, r⟩ := a
  have B := Lib.hid ((Below.refl w.heap.size w).alloc (Nat.le_refl _) (.cells #[.int .i64 u, .int .i64 v, .int .i64 r] 40))
  obtain ⟨g1, o1, rfl, hb1, hc1⟩ := h hn
  obtain ⟨c10, c11, c12⟩ := hc1 0 hn
  simp only [Nat.zero_mul, Nat.add_zero] at c10 c11 c12
  generalize f 0 = x at c10 c11 c12 hx hy ⊢
  obtain ⟨x1, x2, x3⟩ := x
  simp only at c10 c11 c12 hx hy
  subst hx hy
  have hn0 : ((n : Int) == 0) = false := by rw [beq_eq_false_iff_ne]; omega
  have hl1 : 1 ≤ n := by omega
  have hl2 : (1 : Int) ≤ (n : Int) := by omega
  have hl3 : (0 : Int) < (n : Int) := by omega
  clear h hc1
  by_cases hc1 : c = 1
  · subst hc1
    have hn1 : n = 1 := by omega
    subst hn1
    go_enter Tryd.func45, Tryd.ntmps45
    go_wp2_with fail
    go_quiet (fail)
    go_wp2_with fail
    go_quiet (fail)
    go_wp2
    go_ret2
    exact ⟨_, rfl, fun _ _ _ h => absurd h (by omega), below_drewN (below_drewN B.out _) _⟩
  · go_enter Tryd.func45, Tryd.ntmps45
    go_wp2_with fail
    go_quiet (fail)
    go_wp2_with fail
    go_quiet (fail)
    go_wp2
    go_ret2
    exact ⟨_, rfl, fun _ _ h => h.rest, below_drewN (below_drewN B.out _) _⟩

/-- whether the first cell is at the position of a (1 or 0), and its state if it is -/
def ht (f : Nat → C3) (n : Nat) (a : C3) : Nat := if 0 < n ∧ (f 0).1 = a.1 ∧ (f 0).2.1 = a.2.1 then 1 else 0
def vl (f : Nat → C3) (n : Nat) (a : C3) : Int := if 0 < n ∧ (f 0).1 = a.1 ∧ (f 0).2.1 = a.2.1 then (f 0).2.2 else 0
theorem take_any (a : C3) (h : CReads w w.heap.size A n f) (hc : n ≤ c) :
    Calls Tryd.prog 45 #[.slice A n c, cv a] w fun e w' => ∃ A' c', e = .returned (.tuple #[.int .i64 (vl f n a), .slice A' (n - ht f n a) c']) ∧ n - ht f n a ≤ c' ∧ (∀ w B, CReads w B A n f → CReads w B A' (n - ht f n a) (sh f (ht f n a))) ∧ Below w.heap.size w w' := by
  unfold vl ht
  by_cases e : 0 < n ∧ (f 0).1 = a.1 ∧ (f 0).2.1 = a.2.1
  · rw [if_pos e, if_pos e]
    exact (take_hit A n c f w a h e.1 hc e.2.1 e.2.2).mono fun e w' ⟨A', h1, h2, h3⟩ => ⟨A', c - 1, h1, by omega, h2, h3⟩
  · rw [if_neg e, if_neg e]
    exact (take_miss A n c f w a h e).mono fun e w' ⟨h1, h3⟩ => ⟨A, c, h1, hc, fun w B h => by
      rw [show sh f 0 = f from funext fun k => by unfold sh; rw [Nat.zero_add]]; exact h, h3⟩
theorem first_any (h : CReads w w.heap.size A n f) (h' : CReads w w.heap.size A' m g) (hc : n ≤ c) (hc' : m ≤ c') (ho : 0 < n ∨ 0 < m) :
    Calls Tryd.prog 44 #[.slice A n c, .slice A' m c'] w fun e w' => e = .returned (cv (fst2 f n g m)) ∧ Below w.heap.size w w' := by
  unfold fst2
  rcases Nat.eq_zero_or_pos m with e | e
  · subst e
    rw [if_pos (Or.inl rfl)]
    exact first_left A A' n c c' f w h (by omega)
  · rcases Nat.eq_zero_or_pos n with e2 | e2
    · subst e2
      rw [if_neg (by omega)]
      exact first_right A A' m c c' g w h' e
    · have hh := first_both A A' n m c c' f g w h h' e2 e hc hc'
      by_cases hr : cl f 1 g 1 < 0
      · rw [if_pos hr] at hh
        rw [if_pos (Or.inr ⟨e2, hr⟩)]; exact hh
      · rw [if_neg hr] at hh
        rw [if_neg (by rintro (h | h); omega; exact hr h.2)]; exact hh
/-- one of both has the first cell's position -/
theorem first_hits (ho : 0 < n ∨ 0 < m) : 1 ≤ ht f n (fst2 f n g m) + ht g m (fst2 f n g m) := by
  unfold fst2
  split
  · next h =>
    have hn : 0 < n := by omega
    have : ht f n (f 0) = 1 := if_pos ⟨hn, rfl, rfl⟩
    omega
  · next h =>
    have hm : 0 < m := by omega
    have : ht g m (g 0) = 1 := if_pos ⟨hm, rfl, rfl⟩
    omega
theorem ht_le (a : C3) : ht f n a ≤ n := by
  unfold ht
  split <;> omega
end
end Go.Proofs.YtobaabankhpfjaaDoor
