/- The walks of ordered and of the closure that shares a gate. -/
import Derived.Test.YtnhkgkpjkgifoaaMbh
namespace Go.Proofs.Ytnhkgkpjkgifoaa
open Go.RowKit

theorem run_max2 {P : Program} (w : World) (ts : Array TypeId) (t : TypeId) (k : IntKind) (x y : Int) : (Builtin.max_ ts t #[.int k x, .int k y]).run P w = .ok (.int k (max x y)) w := by
  have e : (if y > x then y else x) = max x y := by split <;> omega
  simp [Builtin.max_, Builtin.max2, e]
theorem run_min2 {P : Program} (w : World) (ts : Array TypeId) (t : TypeId) (k : IntKind) (x y : Int) : (Builtin.min_ ts t #[.int k x, .int k y]).run P w = .ok (.int k (min x y)) w := by
  have e : (if y < x then y else x) = min x y := by split <;> omega
  simp [Builtin.min_, Builtin.min2, e]
set_option maxRecDepth 100000 in
set_option maxHeartbeats 4000000 in
theorem ord_0 (a b : Int) (w : World) :
    Calls Try.prog 94 #[.agg #[.int .i64 0, .int .i64 a, .int .i64 b]] w fun e w' => e = .returned (.agg #[.int .i64 0, .int .i64 a, .int .i64 b]) ∧ Below w.heap.size w w' := by
  have K5 := (Blk.new w 57 #[.int .i64 0, .int .i64 a, .int .i64 b]).alloc (.cells #[.int .i64 0, .int .i64 0, .int .i64 0] 57)
  have K8 := Blk.new (w.alloc (.cells #[.int .i64 0, .int .i64 a, .int .i64 b] 57)) 57 #[.int .i64 0, .int .i64 0, .int .i64 0]
  rw [World.size_alloc] at K8
  have B0 : Below w.heap.size w ((w.alloc (.cells #[.int .i64 0, .int .i64 a, .int .i64 b] 57)).alloc (.cells #[.int .i64 0, .int .i64 0, .int .i64 0] 57)) := ((Below.refl _ w).alloc (Nat.le_refl _) _).alloc (by simp) _
  go_enter Try.func94, Try.ntmps94
  go_upto_region 1 with (fail)
  generalize (w.alloc (.cells #[.int .i64 0, .int .i64 a, .int .i64 b] 57)).alloc (.cells #[.int .i64 0, .int .i64 0, .int .i64 0] 57) = w1 at *
  obtain ⟨a0, a1, a2, a3, a4, a5, a6⟩ := K5.three6
  obtain ⟨r0, r1, r2, r3, r4, r5, r6⟩ := K8.three6
  go_wp2
  have KZ := K8.tri (.int .i64 0) (.int .i64 a) (.int .i64 b)
  obtain ⟨e0, e1', e2, _, _, _, _⟩ := KZ.three6
  exact bodyPost_ret (v := .agg #[.int .i64 0, .int .i64 a, .int .i64 b]) (by simp [results, Try.results94, go_sem, e0, e1', e2]) rfl ⟨rfl, ((B0.setCell (p := ⟨w.heap.size + 1, 0, none⟩) (Nat.le_succ _) _).setCell (p := ⟨w.heap.size + 1, 1, none⟩) (Nat.le_succ _) _).setCell (p := ⟨w.heap.size + 1, 2, none⟩) (Nat.le_succ _) _⟩
set_option maxRecDepth 100000 in
set_option maxHeartbeats 4000000 in
theorem ord_1 (a b : Int) (w : World) :
    Calls Try.prog 94 #[.agg #[.int .i64 1, .int .i64 a, .int .i64 b]] w fun e w' => e = .returned (.agg #[.int .i64 1, .int .i64 a, .int .i64 b]) ∧ Below w.heap.size w w' := by
  have K5 := (Blk.new w 57 #[.int .i64 1, .int .i64 a, .int .i64 b]).alloc (.cells #[.int .i64 0, .int .i64 0, .int .i64 0] 57)
  have K8 := Blk.new (w.alloc (.cells #[.int .i64 1, .int .i64 a, .int .i64 b] 57)) 57 #[.int .i64 0, .int .i64 0, .int .i64 0]
  rw [World.size_alloc] at K8
  have B0 : Below w.heap.size w ((w.alloc (.cells #[.int .i64 1, .int .i64 a, .int .i64 b] 57)).alloc (.cells #[.int .i64 0, .int .i64 0, .int .i64 0] 57)) := ((Below.refl _ w).alloc (Nat.le_refl _) _).alloc (by simp) _
  go_enter Try.func94, Try.ntmps94
  go_upto_region 1 with (fail)
  generalize (w.alloc (.cells #[.int .i64 1, .int .i64 a, .int .i64 b] 57)).alloc (.cells #[.int .i64 0, .int .i64 0, .int .i64 0] 57) = w1 at *
  obtain ⟨a0, a1, a2, a3, a4, a5, a6⟩ := K5.three6
  obtain ⟨r0, r1, r2, r3, r4, r5, r6⟩ := K8.three6
  go_wp2
  have KZ := K8.tri (.int .i64 1) (.int .i64 a) (.int .i64 b)
  obtain ⟨e0, e1', e2, _, _, _, _⟩ := KZ.three6
  exact bodyPost_ret (v := .agg #[.int .i64 1, .int .i64 a, .int .i64 b]) (by simp [results, Try.results94, go_sem, e0, e1', e2]) rfl ⟨rfl, ((B0.setCell (p := ⟨w.heap.size + 1, 0, none⟩) (Nat.le_succ _) _).setCell (p := ⟨w.heap.size + 1, 1, none⟩) (Nat.le_succ _) _).setCell (p := ⟨w.heap.size + 1, 2, none⟩) (Nat.le_succ _) _⟩
set_option maxRecDepth 100000 in
set_option maxHeartbeats 4000000 in
theorem ord_2 (a b : Int) (w : World) :
    Calls Try.prog 94 #[.agg #[.int .i64 2, .int .i64 a, .int .i64 b]] w fun e w' => e = .returned (.agg #[.int .i64 2, .int .i64 a, .int .i64 b]) ∧ Below w.heap.size w w' := by
  have K5 := (Blk.new w 57 #[.int .i64 2, .int .i64 a, .int .i64 b]).alloc (.cells #[.int .i64 0, .int .i64 0, .int .i64 0] 57)
  have K8 := Blk.new (w.alloc (.cells #[.int .i64 2, .int .i64 a, .int .i64 b] 57)) 57 #[.int .i64 0, .int .i64 0, .int .i64 0]
  rw [World.size_alloc] at K8
  have B0 : Below w.heap.size w ((w.alloc (.cells #[.int .i64 2, .int .i64 a, .int .i64 b] 57)).alloc (.cells #[.int .i64 0, .int .i64 0, .int .i64 0] 57)) := ((Below.refl _ w).alloc (Nat.le_refl _) _).alloc (by simp) _
  go_enter Try.func94, Try.ntmps94
  go_upto_region 1 with (fail)
  generalize (w.alloc (.cells #[.int .i64 2, .int .i64 a, .int .i64 b] 57)).alloc (.cells #[.int .i64 0, .int .i64 0, .int .i64 0] 57) = w1 at *
  obtain ⟨a0, a1, a2, a3, a4, a5, a6⟩ := K5.three6
  obtain ⟨r0, r1, r2, r3, r4, r5, r6⟩ := K8.three6
  go_wp2
  have KZ := K8.tri (.int .i64 2) (.int .i64 a) (.int .i64 b)
  obtain ⟨e0, e1', e2, _, _, _, _⟩ := KZ.three6
  exact bodyPost_ret (v := .agg #[.int .i64 2, .int .i64 a, .int .i64 b]) (by simp [results, Try.results94, go_sem, e0, e1', e2]) rfl ⟨rfl, ((B0.setCell (p := ⟨w.heap.size + 1, 0, none⟩) (Nat.le_succ _) _).setCell (p := ⟨w.heap.size + 1, 1, none⟩) (Nat.le_succ _) _).setCell (p := ⟨w.heap.size + 1, 2, none⟩) (Nat.le_succ _) _⟩
set_option maxRecDepth 100000 in
set_option maxHeartbeats 4000000 in
theorem ord_3 (a b : Int) (p q : Int) (hp : min a b = p) (hq : max a b = q) (w : World) :
    Calls Try.prog 94 #[.agg #[.int .i64 3, .int .i64 a, .int .i64 b]] w fun e w' => e = .returned (.agg #[.int .i64 3, .int .i64 p, .int .i64 q]) ∧ Below w.heap.size w w' := by
  have m1 : ∀ (w : World) (ts : Array TypeId) (t : TypeId), (Builtin.min_ ts t #[.int .i64 a, .int .i64 b]).run Try.prog w = .ok (.int .i64 p) w := fun w ts t => by rw [run_min2, hp]
  have m2 : ∀ (w : World) (ts : Array TypeId) (t : TypeId), (Builtin.max_ ts t #[.int .i64 a, .int .i64 b]).run Try.prog w = .ok (.int .i64 q) w := fun w ts t => by rw [run_max2, hq]
  clear hp hq
  have K5 := (Blk.new w 57 #[.int .i64 3, .int .i64 a, .int .i64 b]).alloc (.cells #[.int .i64 0, .int .i64 0, .int .i64 0] 57)
  have K8 := Blk.new (w.alloc (.cells #[.int .i64 3, .int .i64 a, .int .i64 b] 57)) 57 #[.int .i64 0, .int .i64 0, .int .i64 0]
  rw [World.size_alloc] at K8
  have B0 : Below w.heap.size w ((w.alloc (.cells #[.int .i64 3, .int .i64 a, .int .i64 b] 57)).alloc (.cells #[.int .i64 0, .int .i64 0, .int .i64 0] 57)) := ((Below.refl _ w).alloc (Nat.le_refl _) _).alloc (by simp) _
  go_enter Try.func94, Try.ntmps94
  go_upto_region 1 with (fail)
  generalize (w.alloc (.cells #[.int .i64 3, .int .i64 a, .int .i64 b] 57)).alloc (.cells #[.int .i64 0, .int .i64 0, .int .i64 0] 57) = w1 at *
  obtain ⟨a0, a1, a2, a3, a4, a5, a6⟩ := K5.three6
  go_upto_region 6 with (fail)
  have K5s : Blk _ w.heap.size _ #[.int .i64 3, .int .i64 p, .int .i64 q] := (K5.set_ 1 (.int .i64 p)).set_ 2 (.int .i64 q)
  have K8s := (K8.far (p := ⟨w.heap.size, 1, none⟩) (by show w.heap.size + 1 ≠ w.heap.size; omega) (.int .i64 p)).far (p := ⟨w.heap.size, 2, none⟩) (by show w.heap.size + 1 ≠ w.heap.size; omega) (.int .i64 q)
  have Bs := (B0.setCell (p := ⟨w.heap.size, 1, none⟩) (Nat.le_refl _) (.int .i64 p)).setCell (p := ⟨w.heap.size, 2, none⟩) (Nat.le_refl _) (.int .i64 q)
  generalize (w1.setCell ⟨w.heap.size, 1, none⟩ (.int .i64 p)).setCell ⟨w.heap.size, 2, none⟩ (.int .i64 q) = w2 at *
  clear K5 K8 B0 a0 a1 a2 a3 a4 a5 a6
  obtain ⟨a0, a1, a2, a3, a4, a5, a6⟩ := K5s.three6
  obtain ⟨r0, r1, r2, r3, r4, r5, r6⟩ := K8s.three6
  go_wp2
  have KZ := K8s.tri (.int .i64 3) (.int .i64 p) (.int .i64 q)
  obtain ⟨e0, e1', e2, _, _, _, _⟩ := KZ.three6
  exact bodyPost_ret (v := .agg #[.int .i64 3, .int .i64 p, .int .i64 q]) (by simp [results, Try.results94, go_sem, e0, e1', e2]) rfl ⟨rfl, ((Bs.setCell (p := ⟨w.heap.size + 1, 0, none⟩) (Nat.le_succ _) _).setCell (p := ⟨w.heap.size + 1, 1, none⟩) (Nat.le_succ _) _).setCell (p := ⟨w.heap.size + 1, 2, none⟩) (Nat.le_succ _) _⟩
set_option maxRecDepth 100000 in
set_option maxHeartbeats 4000000 in
theorem ord_4 (a b : Int) (p q : Int) (hp : min a b = p) (hq : max a b = q) (w : World) :
    Calls Try.prog 94 #[.agg #[.int .i64 4, .int .i64 a, .int .i64 b]] w fun e w' => e = .returned (.agg #[.int .i64 4, .int .i64 p, .int .i64 q]) ∧ Below w.heap.size w w' := by
  have m1 : ∀ (w : World) (ts : Array TypeId) (t : TypeId), (Builtin.min_ ts t #[.int .i64 a, .int .i64 b]).run Try.prog w = .ok (.int .i64 p) w := fun w ts t => by rw [run_min2, hp]
  have m2 : ∀ (w : World) (ts : Array TypeId) (t : TypeId), (Builtin.max_ ts t #[.int .i64 a, .int .i64 b]).run Try.prog w = .ok (.int .i64 q) w := fun w ts t => by rw [run_max2, hq]
  clear hp hq
  have K5 := (Blk.new w 57 #[.int .i64 4, .int .i64 a, .int .i64 b]).alloc (.cells #[.int .i64 0, .int .i64 0, .int .i64 0] 57)
  have K8 := Blk.new (w.alloc (.cells #[.int .i64 4, .int .i64 a, .int .i64 b] 57)) 57 #[.int .i64 0, .int .i64 0, .int .i64 0]
  rw [World.size_alloc] at K8
  have B0 : Below w.heap.size w ((w.alloc (.cells #[.int .i64 4, .int .i64 a, .int .i64 b] 57)).alloc (.cells #[.int .i64 0, .int .i64 0, .int .i64 0] 57)) := ((Below.refl _ w).alloc (Nat.le_refl _) _).alloc (by simp) _
  go_enter Try.func94, Try.ntmps94
  go_upto_region 1 with (fail)
  generalize (w.alloc (.cells #[.int .i64 4, .int .i64 a, .int .i64 b] 57)).alloc (.cells #[.int .i64 0, .int .i64 0, .int .i64 0] 57) = w1 at *
  obtain ⟨a0, a1, a2, a3, a4, a5, a6⟩ := K5.three6
  go_upto_region 6 with (fail)
  have K5s : Blk _ w.heap.size _ #[.int .i64 4, .int .i64 p, .int .i64 q] := (K5.set_ 1 (.int .i64 p)).set_ 2 (.int .i64 q)
  have K8s := (K8.far (p := ⟨w.heap.size, 1, none⟩) (by show w.heap.size + 1 ≠ w.heap.size; omega) (.int .i64 p)).far (p := ⟨w.heap.size, 2, none⟩) (by show w.heap.size + 1 ≠ w.heap.size; omega) (.int .i64 q)
  have Bs := (B0.setCell (p := ⟨w.heap.size, 1, none⟩) (Nat.le_refl _) (.int .i64 p)).setCell (p := ⟨w.heap.size, 2, none⟩) (Nat.le_refl _) (.int .i64 q)
  generalize (w1.setCell ⟨w.heap.size, 1, none⟩ (.int .i64 p)).setCell ⟨w.heap.size, 2, none⟩ (.int .i64 q) = w2 at *
  clear K5 K8 B0 a0 a1 a2 a3 a4 a5 a6
  obtain ⟨a0, a1, a2, a3, a4, a5, a6⟩ := K5s.three6
  obtain ⟨r0, r1, r2, r3, r4, r5, r6⟩ := K8s.three6
  go_wp2
  have KZ := K8s.tri (.int .i64 4) (.int .i64 p) (.int .i64 q)
  obtain ⟨e0, e1', e2, _, _, _, _⟩ := KZ.three6
  exact bodyPost_ret (v := .agg #[.int .i64 4, .int .i64 p, .int .i64 q]) (by simp [results, Try.results94, go_sem, e0, e1', e2]) rfl ⟨rfl, ((Bs.setCell (p := ⟨w.heap.size + 1, 0, none⟩) (Nat.le_succ _) _).setCell (p := ⟨w.heap.size + 1, 1, none⟩) (Nat.le_succ _) _).setCell (p := ⟨w.heap.size + 1, 2, none⟩) (Nat.le_succ _) _⟩
set_option maxRecDepth 100000 in
set_option maxHeartbeats 4000000 in
theorem ord_5 (a b : Int) (p q : Int) (hp : min a b = p) (hq : max a b = q) (w : World) :
    Calls Try.prog 94 #[.agg #[.int .i64 5, .int .i64 a, .int .i64 b]] w fun e w' => e = .returned (.agg #[.int .i64 5, .int .i64 p, .int .i64 q]) ∧ Below w.heap.size w w' := by
  have m1 : ∀ (w : World) (ts : Array TypeId) (t : TypeId), (Builtin.min_ ts t #[.int .i64 a, .int .i64 b]).run Try.prog w = .ok (.int .i64 p) w := fun w ts t => by rw [run_min2, hp]
  have m2 : ∀ (w : World) (ts : Array TypeId) (t : TypeId), (Builtin.max_ ts t #[.int .i64 a, .int .i64 b]).run Try.prog w = .ok (.int .i64 q) w := fun w ts t => by rw [run_max2, hq]
  clear hp hq
  have K5 := (Blk.new w 57 #[.int .i64 5, .int .i64 a, .int .i64 b]).alloc (.cells #[.int .i64 0, .int .i64 0, .int .i64 0] 57)
  have K8 := Blk.new (w.alloc (.cells #[.int .i64 5, .int .i64 a, .int .i64 b] 57)) 57 #[.int .i64 0, .int .i64 0, .int .i64 0]
  rw [World.size_alloc] at K8
  have B0 : Below w.heap.size w ((w.alloc (.cells #[.int .i64 5, .int .i64 a, .int .i64 b] 57)).alloc (.cells #[.int .i64 0, .int .i64 0, .int .i64 0] 57)) := ((Below.refl _ w).alloc (Nat.le_refl _) _).alloc (by simp) _
  go_enter Try.func94, Try.ntmps94
  go_upto_region 1 with (fail)
  generalize (w.alloc (.cells #[.int .i64 5, .int .i64 a, .int .i64 b] 57)).alloc (.cells #[.int .i64 0, .int .i64 0, .int .i64 0] 57) = w1 at *
  obtain ⟨a0, a1, a2, a3, a4, a5, a6⟩ := K5.three6
  go_upto_region 6 with (fail)
  have K5s : Blk _ w.heap.size _ #[.int .i64 5, .int .i64 p, .int .i64 q] := (K5.set_ 1 (.int .i64 p)).set_ 2 (.int .i64 q)
  have K8s := (K8.far (p := ⟨w.heap.size, 1, none⟩) (by show w.heap.size + 1 ≠ w.heap.size; omega) (.int .i64 p)).far (p := ⟨w.heap.size, 2, none⟩) (by show w.heap.size + 1 ≠ w.heap.size; omega) (.int .i64 q)
  have Bs := (B0.setCell (p := ⟨w.heap.size, 1, none⟩) (Nat.le_refl _) (.int .i64 p)).setCell (p := ⟨w.heap.size, 2, none⟩) (Nat.le_refl _) (.int .i64 q)
  generalize (w1.setCell ⟨w.heap.size, 1, none⟩ (.int .i64 p)).setCell ⟨w.heap.size, 2, none⟩ (.int .i64 q) = w2 at *
  clear K5 K8 B0 a0 a1 a2 a3 a4 a5 a6
  obtain ⟨a0, a1, a2, a3, a4, a5, a6⟩ := K5s.three6
  obtain ⟨r0, r1, r2, r3, r4, r5, r6⟩ := K8s.three6
  go_wp2
  have KZ := K8s.tri (.int .i64 5) (.int .i64 p) (.int .i64 q)
  obtain ⟨e0, e1', e2, _, _, _, _⟩ := KZ.three6
  exact bodyPost_ret (v := .agg #[.int .i64 5, .int .i64 p, .int .i64 q]) (by simp [results, Try.results94, go_sem, e0, e1', e2]) rfl ⟨rfl, ((Bs.setCell (p := ⟨w.heap.size + 1, 0, none⟩) (Nat.le_succ _) _).setCell (p := ⟨w.heap.size + 1, 1, none⟩) (Nat.le_succ _) _).setCell (p := ⟨w.heap.size + 1, 2, none⟩) (Nat.le_succ _) _⟩
theorem ordered_any (g : C3) {n : Int} (hg : rg g n = true) (w : World) : Calls Try.prog 94 #[gV g] w fun e w' => e = .returned (gV (ordF g)) ∧ Below w.heap.size w w' := by
  obtain ⟨op, a, b⟩ := g
  rcases rg_ops hg with rfl | rfl | rfl | rfl | rfl | rfl
  · exact ord_0 a b w
  · exact ord_1 a b w
  · exact ord_2 a b w
  · exact ord_3 a b _ _ rfl rfl w
  · exact ord_4 a b _ _ rfl rfl w
  · exact ord_5 a b _ _ rfl rfl w
end Go.Proofs.Ytnhkgkpjkgifoaa
