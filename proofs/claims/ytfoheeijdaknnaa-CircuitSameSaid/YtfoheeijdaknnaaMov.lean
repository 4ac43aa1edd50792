/- The walk of moved. -/
import Derived.Test.YtfoheeijdaknnaaCir
namespace Go.Proofs.Ytfoheeijdaknnaa
open Go.RowKit

/-- a gate whose operands are replaced -/
def mv (g : C3) (l : List Int) : C3 := if g.1 = 0 ∨ g.1 = 1 then g else if g.1 = 2 then (g.1, ig l g.2.1.toNat, g.2.2) else (g.1, ig l g.2.1.toNat, ig l g.2.2.toNat)
section
variable (A : Option Addr) (n c : Nat) (l : List Int) (a b : Int) (w : World)
theorem box2g (op : Int) : ∃ w1, w1 = (w.alloc (.cells #[.int .i64 op, .int .i64 a, .int .i64 b] 43)).alloc (.cells #[.int .i64 0, .int .i64 0, .int .i64 0] 43) ∧
    Blk w1 w.heap.size 43 #[.int .i64 op, .int .i64 a, .int .i64 b] ∧ Blk w1 (w.heap.size + 1) 43 #[.int .i64 0, .int .i64 0, .int .i64 0] ∧ Below w.heap.size w w1 := by
  refine ⟨_, rfl, (Blk.new w _ _).alloc _, ?_, ((Below.refl _ _).alloc (Nat.le_refl _) _).alloc (by simp) _⟩
  have h := Blk.new (w.alloc (.cells #[.int .i64 op, .int .i64 a, .int .i64 b] 43)) 43 #[.int .i64 0, .int .i64 0, .int .i64 0]
  rwa [World.size_alloc] at h
theorem Below.all3 {w0 w : World} {B g : Nat} (h : Below B w0 w) (hg : B ≤ g) (x y z : Value) : Below B w0 (((w.setCell ⟨g, 0, none⟩ x).setCell ⟨g, 1, none⟩ y).setCell ⟨g, 2, none⟩ z) :=
  ((h.setCell (p := ⟨g, 0, none⟩) hg x).setCell (p := ⟨g, 1, none⟩) hg y).setCell (p := ⟨g, 2, none⟩) hg z
set_option maxHeartbeats 1000000 in
theorem moved_0 : Calls Try.prog 20 #[.agg #[.int .i64 0, .int .i64 a, .int .i64 b], .slice A n c] w fun e w' => e = .returned (.agg #[.int .i64 0, .int .i64 a, .int .i64 b]) ∧ Below w.heap.size w w' := by
  obtain ⟨w1, hw1, K1, K2, B1⟩ := box2g a b w 0
  obtain ⟨a0, a1, a2, a3, a4, a5, a6⟩ := K1.three6
  obtain ⟨b0, b1, b2, b3, b4, b5, b6⟩ := K2.three6
  have K2 := Lib.hid K2
  have B1 := Lib.hid B1
  go_enter Try.func20, Try.ntmps20
  go_upto_region 1 with (fail)
  rw [← hw1]
  clear hw1
  go_wp2
  obtain ⟨e0, e1, e2, _, _, _, _⟩ := (K2.out.all3 (.int .i64 0) (.int .i64 a) (.int .i64 b)).three6
  exact bodyPost_ret (v := .agg #[.int .i64 0, .int .i64 a, .int .i64 b]) (by simp [results, Try.results20, go_sem, e0, e1, e2]) rfl ⟨rfl, Below.all3 B1.out (Nat.le_succ _) _ _ _⟩
set_option maxHeartbeats 1000000 in
theorem moved_1 : Calls Try.prog 20 #[.agg #[.int .i64 1, .int .i64 a, .int .i64 b], .slice A n c] w fun e w' => e = .returned (.agg #[.int .i64 1, .int .i64 a, .int .i64 b]) ∧ Below w.heap.size w w' := by
  obtain ⟨w1, hw1, K1, K2, B1⟩ := box2g a b w 1
  obtain ⟨a0, a1, a2, a3, a4, a5, a6⟩ := K1.three6
  obtain ⟨b0, b1, b2, b3, b4, b5, b6⟩ := K2.three6
  have K2 := Lib.hid K2
  have B1 := Lib.hid B1
  go_enter Try.func20, Try.ntmps20
  go_upto_region 1 with (fail)
  rw [← hw1]
  clear hw1
  go_wp2
  obtain ⟨e0, e1, e2, _, _, _, _⟩ := (K2.out.all3 (.int .i64 1) (.int .i64 a) (.int .i64 b)).three6
  exact bodyPost_ret (v := .agg #[.int .i64 1, .int .i64 a, .int .i64 b]) (by simp [results, Try.results20, go_sem, e0, e1, e2]) rfl ⟨rfl, Below.all3 B1.out (Nat.le_succ _) _ _ _⟩
set_option maxRecDepth 100000 in
set_option maxHeartbeats 1000000 in
theorem moved_2 (k : Nat) (hk : k < n) (h : Reads w w.heap.size A n (il l)) : Calls Try.prog 20 #[.agg #[.int .i64 2, .int .i64 (k : Int), .int .i64 b], .slice A n c] w fun e w' => e = .returned (.agg #[.int .i64 2, .int .i64 (ig l k), .int .i64 b]) ∧ Below w.heap.size w w' := by
  obtain ⟨w1, hw1, K1, K2, B1⟩ := box2g (k : Int) b w 2
  obtain ⟨ad, rfl, had, hc⟩ := il_at (h.later B1) hk
  generalize ig l k = x at hc ⊢
  obtain ⟨a0, a1, a2, a3, a4, a5, a6⟩ := K1.three6
  obtain ⟨b0, b1, b2, b3, b4, b5, b6⟩ := K2.three6
  have hki : (k : Int) < (n : Int) := by omega
  have K1 := Lib.hid K1
  have K2 := Lib.hid K2
  have B1 := Lib.hid B1
  clear h
  go_enter Try.func20, Try.ntmps20
  go_upto_region 1 with (fail)
  rw [← hw1]
  clear hw1
  go_upto_region 7 with (fail)
  have L1 := K1.out.set_ 1 (.int .i64 x)
  have L2 := K2.out.far (p := ⟨w.heap.size, 1, none⟩) (by show w.heap.size + 1 ≠ w.heap.size; omega) (.int .i64 x)
  have C1 := B1.out.setCell (p := ⟨w.heap.size, 1, none⟩) (Nat.le_refl _) (.int .i64 x)
  generalize w1.setCell ⟨w.heap.size, 1, none⟩ (.int .i64 x) = w2 at *
  clear a0 a1 a2 a3 a4 a5 a6 b0 b1 b2 b3 b4 b5 b6 hc
  have L1 := Lib.hid (show Blk w2 w.heap.size 43 #[.int .i64 2, .int .i64 x, .int .i64 b] from L1)
  have L2 := Lib.hid L2
  have C1 := Lib.hid C1
  obtain ⟨a0, a1, a2, a3, a4, a5, a6⟩ := L1.out.three6
  obtain ⟨b0, b1, b2, b3, b4, b5, b6⟩ := L2.out.three6
  go_wp2
  obtain ⟨e0, e1, e2, _, _, _, _⟩ := (L2.out.all3 (.int .i64 2) (.int .i64 x) (.int .i64 b)).three6
  exact bodyPost_ret (v := .agg #[.int .i64 2, .int .i64 x, .int .i64 b]) (by simp [results, Try.results20, go_sem, e0, e1, e2]) rfl ⟨rfl, Below.all3 C1.out (Nat.le_succ _) _ _ _⟩
set_option maxRecDepth 100000 in
set_option maxHeartbeats 1000000 in
theorem moved_3 (k j : Nat) (hk : k < n) (hj : j < n) (h : Reads w w.heap.size A n (il l)) : Calls Try.prog 20 #[.agg #[.int .i64 3, .int .i64 (k : Int), .int .i64 (j : Int)], .slice A n c] w fun e w' => e = .returned (.agg #[.int .i64 3, .int .i64 (ig l k), .int .i64 (ig l j)]) ∧ Below w.heap.size w w' := by
  obtain ⟨w1, hw1, K1, K2, B1⟩ := box2g (k : Int) (j : Int) w 3
  obtain ⟨ad, rfl, had, hc⟩ := il_at ((h.below B1).drew) hk
  obtain ⟨ad', had0, had', hc'⟩ := il_at ((h.below B1).drew) hj
  injection had0 with had0
  subst had0
  generalize ig l k = x at hc ⊢
  generalize ig l j = y at hc' ⊢
  have hx1 : (w1.setCell ⟨w.heap.size, 1, none⟩ (.int .i64 x)).cell? (ad.add j) = some (.int .i64 y) := by
    rw [World.cell?_setCell_other w1 _ _ _ (fun e => by have := congrArg Addr.block e; rw [block_of_add] at this; simp at this; omega)]
    exact hc'
  have K1 := Lib.hid K1
  have K2 := Lib.hid K2
  have B1 := Lib.hid B1
  obtain ⟨a0, a1, a2, a3, a4, a5, a6⟩ := K1.out.three6
  obtain ⟨b0, b1, b2, b3, b4, b5, b6⟩ := K2.out.three6
  have hki : (k : Int) < (n : Int) := by omega
  have hji : (j : Int) < (n : Int) := by omega
  clear h
  go_enter Try.func20, Try.ntmps20
  go_upto_region 1 with (fail)
  rw [← hw1]
  clear hw1
  go_upto_region 8 with (fail)
  go_region
  have L1 := ((K1.out.set_ 1 (.int .i64 x)).set_ 2 (.int .i64 y)).drew
  have L2 := ((K2.out.far (p := ⟨w.heap.size, 1, none⟩) (by show w.heap.size + 1 ≠ w.heap.size; omega) (.int .i64 x)).far (p := ⟨w.heap.size, 2, none⟩) (by show w.heap.size + 1 ≠ w.heap.size; omega) (.int .i64 y)).drew
  have C1 := ((B1.out.setCell (p := ⟨w.heap.size, 1, none⟩) (Nat.le_refl _) (.int .i64 x)).setCell (p := ⟨w.heap.size, 2, none⟩) (Nat.le_refl _) (.int .i64 y)).drew
  generalize ((w1.setCell ⟨w.heap.size, 1, none⟩ (.int .i64 x)).setCell ⟨w.heap.size, 2, none⟩ (.int .i64 y)).drew = w2 at *
  clear a0 a1 a2 a3 a4 a5 a6 b0 b1 b2 b3 b4 b5 b6 hc hc' hx1
  have L1 := Lib.hid (show Blk w2 w.heap.size 43 #[.int .i64 3, .int .i64 x, .int .i64 y] from L1)
  have L2 := Lib.hid L2
  have C1 := Lib.hid C1
  obtain ⟨a0, a1, a2, a3, a4, a5, a6⟩ := L1.out.three6
  obtain ⟨b0, b1, b2, b3, b4, b5, b6⟩ := L2.out.three6
  go_wp2
  obtain ⟨e0, e1, e2, _, _, _, _⟩ := (L2.out.all3 (.int .i64 3) (.int .i64 x) (.int .i64 y)).three6
  exact bodyPost_ret (v := .agg #[.int .i64 3, .int .i64 x, .int .i64 y]) (by simp [results, Try.results20, go_sem, e0, e1, e2]) rfl ⟨rfl, Below.all3 C1.out (Nat.le_succ _) _ _ _⟩
set_option maxRecDepth 100000 in
set_option maxHeartbeats 1000000 in
theorem moved_4 (k j : Nat) (hk : k < n) (hj : j < n) (h : Reads w w.heap.size A n (il l)) : Calls Try.prog 20 #[.agg #[.int .i64 4, .int .i64 (k : Int), .int .i64 (j : Int)], .slice A n c] w fun e w' => e = .returned (.agg #[.int .i64 4, .int .i64 (ig l k), .int .i64 (ig l j)]) ∧ Below w.heap.size w w' := by
  obtain ⟨w1, hw1, K1, K2, B1⟩ := box2g (k : Int) (j : Int) w 4
  obtain ⟨ad, rfl, had, hc⟩ := il_at ((h.below B1).drew) hk
  obtain ⟨ad', had0, had', hc'⟩ := il_at ((h.below B1).drew) hj
  injection had0 with had0
  subst had0
  generalize ig l k = x at hc ⊢
  generalize ig l j = y at hc' ⊢
  have hx1 : (w1.setCell ⟨w.heap.size, 1, none⟩ (.int .i64 x)).cell? (ad.add j) = some (.int .i64 y) := by
    rw [World.cell?_setCell_other w1 _ _ _ (fun e => by have := congrArg Addr.block e; rw [block_of_add] at this; simp at this; omega)]
    exact hc'
  have K1 := Lib.hid K1
  have K2 := Lib.hid K2
  have B1 := Lib.hid B1
  obtain ⟨a0, a1, a2, a3, a4, a5, a6⟩ := K1.out.three6
  obtain ⟨b0, b1, b2, b3, b4, b5, b6⟩ := K2.out.three6
  have hki : (k : Int) < (n : Int) := by omega
  have hji : (j : Int) < (n : Int) := by omega
  clear h
  go_enter Try.func20, Try.ntmps20
  go_upto_region 1 with (fail)
  rw [← hw1]
  clear hw1
  go_upto_region 8 with (fail)
  go_region
  have L1 := ((K1.out.set_ 1 (.int .i64 x)).set_ 2 (.int .i64 y)).drew
  have L2 := ((K2.out.far (p := ⟨w.heap.size, 1, none⟩) (by show w.heap.size + 1 ≠ w.heap.size; omega) (.int .i64 x)).far (p := ⟨w.heap.size, 2, none⟩) (by show w.heap.size + 1 ≠ w.heap.size; omega) (.int .i64 y)).drew
  have C1 := ((B1.out.setCell (p := ⟨w.heap.size, 1, none⟩) (Nat.le_refl _) (.int .i64 x)).setCell (p := ⟨w.heap.size, 2, none⟩) (Nat.le_refl _) (.int .i64 y)).drew
  generalize ((w1.setCell ⟨w.heap.size, 1, none⟩ (.int .i64 x)).setCell ⟨w.heap.size, 2, none⟩ (.int .i64 y)).drew = w2 at *
  clear a0 a1 a2 a3 a4 a5 a6 b0 b1 b2 b3 b4 b5 b6 hc hc' hx1
  have L1 := Lib.hid (show Blk w2 w.heap.size 43 #[.int .i64 4, .int .i64 x, .int .i64 y] from L1)
  have L2 := Lib.hid L2
  have C1 := Lib.hid C1
  obtain ⟨a0, a1, a2, a3, a4, a5, a6⟩ := L1.out.three6
  obtain ⟨b0, b1, b2, b3, b4, b5, b6⟩ := L2.out.three6
  go_wp2
  obtain ⟨e0, e1, e2, _, _, _, _⟩ := (L2.out.all3 (.int .i64 4) (.int .i64 x) (.int .i64 y)).three6
  exact bodyPost_ret (v := .agg #[.int .i64 4, .int .i64 x, .int .i64 y]) (by simp [results, Try.results20, go_sem, e0, e1, e2]) rfl ⟨rfl, Below.all3 C1.out (Nat.le_succ _) _ _ _⟩
set_option maxRecDepth 100000 in
set_option maxHeartbeats 1000000 in
theorem moved_5 (k j : Nat) (hk : k < n) (hj : j < n) (h : Reads w w.heap.size A n (il l)) : Calls Try.prog 20 #[.agg #[.int .i64 5, .int .i64 (k : Int), .int .i64 (j : Int)], .slice A n c] w fun e w' => e = .returned (.agg #[.int .i64 5, .int .i64 (ig l k), .int .i64 (ig l j)]) ∧ Below w.heap.size w w' := by
  obtain ⟨w1, hw1, K1, K2, B1⟩ := box2g (k : Int) (j : Int) w 5
  obtain ⟨ad, rfl, had, hc⟩ := il_at ((h.below B1).drew) hk
  obtain ⟨ad', had0, had', hc'⟩ := il_at ((h.below B1).drew) hj
  injection had0 with had0
  subst had0
  generalize ig l k = x at hc ⊢
  generalize ig l j = y at hc' ⊢
  have hx1 : (w1.setCell ⟨w.heap.size, 1, none⟩ (.int .i64 x)).cell? (ad.add j) = some (.int .i64 y) := by
    rw [World.cell?_setCell_other w1 _ _ _ (fun e => by have := congrArg Addr.block e; rw [block_of_add] at this; simp at this; omega)]
    exact hc'
  have K1 := Lib.hid K1
  have K2 := Lib.hid K2
  have B1 := Lib.hid B1
  obtain ⟨a0, a1, a2, a3, a4, a5, a6⟩ := K1.out.three6
  obtain ⟨b0, b1, b2, b3, b4, b5, b6⟩ := K2.out.three6
  have hki : (k : Int) < (n : Int) := by omega
  have hji : (j : Int) < (n : Int) := by omega
  clear h
  go_enter Try.func20, Try.ntmps20
  go_upto_region 1 with (fail)
  rw [← hw1]
  clear hw1
  go_upto_region 8 with (fail)
  go_region
  have L1 := ((K1.out.set_ 1 (.int .i64 x)).set_ 2 (.int .i64 y)).drew
  have L2 := ((K2.out.far (p := ⟨w.heap.size, 1, none⟩) (by show w.heap.size + 1 ≠ w.heap.size; omega) (.int .i64 x)).far (p := ⟨w.heap.size, 2, none⟩) (by show w.heap.size + 1 ≠ w.heap.size; omega) (.int .i64 y)).drew
  have C1 := ((B1.out.setCell (p := ⟨w.heap.size, 1, none⟩) (Nat.le_refl _) (.int .i64 x)).setCell (p := ⟨w.heap.size, 2, none⟩) (Nat.le_refl _) (.int .i64 y)).drew
  generalize ((w1.setCell ⟨w.heap.size, 1, none⟩ (.int .i64 x)).setCell ⟨w.heap.size, 2, none⟩ (.int .i64 y)).drew = w2 at *
  clear a0 a1 a2 a3 a4 a5 a6 b0 b1 b2 b3 b4 b5 b6 hc hc' hx1
  have L1 := Lib.hid (show Blk w2 w.heap.size 43 #[.int .i64 5, .int .i64 x, .int .i64 y] from L1)
  have L2 := Lib.hid L2
  have C1 := Lib.hid C1
  obtain ⟨a0, a1, a2, a3, a4, a5, a6⟩ := L1.out.three6
  obtain ⟨b0, b1, b2, b3, b4, b5, b6⟩ := L2.out.three6
  go_wp2
  obtain ⟨e0, e1, e2, _, _, _, _⟩ := (L2.out.all3 (.int .i64 5) (.int .i64 x) (.int .i64 y)).three6
  exact bodyPost_ret (v := .agg #[.int .i64 5, .int .i64 x, .int .i64 y]) (by simp [results, Try.results20, go_sem, e0, e1, e2]) rfl ⟨rfl, Below.all3 C1.out (Nat.le_succ _) _ _ _⟩
end
theorem moved_any (A : Option Addr) (n c : Nat) (l : List Int) (g : C3) (N : Int) (w : World) (h : Reads w w.heap.size A n (il l)) (hr : rg g N = true) (hN : N ≤ (n : Int)) :
    Calls Try.prog 20 #[.agg #[.int .i64 g.1, .int .i64 g.2.1, .int .i64 g.2.2], .slice A n c] w fun e w' => e = .returned (.agg #[.int .i64 (mv g l).1, .int .i64 (mv g l).2.1, .int .i64 (mv g l).2.2]) ∧ Below w.heap.size w w' := by
  obtain ⟨op, a, b⟩ := g
  by_cases h0 : op = 0
  · subst h0; exact moved_0 A n c a b w
  by_cases h1 : op = 1
  · subst h1; exact moved_1 A n c a b w
  by_cases h2 : op = 2
  · subst h2
    simp [rg, isw] at hr
    obtain ⟨k, rfl⟩ : ∃ k : Nat, a = (k : Int) := ⟨a.toNat, by omega⟩
    exact moved_2 A n c l b w k (by omega) h
  by_cases h3 : op = 3 ∨ op = 4 ∨ op = 5
  · simp [rg, h0, h1, h2, h3, isw] at hr
    obtain ⟨k, rfl⟩ : ∃ k : Nat, a = (k : Int) := ⟨a.toNat, by omega⟩
    obtain ⟨j, rfl⟩ : ∃ j : Nat, b = (j : Int) := ⟨b.toNat, by omega⟩
    have e : mv (op, (k : Int), (j : Int)) l = (op, ig l k, ig l j) := by simp [mv, h0, h1, h2]
    rw [e]
    rcases h3 with rfl | rfl | rfl
    · exact moved_3 A n c l w k j (by omega) (by omega) h
    · exact moved_4 A n c l w k j (by omega) (by omega) h
    · exact moved_5 A n c l w k j (by omega) (by omega) h
  · simp [rg, h0, h1, h2, h3] at hr
end Go.Proofs.Ytfoheeijdaknnaa
