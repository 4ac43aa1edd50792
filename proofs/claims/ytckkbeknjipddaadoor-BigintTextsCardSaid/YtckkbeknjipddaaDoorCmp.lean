/- The walks of Compare and Mul at the examples of the chapter. -/
import Derived.Test.YtckkbeknjipddaaDoorFrom
namespace Go.Proofs.YtckkbeknjipddaaDoor
open Go.RowKit

theorem two_boxes {w : World} {T : TypeId} {a b c d : Value} {w1 : World} (hb : Below (w.heap.size + 2) ((w.alloc (.cells #[a, b] T)).alloc (.cells #[c, d] T)) w1) :
    w1.cell? ⟨w.heap.size, 0, none⟩ = some a ∧ w1.cell? ⟨w.heap.size, 1, none⟩ = some b ∧ w1.cell? ⟨w.heap.size + 1, 0, none⟩ = some c ∧ w1.cell? ⟨w.heap.size + 1, 1, none⟩ = some d ∧ w.heap.size + 1 < w1.heap.size := by
  have x1 := (((Blk.new w T #[a, b]).alloc (.cells #[c, d] T)).below hb (by omega)).two
  have x2 := ((Blk.new (w.alloc (.cells #[a, b] T)) T #[c, d]).below hb (by simp)).two
  simp at x2
  exact ⟨x1.1, x1.2.1, x2.1, x2.2.1, x2.2.2.2.2⟩
theorem bt2 (w : World) (o o' : Obj) : Below w.heap.size w ((w.alloc o).alloc o') := ((Below.refl _ _).alloc (Nat.le_refl _) _).alloc (by simp) _

set_option maxRecDepth 100000 in
set_option maxHeartbeats 1000000 in
theorem cmp_neg_neg (A1 A2 : Option Addr) (n m c1 c2 B : Nat) (xs ys : List Nat) (w : World) (h1 : Reads w B A1 n (u32s xs)) (h2 : Reads w B A2 m (u32s ys)) (hB : B ≤ w.heap.size) (hn : n ≤ 1000) (hm : m ≤ 1000)
    (r1 : rightB true xs = true) (r2 : rightB true ys = true) (hlen : n < m) :
    Calls Tryd.prog 18 #[.agg #[.bool true, .slice A1 n c1], .agg #[.bool true, .slice A2 m c2]] w fun e w' => e = .returned (.int .i64 1) ∧ Below w.heap.size w w' := by
  have q1 : ∀ W, Below w.heap.size w W → Calls Tryd.prog 20 #[.agg #[.bool true, .slice A1 n c1]] W fun e w' => e = .returned (.bool true) ∧ Below W.heap.size W w' := by
    intro W hW
    have := right_any true A1 n c1 B xs W (h1.below (hW.mono hB)) (Nat.le_trans hB hW.size) (by unfold maxLen; omega)
    rwa [r1] at this
  have q2 : ∀ W, Below w.heap.size w W → Calls Tryd.prog 20 #[.agg #[.bool true, .slice A2 m c2]] W fun e w' => e = .returned (.bool true) ∧ Below W.heap.size W w' := by
    intro W hW
    have := right_any true A2 m c2 B ys W (h2.below (hW.mono hB)) (Nat.le_trans hB hW.size) (by unfold maxLen; omega)
    rwa [r2] at this
  have Q1 := Lib.hid q1
  have Q2 := Lib.hid q2
  clear q1 q2 r1 r2
  go_enter Tryd.func18, Tryd.ntmps18
  go_wp2_with (first | (go_at_call 20; (with_reducible refine (Q1.out _ (bt2 _ _ _)).mono ?_); rintro e w1 ⟨rfl, hb1⟩; have hb1' := hb1.mono (show w.heap.size + 2 ≤ _ by simp); obtain ⟨bx0, bx1, bx2, bx3, bx4⟩ := two_boxes hb1') | (go_at_call 20; (with_reducible refine (Q2.out w1 ((bt2 _ _ _).trans (hb1.mono (by simp; omega)))).mono ?_); rintro e w2 ⟨rfl, hb2⟩; have hb2' := hb1'.trans (hb2.mono (show w.heap.size + 2 ≤ _ by omega)); obtain ⟨by0, by1, by2, by3, by4⟩ := two_boxes hb2') | (go_at_call 36; (with_reducible refine (compare_len _ _ _ _ _ _ _ hlen hm).mono ?_); rintro e w' ⟨rfl, rfl⟩))
  go_ret
  exact ⟨rfl, (bt2 _ _ _).trans (hb2'.mono (by omega))⟩
set_option maxRecDepth 100000 in
set_option maxHeartbeats 1000000 in
theorem cmp_neg_pos (A1 A2 : Option Addr) (n m c1 c2 B : Nat) (xs ys : List Nat) (w : World) (h1 : Reads w B A1 n (u32s xs)) (h2 : Reads w B A2 m (u32s ys)) (hB : B ≤ w.heap.size) (hn : n ≤ 1000) (hm : m ≤ 1000)
    (r1 : rightB true xs = true) (r2 : rightB false ys = true) :
    Calls Tryd.prog 18 #[.agg #[.bool true, .slice A1 n c1], .agg #[.bool false, .slice A2 m c2]] w fun e w' => e = .returned (.int .i64 (-1)) ∧ Below w.heap.size w w' := by
  have q1 : ∀ W, Below w.heap.size w W → Calls Tryd.prog 20 #[.agg #[.bool true, .slice A1 n c1]] W fun e w' => e = .returned (.bool true) ∧ Below W.heap.size W w' := by
    intro W hW
    have := right_any true A1 n c1 B xs W (h1.below (hW.mono hB)) (Nat.le_trans hB hW.size) (by unfold maxLen; omega)
    rwa [r1] at this
  have q2 : ∀ W, Below w.heap.size w W → Calls Tryd.prog 20 #[.agg #[.bool false, .slice A2 m c2]] W fun e w' => e = .returned (.bool true) ∧ Below W.heap.size W w' := by
    intro W hW
    have := right_any false A2 m c2 B ys W (h2.below (hW.mono hB)) (Nat.le_trans hB hW.size) (by unfold maxLen; omega)
    rwa [r2] at this
  have Q1 := Lib.hid q1
  have Q2 := Lib.hid q2
  clear q1 q2 r1 r2
  go_enter Tryd.func18, Tryd.ntmps18
  go_wp2_with (first | (go_at_call 20; (with_reducible refine (Q1.out _ (bt2 _ _ _)).mono ?_); rintro e w1 ⟨rfl, hb1⟩; have hb1' := hb1.mono (show w.heap.size + 2 ≤ _ by simp); obtain ⟨bx0, bx1, bx2, bx3, bx4⟩ := two_boxes hb1') | (go_at_call 20; (with_reducible refine (Q2.out w1 ((bt2 _ _ _).trans (hb1.mono (by simp; omega)))).mono ?_); rintro e w2 ⟨rfl, hb2⟩; have hb2' := hb1'.trans (hb2.mono (show w.heap.size + 2 ≤ _ by omega)); obtain ⟨by0, by1, by2, by3, by4⟩ := two_boxes hb2'))
  go_ret
  exact ⟨rfl, (bt2 _ _ _).trans (hb2'.mono (by omega))⟩
set_option maxRecDepth 100000 in
set_option maxHeartbeats 1000000 in
theorem cmp_pos_pos (A1 A2 : Option Addr) (n m c1 c2 B : Nat) (xs ys : List Nat) (w : World) (h1 : Reads w B A1 n (u32s xs)) (h2 : Reads w B A2 m (u32s ys)) (hB : B ≤ w.heap.size) (hn : n ≤ 1000) (hm : m ≤ 1000)
    (r1 : rightB false xs = true) (r2 : rightB false ys = true) (hlen : m < n) :
    Calls Tryd.prog 18 #[.agg #[.bool false, .slice A1 n c1], .agg #[.bool false, .slice A2 m c2]] w fun e w' => e = .returned (.int .i64 1) ∧ Below w.heap.size w w' := by
  have q1 : ∀ W, Below w.heap.size w W → Calls Tryd.prog 20 #[.agg #[.bool false, .slice A1 n c1]] W fun e w' => e = .returned (.bool true) ∧ Below W.heap.size W w' := by
    intro W hW
    have := right_any false A1 n c1 B xs W (h1.below (hW.mono hB)) (Nat.le_trans hB hW.size) (by unfold maxLen; omega)
    rwa [r1] at this
  have q2 : ∀ W, Below w.heap.size w W → Calls Tryd.prog 20 #[.agg #[.bool false, .slice A2 m c2]] W fun e w' => e = .returned (.bool true) ∧ Below W.heap.size W w' := by
    intro W hW
    have := right_any false A2 m c2 B ys W (h2.below (hW.mono hB)) (Nat.le_trans hB hW.size) (by unfold maxLen; omega)
    rwa [r2] at this
  have Q1 := Lib.hid q1
  have Q2 := Lib.hid q2
  clear q1 q2 r1 r2
  go_enter Tryd.func18, Tryd.ntmps18
  go_wp2_with (first | (go_at_call 20; (with_reducible refine (Q1.out _ (bt2 _ _ _)).mono ?_); rintro e w1 ⟨rfl, hb1⟩; have hb1' := hb1.mono (show w.heap.size + 2 ≤ _ by simp); obtain ⟨bx0, bx1, bx2, bx3, bx4⟩ := two_boxes hb1') | (go_at_call 20; (with_reducible refine (Q2.out w1 ((bt2 _ _ _).trans (hb1.mono (by simp; omega)))).mono ?_); rintro e w2 ⟨rfl, hb2⟩; have hb2' := hb1'.trans (hb2.mono (show w.heap.size + 2 ≤ _ by omega)); obtain ⟨by0, by1, by2, by3, by4⟩ := two_boxes hb2') | (go_at_call 36; (with_reducible refine (compare_len _ _ _ _ _ _ _ hlen hn).mono ?_); rintro e w' ⟨rfl, rfl⟩))
  go_ret
  exact ⟨rfl, (bt2 _ _ _).trans (hb2'.mono (by omega))⟩

end Go.Proofs.YtckkbeknjipddaaDoor
