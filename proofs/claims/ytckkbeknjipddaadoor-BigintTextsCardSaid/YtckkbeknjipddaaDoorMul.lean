/- The walk of Mul at an operand that is not valid, and of Add and Shift at the examples of the chapter. -/
import Derived.Test.YtckkbeknjipddaaDoorCmp
namespace Go.Proofs.YtckkbeknjipddaaDoor
open Go.RowKit

theorem three_boxes {w : World} {T : TypeId} {a b c d e f : Value} {w1 : World} (hb : Below (w.heap.size + 3) (((w.alloc (.cells #[a, b] T)).alloc (.cells #[c, d] T)).alloc (.cells #[e, f] T)) w1) :
    w1.cell? ⟨w.heap.size, 0, none⟩ = some a ∧ w1.cell? ⟨w.heap.size, 1, none⟩ = some b ∧ w1.cell? ⟨w.heap.size + 1, 0, none⟩ = some c ∧ w1.cell? ⟨w.heap.size + 1, 1, none⟩ = some d ∧
    w1.cell? ⟨w.heap.size + 2, 0, none⟩ = some e ∧ w1.cell? ⟨w.heap.size + 2, 1, none⟩ = some f ∧ w1.frozen? ⟨w.heap.size + 2, 0, none⟩ = false ∧ w1.frozen? ⟨w.heap.size + 2, 1, none⟩ = false ∧ w.heap.size + 2 < w1.heap.size := by
  have x1 := ((((Blk.new w T #[a, b]).alloc (.cells #[c, d] T)).alloc (.cells #[e, f] T)).below hb (by omega)).two
  have x2 := (((Blk.new (w.alloc (.cells #[a, b] T)) T #[c, d]).alloc (.cells #[e, f] T)).below hb (by simp)).two
  have x3 := ((Blk.new ((w.alloc (.cells #[a, b] T)).alloc (.cells #[c, d] T)) T #[e, f]).below hb (by simp)).two
  simp at x2 x3
  exact ⟨x1.1, x1.2.1, x2.1, x2.2.1, x3.1, x3.2.1, x3.2.2.1, x3.2.2.2.1, x3.2.2.2.2⟩
theorem bt3 (w : World) (o o' o2 : Obj) : Below w.heap.size w (((w.alloc o).alloc o').alloc o2) := (bt2 w o o').alloc (by simp; omega) _
theorem right_ok (neg : Bool) (A : Option Addr) (n c B : Nat) (xs : List Nat) (w : World) (h : Reads w B A n (u32s xs)) (hB : B ≤ w.heap.size) (hn : n ≤ 1000) (r : Bool) (hr : rightB neg xs = r) :
    ∀ W, Below w.heap.size w W → Calls Tryd.prog 20 #[.agg #[.bool neg, .slice A n c]] W fun e w' => e = .returned (.bool r) ∧ Below W.heap.size W w' := by
  intro W hW
  have := right_any neg A n c B xs W (h.below (hW.mono hB)) (Nat.le_trans hB hW.size) (by unfold maxLen; omega)
  rwa [hr] at this

set_option maxRecDepth 100000 in
set_option maxHeartbeats 1000000 in
theorem mul_bad (A1 : Option Addr) (n c1 B : Nat) (xs : List Nat) (w : World) (h1 : Reads w B A1 n (u32s xs)) (hB : B ≤ w.heap.size) (hn : n ≤ 1000) (r1 : rightB false xs = true) :
    Calls Tryd.prog 17 #[.agg #[.bool false, .slice A1 n c1], .agg #[.bool true, .slice none 0 0]] w fun e w' => e = .returned (.tuple #[.agg #[.bool false, .slice none 0 0], .int .i64 2]) ∧ Below w.heap.size w w' := by
  have Q1 := Lib.hid (right_ok false A1 n c1 B xs w h1 hB hn true r1)
  have Q2 := Lib.hid (right_ok true none 0 0 B [] w Reads.none_ hB (by omega) false rfl)
  clear r1
  go_enter Tryd.func17, Tryd.ntmps17
  go_wp2_with (first | (go_at_call 20; (with_reducible refine (Q1.out _ (bt3 _ _ _ _)).mono ?_); rintro e w1 ⟨rfl, hb1⟩; have hb1' := hb1.mono (show w.heap.size + 3 ≤ _ by simp); obtain ⟨bx0, bx1, bx2, bx3, bx4, bx5, bx6, bx7, bx8⟩ := three_boxes hb1') | (go_at_call 20; (with_reducible refine (Q2.out w1 ((bt3 _ _ _ _).trans (hb1.mono (by simp; omega)))).mono ?_); rintro e w2 ⟨rfl, hb2⟩; have hb2' := hb1'.trans (hb2.mono (show w.heap.size + 3 ≤ _ by omega)); obtain ⟨by0, by1, by2, by3, by4, by5, by6, by7, by8⟩ := three_boxes hb2'))
  refine bodyPost_ret (v := .tuple #[.agg #[.bool false, .slice none 0 0], .int .i64 2]) (by simp [results, Tryd.results17, go_sem, by8, by4, by5]) rfl ⟨rfl, ?_⟩
  have h0 : Below w.heap.size w w2 := (bt3 _ _ _ _).trans (hb2'.mono (by omega))
  exact (h0.setCell (p := ⟨w.heap.size + 2, 0, none⟩) (by simp) _).setCell (p := ⟨w.heap.size + 2, 1, none⟩) (by simp) _

end Go.Proofs.YtckkbeknjipddaaDoor
