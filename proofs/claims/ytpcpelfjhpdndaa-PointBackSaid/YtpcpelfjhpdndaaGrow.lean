/- The walk of Grow at a valid box. -/
import Derived.Test.YtpcpelfjhpdndaaGeo
namespace Go.Proofs.Ytpcpelfjhpdndaa
open Go.RowKit

theorem Blk.four8 {w : World} {g : Nat} {t : TypeId} {a b c d : Value} (h : Blk w g t #[a, b, c, d]) : w.cell? ⟨g, 0, none⟩ = some a ∧ w.cell? ⟨g, 1, none⟩ = some b ∧ w.cell? ⟨g, 2, none⟩ = some c ∧ w.cell? ⟨g, 3, none⟩ = some d ∧ g < w.heap.size ∧
    w.frozen? ⟨g, 0, none⟩ = false ∧ w.frozen? ⟨g, 1, none⟩ = false ∧ w.frozen? ⟨g, 2, none⟩ = false ∧ w.frozen? ⟨g, 3, none⟩ = false :=
  ⟨h.four.1, h.four.2.1, h.four.2.2.1, h.four.2.2.2.1, h.lt, h.frozen 0, h.frozen 1, h.frozen 2, h.frozen 3⟩

/-- a box's four cells, stored one after the other -/
def put4 (w : World) (g : Nat) (a b c d : Value) : World := (((w.setCell ⟨g, 0, none⟩ a).setCell ⟨g, 1, none⟩ b).setCell ⟨g, 2, none⟩ c).setCell ⟨g, 3, none⟩ d
theorem Blk.put4 {w : World} {g : Nat} {t : TypeId} {a b c d a' b' c' d' : Value} (h : Blk w g t #[a', b', c', d']) : Blk (put4 w g a b c d) g t #[a, b, c, d] := by
  have := (((h.set_ 0 a).set_ 1 b).set_ 2 c).set_ 3 d
  simpa [Go.Proofs.Ytpcpelfjhpdndaa.put4] using this
theorem Below.put4 {B : Nat} {w0 w : World} {g : Nat} {a b c d : Value} (h : Below B w0 w) (hg : B ≤ g) : Below B w0 (put4 w g a b c d) :=
  (((h.setCell (p := ⟨g, 0, none⟩) hg a).setCell (p := ⟨g, 1, none⟩) hg b).setCell (p := ⟨g, 2, none⟩) hg c).setCell (p := ⟨g, 3, none⟩) hg d

theorem two_blks (w : World) (c1 c2 : Array Value) (t1 t2 : TypeId) :
    Blk ((w.alloc (.cells c1 t1)).alloc (.cells c2 t2)) w.heap.size t1 c1 ∧ Blk ((w.alloc (.cells c1 t1)).alloc (.cells c2 t2)) (w.heap.size + 1) t2 c2 ∧
    Below w.heap.size w ((w.alloc (.cells c1 t1)).alloc (.cells c2 t2)) ∧ ((w.alloc (.cells c1 t1)).alloc (.cells c2 t2)).heap.size = w.heap.size + 2 := by
  have s1 : (w.alloc (.cells c1 t1)).heap.size = w.heap.size + 1 := by simp
  have h2 := Blk.new (w.alloc (.cells c1 t1)) t2 c2
  rw [s1] at h2
  exact ⟨(Blk.new w t1 c1).alloc _, h2, ((Below.refl _ _).alloc (Nat.le_refl _) _).alloc (by omega) _, by simp⟩

section
variable (x y n m k : Int) (w : World)
set_option maxRecDepth 100000 in
set_option maxHeartbeats 1000000 in
theorem grow_yes (h : Ok x y n m) (h1 : -1048576 ≤ k) (h2 : k ≤ 1048576) (hg : Ok (x - k) (y - k) (n + 2 * k) (m + 2 * k)) :
    Calls Try.prog 8 #[.agg #[.int .i64 x, .int .i64 y, .int .i64 n, .int .i64 m], .int .i64 k] w fun e w' => e = .returned (.tuple #[.agg #[.int .i64 (x - k), .int .i64 (y - k), .int .i64 (n + 2 * k), .int .i64 (m + 2 * k)], .int .i64 0]) ∧ Below w.heap.size w w' := by
  have R1 := Lib.hid (fun w => right_yes x y n m w h)
  have R2 := Lib.hid (fun w => right_yes (x - k) (y - k) (n + 2 * k) (m + 2 * k) w hg)
  obtain ⟨⟨a1, a2, a3, a4⟩, a5, a6, a7, a8⟩ := h
  obtain ⟨⟨b1, b2, b3, b4⟩, b5, b6, b7, b8⟩ := hg
  obtain ⟨K2, K4, B4, S4⟩ := two_blks w #[.int .i64 x, .int .i64 y, .int .i64 n, .int .i64 m] #[.int .i64 0, .int .i64 0, .int .i64 0, .int .i64 0] 23 23
  have K2 := Lib.hid K2
  have K4 := Lib.hid K4
  have B4 := Lib.hid B4
  have S4 := Lib.hid S4
  go_enter Try.func8, Try.ntmps8
  go_wp2_with (first
    | (go_at_call 15; (with_reducible refine (R1.out _).mono ?_); rintro e w1 ⟨rfl, hb⟩; have L2 := K2.out.below hb K2.out.lt; have L4 := Lib.hid (K4.out.below hb K4.out.lt); have B1 := Lib.hid (B4.out.trans (hb.mono B4.out.size)); obtain ⟨c0, c1, c2, c3, c4⟩ := L2.four; clear hb L2)
    | (go_at_call 15; (with_reducible refine (R2.out _).mono ?_); rintro e w2 ⟨rfl, hb⟩; have n6 := Blk.new w1 23 #[.int .i64 (x - k), .int .i64 (y - k), .int .i64 (n + 2 * k), .int .i64 (m + 2 * k)]; have M6 := n6.below hb n6.lt; have n4 := L4.out.alloc (.cells #[.int .i64 (x - k), .int .i64 (y - k), .int .i64 (n + 2 * k), .int .i64 (m + 2 * k)] 23); have M4 := n4.below hb n4.lt; have B2 := Lib.hid ((B1.out.alloc B1.out.size (.cells #[.int .i64 (x - k), .int .i64 (y - k), .int .i64 (n + 2 * k), .int .i64 (m + 2 * k)] 23)).trans (hb.mono (Nat.le_trans B1.out.size (by simp)))); have N4 := Lib.hid M4; obtain ⟨d0, d1, d2, d3, d4⟩ := M6.four; obtain ⟨e0, e1, e2, e3, e4, e5, e6, e7, e8⟩ := M4.four8; clear hb n6 n4 M6 M4))
  have E := Blk.put4 (a := .int .i64 (x - k)) (b := .int .i64 (y - k)) (c := .int .i64 (n + 2 * k)) (d := .int .i64 (m + 2 * k)) N4.out
  have HZ := Below.put4 (a := .int .i64 (x - k)) (b := .int .i64 (y - k)) (c := .int .i64 (n + 2 * k)) (d := .int .i64 (m + 2 * k)) B2.out (Nat.le_succ w.heap.size)
  change bodyPost _ _ _ _ _ (put4 w2 (w.heap.size + 1) (.int .i64 (x - k)) (.int .i64 (y - k)) (.int .i64 (n + 2 * k)) (.int .i64 (m + 2 * k)))
  generalize put4 w2 (w.heap.size + 1) (.int .i64 (x - k)) (.int .i64 (y - k)) (.int .i64 (n + 2 * k)) (.int .i64 (m + 2 * k)) = wz at E HZ ⊢
  obtain ⟨j0, j1, j2, j3, j4⟩ := E.four
  refine bodyPost_ret (v := .tuple #[.agg #[.int .i64 (x - k), .int .i64 (y - k), .int .i64 (n + 2 * k), .int .i64 (m + 2 * k)], .int .i64 0]) (by simp [results, Try.results8, go_sem, j0, j1, j2, j3, j4]) rfl ⟨rfl, HZ⟩
end
end Go.Proofs.Ytpcpelfjhpdndaa
