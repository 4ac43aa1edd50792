/- The walk of the chapter's examples, in one piece. -/
import Derived.Test.YtpcpelfjhpdndaaAwake
import Derived.Deep.RegionHeld3
namespace Go.Proofs.Ytpcpelfjhpdndaa
open Go.RowKit

theorem Wd.start (w : World) : Wd w [] w := ⟨Below.refl _ _, fun x hx => (by cases hx), by simp⟩
theorem Wd.drew {w0 w : World} {A : Blocks} (h : Wd w0 A w) : Wd w0 A w.drew := ⟨h.low.drew, h.blk, h.apart⟩
theorem Wd.new2 {w0 w : World} {A : Blocks} (h : Wd w0 A w) (t1 t2 : TypeId) (c1 c2 : Array Value) : Wd w0 ((w.heap.size + 1, t2, c2) :: (w.heap.size, t1, c1) :: A) ((w.alloc (.cells c1 t1)).alloc (.cells c2 t2)) := by
  have h2 := (h.new t1 c1).new t2 c2
  rw [show (w.alloc (.cells c1 t1)).heap.size = w.heap.size + 1 by simp] at h2
  exact h2
theorem Wd.four {w0 w : World} {A : Blocks} (h : Wd w0 A w) {g : Nat} {t : TypeId} {a b c d : Value} (hm : (g, t, #[a, b, c, d]) ∈ A) : w.cell? ⟨g, 0, none⟩ = some a ∧ w.cell? ⟨g, 1, none⟩ = some b ∧ w.cell? ⟨g, 2, none⟩ = some c ∧ w.cell? ⟨g, 3, none⟩ = some d ∧ g < w.heap.size :=
  (h.blk _ hm).1.four

abbrev boxA : Array Value := #[.int .i64 0, .int .i64 0, .int .i64 4, .int .i64 4]
abbrev boxB : Array Value := #[.int .i64 2, .int .i64 3, .int .i64 5, .int .i64 5]
abbrev boxM : Array Value := #[.int .i64 2, .int .i64 3, .int .i64 2, .int .i64 1]
abbrev boxG : Array Value := #[.int .i64 (-1), .int .i64 (-1), .int .i64 5, .int .i64 3]
abbrev boxZ : Array Value := #[.int .i64 0, .int .i64 0, .int .i64 0, .int .i64 0]
abbrev lit3 : Array Value := #[.int .i64 2, .int .i64 1, .int .i64 5, .int .i64 0, .int .i64 2, .int .i64 1]
abbrev lit4 : Array Value := #[.int .i64 1, .int .i64 2, .int .i64 2, .int .i64 2, .int .i64 1, .int .i64 3, .int .i64 2, .int .i64 3]
abbrev lit2 : Array Value := #[.int .i64 5, .int .i64 0, .int .i64 2, .int .i64 1]
theorem lit3_at (w : World) (o : Obj) (t : TypeId) : Row6 ((w.alloc o).alloc (.cells lit3 t)) (w.heap.size + 1) 2 1 5 0 2 1 := by
  have h := lit3_row (w.alloc o) t 2 1 5 0 2 1
  rw [show (w.alloc o).heap.size = w.heap.size + 1 by simp] at h
  exact h
theorem Row6.later {w w' : World} {g : Nat} {a b c d e f : Int} (h : Row6 w g a b c d e f) (hb : Below w.heap.size w w') : Row6 w' g a b c d e f := h.below hb h.1
abbrev boxL : Array Value := #[.int .i64 1, .int .i64 2, .int .i64 2, .int .i64 2]

set_option maxRecDepth 100000 in
set_option maxHeartbeats 4000000 in
theorem awake_any (w : World) :
    Calls Try.prog 5 #[] w fun e w' => e = .returned (.bool true) ∧ Below w.heap.size w w' := by
  go_enter Try.func5, Try.ntmps5
  go_wp2_with (first
    | (go_at_call 6; (with_reducible refine (aw_points _).mono ?_); rintro e w1 ⟨g, rfl, hp, hb⟩; have B0 := Lib.hid hb; have P1 := Lib.hid hp; have W1 := Lib.hid (Wd.start w1); clear hp hb)
    | (go_at_call 10; (with_reducible refine (meet_ex _).mono ?_); rintro e w2 ⟨rfl, hb⟩; have W2 := Lib.hid ((W1.out.new2 23 23 boxA boxB).later hb); clear hb)
    | (go_at_call 8; (with_reducible refine (aw_grow _).mono ?_); rintro e w3 ⟨rfl, hb⟩; have W3 := Lib.hid ((W2.out.new 23 boxM).later hb); clear hb)
    | (go_at_call 8; (with_reducible refine (aw_small _).mono ?_); rintro e w4 ⟨rfl, hb⟩; have W4 := Lib.hid ((W3.out.new 23 boxG).later hb); clear hb)
    | (go_at_call 7; (with_reducible refine (aw_around _ g 4 ((P1.out.below (W4.out.new 23 boxZ).low).more (W4.out.new 23 boxZ).low.size)).mono ?_); rintro e w5 ⟨rfl, hb⟩; have W5 := Lib.hid ((W4.out.new 23 boxZ).later hb); clear hb)
    | (go_at_call 11; (with_reducible refine (sort_ex _ _ _ (lit3_at w5 _ 36)).mono ?_); rintro e w6 ⟨g', c', rfl, hr, hb⟩; have W6 := Lib.hid ((W5.out.new2 23 36 boxL lit3).later hb); have R6 := Lib.hid hr; clear hr hb))
  have S1 := Lib.hid (show Calls Try.prog 12 #[.slice (some ⟨g, 0, none⟩) 4 4, .slice (some ⟨w6.heap.size, 0, none⟩) 4 4] (w6.alloc (.cells lit4 36)).drew (fun e w' => e = .returned (.bool true) ∧ Below (w6.alloc (.cells lit4 36)).drew.heap.size (w6.alloc (.cells lit4 36)).drew w')
    from same_yes g w6.heap.size 4 4 4 (fn4 [(1, 2), (2, 2), (1, 3), (2, 3)]) (w6.alloc (.cells lit4 36)).drew (pts_fn4 _ ((P1.out.below (W6.out.new 36 lit4).low).more (W6.out.new 36 lit4).low.size)) (lit4_reads w6 36 1 2 2 2 1 3 2 3) (by decide))
  have KP := Lib.hid (show ∀ w', Below w6.heap.size w6 w' → w'.cell? ⟨w2.heap.size, 0, none⟩ = some (.int .i64 2) ∧ w'.cell? ⟨w2.heap.size, 1, none⟩ = some (.int .i64 3) ∧ w'.cell? ⟨w2.heap.size, 2, none⟩ = some (.int .i64 2) ∧ w'.cell? ⟨w2.heap.size, 3, none⟩ = some (.int .i64 1) ∧ w'.cell? ⟨w1.heap.size, 0, none⟩ = some (.int .i64 0) ∧ w'.cell? ⟨w1.heap.size, 1, none⟩ = some (.int .i64 0) ∧ w'.cell? ⟨w1.heap.size, 2, none⟩ = some (.int .i64 4) ∧ w'.cell? ⟨w1.heap.size, 3, none⟩ = some (.int .i64 4) ∧ w'.cell? ⟨(w1.heap.size + 1), 0, none⟩ = some (.int .i64 2) ∧ w'.cell? ⟨(w1.heap.size + 1), 1, none⟩ = some (.int .i64 3) ∧ w'.cell? ⟨(w1.heap.size + 1), 2, none⟩ = some (.int .i64 5) ∧ w'.cell? ⟨(w1.heap.size + 1), 3, none⟩ = some (.int .i64 5) ∧ w'.cell? ⟨w3.heap.size, 0, none⟩ = some (.int .i64 (-1)) ∧ w'.cell? ⟨w3.heap.size, 1, none⟩ = some (.int .i64 (-1)) ∧ w'.cell? ⟨w3.heap.size, 2, none⟩ = some (.int .i64 5) ∧ w'.cell? ⟨w3.heap.size, 3, none⟩ = some (.int .i64 3) ∧ w'.cell? ⟨w5.heap.size, 0, none⟩ = some (.int .i64 1) ∧ w'.cell? ⟨w5.heap.size, 1, none⟩ = some (.int .i64 2) ∧ w'.cell? ⟨w5.heap.size, 2, none⟩ = some (.int .i64 2) ∧ w'.cell? ⟨w5.heap.size, 3, none⟩ = some (.int .i64 2) ∧ w'.cell? ⟨g', 0, none⟩ = some (.int .i64 5) ∧ w'.cell? ⟨g', 1, none⟩ = some (.int .i64 0) ∧ w'.cell? ⟨g', 2, none⟩ = some (.int .i64 2) ∧ w'.cell? ⟨g', 3, none⟩ = some (.int .i64 1) from fun w' hb => by
    have V := W6.out.later hb
    have R := R6.out.later hb
    obtain ⟨m0, m1, m2, m3, _⟩ := V.four (List.mem_of_getElem? (i := 4) rfl)
    obtain ⟨a0, a1, a2, a3, _⟩ := V.four (List.mem_of_getElem? (i := 6) rfl)
    obtain ⟨b0, b1, b2, b3, _⟩ := V.four (List.mem_of_getElem? (i := 5) rfl)
    obtain ⟨g0, g1, g2, g3, _⟩ := V.four (List.mem_of_getElem? (i := 3) rfl)
    obtain ⟨l0, l1, l2, l3, _⟩ := V.four (List.mem_of_getElem? (i := 1) rfl)
    exact ⟨m0, m1, m2, m3, a0, a1, a2, a3, b0, b1, b2, b3, g0, g1, g2, g3, l0, l1, l2, l3, R.2.2.1, R.2.2.2.1, R.2.2.2.2.1, R.2.2.2.2.2.1⟩)
  have Z0 := Lib.hid (show Below w6.heap.size w6 (w6.alloc (.cells lit4 36)).drew from ((Below.refl _ _).alloc (Nat.le_refl _) _).drew)
  have R6' := Lib.hid (show Row6 w6 g' 5 0 2 1 0 0 from R6.out)
  simp only [List.append_eq, List.cons_append, List.nil_append]
  go_region_held3 (fun w' => w'.cell? ⟨w2.heap.size, 0, none⟩ = some (.int .i64 2) ∧ w'.cell? ⟨w2.heap.size, 1, none⟩ = some (.int .i64 3) ∧ w'.cell? ⟨w2.heap.size, 2, none⟩ = some (.int .i64 2) ∧ w'.cell? ⟨w2.heap.size, 3, none⟩ = some (.int .i64 1) ∧ w'.cell? ⟨w1.heap.size, 0, none⟩ = some (.int .i64 0) ∧ w'.cell? ⟨w1.heap.size, 1, none⟩ = some (.int .i64 0) ∧ w'.cell? ⟨w1.heap.size, 2, none⟩ = some (.int .i64 4) ∧ w'.cell? ⟨w1.heap.size, 3, none⟩ = some (.int .i64 4) ∧ w'.cell? ⟨(w1.heap.size + 1), 0, none⟩ = some (.int .i64 2) ∧ w'.cell? ⟨(w1.heap.size + 1), 1, none⟩ = some (.int .i64 3) ∧ w'.cell? ⟨(w1.heap.size + 1), 2, none⟩ = some (.int .i64 5) ∧ w'.cell? ⟨(w1.heap.size + 1), 3, none⟩ = some (.int .i64 5) ∧ w'.cell? ⟨w3.heap.size, 0, none⟩ = some (.int .i64 (-1)) ∧ w'.cell? ⟨w3.heap.size, 1, none⟩ = some (.int .i64 (-1)) ∧ w'.cell? ⟨w3.heap.size, 2, none⟩ = some (.int .i64 5) ∧ w'.cell? ⟨w3.heap.size, 3, none⟩ = some (.int .i64 3) ∧ w'.cell? ⟨w5.heap.size, 0, none⟩ = some (.int .i64 1) ∧ w'.cell? ⟨w5.heap.size, 1, none⟩ = some (.int .i64 2) ∧ w'.cell? ⟨w5.heap.size, 2, none⟩ = some (.int .i64 2) ∧ w'.cell? ⟨w5.heap.size, 3, none⟩ = some (.int .i64 2) ∧ w'.cell? ⟨g', 0, none⟩ = some (.int .i64 5) ∧ w'.cell? ⟨g', 1, none⟩ = some (.int .i64 0) ∧ w'.cell? ⟨g', 2, none⟩ = some (.int .i64 2) ∧ w'.cell? ⟨g', 3, none⟩ = some (.int .i64 1))
    (first | exact KP.out _ (Below.refl _ _).drew | exact KP.out _ Z0.out | exact KP.out _ Z7.out | exact KP.out _ Z8.out | exact KP.out _ (Z8.out.alloc Z8.out.size _) | exact KP.out _ Z9.out | exact KP.out _ Z10.out | exact KP.out _ Z11.out | exact KP.out _ Z12.out | go_keep)
    (first
    | (go_at_call 12; (with_reducible refine S1.out.mono ?_); rintro e w7 ⟨rfl, hb⟩; have Z7 := Lib.hid (Z0.out.trans (hb.mono Z0.out.size)); clear hb)
    | (go_at_call 13; (with_reducible refine (join_ex _).mono ?_); rintro e w8 ⟨rfl, hb⟩; have Z8 := Lib.hid (Z7.out.trans (hb.mono Z7.out.size)); clear hb)
    | (go_at_call 12; (with_reducible refine (same_yes g' w8.heap.size c' 2 2 (fn4 [(5, 0), (2, 1)]) (w8.alloc (.cells lit2 36)) (row_reads _ g' 5 0 2 1 0 0 ((R6'.out.later Z8.out).alloc _)) (lit2_reads w8 36 5 0 2 1) (by decide)).mono ?_); rintro e w9 ⟨rfl, hb⟩; have Z9 := Lib.hid ((Z8.out.alloc Z8.out.size (.cells lit2 36)).trans (hb.mono (Z8.out.alloc Z8.out.size (.cells lit2 36)).size)); clear hb)
    | (go_at_call 14; (with_reducible refine (compare_less _).mono ?_); rintro e w10 ⟨rfl, hb⟩; have Z10 := Lib.hid (Z9.out.trans (hb.mono Z9.out.size)); clear hb)
    | (go_at_call 15; (with_reducible refine (aw_right _).mono ?_); rintro e w11 ⟨rfl, hb⟩; have Z11 := Lib.hid (Z10.out.trans (hb.mono Z10.out.size)); clear hb)
    | (go_at_call 16; (with_reducible refine (in_ex _).mono ?_); rintro e w12 ⟨rfl, hb⟩; have Z12 := Lib.hid (Z11.out.trans (hb.mono Z11.out.size)); clear hb))
  all_goals go_wp2
  all_goals trace_state
  all_goals go_ret
  all_goals exact ⟨rfl, B0.out.trans (W6.out.low.trans (Z12.out.mono W6.out.low.size) |>.mono B0.out.size)⟩
end Go.Proofs.Ytpcpelfjhpdndaa
