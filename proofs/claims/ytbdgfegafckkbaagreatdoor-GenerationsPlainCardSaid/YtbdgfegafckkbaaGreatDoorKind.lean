/- The walks of offsets, letterOf and known: which of the usual neighbourhoods a list is. -/
import Derived.Test.YtbdgfegafckkbaaGreatDoorRef
import Derived.Test.YtbdgfegafckkbaaGreatDoorEq
import Derived.Test.YtbdgfegafckkbaaGreatDoorStr
import Derived.Test.YtbdgfegafckkbaaGreatDoorArr
namespace Go.Proofs.YtbdgfegafckkbaaGreatDoor
open Go.RowKit

/-- the end of a notation that stands for a usual neighbourhood -/
def lt (k : Nat) : List UInt8 := if k = 1 then [86] else if k = 2 then [72] else []
theorem offsets0 (w : World) : Calls Tryz.prog 35 #[.string (tx [])] w fun e w' => ∃ A c, e = .returned (.slice A 9 c) ∧ QReads w' w'.heap.size A 9 (lf M1) ∧ Below w.heap.size w w' := by
  have C := Lib.hid (moore1 w)
  unfold tx
  go_enter Tryz.func35, Tryz.ntmps35
  go_wp2_with (go_at_call 45; (with_reducible refine C.out.mono ?_); rintro e w' ⟨A, c, rfl, hr, hb⟩; have R := Lib.hid hr; have HB := Lib.hid hb; clear hr hb)
  go_ret
  exact ⟨A, c, rfl, R.out, HB.out⟩
theorem offsets1 (w : World) : Calls Tryz.prog 35 #[.string (tx [86])] w fun e w' => ∃ A c, e = .returned (.slice A 5 c) ∧ QReads w' w'.heap.size A 5 (lf N1) ∧ Below w.heap.size w w' := by
  have C := Lib.hid (neumann1 w)
  unfold tx
  go_enter Tryz.func35, Tryz.ntmps35
  go_wp2_with (go_at_call 46; (with_reducible refine C.out.mono ?_); rintro e w' ⟨A, c, rfl, hr, hb⟩; have R := Lib.hid hr; have HB := Lib.hid hb; clear hr hb)
  go_ret
  exact ⟨A, c, rfl, R.out, HB.out⟩
theorem offsets2 (w : World) : Calls Tryz.prog 35 #[.string (tx [72])] w fun e w' => ∃ A c, e = .returned (.slice A 7 c) ∧ QReads w' w'.heap.size A 7 (lf HX) ∧ Below w.heap.size w w' := by
  have C := Lib.hid (hex_any w)
  unfold tx
  go_enter Tryz.func35, Tryz.ntmps35
  go_wp2_with (go_at_call 47; (with_reducible refine C.out.mono ?_); rintro e w' ⟨A, c, rfl, hr, hb⟩; have R := Lib.hid hr; have HB := Lib.hid hb; clear hr hb)
  go_ret
  exact ⟨A, c, rfl, R.out, HB.out⟩
theorem offsets3 (w : World) : Calls Tryz.prog 35 #[.string (tx [47, 83])] w fun e w' => e = .returned (.slice none 0 0) ∧ w = w' := by
  unfold tx
  go_enter Tryz.func35, Tryz.ntmps35
  go_wp2
  go_ret
  exact ⟨rfl, rfl⟩
theorem offsets4 (w : World) : Calls Tryz.prog 35 #[.string (tx [83, 50, 51, 47, 83, 66, 51])] w fun e w' => e = .returned (.slice none 0 0) ∧ w = w' := by
  unfold tx
  go_enter Tryz.func35, Tryz.ntmps35
  go_wp2
  go_ret
  exact ⟨rfl, rfl⟩
/-- the usual neighbourhoods by number; 3: none -/
def kd (f : Nat → P2) (n : Nat) : Nat := if sm (lf M1) 9 f n = true then 0 else if sm (lf N1) 5 f n = true then 1 else if sm (lf HX) 7 f n = true then 2 else 3
set_option maxHeartbeats 1000000 in
theorem letterOf_any (A : Option Addr) (n c : Nat) (f : Nat → P2) (w : World) (h : QReads w w.heap.size A n f) (hn : n ≤ 1000000) :
    Calls Tryz.prog 20 #[.slice A n c] w fun e w' => e = .returned (.tuple #[.string (tx (lt (kd f n))), .bool (decide (kd f n < 3))]) ∧ Below w.heap.size w w' := by
  have X0 := fun w => (run_letters w).1
  have X1 := fun w => (run_letters w).2.1
  have X2 := fun w => (run_letters w).2.2
  have O0 := Lib.hid offsets0
  simp only [tx] at O0
  have O1 := Lib.hid offsets1
  simp only [tx] at O1
  have O2 := Lib.hid offsets2
  simp only [tx] at O2
  have S0 := fun A' c' w' (hb : Below w.heap.size w w') (h' : QReads w' w'.heap.size A' 9 (lf M1)) => hsame_any A' A 9 n c' c (lf M1) f w' h' (h.later hb) (by omega) hn
  have S1 := fun A' c' w' (hb : Below w.heap.size w w') (h' : QReads w' w'.heap.size A' 5 (lf N1)) => hsame_any A' A 5 n c' c (lf N1) f w' h' (h.later hb) (by omega) hn
  have S2 := fun A' c' w' (hb : Below w.heap.size w w') (h' : QReads w' w'.heap.size A' 7 (lf HX)) => hsame_any A' A 7 n c' c (lf HX) f w' h' (h.later hb) (by omega) hn
  clear h
  unfold kd
  generalize sm (lf M1) 9 f n = q0 at S0 ⊢
  generalize sm (lf N1) 5 f n = q1 at S1 ⊢
  generalize sm (lf HX) 7 f n = q2 at S2 ⊢
  have zz := Lib.hid S0
  (try clear S0)
  have S0 := zz
  clear zz
  have zz := Lib.hid S1
  (try clear S1)
  have S1 := zz
  clear zz
  have zz := Lib.hid S2
  (try clear S2)
  have S2 := zz
  clear zz
  cases q0 with
  | true =>
    go_enter Tryz.func20, Tryz.ntmps20
    go_wp2
    refine wp_loop_rounds 1 ?_
    rw [rounds_succ]
    go_wp2_with (first
      | (go_at_call 34; (with_reducible refine (S0.out A1 c1 w1 B1.out R1.out).mono ?_); rintro e w2 ⟨rfl, hb⟩; have B2 := Lib.hid (B1.out.trans (hb.mono B1.out.size)); clear hb)
      | (go_at_call 35; (with_reducible refine (O0.out _).mono ?_); rintro e w1 ⟨A1, c1, rfl, hr, hb⟩; have R1 := Lib.hid hr; have B1 := Lib.hid hb; clear hr hb))
    go_ret2
    exact ⟨rfl, B2.out⟩
  | false =>
    cases q1 with
    | true =>
      go_enter Tryz.func20, Tryz.ntmps20
      go_wp2
      refine wp_loop_rounds 2 ?_
      rw [rounds_succ]
      go_wp2_with (first
        | (go_at_call 34; (with_reducible refine (S0.out A1 c1 w1 B1.out R1.out).mono ?_); rintro e w2 ⟨rfl, hb⟩; have B2 := Lib.hid (B1.out.trans (hb.mono B1.out.size)); clear hb)
        | (go_at_call 35; (with_reducible refine (O0.out _).mono ?_); rintro e w1 ⟨A1, c1, rfl, hr, hb⟩; have R1 := Lib.hid hr; have B1 := Lib.hid hb; clear hr hb))
      rw [rounds_succ]
      go_wp2_with (first
        | (go_at_call 34; (with_reducible refine (S1.out A3 c3 w3 B3.out R3.out).mono ?_); rintro e w4 ⟨rfl, hb⟩; have B4 := Lib.hid (B3.out.trans (hb.mono B3.out.size)); clear hb)
        | (go_at_call 35; (with_reducible refine (O1.out _).mono ?_); rintro e w3 ⟨A3, c3, rfl, hr, hb⟩; have R3 := Lib.hid hr; have B3 := Lib.hid (B2.out.trans (hb.mono B2.out.size)); clear hr hb))
      go_ret2
      exact ⟨rfl, B4.out⟩
    | false =>
      cases q2 with
      | true =>
        go_enter Tryz.func20, Tryz.ntmps20
        go_wp2
        refine wp_loop_rounds 3 ?_
        rw [rounds_succ]
        go_wp2_with (first
          | (go_at_call 34; (with_reducible refine (S0.out A1 c1 w1 B1.out R1.out).mono ?_); rintro e w2 ⟨rfl, hb⟩; have B2 := Lib.hid (B1.out.trans (hb.mono B1.out.size)); clear hb)
          | (go_at_call 35; (with_reducible refine (O0.out _).mono ?_); rintro e w1 ⟨A1, c1, rfl, hr, hb⟩; have R1 := Lib.hid hr; have B1 := Lib.hid hb; clear hr hb))
        rw [rounds_succ]
        go_wp2_with (first
          | (go_at_call 34; (with_reducible refine (S1.out A3 c3 w3 B3.out R3.out).mono ?_); rintro e w4 ⟨rfl, hb⟩; have B4 := Lib.hid (B3.out.trans (hb.mono B3.out.size)); clear hb)
          | (go_at_call 35; (with_reducible refine (O1.out _).mono ?_); rintro e w3 ⟨A3, c3, rfl, hr, hb⟩; have R3 := Lib.hid hr; have B3 := Lib.hid (B2.out.trans (hb.mono B2.out.size)); clear hr hb))
        rw [rounds_succ]
        go_wp2_with (first
          | (go_at_call 34; (with_reducible refine (S2.out A5 c5 w5 B5.out R5.out).mono ?_); rintro e w6 ⟨rfl, hb⟩; have B6 := Lib.hid (B5.out.trans (hb.mono B5.out.size)); clear hb)
          | (go_at_call 35; (with_reducible refine (O2.out _).mono ?_); rintro e w5 ⟨A5, c5, rfl, hr, hb⟩; have R5 := Lib.hid hr; have B5 := Lib.hid (B4.out.trans (hb.mono B4.out.size)); clear hr hb))
        go_ret2
        exact ⟨rfl, B6.out⟩
      | false =>
        go_enter Tryz.func20, Tryz.ntmps20
        go_wp2
        refine wp_loop_rounds 4 ?_
        rw [rounds_succ]
        go_wp2_with (first
          | (go_at_call 34; (with_reducible refine (S0.out A1 c1 w1 B1.out R1.out).mono ?_); rintro e w2 ⟨rfl, hb⟩; have B2 := Lib.hid (B1.out.trans (hb.mono B1.out.size)); clear hb)
          | (go_at_call 35; (with_reducible refine (O0.out _).mono ?_); rintro e w1 ⟨A1, c1, rfl, hr, hb⟩; have R1 := Lib.hid hr; have B1 := Lib.hid hb; clear hr hb))
        rw [rounds_succ]
        go_wp2_with (first
          | (go_at_call 34; (with_reducible refine (S1.out A3 c3 w3 B3.out R3.out).mono ?_); rintro e w4 ⟨rfl, hb⟩; have B4 := Lib.hid (B3.out.trans (hb.mono B3.out.size)); clear hb)
          | (go_at_call 35; (with_reducible refine (O1.out _).mono ?_); rintro e w3 ⟨A3, c3, rfl, hr, hb⟩; have R3 := Lib.hid hr; have B3 := Lib.hid (B2.out.trans (hb.mono B2.out.size)); clear hr hb))
        rw [rounds_succ]
        go_wp2_with (first
          | (go_at_call 34; (with_reducible refine (S2.out A5 c5 w5 B5.out R5.out).mono ?_); rintro e w6 ⟨rfl, hb⟩; have B6 := Lib.hid (B5.out.trans (hb.mono B5.out.size)); clear hb)
          | (go_at_call 35; (with_reducible refine (O2.out _).mono ?_); rintro e w5 ⟨A5, c5, rfl, hr, hb⟩; have R5 := Lib.hid hr; have B5 := Lib.hid (B4.out.trans (hb.mono B4.out.size)); clear hr hb))
        rw [rounds_succ]
        go_wp2
        go_ret2
        exact ⟨rfl, B6.out⟩
set_option maxHeartbeats 1000000 in
theorem known_any (A : Option Addr) (n c : Nat) (f : Nat → P2) (w : World) (h : QReads w w.heap.size A n f) (hn : n ≤ 1000000) :
    Calls Tryz.prog 11 #[.slice A n c] w fun e w' => e = .returned (.bool (decide (kd f n < 3))) ∧ Below w.heap.size w w' := by
  have O0 := Lib.hid rmoore1
  have O1 := Lib.hid rneumann1
  have O2 := Lib.hid rhex
  have S0 := fun A' c' w' (hb : Below w.heap.size w w') (h' : QReads w' w'.heap.size A' 9 (lf M1)) => rsame_any A A' n 9 c c' f (lf M1) w' (h.later hb) h' hn (by omega)
  have S1 := fun A' c' w' (hb : Below w.heap.size w w') (h' : QReads w' w'.heap.size A' 5 (lf N1)) => rsame_any A A' n 5 c c' f (lf N1) w' (h.later hb) h' hn (by omega)
  have S2 := fun A' c' w' (hb : Below w.heap.size w w') (h' : QReads w' w'.heap.size A' 7 (lf HX)) => rsame_any A A' n 7 c c' f (lf HX) w' (h.later hb) h' hn (by omega)
  clear h
  unfold kd
  rw [sm_comm (lf M1), sm_comm (lf N1), sm_comm (lf HX)]
  generalize sm f n (lf M1) 9 = q0 at S0 ⊢
  generalize sm f n (lf N1) 5 = q1 at S1 ⊢
  generalize sm f n (lf HX) 7 = q2 at S2 ⊢
  have zz := Lib.hid S0
  (try clear S0)
  have S0 := zz
  clear zz
  have zz := Lib.hid S1
  (try clear S1)
  have S1 := zz
  clear zz
  have zz := Lib.hid S2
  (try clear S2)
  have S2 := zz
  clear zz
  cases q0 with
  | true =>
    go_enter Tryz.func11, Tryz.ntmps11
    go_wp2_with (first
      | (go_at_call 24; (with_reducible refine (S0.out A1 c1 w1 B1.out R1.out).mono ?_); rintro e w2 ⟨rfl, hb⟩; have B2 := Lib.hid (B1.out.trans (hb.mono B1.out.size)); clear hb)
      | (go_at_call 25; (with_reducible refine (O0.out _).mono ?_); rintro e w1 ⟨A1, c1, rfl, hr, hb⟩; have R1 := Lib.hid hr; have B1 := Lib.hid hb; clear hr hb))
    go_ret
    exact ⟨rfl, B2.out⟩
  | false =>
    cases q1 with
    | true =>
      go_enter Tryz.func11, Tryz.ntmps11
      go_wp2_with (first
        | (go_at_call 24; (with_reducible refine (S1.out A3 c3 w3 B3.out R3.out).mono ?_); rintro e w4 ⟨rfl, hb⟩; have B4 := Lib.hid (B3.out.trans (hb.mono B3.out.size)); clear hb)
        | (go_at_call 26; (with_reducible refine (O1.out _).mono ?_); rintro e w3 ⟨A3, c3, rfl, hr, hb⟩; have R3 := Lib.hid hr; have B3 := Lib.hid (B2.out.trans (hb.mono B2.out.size)); clear hr hb)
        | (go_at_call 24; (with_reducible refine (S0.out A1 c1 w1 B1.out R1.out).mono ?_); rintro e w2 ⟨rfl, hb⟩; have B2 := Lib.hid (B1.out.trans (hb.mono B1.out.size)); clear hb)
        | (go_at_call 25; (with_reducible refine (O0.out _).mono ?_); rintro e w1 ⟨A1, c1, rfl, hr, hb⟩; have R1 := Lib.hid hr; have B1 := Lib.hid hb; clear hr hb))
      go_ret
      exact ⟨rfl, B4.out⟩
    | false =>
      cases q2
      all_goals
        go_enter Tryz.func11, Tryz.ntmps11
        go_wp2_with (first
          | (go_at_call 24; (with_reducible refine (S2.out A5 c5 w5 B5.out R5.out).mono ?_); rintro e w6 ⟨rfl, hb⟩; have B6 := Lib.hid (B5.out.trans (hb.mono B5.out.size)); clear hb)
          | (go_at_call 27; (with_reducible refine (O2.out _).mono ?_); rintro e w5 ⟨A5, c5, rfl, hr, hb⟩; have R5 := Lib.hid hr; have B5 := Lib.hid (B4.out.trans (hb.mono B4.out.size)); clear hr hb)
          | (go_at_call 24; (with_reducible refine (S1.out A3 c3 w3 B3.out R3.out).mono ?_); rintro e w4 ⟨rfl, hb⟩; have B4 := Lib.hid (B3.out.trans (hb.mono B3.out.size)); clear hb)
          | (go_at_call 26; (with_reducible refine (O1.out _).mono ?_); rintro e w3 ⟨A3, c3, rfl, hr, hb⟩; have R3 := Lib.hid hr; have B3 := Lib.hid (B2.out.trans (hb.mono B2.out.size)); clear hr hb)
          | (go_at_call 24; (with_reducible refine (S0.out A1 c1 w1 B1.out R1.out).mono ?_); rintro e w2 ⟨rfl, hb⟩; have B2 := Lib.hid (B1.out.trans (hb.mono B1.out.size)); clear hb)
          | (go_at_call 25; (with_reducible refine (O0.out _).mono ?_); rintro e w1 ⟨A1, c1, rfl, hr, hb⟩; have R1 := Lib.hid hr; have B1 := Lib.hid hb; clear hr hb))
        go_ret
        exact ⟨rfl, B6.out⟩
end Go.Proofs.YtbdgfegafckkbaaGreatDoor
