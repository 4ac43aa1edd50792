/- The walk of the law. -/
import Derived.Test.YtgnnemlnjflifaaDoorAwk
namespace Go.Proofs.YtgnnemlnjflifaaDoor
open Go.RowKit

section
variable (A A' : Option Addr) (n m c c' : Nat) (f g : Nat → P2) (w : World)
set_option maxHeartbeats 1000000 in
theorem law_long (hM : Mat w) (hnm : 100 < n ∨ 100 < m) :
    Calls Tryd.prog 3 #[.slice A n c, .slice A' m c'] w fun e w' => e = .returned (.bool true) ∧ Below w.heap.size w w' := by
  have AW := Lib.hid (awake_any w hM)
  clear hM
  by_cases hn : 100 < n
  · have h1 : (100 : Int) < (n : Int) := by omega
    clear hnm
    go_enter Tryd.func3, Tryd.ntmps3
    go_wp2_with (go_at_call 4; (with_reducible refine AW.out.mono ?_); rintro e w1 ⟨rfl, hb⟩; have B1 := Lib.hid hb; clear hb)
    go_ret
    exact ⟨rfl, B1.out⟩
  · have h1 : ¬ (100 : Int) < (n : Int) := by omega
    have h2 : (100 : Int) < (m : Int) := by omega
    clear hnm
    go_enter Tryd.func3, Tryd.ntmps3
    go_wp2_with (go_at_call 4; (with_reducible refine AW.out.mono ?_); rintro e w1 ⟨rfl, hb⟩; have B1 := Lib.hid hb; clear hb)
    go_ret
    exact ⟨rfl, B1.out⟩
set_option maxHeartbeats 2000000 in
theorem law_in (hM : Mat w) (h : QReads w w.heap.size A n f) (h' : QReads w w.heap.size A' m g) (hn : n ≤ 100) (hm : m ≤ 100) :
    Calls Tryd.prog 3 #[.slice A n c, .slice A' m c'] w fun e w' => e = .returned (.bool true) ∧ Below w.heap.size w w' := by
  have h1 : ¬ (100 : Int) < (n : Int) := by omega
  have h2 : ¬ (100 : Int) < (m : Int) := by omega
  have S1 := fun w' (hb : Below w.heap.size w w') => hsame_any A A' n m c c' f g w' (h.later hb) (h'.later hb) (by omega) (by omega)
  have S2 := fun w' (hb : Below w.heap.size w w') => rsame_any A A' n m c c' f g w' (h.later hb) (h'.later hb) (by omega) (by omega)
  have S3 := fun w' (hb : Below w.heap.size w w') => (show Calls Tryd.prog 5 #[.slice A' m c', .slice A n c] w' fun e w'' => e = .returned (.bool (sm f n g m)) ∧ Below w'.heap.size w' w'' by rw [sm_comm]; exact hsame_any A' A m n c' c g f w' (h'.later hb) (h.later hb) (by omega) (by omega))
  have S4 := fun w' (hb : Below w.heap.size w w') => (show Calls Tryd.prog 5 #[.slice A n c, .slice A n c] w' fun e w'' => e = .returned (.bool true) ∧ Below w'.heap.size w' w'' by
    have := hsame_any A A n n c c f f w' (h.later hb) (h.later hb) (by omega) (by omega)
    rwa [sm_self] at this)
  have AW := Lib.hid (fun w' (hb : Below w.heap.size w w') => awake_any w' (hM.below hb hM.1))
  generalize sm f n g m = q at S1 S2 S3
  have zz := Lib.hid S1
  (try clear S1)
  have S1 := zz
  clear zz
  have zz := Lib.hid S2
  (try clear S2)
  have S2 := zz
  clear zz
  have zz := Lib.hid S3
  (try clear S3)
  have S3 := zz
  clear zz
  have zz := Lib.hid S4
  (try clear S4)
  have S4 := zz
  clear zz
  clear hM h h'
  cases q
  all_goals
    go_enter Tryd.func3, Tryd.ntmps3
    go_wp2_with (first
      | (go_at_call 4; (with_reducible refine (AW.out _ B5.out).mono ?_); rintro e w6 ⟨rfl, hb⟩; have B6 := Lib.hid (B5.out.trans (hb.mono B5.out.size)); clear hb)
      | (go_at_call 5; (with_reducible refine (S4.out _ B4.out).mono ?_); rintro e w5 ⟨rfl, hb⟩; have B5 := Lib.hid (B4.out.trans (hb.mono B4.out.size)); clear hb)
      | (go_at_call 5; (with_reducible refine (S1.out _ B3.out).mono ?_); rintro e w4 ⟨rfl, hb⟩; have B4 := Lib.hid (B3.out.trans (hb.mono B3.out.size)); clear hb)
      | (go_at_call 5; (with_reducible refine (S3.out _ B2.out).mono ?_); rintro e w3 ⟨rfl, hb⟩; have B3 := Lib.hid (B2.out.trans (hb.mono B2.out.size)); clear hb)
      | (go_at_call 6; (with_reducible refine (S2.out _ B1.out).mono ?_); rintro e w2 ⟨rfl, hb⟩; have B2 := Lib.hid (B1.out.trans (hb.mono B1.out.size)); clear hb)
      | (go_at_call 5; (with_reducible refine (S1.out _ (Below.refl _ _)).mono ?_); rintro e w1 ⟨rfl, hb⟩; have B1 := Lib.hid hb; clear hb))
    go_ret
    exact ⟨rfl, B6.out⟩
theorem law_all (hM : Mat w) (h : QReads w w.heap.size A n f) (h' : QReads w w.heap.size A' m g) :
    Calls Tryd.prog 3 #[.slice A n c, .slice A' m c'] w fun e w' => e = .returned (.bool true) ∧ Below w.heap.size w w' := by
  by_cases hnm : 100 < n ∨ 100 < m
  · exact law_long A A' n m c c' w hM hnm
  · exact law_in A A' n m c c' f g w hM h h' (by omega) (by omega)
end
end Go.Proofs.YtgnnemlnjflifaaDoor
