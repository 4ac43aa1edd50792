/- The walk of the fixed examples. -/
import Derived.Test.YthjamghemmanfaaDoorAl
namespace Go.Proofs.YthjamghemmanfaaDoor
open Go.RowKit

set_option maxRecDepth 100000 in
set_option maxHeartbeats 4000000 in
theorem awake_any (w : World) (hM : Mat w) : Calls Tryd.prog 4 #[] w fun e w' => e = .returned (.bool true) ∧ Below w.heap.size w w' := by
  have HM := Lib.hid hM
  have CP1 := Lib.hid (fun w => compose_any 1 4 w)
  have CP2 := Lib.hid (fun w => compose_any 4 1 w)
  rw [show comp (md 1) (md 4) = 7 by decide] at CP1
  rw [show comp (md 4) (md 1) = 5 by decide] at CP2
  have IV := Lib.hid inverse_one
  have C1 := Lib.hid al_orb1
  have C2 := Lib.hid al_orb2
  have C3 := Lib.hid al_app1
  have C4 := Lib.hid al_app5
  have C5 := Lib.hid al_turn
  have C6 := Lib.hid al_within
  have C7 := Lib.hid al_group
  clear hM
  go_enter Tryd.func4, Tryd.ntmps4
  go_wp2_with (first | (go_at_call 5; (with_reducible refine (C1.out _ HM.out).mono ?_); rintro e w1 ⟨⟨b, c', rfl, hr⟩, hb⟩; have HR := Lib.hid hr; have Z1 := Lib.hid hb; have M1 := Lib.hid (HM.out.below hb HM.out.1); clear hr hb) | (go_at_call 5; (with_reducible refine (C2.out _).mono ?_); rintro e w2 ⟨rfl, hb⟩; have HR2 := Lib.hid ((HR.out.below hb).more hb.size); have Z2 := Lib.hid (Z1.out.trans (hb.mono Z1.out.size)); have M2 := Lib.hid (M1.out.below hb M1.out.1); clear hb) | (go_at_call 8; (with_reducible refine (C3.out _ M2.out).mono ?_); rintro e w3 ⟨rfl, hb⟩; have HR3 := Lib.hid ((HR2.out.below hb).more hb.size); have Z3 := Lib.hid (Z2.out.trans (hb.mono Z2.out.size)); have M3 := Lib.hid (M2.out.below hb M2.out.1); clear hb) | (go_at_call 8; (with_reducible refine (C4.out _ M3.out).mono ?_); rintro e w4 ⟨rfl, hb⟩; have HR4 := Lib.hid ((HR3.out.below hb).more hb.size); have Z4 := Lib.hid (Z3.out.trans (hb.mono Z3.out.size)); have M4 := Lib.hid (M3.out.below hb M3.out.1); clear hb) | (go_at_call 9; (with_reducible refine (CP1.out _).mono ?_); rintro e w' ⟨rfl, rfl⟩) | (go_at_call 9; (with_reducible refine (CP2.out _).mono ?_); rintro e w' ⟨rfl, rfl⟩) | (go_at_call 10; (with_reducible refine (IV.out _).mono ?_); rintro e w' ⟨rfl, rfl⟩) | (go_at_call 11; (with_reducible refine (C5.out _ M4.out).mono ?_); rintro e w5 ⟨rfl, hb⟩; have HR5 := Lib.hid ((HR4.out.below hb).more hb.size); have Z5 := Lib.hid (Z4.out.trans (hb.mono Z4.out.size)); have M5 := Lib.hid (M4.out.below hb M4.out.1); clear hb) | (go_at_call 12; (with_reducible refine (C7.out _).mono ?_); rintro e w6 ⟨⟨b6, c6, rfl⟩, hb⟩; have HR6 := Lib.hid ((HR5.out.below hb).more hb.size); have Z6 := Lib.hid (Z5.out.trans (hb.mono Z5.out.size)); have M6 := Lib.hid (M5.out.below hb M5.out.1); clear hb) | (go_at_call 13; (with_reducible refine (C6.out _ M6.out).mono ?_); rintro e w7 ⟨rfl, hb⟩; have HR7 := Lib.hid ((HR6.out.below hb).more hb.size); have Z7 := Lib.hid (Z6.out.trans (hb.mono Z6.out.size)); clear hb) | (go_at_call 7; (with_reducible refine (same_yes (some ⟨b, 0, none⟩) (some ⟨w7.heap.size, 0, none⟩) 3 c' 3 _ [0, 1, 0] (w7.alloc (.cells #[.int .i64 0, .int .i64 1, .int .i64 0] 3)) ((HR7.out.alloc (Nat.le_refl _) _).more (by simp)) (lit_reads3 w7) (by omega)).mono ?_); rintro e w8 ⟨rfl, hb⟩; have Z8 := Lib.hid ((Z7.out.alloc Z7.out.size (.cells #[.int .i64 0, .int .i64 1, .int .i64 0] 3)).trans (hb.mono (Z7.out.alloc Z7.out.size (.cells #[.int .i64 0, .int .i64 1, .int .i64 0] 3)).size)); clear hb))
  go_ret
  exact ⟨rfl, Z8.out⟩
end Go.Proofs.YthjamghemmanfaaDoor
