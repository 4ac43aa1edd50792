/- The walk of the law where nothing is asked, and of what it calls first. -/
import Derived.Test.YtbdgfegafckkbaaGreatDoorAwk
namespace Go.Proofs.YtbdgfegafckkbaaGreatDoor
open Go.RowKit

section
variable (A : Option Addr) (n c : Nat) (f : Nat → P2) (s : Int) (Ab : Option Addr) (nb cb : Nat) (b : List Int) (As : Option Addr) (ns cs : Nat) (l : List Int) (w : World)
theorem few_yes (h1 : n ≤ 40) (h2 : nb ≤ 40) (h3 : ns ≤ 40) :
    Calls Tryz.prog 4 #[.agg #[.slice A n c, .int .i64 s, .slice Ab nb cb, .slice As ns cs]] w fun e w' => e = .returned (.bool true) ∧ Below w.heap.size w w' := by
  have K := Blk.new w 25 #[.slice A n c, .int .i64 s, .slice Ab nb cb, .slice As ns cs]
  obtain ⟨k0, k1, k2, k3, k4⟩ := K.four
  have B := Lib.hid ((Below.refl w.heap.size w).alloc (Nat.le_refl _) (.cells #[.slice A n c, .int .i64 s, .slice Ab nb cb, .slice As ns cs] 25))
  clear K
  go_enter Tryz.func4, Tryz.ntmps4
  go_wp2
  go_ret
  exact ⟨ret_bool (by simp; omega), B.out⟩
theorem few_no (h : ¬ (n ≤ 40 ∧ nb ≤ 40 ∧ ns ≤ 40)) :
    Calls Tryz.prog 4 #[.agg #[.slice A n c, .int .i64 s, .slice Ab nb cb, .slice As ns cs]] w fun e w' => e = .returned (.bool false) ∧ Below w.heap.size w w' := by
  have K := Blk.new w 25 #[.slice A n c, .int .i64 s, .slice Ab nb cb, .slice As ns cs]
  obtain ⟨k0, k1, k2, k3, k4⟩ := K.four
  have B := Lib.hid ((Below.refl w.heap.size w).alloc (Nat.le_refl _) (.cells #[.slice A n c, .int .i64 s, .slice Ab nb cb, .slice As ns cs] 25))
  clear K
  by_cases h1 : n ≤ 40
  · by_cases h2 : nb ≤ 40
    · have h3 : ¬ ns ≤ 40 := fun h3 => h ⟨h1, h2, h3⟩
      clear h
      go_enter Tryz.func4, Tryz.ntmps4
      go_wp2
      go_ret
      exact ⟨ret_bool (by simp; omega), B.out⟩
    · clear h
      go_enter Tryz.func4, Tryz.ntmps4
      go_wp2
      go_ret
      exact ⟨rfl, B.out⟩
  · clear h
    go_enter Tryz.func4, Tryz.ntmps4
    go_wp2
    go_ret
    exact ⟨rfl, B.out⟩
set_option maxRecDepth 100000 in
set_option maxHeartbeats 2000000 in
theorem law_long (k : Int) (m : Int) (u : TypeId) (x : Value) (hv : Vr m u x w) (h : ¬ (n ≤ 40 ∧ nb ≤ 40 ∧ ns ≤ 40)) :
    Calls Tryz.prog 3 #[.agg #[.slice A n c, .int .i64 s, .slice Ab nb cb, .slice As ns cs], .int .i64 k] w fun e w' => e = .returned (.bool true) ∧ Below w.heap.size w w' := by
  have AW := Lib.hid (fun w h => awake_any m u x w h)
  have K := Lib.hid (Blk.new w 25 #[.slice A n c, .int .i64 s, .slice Ab nb cb, .slice As ns cs])
  have B0 := Lib.hid ((Below.refl w.heap.size w).alloc (Nat.le_refl _) (.cells #[.slice A n c, .int .i64 s, .slice Ab nb cb, .slice As ns cs] 25))
  have HV := Lib.hid hv
  clear hv
  have SH := Lib.hid (fun w => few_no A n c s Ab nb cb As ns cs w h)
  obtain ⟨k0, k1, k2, k3, k4⟩ := K.out.four
  clear h
  go_enter Tryz.func3, Tryz.ntmps3
  go_wp2_with (first
    | (go_at_call 6; (with_reducible refine (AW.out _ (HV.out.later B1.out)).mono ?_); rintro e w9 ⟨rfl, hb⟩; have B9 := Lib.hid (B1.out.trans (hb.mono B1.out.size)); clear hb)
    | (go_at_call 4; (with_reducible refine (SH.out _).mono ?_); rintro e w1 ⟨rfl, hb⟩; have B1 := Lib.hid (B0.out.trans (hb.mono B0.out.size)); clear hb))
  go_ret
  exact ⟨rfl, B9.out⟩
set_option maxRecDepth 100000 in
set_option maxHeartbeats 2000000 in
theorem law_wrong (k : Int) (m : Int) (u : TypeId) (x : Value) (hv : Vr m u x w) (h : TR w A n f Ab nb b As ns l) (h1 : n ≤ 40) (h2 : nb ≤ 40) (h3 : ns ≤ 40) (hq : rt f n s b l = false) :
    Calls Tryz.prog 3 #[.agg #[.slice A n c, .int .i64 s, .slice Ab nb cb, .slice As ns cs], .int .i64 k] w fun e w' => e = .returned (.bool true) ∧ Below w.heap.size w w' := by
  have AW := Lib.hid (fun w h => awake_any m u x w h)
  have K := Lib.hid (Blk.new w 25 #[.slice A n c, .int .i64 s, .slice Ab nb cb, .slice As ns cs])
  have B0 := Lib.hid ((Below.refl w.heap.size w).alloc (Nat.le_refl _) (.cells #[.slice A n c, .int .i64 s, .slice Ab nb cb, .slice As ns cs] 25))
  have HV := Lib.hid hv
  clear hv
  have SH := Lib.hid (fun w => few_yes A n c s Ab nb cb As ns cs w h1 h2 h3)
  have RR := fun w' (hb : Below w.heap.size w w') => rright_any A n c f s Ab nb cb b As ns cs l w' (h.later hb) (by omega) (by omega) (by omega)
  rw [hq] at RR
  have zz := Lib.hid RR
  (try clear RR)
  have RR := zz
  clear zz
  obtain ⟨k0, k1, k2, k3, k4⟩ := K.out.four
  clear h hq
  go_enter Tryz.func3, Tryz.ntmps3
  go_wp2_with (first
    | (go_at_call 6; (with_reducible refine (AW.out _ (HV.out.later B2.out)).mono ?_); rintro e w9 ⟨rfl, hb⟩; have B9 := Lib.hid (B2.out.trans (hb.mono B2.out.size)); clear hb)
    | (go_at_call 5; (with_reducible refine (RR.out _ B1.out).mono ?_); rintro e w2 ⟨rfl, hb⟩; have B2 := Lib.hid (B1.out.trans (hb.mono B1.out.size)); obtain ⟨k0, k1, k2, k3, k4⟩ := (K1.out.below' hb).four; clear hb)
    | (go_at_call 4; (with_reducible refine (SH.out _).mono ?_); rintro e w1 ⟨rfl, hb⟩; have B1 := Lib.hid (B0.out.trans (hb.mono B0.out.size)); obtain ⟨k0, k1, k2, k3, k4⟩ := (K.out.below' hb).four; have K1 := Lib.hid (K.out.below' hb); clear hb))
  go_ret
  exact ⟨rfl, B9.out⟩
set_option maxRecDepth 100000 in
set_option maxHeartbeats 2000000 in
theorem law_two (k : Int) (m : Int) (u : TypeId) (x : Value) (hv : Vr m u x w) (h : TR w A n f Ab nb b As ns l) (h1 : n ≤ 40) (h2 : nb ≤ 40) (h3 : ns ≤ 40) (hq : rt f n s b l = true) (hs : s < 3) :
    Calls Tryz.prog 3 #[.agg #[.slice A n c, .int .i64 s, .slice Ab nb cb, .slice As ns cs], .int .i64 k] w fun e w' => e = .returned (.bool true) ∧ Below w.heap.size w w' := by
  have AW := Lib.hid (fun w h => awake_any m u x w h)
  have K := Lib.hid (Blk.new w 25 #[.slice A n c, .int .i64 s, .slice Ab nb cb, .slice As ns cs])
  have B0 := Lib.hid ((Below.refl w.heap.size w).alloc (Nat.le_refl _) (.cells #[.slice A n c, .int .i64 s, .slice Ab nb cb, .slice As ns cs] 25))
  have HV := Lib.hid hv
  clear hv
  have SH := Lib.hid (fun w => few_yes A n c s Ab nb cb As ns cs w h1 h2 h3)
  have RR := fun w' (hb : Below w.heap.size w w') => rright_any A n c f s Ab nb cb b As ns cs l w' (h.later hb) (by omega) (by omega) (by omega)
  rw [hq] at RR
  have zz := Lib.hid RR
  (try clear RR)
  have RR := zz
  clear zz
  obtain ⟨k0, k1, k2, k3, k4⟩ := K.out.four
  clear h hq
  go_enter Tryz.func3, Tryz.ntmps3
  go_wp2_with (first
    | (go_at_call 6; (with_reducible refine (AW.out _ (HV.out.later B2.out)).mono ?_); rintro e w9 ⟨rfl, hb⟩; have B9 := Lib.hid (B2.out.trans (hb.mono B2.out.size)); clear hb)
    | (go_at_call 5; (with_reducible refine (RR.out _ B1.out).mono ?_); rintro e w2 ⟨rfl, hb⟩; have B2 := Lib.hid (B1.out.trans (hb.mono B1.out.size)); obtain ⟨k0, k1, k2, k3, k4⟩ := (K1.out.below' hb).four; clear hb)
    | (go_at_call 4; (with_reducible refine (SH.out _).mono ?_); rintro e w1 ⟨rfl, hb⟩; have B1 := Lib.hid (B0.out.trans (hb.mono B0.out.size)); obtain ⟨k0, k1, k2, k3, k4⟩ := (K.out.below' hb).four; have K1 := Lib.hid (K.out.below' hb); clear hb))
  go_ret
  exact ⟨rfl, B9.out⟩
end
end Go.Proofs.YtbdgfegafckkbaaGreatDoor
