/- The walk of the law on any rule and any number. -/
import Derived.Test.YtbdgfegafckkbaaGreatDoorLaw2
namespace Go.Proofs.YtbdgfegafckkbaaGreatDoor
open Go.RowKit

theorem law_all (A : Option Addr) (n c : Nat) (f : Nat → P2) (s : Int) (Ab : Option Addr) (nb cb : Nat) (b : List Int) (As : Option Addr) (ns cs : Nat) (l : List Int) (w : World) (k : Int) (m : Int) (u : TypeId) (x : Value) (hv : Vr m u x w) (h : TR w A n f Ab nb b As ns l) :
    Calls Tryz.prog 3 #[.agg #[.slice A n c, .int .i64 s, .slice Ab nb cb, .slice As ns cs], .int .i64 k] w fun e w' => e = .returned (.bool true) ∧ Below w.heap.size w w' := by
  by_cases hs : n ≤ 40 ∧ nb ≤ 40 ∧ ns ≤ 40
  · cases hq : rt f n s b l with
    | false => exact law_wrong A n c f s Ab nb cb b As ns cs l w k m u x hv h hs.1 hs.2.1 hs.2.2 hq
    | true =>
      by_cases h3 : s < 3
      · exact law_two A n c f s Ab nb cb b As ns cs l w k m u x hv h hs.1 hs.2.1 hs.2.2 hq h3
      · obtain ⟨s', rfl⟩ : ∃ s' : Nat, s = (s' : Int) := ⟨s.toNat, by omega⟩
        have hk := (rt_parts hq).1
        have h4 : 3 ≤ s' := by omega
        have hc : kd f n = 0 ∨ kd f n = 1 ∨ kd f n = 2 := by omega
        rcases hc with hc | hc | hc
        · exact law_k0 A n c f s' Ab nb cb b As ns cs l w k m u x hv h hs.1 hs.2.1 hs.2.2 hq h4 hc
        · exact law_k1 A n c f s' Ab nb cb b As ns cs l w k m u x hv h hs.1 hs.2.1 hs.2.2 hq h4 hc
        · exact law_k2 A n c f s' Ab nb cb b As ns cs l w k m u x hv h hs.1 hs.2.1 hs.2.2 hq h4 hc
  · exact law_long A n c s Ab nb cb As ns cs w k m u x hv hs
end Go.Proofs.YtbdgfegafckkbaaGreatDoor
