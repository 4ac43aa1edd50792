/- The law: both Parse functions answer the same, and the chapter's examples hold. -/
import Derived.Test.YtdbeomibajcecaaDoorAwk
namespace Go.Proofs.YtdbeomibajcecaaDoor
open Go.RowKit

set_option maxRecDepth 100000 in
theorem law_long (s : ByteArray) (w : World) (u : TypeId) (v : Value) (hv : Vr u v w) (hl : ¬ s.size ≤ 1000) (hm : s.size ≤ 9223372036854775807) :
    Calls Tryd.prog 3 #[.string s] w fun e w' => e = .returned (.bool true) ∧ Below w.heap.size w w' := by
  have AL := Lib.hid (alive_any u v w hv)
  have hz : (1000 : Int) < (s.size : Int) := by omega
  clear hl hv
  go_enter Tryd.func3, Tryd.ntmps3
  go_wp2_with (go_at_call 4; (with_reducible refine AL.out.mono ?_); rintro e w1 ⟨rfl, hb⟩)
  go_ret
  exact ⟨rfl, hb⟩
set_option maxRecDepth 100000 in
theorem law_short (s : ByteArray) (w : World) (u : TypeId) (v : Value) (hv : Vr u v w) (hl : s.size ≤ 1000) (a b : Int) (c : Bool) (d : Int)
    (P : ∀ w, Vr u v w → Calls Tryd.prog 5 #[.string s] w fun e w' => e = .returned (.tuple #[.int .i64 a, .int .i64 b, .bool c, .int .i64 d]) ∧ Below w.heap.size w w')
    (R : ∀ w, Calls Tryd.prog 6 #[.string s] w fun e w' => e = .returned (.tuple #[.int .i64 a, .int .i64 b, .bool c, .int .i64 d]) ∧ Below w.heap.size w w') :
    Calls Tryd.prog 3 #[.string s] w fun e w' => e = .returned (.bool true) ∧ Below w.heap.size w w' := by
  have PH := Lib.hid (P w hv)
  have RH := Lib.hid R
  have AH := Lib.hid (fun w' (hb : Below w.heap.size w w') => alive_any u v w' (hv.later hb))
  have hz : (s.size : Int) ≤ 1000 := by omega
  have ea : (a == a) = true := beq_self_eq_true a
  have eb : (b == b) = true := beq_self_eq_true b
  have ec : (c == c) = true := beq_self_eq_true c
  have ed : (d == d) = true := beq_self_eq_true d
  clear hl hv P R
  go_enter Tryd.func3, Tryd.ntmps3
  go_wp2_with (first
    | (go_at_call 4; (with_reducible refine (AH.out _ B2.out).mono ?_); rintro e w3 ⟨rfl, hb⟩; have B3 := Lib.hid (B2.out.trans (hb.mono B2.out.size)); clear hb)
    | (go_at_call 6; (with_reducible refine (RH.out _).mono ?_); rintro e w2 ⟨rfl, hb⟩; have B2 := Lib.hid (B1.out.trans (hb.mono B1.out.size)); clear hb)
    | (go_at_call 5; (with_reducible refine PH.out.mono ?_); rintro e w1 ⟨rfl, hb⟩; have B1 := Lib.hid hb; clear hb))
  go_ret
  exact ⟨rfl, B3.out⟩
theorem law_all (s : ByteArray) (w : World) (u : TypeId) (v : Value) (hv : Vr u v w) (hm : s.size ≤ 9223372036854775807) :
    Calls Tryd.prog 3 #[.string s] w fun e w' => e = .returned (.bool true) ∧ Below w.heap.size w w' := by
  by_cases hl : s.size ≤ 1000
  · have e : tx s.data.toList = s := by
      apply ByteArray.ext
      simp [tx]
    obtain ⟨a, b, c, d, P, R⟩ := both_any u v s.data.toList (by rw [← tx_size, e]; exact hl)
    rw [e] at P R
    exact law_short s w u v hv hl a b c d P R
  · exact law_long s w u v hv hl hm
end Go.Proofs.YtdbeomibajcecaaDoor
