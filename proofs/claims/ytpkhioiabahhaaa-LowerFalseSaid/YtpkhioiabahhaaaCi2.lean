/- The walk of circuitOf's second closure: it calls result. -/
import Derived.Test.YtpkhioiabahhaaaReh
namespace Go.Proofs.Ytpkhioiabahhaaa
open Go.RowKit

set_option maxRecDepth 100000 in
set_option maxHeartbeats 4000000 in
theorem ci2_any (lb gn k : Nat) (lev : Int) (V : Value) (z : Int) (R : World → Prop) (w : World) (hn : Blk w gn 48 #[.int .i64 lev, V])
    (hr : Calls Try.prog 48 #[.pointer (some ⟨lb, 0, none⟩), .agg #[.int .i64 lev, V], .int .i64 (k : Int)] w fun e w' => e = .returned (.int .i64 z) ∧ R w') :
    Calls Try.prog 47 #[.int .i64 (k : Int), .pointer (some ⟨lb, 0, none⟩), .pointer (some ⟨gn, 0, none⟩)] w fun e w' => e = .returned (.int .i64 z) ∧ R w' := by
  have n0 : w.cell? ⟨gn, 0, none⟩ = some (.int .i64 lev) := (hn.cell 0).trans rfl
  have n1 : w.cell? ⟨gn, 1, none⟩ = some V := (hn.cell 1).trans rfl
  have HR := Lib.hid hr
  clear hr hn
  go_enter Try.func47, Try.ntmps47
  go_wp2_with (with_reducible refine (HR.out).mono ?_; rintro e w5 ⟨rfl, hs⟩; have S5 := Lib.hid hs; clear hs)
  go_ret
  exact ⟨rfl, S5.out⟩
end Go.Proofs.Ytpkhioiabahhaaa
