/- The walk of Bits at two to eight states. -/
import Derived.Test.YtpkhioiabahhaaaTst
namespace Go.Proofs.Ytpkhioiabahhaaa
open Go.RowKit

/-- the bits of a state, of st ones -/
def bs (st : Nat) : Nat := if st ≤ 2 then 1 else if st ≤ 4 then 2 else 3
set_option maxRecDepth 100000 in
set_option maxHeartbeats 2000000 in
theorem len64_lit (x : Nat) (w : World) (h1 : 1 ≤ x) (h2 : x ≤ 7) :
    Calls Try.prog 60 #[.int .u64 (x : Int)] w fun e w' => e = .returned (.int .i64 (bs (x + 1) : Int)) ∧ w' = w := by
  have hx : x = 1 ∨ x = 2 ∨ x = 3 ∨ x = 4 ∨ x = 5 ∨ x = 6 ∨ x = 7 := by omega
  rcases hx with rfl | rfl | rfl | rfl | rfl | rfl | rfl <;>
    (go_enter Try.func60, Try.ntmps60
     go_wp2
     go_ret
     exact ⟨by kernel_rfl, rfl⟩)
set_option maxRecDepth 100000 in
set_option maxHeartbeats 2000000 in
theorem len_lit (x : Nat) (w : World) (h1 : 1 ≤ x) (h2 : x ≤ 7) :
    Calls Try.prog 40 #[.int .u64 (x : Int)] w fun e w' => e = .returned (.int .i64 (bs (x + 1) : Int)) ∧ w' = w := by
  have LE := Lib.hid (fun w' => len64_lit x w' h1 h2)
  generalize bs (x + 1) = b at LE ⊢
  have e1 : IntKind.u64.wrap (x : Int) = (x : Int) := by
    have hx : x = 1 ∨ x = 2 ∨ x = 3 ∨ x = 4 ∨ x = 5 ∨ x = 6 ∨ x = 7 := by omega
    rcases hx with rfl | rfl | rfl | rfl | rfl | rfl | rfl <;> rfl
  go_enter Try.func40, Try.ntmps40
  go_wp2_with (with_reducible refine (LE.out _).mono ?_; rintro e w' ⟨rfl, rfl⟩)
  go_ret
  exact ⟨rfl, rfl⟩
set_option maxRecDepth 100000 in
set_option maxHeartbeats 2000000 in
theorem bits_any (st : Nat) (w : World) (h1 : 2 ≤ st) (h2 : st ≤ 8) :
    Calls Try.prog 22 #[.int .i64 (st : Int)] w fun e w' => e = .returned (.int .i64 (bs st : Int)) ∧ w' = w := by
  have hx : st = 2 ∨ st = 3 ∨ st = 4 ∨ st = 5 ∨ st = 6 ∨ st = 7 ∨ st = 8 := by omega
  rcases hx with rfl | rfl | rfl | rfl | rfl | rfl | rfl
  · have L := Lib.hid (fun w' => show Calls Try.prog 40 #[.int .u64 1] w' (fun e w'' => e = .returned (.int .i64 1) ∧ w'' = w') from len_lit 1 w' (by decide) (by decide))
    go_enter Try.func22, Try.ntmps22
    go_wp2_with (with_reducible refine (L.out _).mono ?_; rintro e w' ⟨rfl, rfl⟩)
    go_ret
    exact ⟨rfl, rfl⟩
  · have L := Lib.hid (fun w' => show Calls Try.prog 40 #[.int .u64 2] w' (fun e w'' => e = .returned (.int .i64 2) ∧ w'' = w') from len_lit 2 w' (by decide) (by decide))
    go_enter Try.func22, Try.ntmps22
    go_wp2_with (with_reducible refine (L.out _).mono ?_; rintro e w' ⟨rfl, rfl⟩)
    go_ret
    exact ⟨rfl, rfl⟩
  · have L := Lib.hid (fun w' => show Calls Try.prog 40 #[.int .u64 3] w' (fun e w'' => e = .returned (.int .i64 2) ∧ w'' = w') from len_lit 3 w' (by decide) (by decide))
    go_enter Try.func22, Try.ntmps22
    go_wp2_with (with_reducible refine (L.out _).mono ?_; rintro e w' ⟨rfl, rfl⟩)
    go_ret
    exact ⟨rfl, rfl⟩
  · have L := Lib.hid (fun w' => show Calls Try.prog 40 #[.int .u64 4] w' (fun e w'' => e = .returned (.int .i64 3) ∧ w'' = w') from len_lit 4 w' (by decide) (by decide))
    go_enter Try.func22, Try.ntmps22
    go_wp2_with (with_reducible refine (L.out _).mono ?_; rintro e w' ⟨rfl, rfl⟩)
    go_ret
    exact ⟨rfl, rfl⟩
  · have L := Lib.hid (fun w' => show Calls Try.prog 40 #[.int .u64 5] w' (fun e w'' => e = .returned (.int .i64 3) ∧ w'' = w') from len_lit 5 w' (by decide) (by decide))
    go_enter Try.func22, Try.ntmps22
    go_wp2_with (with_reducible refine (L.out _).mono ?_; rintro e w' ⟨rfl, rfl⟩)
    go_ret
    exact ⟨rfl, rfl⟩
  · have L := Lib.hid (fun w' => show Calls Try.prog 40 #[.int .u64 6] w' (fun e w'' => e = .returned (.int .i64 3) ∧ w'' = w') from len_lit 6 w' (by decide) (by decide))
    go_enter Try.func22, Try.ntmps22
    go_wp2_with (with_reducible refine (L.out _).mono ?_; rintro e w' ⟨rfl, rfl⟩)
    go_ret
    exact ⟨rfl, rfl⟩
  · have L := Lib.hid (fun w' => show Calls Try.prog 40 #[.int .u64 7] w' (fun e w'' => e = .returned (.int .i64 3) ∧ w'' = w') from len_lit 7 w' (by decide) (by decide))
    go_enter Try.func22, Try.ntmps22
    go_wp2_with (with_reducible refine (L.out _).mono ?_; rintro e w' ⟨rfl, rfl⟩)
    go_ret
    exact ⟨rfl, rfl⟩
end Go.Proofs.Ytpkhioiabahhaaa
