/- The walks of cmp.Compare, cmp.Or, point.Compare, place and comparePlaces. -/
import Derived.Test.YtbbehbgfdlamfaaACell
import Derived.Test.YtbbehbgfdlamfaaCPCell
import Derived.Test.YtbbehbgfdlamfaaTCell
import Derived.Test.YtbbehbgfdlamfaaTCmp
import Derived.Test.YtbbehbgfdlamfaaTMem
import Derived.Test.YtbbehbgfdlamfaaTSmall
import Derived.Test.YtbbehbgfdlamfaaTTree
import Derived.Below
import Derived.BigQuiet
import Derived.Deep.AppendLies
import Derived.Deep.Draws
import Derived.Deep.QuietTactic
import Derived.Laws.OwnMore
import Derived.Laws.Rows
import Derived.Lib.Hide
import Derived.LoopN
import Derived.StillTail
import Derived.StillTailTactics
import Derived.Test.YtbbehbgfdlamfaaRows
import Derived.WalkKit
namespace Go.Proofs.Ytbbehbgfdlamfaa
open Go.RowKit
theorem place_any (x y s : Int) (w : World) :
    Calls Try.prog 31 #[.agg #[.int .i64 x, .int .i64 y, .int .i64 s]] w fun e w' => e = .returned (.agg #[.int .i64 x, .int .i64 y]) ∧ Below w.heap.size w w' := by
  go_enter Try.func31, Try.ntmps31
  go_wp2
  refine bodyPost_ret (v := .agg #[.int .i64 x, .int .i64 y]) (by simp [results, Try.results31, go_sem]) rfl ⟨rfl, ?_⟩
  exact ((Below.refl _ _).alloc (Nat.le_refl _) _).alloc (by simp) _
set_option maxHeartbeats 1000000 in
theorem places_any (a b : C3) (w : World) :
    Calls Try.prog 26 #[cv a, cv b] w fun e w' => e = .returned (.int .i64 (cp a b)) ∧ Below w.heap.size w w' := by
  obtain ⟨x, y, s⟩ := a
  obtain ⟨u, v, r⟩ := b
  show Calls Try.prog 26 #[.agg #[.int .i64 x, .int .i64 y, .int .i64 s], .agg #[.int .i64 u, .int .i64 v, .int .i64 r]] w fun e w' => e = .returned (.int .i64 (or2 (sg y v) (sg x u))) ∧ Below w.heap.size w w'
  have K1 := (Blk.new w 33 #[.int .i64 x, .int .i64 y, .int .i64 s]).alloc (.cells #[.int .i64 u, .int .i64 v, .int .i64 r] 33)
  have K2 := Blk.new (w.alloc (.cells #[.int .i64 x, .int .i64 y, .int .i64 s] 33)) 33 #[.int .i64 u, .int .i64 v, .int .i64 r]
  rw [show (w.alloc (.cells #[.int .i64 x, .int .i64 y, .int .i64 s] 33)).heap.size = w.heap.size + 1 by simp] at K2
  have B2 : Below w.heap.size w ((w.alloc (.cells #[.int .i64 x, .int .i64 y, .int .i64 s] 33)).alloc (.cells #[.int .i64 u, .int .i64 v, .int .i64 r] 33)) := ((Below.refl _ _).alloc (Nat.le_refl _) _).alloc (by simp) _
  have P1 := Lib.hid place_any
  have C1 := Lib.hid (fun w => pcompare_any x y u v w)
  go_enter Try.func26, Try.ntmps26
  go_wp2_with fail
  generalize (w.alloc (.cells #[.int .i64 x, .int .i64 y, .int .i64 s] 33)).alloc (.cells #[.int .i64 u, .int .i64 v, .int .i64 r] 33) = w0 at K1 K2 B2 ⊢
  have k10 := fun p : LowW w0.heap.size w0 => (K1.below p.below K1.lt).three.1
  have k11 := fun p : LowW w0.heap.size w0 => (K1.below p.below K1.lt).three.2.1
  have k12 := fun p : LowW w0.heap.size w0 => (K1.below p.below K1.lt).three.2.2.1
  have k20 := fun p : LowW w0.heap.size w0 => (K2.below p.below K2.lt).three.1
  have k21 := fun p : LowW w0.heap.size w0 => (K2.below p.below K2.lt).three.2.1
  have k22 := fun p : LowW w0.heap.size w0 => (K2.below p.below K2.lt).three.2.2.1
  have B2 := Lib.hid B2
  clear K1 K2
  refine wp_region_low w0.heap.size w0 (by kernel_rfl) (by kernel_rfl) (Below.refl _ _) ?_
  repeat (quiet_step (first | (go_at_call 31; with_reducible exact LowW.of_call _ (Nat.le_refl _) (P1.out _ _ _ _)) | (go_at_call 30; with_reducible exact LowW.of_call _ (Nat.le_refl _) (C1.out _))))
  refine wpQuiet_nil ?_
  rintro w' ⟨p, rfl⟩
  have PB := Lib.hid p.below
  clear k10 k11 k12 k20 k21 k22
  generalize p.w = w1 at PB ⊢
  go_wp2
  go_ret
  exact ⟨rfl, B2.out.trans (PB.out.mono B2.out.size)⟩

end Go.Proofs.Ytbbehbgfdlamfaa
