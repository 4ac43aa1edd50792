/- The walks of Int at -4 and Bit at -1. -/
import Derived.Test.YtckkbeknjipddaaDoorDiv2
import Derived.Deep.QuietTactic
import Derived.BigQuiet
namespace Go.Proofs.YtckkbeknjipddaaDoor
open Go.RowKit

attribute [local go_sem ↓] Go.wp_at_zero Go.wp_at_succ

theorem quiet_left {P : Program} {f : FuncId} {args : Array Value} {w : World} {n : Nat} {v : Value}
    (h : Calls P f args (w.drewN n) fun e w' => e = .returned v ∧ w.drewN n = w') : Calls P f args (w.drewN n) fun e w'' => e = .returned v ∧ ∃ m, w'' = w.drewN m :=
  h.mono fun _ _ ⟨he, hw⟩ => ⟨he, n, hw.symm⟩

set_option maxRecDepth 100000 in
set_option maxHeartbeats 4000000 in
theorem int_ex (A : Option Addr) (c B : Nat) (w : World) (h1 : Reads w B A 1 (u32s [4])) (hB : B ≤ w.heap.size) :
    Calls Tryd.prog 16 #[.agg #[.bool true, .slice A 1 c]] w fun e w' => e = .returned (.tuple #[.int .i64 (-4), .bool true]) ∧ Below w.heap.size w w' := by
  have Q1 := Lib.hid (right_ok true A 1 c B [4] w h1 hB (by omega) true (by decide))
  have qc : ∀ (W : World) (A2 : Option Addr) (c2 : Nat), Below w.heap.size w W → Reads W W.heap.size A2 2 (u32s [0, 2147483648]) → Calls Tryd.prog 18 #[.agg #[.bool true, .slice A 1 c], .agg #[.bool true, .slice A2 2 c2]] W fun e w' => e = .returned (.int .i64 1) ∧ Below W.heap.size W w' := fun W A2 c2 hW hr =>
    cmp_neg_neg A A2 1 2 c c2 W.heap.size [4] [0, 2147483648] W ((h1.below (hW.mono hB)).more (Nat.le_trans hB hW.size)) hr (Nat.le_refl _) (by decide) (by decide) (by decide) (by decide) (by decide)
  have qp : ∀ (W : World) (A2 : Option Addr) (c2 : Nat), Below w.heap.size w W → Reads W W.heap.size A2 2 (u32s [4294967295, 2147483647]) → Calls Tryd.prog 18 #[.agg #[.bool true, .slice A 1 c], .agg #[.bool false, .slice A2 2 c2]] W fun e w' => e = .returned (.int .i64 (-1)) ∧ Below W.heap.size W w' := fun W A2 c2 hW hr =>
    cmp_neg_pos A A2 1 2 c c2 W.heap.size [4] [4294967295, 2147483647] W ((h1.below (hW.mono hB)).more (Nat.le_trans hB hW.size)) hr (Nat.le_refl _) (by decide) (by decide) (by decide) (by decide)
  have QC := Lib.hid qc
  have QP := Lib.hid qp
  have H1 := Lib.hid h1
  have bt1 : Below w.heap.size w (w.alloc (.cells #[.bool true, .slice A 1 c] 24)) := (Below.refl _ _).alloc (Nat.le_refl _) _
  have BT1 := Lib.hid bt1
  clear qc qp h1 bt1
  go_enter Tryd.func16, Tryd.ntmps16
  go_wp2_with fail
  go_region_held3 (fun w' => w'.cell? ⟨w.heap.size, 0, none⟩ = some (.bool true) ∧ w'.cell? ⟨w.heap.size, 1, none⟩ = some (.slice A 1 c))
    (first | exact ⟨x51, x52⟩ | exact ⟨x41, x42⟩ | exact ⟨x31, x32⟩ | exact ⟨x21, x22⟩ | exact ⟨x11, x12⟩ | go_keep)
    (first | (go_at_call 20; (with_reducible refine (Q1.out _ ?_).mono ?_); (exact BT1.out.drew); rintro e w1 ⟨rfl, hb1⟩; have hc1 := (Below.refl (w.heap.size + 1) (w.alloc (.cells #[.bool true, .slice A 1 c] 24))).drew.trans (hb1.mono (by simp)); obtain ⟨x11, x12, x13, x14, x15⟩ := box2 hc1) | (go_at_call 13; (with_reducible refine (from_min _).mono ?_); rintro e w2 ⟨A2, c2, rfl, hcc2, hr2, hb2, _⟩; have hc2 := hc1.trans (hb2.mono (show w.heap.size + 1 ≤ _ by omega)); obtain ⟨x21, x22, x23, x24, x25⟩ := box2 hc2) | (go_at_call 18; (with_reducible refine (QC.out w2 _ _ ?_ hr2).mono ?_); (exact BT1.out.trans (hc2.mono (by omega))); rintro e w3 ⟨rfl, hb3⟩; have hc3 := hc2.trans (hb3.mono (show w.heap.size + 1 ≤ _ by omega)); obtain ⟨x31, x32, x33, x34, x35⟩ := box2 hc3) | (go_at_call 13; (with_reducible refine (from_max _).mono ?_); rintro e w4 ⟨A4, c4, rfl, hcc4, hr4, hb4, _⟩; have hc4 := hc3.trans (hb4.mono (show w.heap.size + 1 ≤ _ by omega)); obtain ⟨x41, x42, x43, x44, x45⟩ := box2 hc4) | (go_at_call 18; (with_reducible refine (QP.out w4 _ _ ?_ hr4).mono ?_); (exact BT1.out.trans (hc4.mono (by omega))); rintro e w5 ⟨rfl, hb5⟩; have hc5 := hc4.trans (hb5.mono (show w.heap.size + 1 ≤ _ by omega)); obtain ⟨x51, x52, x53, x54, x55⟩ := box2 hc5))
  go_wp2
  have hor : bits BinOp.or IntKind.u64 0 4 = 4 := by decide
  have dg := fun (W : World) (i : Nat) hW hi => digitAt_any A 1 c B i [4] W hW (by decide) hi
  have hR5 := H1.out.below ((BT1.out.trans (hc5.mono (by omega))).mono hB)
  have hx5 : w.heap.size < w5.heap.size := x55
  have d0 : ∀ k, Calls Tryd.prog 38 #[.slice A 1 c, .int .i64 0] (w5.drewN k) fun e w' => e = .returned (.int .u32 4) ∧ w5.drewN k = w' := fun k => dg (w5.drewN k) 0 hR5 (by decide)
  have d1 : ∀ k, Calls Tryd.prog 38 #[.slice A 1 c, .int .i64 1] (w5.drewN k) fun e w' => e = .returned (.int .u32 0) ∧ w5.drewN k = w' := fun k => dg (w5.drewN k) 1 hR5 (by decide)
  have D0 := Lib.hid d0
  have D1 := Lib.hid d1
  clear dg d0 d1
  go_quiet (first | (go_at_call 38; (with_reducible exact quiet_left (D0.out _))) | (go_at_call 38; (with_reducible exact quiet_left (D1.out _))))
  go_wp2
  have hwr : wrap64 (IntKind.u64.wrap (-4)) = -4 := by rw [IntKind.wrap_u64]; unfold wrap64; omega
  go_ret2
  refine ⟨?_, ?_⟩
  · show Ending.returned (.tuple #[.int .i64 (wrap64 (IntKind.u64.wrap (-4))), .bool true]) = _
    rw [hwr]
  · exact below_drewN (BT1.out.trans (hc5.mono (by omega))) _

set_option maxRecDepth 100000 in
set_option maxHeartbeats 1000000 in
theorem bit_ex (A : Option Addr) (c B : Nat) (w : World) (h1 : Reads w B A 1 (u32s [1])) (hB : B ≤ w.heap.size) :
    Calls Tryd.prog 19 #[.agg #[.bool true, .slice A 1 c], .int .i64 1000] w fun e w' => e = .returned (.int .i64 1) ∧ Below w.heap.size w w' := by
  have bt1 : Below w.heap.size w (w.alloc (.cells #[.bool true, .slice A 1 c] 24)) := (Below.refl _ _).alloc (Nat.le_refl _) _
  have QS := Lib.hid (shift_neg A c B (w.alloc (.cells #[.bool true, .slice A 1 c] 24)) (h1.below (bt1.mono hB)) (by simp; omega))
  have BT1 := Lib.hid bt1
  have hand : bits BinOp.and IntKind.u32 1 1 = 1 := by decide
  clear bt1
  go_enter Tryd.func19, Tryd.ntmps19
  go_wp2_with (first | (go_at_call 12; (with_reducible refine QS.out.mono ?_); rintro e w1 ⟨A', c', rfl, hc', hr', hb', _⟩; have HRD := Lib.hid hr'; clear hr') | (go_at_call 38; refine (digitAt_any A' 1 c' w1.heap.size 0 [1] _ (HRD.out.alloc (Nat.le_refl _) _) (by decide) (by decide)).mono ?_; rintro e w' ⟨rfl, rfl⟩))
  go_ret
  exact ⟨rfl, (BT1.out.trans (hb'.mono (by simp))).alloc (by have := hb'.size; simp at this; omega) _⟩

end Go.Proofs.YtckkbeknjipddaaDoor
