/- The walk of the chapter's examples. -/
import Derived.Test.YtdbeomibajcecaaDoorSame
namespace Go.Proofs.YtdbeomibajcecaaDoor
open Go.RowKit

theorem same_new (w : World) (A : Option Addr) (c : Nat) (h : Reads w w.heap.size A 7 (il [0, 1, 2, 1, 0, 0, 1])) :
    Calls Tryd.prog 11 #[.slice A 7 c, .slice (some ⟨w.heap.size, 0, none⟩) 7 7] (w.alloc (.cells #[.int .i64 0, .int .i64 1, .int .i64 2, .int .i64 1, .int .i64 0, .int .i64 0, .int .i64 1] 3)) fun e w' => e = .returned (.bool true) ∧ Below (w.alloc (.cells #[.int .i64 0, .int .i64 1, .int .i64 2, .int .i64 1, .int .i64 0, .int .i64 0, .int .i64 1] 3)).heap.size (w.alloc (.cells #[.int .i64 0, .int .i64 1, .int .i64 2, .int .i64 1, .int .i64 0, .int .i64 0, .int .i64 1] 3)) w' := by
  refine isame_yes A (some ⟨w.heap.size, 0, none⟩) 7 c 7 [0, 1, 2, 1, 0, 0, 1] _ (h.later ((Below.refl _ _).alloc (Nat.le_refl _) _)) ⟨rfl, fun _ => ⟨_, rfl, by simp, fun j x hx => ?_⟩⟩ (by decide)
  have h2 : ((⟨w.heap.size, 0, none⟩ : Addr).add j) = ⟨w.heap.size, j, none⟩ := by
    unfold Addr.add
    split
    · next e => rw [e]
    · simp
  rw [h2, World.cell?_alloc_at _ _ _ _ rfl]
  simpa [il] using hx
set_option maxRecDepth 100000 in
set_option maxHeartbeats 8000000 in
theorem alive_any (u : TypeId) (v : Value) (w : World) (hv : Vr u v w) : Calls Tryd.prog 4 #[] w fun e w' => e = .returned (.bool true) ∧ Below w.heap.size w w' := by
  have E0 := Lib.hid (elem90 w)
  unfold oct at E0
  have HV := Lib.hid hv
  clear hv
  go_enter Tryd.func4, Tryd.ntmps4
  go_wp2_with (first
    | (go_at_call 7; (with_reducible refine E0.out.mono ?_); rintro e w1 ⟨rfl, hb⟩; have B1 := Lib.hid hb; clear hb)
    | fail)
  have K1 := Blk.new w1 27 #[.int .i64 0, .int .i64 1, .int .i64 0, .int .i64 1, .int .i64 1, .int .i64 0, .int .i64 1, .int .i64 0]
  have X1 := B1.out.alloc B1.out.size (.cells #[.int .i64 0, .int .i64 1, .int .i64 0, .int .i64 1, .int .i64 1, .int .i64 0, .int .i64 1, .int .i64 0] 27)
  generalize w1.alloc (.cells #[.int .i64 0, .int .i64 1, .int .i64 0, .int .i64 1, .int .i64 1, .int .i64 0, .int .i64 1, .int .i64 0] 27) = W1 at K1 X1 ⊢
  generalize w1.heap.size = g1 at K1 ⊢
  have HX1 := Lib.hid X1
  have HV1 := Lib.hid (HV.out.later X1)
  have HK1 := Lib.hid (fun w' (hb : Below W1.heap.size W1 w') => K1.below hb K1.lt)
  clear K1 X1 E0
  have EQ : ∀ w : World, (Op.equalIn 10000 27 (.agg #[.int .i64 0, .int .i64 1, .int .i64 0, .int .i64 1, .int .i64 1, .int .i64 0, .int .i64 1, .int .i64 0]) (.agg #[.int .i64 0, .int .i64 1, .int .i64 0, .int .i64 1, .int .i64 1, .int .i64 0, .int .i64 1, .int .i64 0])).run Tryd.prog w = .ok true w := fun _ => by kernel_rfl
  have M := Lib.hid mirror110
  have C := Lib.hid conjugate110
  have DG := Lib.hid digits777
  have P1 := Lib.hid (fun w (hb : Below W1.heap.size W1 w) => parse777 u v w (HV1.out.later hb))
  have P2 := Lib.hid (fun w (hb : Below W1.heap.size W1 w) => parse256 u v w (HV1.out.later hb))
  have P3 := Lib.hid (fun w (hb : Below W1.heap.size W1 w) => parse030 u v w (HV1.out.later hb))
  go_wp2_with (first
    | (go_at_call 11; (with_reducible refine (SA.out).mono ?_); rintro e w9 ⟨rfl, hb⟩; have X9 := Lib.hid (X8.out.trans (hb.mono X8.out.size)); clear hb)
    | (go_at_call 5; (with_reducible refine (P3.out _ X6.out).mono ?_); rintro e w7 ⟨rfl, hb⟩; have X7 := Lib.hid (X6.out.trans (hb.mono X6.out.size)); obtain ⟨c0, c1, c2, c3, c4, c5, c6, c7⟩ := (HK1.out _ X7.out).oct; have RB := Reads.later (Reads.later (Reads.later RA.out b5.out) b6.out) hb; have SA := Lib.hid (same_new w7 A4 c4x RB); have X8 := Lib.hid (X7.out.alloc X7.out.size (.cells #[.int .i64 0, .int .i64 1, .int .i64 2, .int .i64 1, .int .i64 0, .int .i64 0, .int .i64 1] 3)); clear RB hb)
    | (go_at_call 5; (with_reducible refine (P2.out _ X5.out).mono ?_); rintro e w6 ⟨rfl, hb⟩; have b6 := Lib.hid hb; have X6 := Lib.hid (X5.out.trans (hb.mono X5.out.size)); clear hb)
    | (go_at_call 5; (with_reducible refine (P1.out _ X4.out).mono ?_); rintro e w5 ⟨rfl, hb⟩; have b5 := Lib.hid hb; have X5 := Lib.hid (X4.out.trans (hb.mono X4.out.size)); clear hb)
    | (go_at_call 10; (with_reducible refine (DG.out _).mono ?_); rintro e w4 ⟨A4, c4x, rfl, hr, hb⟩; have RA := Lib.hid hr; have X4 := Lib.hid (X3.out.trans (hb.mono X3.out.size)); clear hb hr)
    | (go_at_call 9; (with_reducible refine (C.out _).mono ?_); rintro e w3 ⟨rfl, hb⟩; have X3 := Lib.hid (X2.out.trans (hb.mono X2.out.size)); clear hb)
    | (go_at_call 8; (with_reducible refine (M.out _).mono ?_); rintro e w2 ⟨rfl, hb⟩; have X2 := Lib.hid hb; clear hb))
  go_ret
  exact ⟨rfl, HX1.out.trans (X9.out.mono HX1.out.size)⟩
end Go.Proofs.YtdbeomibajcecaaDoor
