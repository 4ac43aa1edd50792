/- The walk of the law at every number. -/
import Derived.Test.YtjekpmkghpjamaaGreatDoorMbv
namespace Go.Proofs.YtjekpmkghpjamaaGreatDoor
open Go.RowKit

set_option maxRecDepth 100000 in
set_option maxHeartbeats 8000000 in
theorem law_any {mx : Int} {u : TypeId} {y : Value} {u' : TypeId} {y' : Value} {w : World} (hv : Vars mx u y u' y' w) {x : Nat} (hx : x ≤ 255) : Calls Tryz.prog 3 #[.int .u8 (x : Int)] w fun e w' => e = .returned (.bool true) ∧ Below w.heap.size w w' := by
  have HV := Lib.hid hv
  have hxI : (x : Int) ≤ 255 := by omega
  have DE := Lib.hid (fun W => decimal_any hx W)
  have NP := Lib.hid (fun (W : World) (hb : Below w.heap.size w W) => show Calls Tryz.prog 4 #[.string (tx (87 :: dcl x))] W (fun e w' => ∃ AI cI AN cN m, e = .returned (.tuple #[.agg #[.int .i64 2, .slice AI 3 cI, .slice AN m cN], .int .i64 0]) ∧ TI w' 3 rowf (FR x) AI AN m ∧ Below W.heap.size W w') from (nparse_row hx (HV.out.later hb)).mono (fun _ _ h => h.ti))
  have P1 : ∀ W : World, (Op.stringOp .add (⟨#[87]⟩ : ByteArray) (tx (dcl x))).run Tryz.prog W = .ok (.string (tx (87 :: dcl x))) W := fun W => add_at [87] (dcl x) (87 :: dcl x) rfl (by have := (dcl_num x (by omega)).2.2.2.2.2; simp; omega) W
  generalize tx (87 :: dcl x) = t2 at NP P1
  generalize tx (dcl x) = t1 at DE P1
  have MI := Lib.hid (fun W => show Calls Tryz.prog 6 #[.int .i64 (x : Int)] W (fun e w' => e = .returned (.tuple #[.int .i64 (mirN x : Int), .int .i64 0]) ∧ Below W.heap.size W w') from mirror_rbn x hx W)
  have EL := Lib.hid (fun W => show Calls Tryz.prog 7 #[.int .i64 (x : Int)] W (fun e w' => e = .returned (.tuple #[.agg #[.int .i64 (rbn x 0), .int .i64 (rbn x 1), .int .i64 (rbn x 2), .int .i64 (rbn x 3), .int .i64 (rbn x 4), .int .i64 (rbn x 5), .int .i64 (rbn x 6), .int .i64 (rbn x 7)], .int .i64 0]) ∧ Below W.heap.size W w') from elem_rbn x hx W)
  have wx : IntKind.i64.wrap (x : Int) = (x : Int) := IntWalk.i64_in _ ⟨by omega, by omega⟩
  have AW := Lib.hid (fun (W : World) (hb : Below w.heap.size w W) => awake_any (HV.out.later hb))
  have SR := Lib.hid (sy_row x (by omega))
  clear hv
  go_enter Tryz.func3, Tryz.ntmps3
  go_upto_region 3 with (first
    | (go_at_call 5; (with_reducible refine (DE.out _).mono ?_); rintro e w1 ⟨rfl, hb⟩; have B1 := Lib.hid hb; clear hb)
    | (go_at_call 4; (with_reducible refine (NP.out _ B1.out).mono ?_); rintro e w2 ⟨I, cI, N, cN, m, rfl, ht, hb⟩; have X2 := Lib.hid hb; have T2 := Lib.hid ht; clear hb ht))
  have B2 := Lib.hid (show Below w.heap.size w (w2.alloc (.cells #[.int .i64 2, .slice I 3 cI, .slice N m cN] 25)) from B1.out.trans ((X2.out.alloc X2.out.size _).mono B1.out.size))
  have K2 := Lib.hid (Blk.new w2 25 #[.int .i64 2, .slice I 3 cI, .slice N m cN])
  have T2 := Lib.hid (T2.out.later ((Below.refl w2.heap.size w2).alloc (Nat.le_refl _) (.cells #[.int .i64 2, .slice I 3 cI, .slice N m cN] 25)))
  have hs2 : w.heap.size ≤ w2.heap.size := Nat.le_trans B1.out.size X2.out.size
  generalize w2.alloc (.cells #[.int .i64 2, .slice I 3 cI, .slice N m cN] 25) = v2 at B2 K2 T2 ⊢
  go_upto_region 4 with (go_at_call 6; (with_reducible refine (MI.out _).mono ?_); rintro e v3 ⟨rfl, hb⟩; have Y3 := Lib.hid hb; clear hb)
  go_upto_region 5 with (go_at_call 7; (with_reducible refine (EL.out _).mono ?_); rintro e w4 ⟨rfl, hb⟩; have Y4 := Lib.hid (Y3.out.trans (hb.mono Y3.out.size)); clear hb)
  have X4 := Lib.hid (show Below v2.heap.size v2 (w4.alloc (.cells #[.int .i64 (rbn x 0), .int .i64 (rbn x 1), .int .i64 (rbn x 2), .int .i64 (rbn x 3), .int .i64 (rbn x 4), .int .i64 (rbn x 5), .int .i64 (rbn x 6), .int .i64 (rbn x 7)] 32)) from Y4.out.alloc Y4.out.size _)
  have K8 := Lib.hid (Blk.new w4 32 #[.int .i64 (rbn x 0), .int .i64 (rbn x 1), .int .i64 (rbn x 2), .int .i64 (rbn x 3), .int .i64 (rbn x 4), .int .i64 (rbn x 5), .int .i64 (rbn x 6), .int .i64 (rbn x 7)])
  have K4 := Lib.hid (K2.out.below X4.out K2.out.lt)
  have T4 := Lib.hid (T2.out.later X4.out)
  have B4 := Lib.hid (B2.out.trans (X4.out.mono B2.out.size))
  generalize w4.alloc (.cells #[.int .i64 (rbn x 0), .int .i64 (rbn x 1), .int .i64 (rbn x 2), .int .i64 (rbn x 3), .int .i64 (rbn x 4), .int .i64 (rbn x 5), .int .i64 (rbn x 6), .int .i64 (rbn x 7)] 32) = v4 at K8 K4 T4 B4 ⊢
  go_wp2
  generalize w4.heap.size = g8 at K8 ⊢
  generalize w2.heap.size = g4 at K4 ⊢
  go_loopw [43] (fun jv wr => ∃ j : Nat, j ≤ 8 ∧ jv = .int .i64 (j : Int) ∧ Hid (Blk wr g8 32 #[.int .i64 (rbn x 0), .int .i64 (rbn x 1), .int .i64 (rbn x 2), .int .i64 (rbn x 3), .int .i64 (rbn x 4), .int .i64 (rbn x 5), .int .i64 (rbn x 6), .int .i64 (rbn x 7)]) ∧ Hid (Blk wr g4 25 #[.int .i64 2, .slice I 3 cI, .slice N m cN]) ∧ Hid (TI wr 3 rowf (FR x) I N m) ∧ Hid (Below w.heap.size w wr)) (fun jv _ => 8 - (intOf jv).toNat)
  case atStart => exact ⟨0, Nat.zero_le _, rfl, K8, K4, T4, B4⟩
  case round =>
    clear K8 K4 T4 B4 X4 K2 T2 B2 B1 X2 Y3 Y4
    obtain ⟨j, hj, rfl, K8, K4, T4, B4⟩ := hrel
    have EV := Lib.hid (fun (a b c : Int) (W : World) (A : Option Addr) (hb : Below wr.heap.size wr W) (hI : Reads W W.heap.size A 3 (il [a, b, c])) => eval_ti (T4.out.later hb) hd_row3 cI cN 3 A 3 [a, b, c] hI (by decide))
    obtain ⟨a0, a1, a2, a3⟩ := K4.out.three
    obtain rfl | rfl | rfl | rfl | rfl | rfl | rfl | rfl | rfl : j = 0 ∨ j = 1 ∨ j = 2 ∨ j = 3 ∨ j = 4 ∨ j = 5 ∨ j = 6 ∨ j = 7 ∨ j = 8 := by omega
    · have E1 := Lib.hid (show Calls Tryz.prog 8 #[.agg #[.int .i64 2, .slice I 3 cI, .slice N m cN], .slice (some ⟨wr.heap.size, 0, none⟩) 3 3] (wr.alloc (.cells #[.int .i64 0, .int .i64 0, .int .i64 0] 3)) (fun e w' => e = .returned (.tuple #[.int .i64 (rbn x 0), .int .i64 0]) ∧ Below (wr.alloc (.cells #[.int .i64 0, .int .i64 0, .int .i64 0] 3)).heap.size (wr.alloc (.cells #[.int .i64 0, .int .i64 0, .int .i64 0] 3)) w') from EV.out 0 0 0 _ _ ((Below.refl _ _).alloc (Nat.le_refl _) _) (Reads.of_blk1 (l := [0, 0, 0]) (Blk.new wr _ _)))
      have A1 := Lib.hid ((Below.refl wr.heap.size wr).alloc (Nat.le_refl _) (.cells #[.int .i64 0, .int .i64 0, .int .i64 0] 3))
      clear EV
      go_wp2_with (go_at_call 8; (with_reducible refine (E1.out).mono ?_); rintro e w5 ⟨rfl, hb⟩; have Y5 := Lib.hid (A1.out.trans (hb.mono A1.out.size)); have z0 := (K8.out.below Y5.out K8.out.lt).cell 0; clear hb)
      go_roundw
      case rel => exact ⟨1, by omega, rfl, Lib.hid (K8.out.below Y5.out K8.out.lt), Lib.hid (K4.out.below Y5.out K4.out.lt), Lib.hid (T4.out.later Y5.out), Lib.hid (B4.out.trans (Y5.out.mono B4.out.size))⟩
      case measure => simp [intOf]
    · have E1 := Lib.hid (show Calls Tryz.prog 8 #[.agg #[.int .i64 2, .slice I 3 cI, .slice N m cN], .slice (some ⟨wr.heap.size, 0, none⟩) 3 3] (wr.alloc (.cells #[.int .i64 0, .int .i64 0, .int .i64 1] 3)) (fun e w' => e = .returned (.tuple #[.int .i64 (rbn x 1), .int .i64 0]) ∧ Below (wr.alloc (.cells #[.int .i64 0, .int .i64 0, .int .i64 1] 3)).heap.size (wr.alloc (.cells #[.int .i64 0, .int .i64 0, .int .i64 1] 3)) w') from EV.out 0 0 1 _ _ ((Below.refl _ _).alloc (Nat.le_refl _) _) (Reads.of_blk1 (l := [0, 0, 1]) (Blk.new wr _ _)))
      have A1 := Lib.hid ((Below.refl wr.heap.size wr).alloc (Nat.le_refl _) (.cells #[.int .i64 0, .int .i64 0, .int .i64 1] 3))
      clear EV
      go_wp2_with (go_at_call 8; (with_reducible refine (E1.out).mono ?_); rintro e w5 ⟨rfl, hb⟩; have Y5 := Lib.hid (A1.out.trans (hb.mono A1.out.size)); have z0 := (K8.out.below Y5.out K8.out.lt).cell 1; clear hb)
      go_roundw
      case rel => exact ⟨2, by omega, rfl, Lib.hid (K8.out.below Y5.out K8.out.lt), Lib.hid (K4.out.below Y5.out K4.out.lt), Lib.hid (T4.out.later Y5.out), Lib.hid (B4.out.trans (Y5.out.mono B4.out.size))⟩
      case measure => simp [intOf]
    · have E1 := Lib.hid (show Calls Tryz.prog 8 #[.agg #[.int .i64 2, .slice I 3 cI, .slice N m cN], .slice (some ⟨wr.heap.size, 0, none⟩) 3 3] (wr.alloc (.cells #[.int .i64 0, .int .i64 1, .int .i64 0] 3)) (fun e w' => e = .returned (.tuple #[.int .i64 (rbn x 2), .int .i64 0]) ∧ Below (wr.alloc (.cells #[.int .i64 0, .int .i64 1, .int .i64 0] 3)).heap.size (wr.alloc (.cells #[.int .i64 0, .int .i64 1, .int .i64 0] 3)) w') from EV.out 0 1 0 _ _ ((Below.refl _ _).alloc (Nat.le_refl _) _) (Reads.of_blk1 (l := [0, 1, 0]) (Blk.new wr _ _)))
      have A1 := Lib.hid ((Below.refl wr.heap.size wr).alloc (Nat.le_refl _) (.cells #[.int .i64 0, .int .i64 1, .int .i64 0] 3))
      clear EV
      go_wp2_with (go_at_call 8; (with_reducible refine (E1.out).mono ?_); rintro e w5 ⟨rfl, hb⟩; have Y5 := Lib.hid (A1.out.trans (hb.mono A1.out.size)); have z0 := (K8.out.below Y5.out K8.out.lt).cell 2; clear hb)
      go_roundw
      case rel => exact ⟨3, by omega, rfl, Lib.hid (K8.out.below Y5.out K8.out.lt), Lib.hid (K4.out.below Y5.out K4.out.lt), Lib.hid (T4.out.later Y5.out), Lib.hid (B4.out.trans (Y5.out.mono B4.out.size))⟩
      case measure => simp [intOf]
    · have E1 := Lib.hid (show Calls Tryz.prog 8 #[.agg #[.int .i64 2, .slice I 3 cI, .slice N m cN], .slice (some ⟨wr.heap.size, 0, none⟩) 3 3] (wr.alloc (.cells #[.int .i64 0, .int .i64 1, .int .i64 1] 3)) (fun e w' => e = .returned (.tuple #[.int .i64 (rbn x 3), .int .i64 0]) ∧ Below (wr.alloc (.cells #[.int .i64 0, .int .i64 1, .int .i64 1] 3)).heap.size (wr.alloc (.cells #[.int .i64 0, .int .i64 1, .int .i64 1] 3)) w') from EV.out 0 1 1 _ _ ((Below.refl _ _).alloc (Nat.le_refl _) _) (Reads.of_blk1 (l := [0, 1, 1]) (Blk.new wr _ _)))
      have A1 := Lib.hid ((Below.refl wr.heap.size wr).alloc (Nat.le_refl _) (.cells #[.int .i64 0, .int .i64 1, .int .i64 1] 3))
      clear EV
      go_wp2_with (go_at_call 8; (with_reducible refine (E1.out).mono ?_); rintro e w5 ⟨rfl, hb⟩; have Y5 := Lib.hid (A1.out.trans (hb.mono A1.out.size)); have z0 := (K8.out.below Y5.out K8.out.lt).cell 3; clear hb)
      go_roundw
      case rel => exact ⟨4, by omega, rfl, Lib.hid (K8.out.below Y5.out K8.out.lt), Lib.hid (K4.out.below Y5.out K4.out.lt), Lib.hid (T4.out.later Y5.out), Lib.hid (B4.out.trans (Y5.out.mono B4.out.size))⟩
      case measure => simp [intOf]
    · have E1 := Lib.hid (show Calls Tryz.prog 8 #[.agg #[.int .i64 2, .slice I 3 cI, .slice N m cN], .slice (some ⟨wr.heap.size, 0, none⟩) 3 3] (wr.alloc (.cells #[.int .i64 1, .int .i64 0, .int .i64 0] 3)) (fun e w' => e = .returned (.tuple #[.int .i64 (rbn x 4), .int .i64 0]) ∧ Below (wr.alloc (.cells #[.int .i64 1, .int .i64 0, .int .i64 0] 3)).heap.size (wr.alloc (.cells #[.int .i64 1, .int .i64 0, .int .i64 0] 3)) w') from EV.out 1 0 0 _ _ ((Below.refl _ _).alloc (Nat.le_refl _) _) (Reads.of_blk1 (l := [1, 0, 0]) (Blk.new wr _ _)))
      have A1 := Lib.hid ((Below.refl wr.heap.size wr).alloc (Nat.le_refl _) (.cells #[.int .i64 1, .int .i64 0, .int .i64 0] 3))
      clear EV
      go_wp2_with (go_at_call 8; (with_reducible refine (E1.out).mono ?_); rintro e w5 ⟨rfl, hb⟩; have Y5 := Lib.hid (A1.out.trans (hb.mono A1.out.size)); have z0 := (K8.out.below Y5.out K8.out.lt).cell 4; clear hb)
      go_roundw
      case rel => exact ⟨5, by omega, rfl, Lib.hid (K8.out.below Y5.out K8.out.lt), Lib.hid (K4.out.below Y5.out K4.out.lt), Lib.hid (T4.out.later Y5.out), Lib.hid (B4.out.trans (Y5.out.mono B4.out.size))⟩
      case measure => simp [intOf]
    · have E1 := Lib.hid (show Calls Tryz.prog 8 #[.agg #[.int .i64 2, .slice I 3 cI, .slice N m cN], .slice (some ⟨wr.heap.size, 0, none⟩) 3 3] (wr.alloc (.cells #[.int .i64 1, .int .i64 0, .int .i64 1] 3)) (fun e w' => e = .returned (.tuple #[.int .i64 (rbn x 5), .int .i64 0]) ∧ Below (wr.alloc (.cells #[.int .i64 1, .int .i64 0, .int .i64 1] 3)).heap.size (wr.alloc (.cells #[.int .i64 1, .int .i64 0, .int .i64 1] 3)) w') from EV.out 1 0 1 _ _ ((Below.refl _ _).alloc (Nat.le_refl _) _) (Reads.of_blk1 (l := [1, 0, 1]) (Blk.new wr _ _)))
      have A1 := Lib.hid ((Below.refl wr.heap.size wr).alloc (Nat.le_refl _) (.cells #[.int .i64 1, .int .i64 0, .int .i64 1] 3))
      clear EV
      go_wp2_with (go_at_call 8; (with_reducible refine (E1.out).mono ?_); rintro e w5 ⟨rfl, hb⟩; have Y5 := Lib.hid (A1.out.trans (hb.mono A1.out.size)); have z0 := (K8.out.below Y5.out K8.out.lt).cell 5; clear hb)
      go_roundw
      case rel => exact ⟨6, by omega, rfl, Lib.hid (K8.out.below Y5.out K8.out.lt), Lib.hid (K4.out.below Y5.out K4.out.lt), Lib.hid (T4.out.later Y5.out), Lib.hid (B4.out.trans (Y5.out.mono B4.out.size))⟩
      case measure => simp [intOf]
    · have E1 := Lib.hid (show Calls Tryz.prog 8 #[.agg #[.int .i64 2, .slice I 3 cI, .slice N m cN], .slice (some ⟨wr.heap.size, 0, none⟩) 3 3] (wr.alloc (.cells #[.int .i64 1, .int .i64 1, .int .i64 0] 3)) (fun e w' => e = .returned (.tuple #[.int .i64 (rbn x 6), .int .i64 0]) ∧ Below (wr.alloc (.cells #[.int .i64 1, .int .i64 1, .int .i64 0] 3)).heap.size (wr.alloc (.cells #[.int .i64 1, .int .i64 1, .int .i64 0] 3)) w') from EV.out 1 1 0 _ _ ((Below.refl _ _).alloc (Nat.le_refl _) _) (Reads.of_blk1 (l := [1, 1, 0]) (Blk.new wr _ _)))
      have A1 := Lib.hid ((Below.refl wr.heap.size wr).alloc (Nat.le_refl _) (.cells #[.int .i64 1, .int .i64 1, .int .i64 0] 3))
      clear EV
      go_wp2_with (go_at_call 8; (with_reducible refine (E1.out).mono ?_); rintro e w5 ⟨rfl, hb⟩; have Y5 := Lib.hid (A1.out.trans (hb.mono A1.out.size)); have z0 := (K8.out.below Y5.out K8.out.lt).cell 6; clear hb)
      go_roundw
      case rel => exact ⟨7, by omega, rfl, Lib.hid (K8.out.below Y5.out K8.out.lt), Lib.hid (K4.out.below Y5.out K4.out.lt), Lib.hid (T4.out.later Y5.out), Lib.hid (B4.out.trans (Y5.out.mono B4.out.size))⟩
      case measure => simp [intOf]
    · have E1 := Lib.hid (show Calls Tryz.prog 8 #[.agg #[.int .i64 2, .slice I 3 cI, .slice N m cN], .slice (some ⟨wr.heap.size, 0, none⟩) 3 3] (wr.alloc (.cells #[.int .i64 1, .int .i64 1, .int .i64 1] 3)) (fun e w' => e = .returned (.tuple #[.int .i64 (rbn x 7), .int .i64 0]) ∧ Below (wr.alloc (.cells #[.int .i64 1, .int .i64 1, .int .i64 1] 3)).heap.size (wr.alloc (.cells #[.int .i64 1, .int .i64 1, .int .i64 1] 3)) w') from EV.out 1 1 1 _ _ ((Below.refl _ _).alloc (Nat.le_refl _) _) (Reads.of_blk1 (l := [1, 1, 1]) (Blk.new wr _ _)))
      have A1 := Lib.hid ((Below.refl wr.heap.size wr).alloc (Nat.le_refl _) (.cells #[.int .i64 1, .int .i64 1, .int .i64 1] 3))
      clear EV
      go_wp2_with (go_at_call 8; (with_reducible refine (E1.out).mono ?_); rintro e w5 ⟨rfl, hb⟩; have Y5 := Lib.hid (A1.out.trans (hb.mono A1.out.size)); have z0 := (K8.out.below Y5.out K8.out.lt).cell 7; clear hb)
      go_roundw
      case rel => exact ⟨8, by omega, rfl, Lib.hid (K8.out.below Y5.out K8.out.lt), Lib.hid (K4.out.below Y5.out K4.out.lt), Lib.hid (T4.out.later Y5.out), Lib.hid (B4.out.trans (Y5.out.mono B4.out.size))⟩
      case measure => simp [intOf]
    · by_cases hm : mirN x = x
      · have SR2 : nl (sqy (FR x) rowf 3) 8 = [0, 2, 4, 6] := by rw [SR.out, if_pos hm]
        have A1 := Lib.hid (show Below wr.heap.size wr ((wr.alloc (.cells #[.int .i64 0, .int .i64 6] 3)).alloc (.cells #[.int .i64 0, .int .i64 2, .int .i64 4, .int .i64 6] 3)) from (((Below.refl wr.heap.size wr).alloc (Nat.le_refl _) (.cells #[.int .i64 0, .int .i64 6] 3)).alloc (by simp) (.cells #[.int .i64 0, .int .i64 2, .int .i64 4, .int .i64 6] 3)))
        have R1 := Lib.hid (show Reads ((wr.alloc (.cells #[.int .i64 0, .int .i64 6] 3)).alloc (.cells #[.int .i64 0, .int .i64 2, .int .i64 4, .int .i64 6] 3)) ((wr.alloc (.cells #[.int .i64 0, .int .i64 6] 3)).alloc (.cells #[.int .i64 0, .int .i64 2, .int .i64 4, .int .i64 6] 3)).heap.size (some ⟨wr.heap.size + 1, 0, none⟩) 4 (il [0, 2, 4, 6]) from by
          have h := Reads.of_blk1 (l := [0, 2, 4, 6]) (Blk.new (wr.alloc (.cells #[.int .i64 0, .int .i64 6] 3)) 3 _)
          simp only [World.size_alloc] at h ⊢
          exact h)
        have SY := Lib.hid (show Calls Tryz.prog 10 #[.agg #[.int .i64 2, .slice I 3 cI, .slice N m cN]] ((wr.alloc (.cells #[.int .i64 0, .int .i64 6] 3)).alloc (.cells #[.int .i64 0, .int .i64 2, .int .i64 4, .int .i64 6] 3)) (fun e w' => ∃ A c, e = .returned (.slice A 4 c) ∧ Reads w' w'.heap.size A 4 (il [0, 2, 4, 6]) ∧ Below ((wr.alloc (.cells #[.int .i64 0, .int .i64 6] 3)).alloc (.cells #[.int .i64 0, .int .i64 2, .int .i64 4, .int .i64 6] 3)).heap.size ((wr.alloc (.cells #[.int .i64 0, .int .i64 6] 3)).alloc (.cells #[.int .i64 0, .int .i64 2, .int .i64 4, .int .i64 6] 3)) w') from by
          have h := syms_ti (T4.out.later A1.out) (HV.out.later (B4.out.trans (A1.out.mono B4.out.size))).m hd_row3 (by decide) cI cN
          rw [SR2] at h
          exact h)
        clear SR2 EV
        have hmb : ((mirN x : Int) == (x : Int)) = true := by rw [hm]; simp
        generalize mirN x = mz at hm hmb
        clear hm
        go_wp2_with (first
          | (go_at_call 11; (with_reducible refine (AW.out _ B7.out).mono ?_); rintro e w8 ⟨rfl, hb⟩; have B8 := Lib.hid (B7.out.trans (hb.mono B7.out.size)); clear hb)
          | (go_at_call 9; (with_reducible refine (lints_yes SA _ 4 sc 4 [0, 2, 4, 6] _ RS.out (R1.out.below Y6.out |>.more Y6.out.size) (by decide)).mono ?_); rintro e w7 ⟨rfl, hb⟩; have B7 := Lib.hid (B6.out.trans (hb.mono B6.out.size)); clear hb)
          | (go_at_call 10; (with_reducible refine (SY.out).mono ?_); rintro e w6 ⟨SA, sc, rfl, hr, hb⟩; have RS := Lib.hid hr; have Y6 := Lib.hid hb; have B6 := Lib.hid (B4.out.trans ((A1.out.trans (Y6.out.mono A1.out.size)).mono B4.out.size)); clear hb hr))
        go_ret
        exact ⟨rfl, B8.out⟩
      · have SR2 : nl (sqy (FR x) rowf 3) 8 = [0, 6] := by rw [SR.out, if_neg hm]
        have A1 := Lib.hid (show Below wr.heap.size wr (wr.alloc (.cells #[.int .i64 0, .int .i64 6] 3)) from ((Below.refl wr.heap.size wr).alloc (Nat.le_refl _) (.cells #[.int .i64 0, .int .i64 6] 3)))
        have R1 := Lib.hid (show Reads (wr.alloc (.cells #[.int .i64 0, .int .i64 6] 3)) (wr.alloc (.cells #[.int .i64 0, .int .i64 6] 3)).heap.size (some ⟨wr.heap.size, 0, none⟩) 2 (il [0, 6]) from by
          have h := Reads.of_blk1 (l := [0, 6]) (Blk.new (wr) 3 _)
          simp only [World.size_alloc] at h ⊢
          exact h)
        have SY := Lib.hid (show Calls Tryz.prog 10 #[.agg #[.int .i64 2, .slice I 3 cI, .slice N m cN]] (wr.alloc (.cells #[.int .i64 0, .int .i64 6] 3)) (fun e w' => ∃ A c, e = .returned (.slice A 2 c) ∧ Reads w' w'.heap.size A 2 (il [0, 6]) ∧ Below (wr.alloc (.cells #[.int .i64 0, .int .i64 6] 3)).heap.size (wr.alloc (.cells #[.int .i64 0, .int .i64 6] 3)) w') from by
          have h := syms_ti (T4.out.later A1.out) (HV.out.later (B4.out.trans (A1.out.mono B4.out.size))).m hd_row3 (by decide) cI cN
          rw [SR2] at h
          exact h)
        clear SR2 EV
        have hmb : ((mirN x : Int) == (x : Int)) = false := by rw [beq_eq_false_iff_ne]; omega
        generalize mirN x = mz at hm hmb
        clear hm
        go_wp2_with (first
          | (go_at_call 11; (with_reducible refine (AW.out _ B7.out).mono ?_); rintro e w8 ⟨rfl, hb⟩; have B8 := Lib.hid (B7.out.trans (hb.mono B7.out.size)); clear hb)
          | (go_at_call 9; (with_reducible refine (lints_yes SA _ 2 sc 2 [0, 6] _ RS.out (R1.out.below Y6.out |>.more Y6.out.size) (by decide)).mono ?_); rintro e w7 ⟨rfl, hb⟩; have B7 := Lib.hid (B6.out.trans (hb.mono B6.out.size)); clear hb)
          | (go_at_call 10; (with_reducible refine (SY.out).mono ?_); rintro e w6 ⟨SA, sc, rfl, hr, hb⟩; have RS := Lib.hid hr; have Y6 := Lib.hid hb; have B6 := Lib.hid (B4.out.trans ((A1.out.trans (Y6.out.mono A1.out.size)).mono B4.out.size)); clear hb hr))
        go_ret
        exact ⟨rfl, B8.out⟩
end Go.Proofs.YtjekpmkghpjamaaGreatDoor
