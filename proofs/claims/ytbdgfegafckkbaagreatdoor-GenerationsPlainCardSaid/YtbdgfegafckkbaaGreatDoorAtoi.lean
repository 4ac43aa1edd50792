/- The walk of number at the chapter's examples. -/
import Derived.Test.YtbdgfegafckkbaaGreatDoorLays
import Derived.Test.YtbdgfegafckkbaaGreatDoorStr
import Derived.Test.YtbdgfegafckkbaaGreatDoorTail
import Derived.Lib.IfaceEq
import Derived.Laws.IdiomStrings
namespace Go.Proofs.YtbdgfegafckkbaaGreatDoor
open Go.RowKit

theorem bytes_one (d : UInt8) (w : World) : ∃ c w1, (convert 9 31 (.string ⟨#[d]⟩)).run Tryz.prog w = .ok (.slice (some ⟨w.heap.size, 0, none⟩) 1 c) w1 ∧ Below w.heap.size w w1 ∧ w1.cell? ⟨w.heap.size, 0, none⟩ = some (.int .u8 d.toNat) := by
  refine ⟨_, _, run_bytes_of_string w 9 31 5 ⟨#[d]⟩ Tryz.underlying9 Tryz.underlying31 Tryz.underlying5, ?_, ?_⟩
  · exact (Below.refl _ _).drew.alloc (Nat.le_refl _) _
  · have h := bytesRow_at ⟨#[d]⟩ (grownCap w (⟨#[d]⟩ : ByteArray).size 0 5) 0 (show 0 < 1 by decide)
    rw [show ((#[d] : Array UInt8)[0]) = d from rfl] at h
    unfold World.cell?
    simp only [World.alloc, World.drew]
    simp [h]
set_option maxRecDepth 100000 in
set_option maxHeartbeats 4000000 in
theorem iatoi2 (w : World) :
    Calls Tryz.prog 54 #[.string (tx [50])] w fun e w' => e = .returned (.tuple #[.int .i64 2, .nilIface]) ∧ Below w.heap.size w w' := by
  have hw0 : IntKind.i64.wrap 0 = 0 := by decide
  obtain ⟨c, w1, R1, B1, C1⟩ := bytes_one 50 w
  rw [show (((50 : UInt8).toNat : Nat) : Int) = 50 from rfl] at C1
  have B1 := Lib.hid B1
  unfold tx
  go_enter Tryz.func54, Tryz.ntmps54
  go_wp2
  refine wp_loop_rounds 2 ?_
  rw [rounds_succ]
  go_wp2
  rw [rounds_succ]
  go_wp2
  go_ret2
  exact ⟨rfl, B1.out⟩
set_option maxRecDepth 100000 in
set_option maxHeartbeats 4000000 in
theorem iatoi3 (w : World) :
    Calls Tryz.prog 54 #[.string (tx [51])] w fun e w' => e = .returned (.tuple #[.int .i64 3, .nilIface]) ∧ Below w.heap.size w w' := by
  have hw0 : IntKind.i64.wrap 0 = 0 := by decide
  obtain ⟨c, w1, R1, B1, C1⟩ := bytes_one 51 w
  rw [show (((51 : UInt8).toNat : Nat) : Int) = 51 from rfl] at C1
  have B1 := Lib.hid B1
  unfold tx
  go_enter Tryz.func54, Tryz.ntmps54
  go_wp2
  refine wp_loop_rounds 2 ?_
  rw [rounds_succ]
  go_wp2
  rw [rounds_succ]
  go_wp2
  go_ret2
  exact ⟨rfl, B1.out⟩
set_option maxRecDepth 100000 in
set_option maxHeartbeats 4000000 in
theorem iatoi4 (w : World) :
    Calls Tryz.prog 54 #[.string (tx [52])] w fun e w' => e = .returned (.tuple #[.int .i64 4, .nilIface]) ∧ Below w.heap.size w w' := by
  have hw0 : IntKind.i64.wrap 0 = 0 := by decide
  obtain ⟨c, w1, R1, B1, C1⟩ := bytes_one 52 w
  rw [show (((52 : UInt8).toNat : Nat) : Int) = 52 from rfl] at C1
  have B1 := Lib.hid B1
  unfold tx
  go_enter Tryz.func54, Tryz.ntmps54
  go_wp2
  refine wp_loop_rounds 2 ?_
  rw [rounds_succ]
  go_wp2
  rw [rounds_succ]
  go_wp2
  go_ret2
  exact ⟨rfl, B1.out⟩
set_option maxRecDepth 100000 in
set_option maxHeartbeats 4000000 in
theorem parseInt_none (w : World) :
    Calls Tryz.prog 70 #[.string ⟨#[]⟩, .int .i64 10, .int .i64 0] w fun e w' => e = .returned (.tuple #[.int .i64 0, .iface 94 (.int .i64 2)]) ∧ w = w' := by
  have hw0 : IntKind.i64.wrap 0 = 0 := by decide
  go_enter Tryz.func70, Tryz.ntmps70
  go_wp2
  go_ret2
  exact ⟨rfl, rfl⟩
set_option maxRecDepth 100000 in
set_option maxHeartbeats 4000000 in
theorem iatoi_none (w : World) :
    Calls Tryz.prog 54 #[.string ⟨#[]⟩] w fun e w' => e = .returned (.tuple #[.int .i64 0, .iface 94 (.int .i64 2)]) ∧ w = w' := by
  have hw0 : IntKind.i64.wrap 0 = 0 := by decide
  have C := Lib.hid (parseInt_none w)
  go_enter Tryz.func54, Tryz.ntmps54
  go_wp2_with (go_at_call 70; (with_reducible refine (C.out).mono ?_); rintro e w' ⟨rfl, rfl⟩)
  go_ret2
  exact ⟨rfl, rfl⟩
set_option maxRecDepth 100000 in
set_option maxHeartbeats 4000000 in
theorem syntaxError_any (u : TypeId) (x : Value) (w : World) (h2 : w.cell? ⟨2, 0, none⟩ = some (.iface u x)) (hz : 2 < w.heap.size) :
    Calls Tryz.prog 71 #[.string ⟨#[65, 116, 111, 105]⟩, .string ⟨#[]⟩] w fun e w' => (∃ a, e = .returned (.pointer (some a))) ∧ Below w.heap.size w w' := by
  have C : ∀ w, Calls Tryz.prog 91 #[.string ⟨#[]⟩] w fun e w' => e = .returned (.string ⟨#[]⟩) ∧ w = w' := by
    intro w
    go_enter Tryz.func91, Tryz.ntmps91
    go_wp2
    go_ret
    exact ⟨rfl, rfl⟩
  have C := Lib.hid C
  have k0 := fun p : LowW w.heap.size w => LowW.cell (a := ⟨2, 0, none⟩) hz h2 p
  clear h2
  go_enter Tryz.func71, Tryz.ntmps71
  go_wp2_with fail
  refine wp_region_low_tail w.heap.size w 5 (by kernel_rfl) (by kernel_rfl) (Below.refl _ _) ?_
  simp only [List.take_succ_cons, List.take_zero, List.drop_succ_cons, List.drop_zero]
  repeat (quiet_step (first | (go_at_call 91; with_reducible exact LowW.of_call _ (Nat.le_refl _) (below_quiet (C.out _)))))
  refine wpQuiet_nil ?_
  rintro w1 ⟨p, rfl⟩
  have PB := Lib.hid p.below
  clear k0
  generalize p.w = w1 at PB ⊢
  go_wp2
  go_ret
  exact ⟨⟨_, rfl⟩, PB.out.alloc PB.out.size _⟩
set_option maxRecDepth 100000 in
set_option maxHeartbeats 4000000 in
theorem toError_any (u : TypeId) (x : Value) (w : World) (h2 : w.cell? ⟨2, 0, none⟩ = some (.iface u x)) (hz : 2 < w.heap.size) :
    Calls Tryz.prog 55 #[.string ⟨#[65, 116, 111, 105]⟩, .string ⟨#[]⟩, .int .i64 0, .int .i64 0, .iface 94 (.int .i64 2)] w fun e w' => (∃ a, e = .returned (.iface 97 (.pointer (some a)))) ∧ Below w.heap.size w w' := by
  have C := Lib.hid (syntaxError_any u x w h2 hz)
  have hc : (Tryz.prog.info? 94).map (·.comparable) = some true := by kernel_rfl
  have hq := fun w => Lib.run_eql_iface_int (P := Tryz.prog) w (k := .i64) 2 2 Tryz.underlying63 hc Tryz.underlying94
  rw [show ((2 : Int) == 2) = true from rfl] at hq
  clear h2 hc
  go_enter Tryz.func55, Tryz.ntmps55
  go_wp2_with (go_at_call 71; (with_reducible refine (C.out).mono ?_); rintro e w' ⟨⟨a, rfl⟩, hb⟩)
  go_ret
  exact ⟨⟨_, rfl⟩, hb⟩
set_option maxRecDepth 100000 in
theorem atoi_none (u : TypeId) (x : Value) (w : World) (h2 : w.cell? ⟨2, 0, none⟩ = some (.iface u x)) (hz : 2 < w.heap.size) :
    Calls Tryz.prog 40 #[.string ⟨#[]⟩] w fun e w' => (∃ t x, e = .returned (.tuple #[.int .i64 0, .iface t x])) ∧ Below w.heap.size w w' := by
  have C1 := Lib.hid (iatoi_none w)
  have C2 := Lib.hid (toError_any u x w h2 hz)
  clear h2
  go_enter Tryz.func40, Tryz.ntmps40
  go_wp2_with (first | (go_at_call 54; (with_reducible refine (C1.out).mono ?_); rintro e w' ⟨rfl, rfl⟩) | (go_at_call 55; (with_reducible refine (C2.out).mono ?_); rintro e w' ⟨⟨a, rfl⟩, hb⟩))
  go_ret2
  exact ⟨⟨_, _, rfl⟩, hb⟩
set_option maxRecDepth 100000 in
theorem number_none (u : TypeId) (x : Value) (w : World) (h2 : w.cell? ⟨2, 0, none⟩ = some (.iface u x)) (hz : 2 < w.heap.size) :
    Calls Tryz.prog 29 #[.string (tx [])] w fun e w' => e = .returned (.tuple #[.int .i64 0, .bool false]) ∧ Below w.heap.size w w' := by
  have C1 := Lib.hid (atoi_none u x w h2 hz)
  clear h2
  unfold tx
  go_enter Tryz.func29, Tryz.ntmps29
  go_wp2_with (go_at_call 40; (with_reducible refine (C1.out).mono ?_); rintro e w' ⟨⟨t', x', rfl⟩, hb⟩)
  go_ret2
  exact ⟨rfl, hb⟩
set_option maxRecDepth 100000 in
theorem number2 (w : World) :
    Calls Tryz.prog 29 #[.string (tx [50])] w fun e w' => e = .returned (.tuple #[.int .i64 2, .bool true]) ∧ Below w.heap.size w w' := by
  have C : Calls Tryz.prog 40 #[.string (tx [50])] w fun e w' => e = .returned (.tuple #[.int .i64 2, .nilIface]) ∧ Below w.heap.size w w' := by
    have C1 := Lib.hid (iatoi2 w)
    generalize tx [50] = s at C1 ⊢
    go_enter Tryz.func40, Tryz.ntmps40
    go_wp2_with (go_at_call 54; (with_reducible refine (C1.out).mono ?_); rintro e w' ⟨rfl, hb⟩)
    go_ret2
    exact ⟨rfl, hb⟩
  have C := Lib.hid C
  have I := Lib.hid (show ∀ w, Calls Tryz.prog 23 #[.int .i64 2] w fun e w' => e = .returned (.string ⟨#[50]⟩) ∧ w = w' from fun w => itoa_any 2 w (by decide))
  unfold tx at C ⊢
  go_enter Tryz.func29, Tryz.ntmps29
  go_wp2_with (first | (go_at_call 40; (with_reducible refine (C.out).mono ?_); rintro e w' ⟨rfl, hb⟩) | (go_at_call 23; (with_reducible refine (I.out _).mono ?_); rintro e w2 ⟨rfl, rfl⟩))
  go_ret2
  exact ⟨rfl, hb⟩
set_option maxRecDepth 100000 in
theorem number3 (w : World) :
    Calls Tryz.prog 29 #[.string (tx [51])] w fun e w' => e = .returned (.tuple #[.int .i64 3, .bool true]) ∧ Below w.heap.size w w' := by
  have C : Calls Tryz.prog 40 #[.string (tx [51])] w fun e w' => e = .returned (.tuple #[.int .i64 3, .nilIface]) ∧ Below w.heap.size w w' := by
    have C1 := Lib.hid (iatoi3 w)
    generalize tx [51] = s at C1 ⊢
    go_enter Tryz.func40, Tryz.ntmps40
    go_wp2_with (go_at_call 54; (with_reducible refine (C1.out).mono ?_); rintro e w' ⟨rfl, hb⟩)
    go_ret2
    exact ⟨rfl, hb⟩
  have C := Lib.hid C
  have I := Lib.hid (show ∀ w, Calls Tryz.prog 23 #[.int .i64 3] w fun e w' => e = .returned (.string ⟨#[51]⟩) ∧ w = w' from fun w => itoa_any 3 w (by decide))
  unfold tx at C ⊢
  go_enter Tryz.func29, Tryz.ntmps29
  go_wp2_with (first | (go_at_call 40; (with_reducible refine (C.out).mono ?_); rintro e w' ⟨rfl, hb⟩) | (go_at_call 23; (with_reducible refine (I.out _).mono ?_); rintro e w2 ⟨rfl, rfl⟩))
  go_ret2
  exact ⟨rfl, hb⟩
set_option maxRecDepth 100000 in
theorem number4 (w : World) :
    Calls Tryz.prog 29 #[.string (tx [52])] w fun e w' => e = .returned (.tuple #[.int .i64 4, .bool true]) ∧ Below w.heap.size w w' := by
  have C : Calls Tryz.prog 40 #[.string (tx [52])] w fun e w' => e = .returned (.tuple #[.int .i64 4, .nilIface]) ∧ Below w.heap.size w w' := by
    have C1 := Lib.hid (iatoi4 w)
    generalize tx [52] = s at C1 ⊢
    go_enter Tryz.func40, Tryz.ntmps40
    go_wp2_with (go_at_call 54; (with_reducible refine (C1.out).mono ?_); rintro e w' ⟨rfl, hb⟩)
    go_ret2
    exact ⟨rfl, hb⟩
  have C := Lib.hid C
  have I := Lib.hid (show ∀ w, Calls Tryz.prog 23 #[.int .i64 4] w fun e w' => e = .returned (.string ⟨#[52]⟩) ∧ w = w' from fun w => itoa_any 4 w (by decide))
  unfold tx at C ⊢
  go_enter Tryz.func29, Tryz.ntmps29
  go_wp2_with (first | (go_at_call 40; (with_reducible refine (C.out).mono ?_); rintro e w' ⟨rfl, hb⟩) | (go_at_call 23; (with_reducible refine (I.out _).mono ?_); rintro e w2 ⟨rfl, rfl⟩))
  go_ret2
  exact ⟨rfl, hb⟩
end Go.Proofs.YtbdgfegafckkbaaGreatDoor
