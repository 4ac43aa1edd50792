/- The walk of divide at the chapter's examples. -/
import Derived.Test.YtbdgfegafckkbaaGreatDoorCut
import Derived.Test.YtbdgfegafckkbaaGreatDoorDig
import Derived.BigQuiet
namespace Go.Proofs.YtbdgfegafckkbaaGreatDoor
open Go.RowKit

/-- what the walk reads of the package variables: MaxLen holds some number, ErrSyntax some error -/
def Vr (m : Int) (u : TypeId) (x : Value) (w : World) : Prop := 2 < w.heap.size ∧ w.cell? ⟨1, 0, none⟩ = some (.int .i64 m) ∧ w.cell? ⟨2, 0, none⟩ = some (.iface u x)
theorem Vr.later {m : Int} {u : TypeId} {x : Value} {w w' : World} (h : Vr m u x w) (hb : Below w.heap.size w w') : Vr m u x w' :=
  ⟨Nat.lt_of_lt_of_le h.1 hb.size, (hb.cell (p := ⟨1, 0, none⟩) (show 1 < w.heap.size by have := h.1; omega)).trans h.2.1, (hb.cell (p := ⟨2, 0, none⟩) (show 2 < w.heap.size by have := h.1; omega)).trans h.2.2⟩
set_option maxRecDepth 100000 in
theorem divide_yes (s a b : ByteArray) (w : World) (C : Calls Tryz.prog 39 #[.string s, .string ⟨#[47, 67]⟩] w fun e w' => e = .returned (.tuple #[.string a, .string b, .bool true]) ∧ Below w.heap.size w w') :
    Calls Tryz.prog 28 #[.string s] w fun e w' => e = .returned (.tuple #[.string a, .string b]) ∧ Below w.heap.size w w' := by
  have C := Lib.hid C
  go_enter Tryz.func28, Tryz.ntmps28
  go_wp2_with (go_at_call 39; (with_reducible refine (C.out).mono ?_); rintro e w' ⟨rfl, hb⟩)
  go_ret2
  exact ⟨rfl, hb⟩
set_option maxRecDepth 100000 in
theorem divide_no (s r bi di sv : List UInt8) (b1 b2 : Bool) (w : World) (hz : bi.length + sv.length ≤ 1000)
    (C1 : Calls Tryz.prog 39 #[.string (tx s), .string (tx [47, 67])] w fun e w' => e = .returned (.tuple #[.string (tx s), .string (tx []), .bool false]) ∧ Below w.heap.size w w')
    (C2 : ∀ w, Calls Tryz.prog 39 #[.string (tx s), .string (tx [47])] w fun e w' => e = .returned (.tuple #[.string (tx sv), .string (tx r), .bool b1]) ∧ Below w.heap.size w w')
    (C3 : ∀ w, Calls Tryz.prog 39 #[.string (tx r), .string (tx [47])] w fun e w' => e = .returned (.tuple #[.string (tx bi), .string (tx di), .bool b2]) ∧ Below w.heap.size w w') :
    Calls Tryz.prog 28 #[.string (tx s)] w fun e w' => e = .returned (.tuple #[.string (tx ([66] ++ bi ++ [47, 83] ++ sv)), .string (tx di)]) ∧ Below w.heap.size w w' := by
  have C1 := Lib.hid (show Calls Tryz.prog 39 #[.string (tx s), .string ⟨#[47, 67]⟩] w fun e w' => e = .returned (.tuple #[.string (tx s), .string (tx []), .bool false]) ∧ Below w.heap.size w w' from C1)
  have C2 := Lib.hid (show ∀ w, Calls Tryz.prog 39 #[.string (tx s), .string ⟨#[47]⟩] w fun e w' => e = .returned (.tuple #[.string (tx sv), .string (tx r), .bool b1]) ∧ Below w.heap.size w w' from C2)
  have C3 := Lib.hid (show ∀ w, Calls Tryz.prog 39 #[.string (tx r), .string ⟨#[47]⟩] w fun e w' => e = .returned (.tuple #[.string (tx bi), .string (tx di), .bool b2]) ∧ Below w.heap.size w w' from C3)
  have y1 : (tx bi).size = bi.length := tx_size _
  have y2 : (tx sv).size = sv.length := tx_size _
  have HT : (((⟨#[66]⟩ : ByteArray) ++ tx bi) ++ ⟨#[47, 83]⟩) ++ tx sv = tx ([66] ++ bi ++ [47, 83] ++ sv) := by
    show ((tx [66] ++ tx bi) ++ tx [47, 83]) ++ tx sv = _
    rw [tx_add, tx_add, tx_add]
  rw [← HT]
  clear HT
  generalize tx bi = u1 at C3 y1 ⊢
  generalize tx sv = u2 at C2 y2 ⊢
  generalize tx di = u3 at C3 ⊢
  generalize tx s = u4 at C1 C2 ⊢
  generalize tx r = u5 at C2 C3
  generalize tx [] = u6 at C1
  obtain ⟨v1, hv1⟩ : ∃ v1, v1 = (⟨#[66]⟩ : ByteArray) ++ u1 := ⟨_, rfl⟩
  obtain ⟨v2, hv2⟩ : ∃ v2, v2 = v1 ++ (⟨#[47, 83]⟩ : ByteArray) := ⟨_, rfl⟩
  obtain ⟨v3, hv3⟩ : ∃ v3, v3 = v2 ++ u2 := ⟨_, rfl⟩
  rw [← hv1, ← hv2, ← hv3]
  have x1 : v1.size = 1 + u1.size := by rw [hv1, ByteArray.size_append, show (⟨#[66]⟩ : ByteArray).size = 1 from rfl]
  have x2 : v2.size = v1.size + 2 := by rw [hv2, ByteArray.size_append, show (⟨#[47, 83]⟩ : ByteArray).size = 2 from rfl]
  have P1 : ∀ w : World, (Op.stringOp .add (⟨#[66]⟩ : ByteArray) u1).run Tryz.prog w = .ok (.string v1) w := fun w => by rw [hv1]; exact run_string_add_sum w _ _ (by rw [show (⟨#[66]⟩ : ByteArray).size = 1 from rfl]; omega)
  have P2 : ∀ w : World, (Op.stringOp .add v1 (⟨#[47, 83]⟩ : ByteArray)).run Tryz.prog w = .ok (.string v2) w := fun w => by rw [hv2]; exact run_string_add_sum w _ _ (by rw [show (⟨#[47, 83]⟩ : ByteArray).size = 2 from rfl]; omega)
  have P3 : ∀ w : World, (Op.stringOp .add v2 u2).run Tryz.prog w = .ok (.string v3) w := fun w => by rw [hv3]; exact run_string_add_sum w _ _ (by omega)
  clear hv1 hv2 hv3 x1 x2 y1 y2 hz
  go_enter Tryz.func28, Tryz.ntmps28
  go_wp2_with (first
    | (go_at_call 39; (with_reducible refine (C3.out _).mono ?_); rintro e w3 ⟨rfl, hb⟩; have B3 := Lib.hid (B2.out.trans (hb.mono B2.out.size)); clear hb)
    | (go_at_call 39; (with_reducible refine (C2.out _).mono ?_); rintro e w2 ⟨rfl, hb⟩; have B2 := Lib.hid (B1.out.trans (hb.mono B1.out.size)); clear hb)
    | (go_at_call 39; (with_reducible refine (C1.out).mono ?_); rintro e w1 ⟨rfl, hb⟩; have B1 := Lib.hid hb; clear hb))
  go_ret2
  exact ⟨rfl, B3.out⟩
theorem divide0 (m : Int) (u : TypeId) (x : Value) (w : World) (h : Vr m u x w) :
    Calls Tryz.prog 28 #[.string (tx [47, 50, 47, 51])] w fun e w' => e = .returned (.tuple #[.string (tx [66, 50, 47, 83]), .string (tx [51])]) ∧ Below w.heap.size w w' :=
  divide_no [47, 50, 47, 51] [50, 47, 51] [50] [51] [] true true w (by decide) (cut0 m w h.2.1) (fun w => cut5 w) (fun w => cut6 w)
theorem divide1 (m : Int) (u : TypeId) (x : Value) (w : World) (h : Vr m u x w) :
    Calls Tryz.prog 28 #[.string (tx [66, 50, 47, 83, 47, 67, 51])] w fun e w' => e = .returned (.tuple #[.string (tx [66, 50, 47, 83]), .string (tx [51])]) ∧ Below w.heap.size w w' :=
  divide_yes _ _ _ w (cut1 m w h.2.1)
theorem divide2 (m : Int) (u : TypeId) (x : Value) (w : World) (h : Vr m u x w) :
    Calls Tryz.prog 28 #[.string (tx [66, 50, 47, 83, 47, 67, 50])] w fun e w' => e = .returned (.tuple #[.string (tx [66, 50, 47, 83]), .string (tx [50])]) ∧ Below w.heap.size w w' :=
  divide_yes _ _ _ w (cut2 m w h.2.1)
theorem divide3 (m : Int) (u : TypeId) (x : Value) (w : World) (h : Vr m u x w) :
    Calls Tryz.prog 28 #[.string (tx [66, 51, 47, 83, 50, 51])] w fun e w' => e = .returned (.tuple #[.string (tx [66, 83, 50, 51, 47, 83, 66, 51]), .string (tx [])]) ∧ Below w.heap.size w w' :=
  divide_no [66, 51, 47, 83, 50, 51] [83, 50, 51] [83, 50, 51] [] [66, 51] true false w (by decide) (cut3 m w h.2.1) (fun w => cut7 w) (fun w => cut8 w)
theorem divide4 (m : Int) (u : TypeId) (x : Value) (w : World) (h : Vr m u x w) :
    Calls Tryz.prog 28 #[.string (tx [66, 50, 47, 83, 51, 52, 53, 47, 67, 52])] w fun e w' => e = .returned (.tuple #[.string (tx [66, 50, 47, 83, 51, 52, 53]), .string (tx [52])]) ∧ Below w.heap.size w w' :=
  divide_yes _ _ _ w (cut4 m w h.2.1)
end Go.Proofs.YtbdgfegafckkbaaGreatDoor
