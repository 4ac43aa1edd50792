/- The walks of ruletable's number, isLetter, isName; what the walk reads of the package variables. -/
import Derived.Test.YtbcihgimflljoaaGreatDoorRead
import Derived.Test.YtbcihgimflljoaaGreatDoorApp
import Derived.Shelf.Strconv.AtoiErr
import Derived.Shelf.Strconv.Atoi
import Derived.Shelf.Strconv.Itoa3
import Derived.Lib.IfaceEq
namespace Go.Proofs.YtbcihgimflljoaaGreatDoor
open Go.RowKit Go.Shelf

/-- the names of the kinds of symmetries, and of the neighbourhoods -/
def snm : Array Value := #[.string (tx [110, 111, 110, 101]), .string (tx [114, 111, 116, 97, 116, 101]), .string (tx [114, 101, 102, 108, 101, 99, 116]), .string (tx [112, 101, 114, 109, 117, 116, 101])]
def hnm : Array Value := #[.string (tx [109, 111, 111, 114, 101]), .string (tx [110, 101, 117, 109, 97, 110, 110]), .string (tx [104, 101, 120]), .string (tx [108, 105, 110, 101])]
/-- what the walk reads of the package variables -/
structure Vr (m : Int) (u : TypeId) (x : Value) (w : World) : Prop where
  mx : w.cell? ⟨3, 0, none⟩ = some (.int .i64 m)
  er : w.cell? ⟨7, 0, none⟩ = some (.iface u x)
  sn : ∀ i : Nat, i < 4 → w.cell? ⟨1, i, none⟩ = snm[i]?
  hn : ∀ i : Nat, i < 4 → w.cell? ⟨2, i, none⟩ = hnm[i]?
  mat : Mat w
  sz : 7 < w.heap.size
theorem Vr.below {m : Int} {u : TypeId} {x : Value} {w w' : World} {B : Nat} (h : Vr m u x w) (hb : Below B w w') (hB : 7 < B) : Vr m u x w' :=
  ⟨(hb.cell (p := ⟨3, 0, none⟩) (show 3 < B by omega)).trans h.mx, (hb.cell (p := ⟨7, 0, none⟩) hB).trans h.er, fun i hi => (hb.cell (p := ⟨1, i, none⟩) (show 1 < B by omega)).trans (h.sn i hi), fun i hi => (hb.cell (p := ⟨2, i, none⟩) (show 2 < B by omega)).trans (h.hn i hi), h.mat.below hb (by omega), Nat.lt_of_lt_of_le h.sz hb.size⟩
theorem Vr.later {m : Int} {u : TypeId} {x : Value} {w w' : World} (h : Vr m u x w) (hb : Below w.heap.size w w') : Vr m u x w' := h.below hb h.sz
theorem Vr.grown {m : Int} {u : TypeId} {x : Value} {w w' : World} {R : Nat} (h : Vr m u x w) (hg : w.grownBy w' (some R)) (hR : 7 < R) : Vr m u x w' := by
  refine h.below (B := 8) ⟨hg.os, hg.tape, hg.output, hg.size, fun b hb => hg.block b (by have := h.sz; omega) (fun e => by cases e; omega)⟩ (by omega)
theorem dd {d : Nat} (h : d < 10) : Lib.decDigits d = [UInt8.ofNat (48 + d)] := by
  unfold Lib.decDigits; rw [dif_pos h]
theorem itoa_small (d : Nat) (hd : d < 10) (w : World) :
    Calls Tryz.prog 44 #[.int .i64 (d : Int)] w fun e w' => e = .returned (.string (tx [UInt8.ofNat (48 + d)])) ∧ w = w' :=
  (Any.strconv_Itoa_small layItoa d (by omega) w).mono (by rintro e w' ⟨rfl, rfl⟩; rw [dd hd]; exact ⟨rfl, rfl⟩)
theorem atoi_ok {l : List UInt8} {d : Nat} (hl : l.length ≤ 18) (h : Lib.atoi l = some (d : Int)) (w : World) :
    Calls Tryz.prog 116 #[.string (tx l)] w fun e w' => e = .returned (.tuple #[.int .i64 (d : Int), .nilIface]) ∧ Below w.heap.size w w' :=
  (Any.strconv_Atoi { layAtoi with } (tx l) (d : Int) (by rw [tx_size]; exact hl) (by rw [tx_data]; exact h) w).mono (by rintro e w' ⟨rfl, t, rfl⟩; exact ⟨rfl, Lib.bytesWorld_below _ _ _⟩)
theorem atoi_no {l : List UInt8} (hl : l.length ≤ 18) (h : Lib.atoi l = none) (u : TypeId) (x : Value) (w : World) (hv : w.cell? ⟨7, 0, none⟩ = some (.iface u x)) :
    Calls Tryz.prog 116 #[.string (tx l)] w fun e w' => (∃ N, e = .returned (.tuple #[.int .i64 0, .iface 189 (.pointer (some ⟨N, 0, none⟩))])) ∧ Below w.heap.size w w' :=
  (Any.strconv_Atoi_err layAtoi (tx l) (by rw [tx_size]; exact hl) (by rw [tx_data]; exact h) (.iface u x) w hv (.inr ⟨u, x, rfl⟩)).mono (by rintro e w' ⟨N, rfl, _, _, hb⟩; exact ⟨⟨N, rfl⟩, hb⟩)
set_option maxRecDepth 100000 in
theorem number_ok {l : List UInt8} {d : Nat} (hl : l.length ≤ 18) (h : Lib.atoi l = some (d : Int)) (hd : d < 10) (hdd : [UInt8.ofNat (48 + d)] = l) (w : World) :
    Calls Tryz.prog 88 #[.string (tx l)] w fun e w' => e = .returned (.tuple #[.int .i64 (d : Int), .bool true]) ∧ Below w.heap.size w w' := by
  have A := Lib.hid (atoi_ok hl h w)
  have I := fun w => Lib.hid (itoa_small d hd w)
  rw [hdd] at I
  have hm : (d : Int) ≤ 999999999 := by omega
  generalize tx l = s at A I ⊢
  go_enter Tryz.func88, Tryz.ntmps88
  go_wp2_with (first
    | (go_at_call 116; (with_reducible refine A.out.mono ?_); rintro e w1 ⟨rfl, hb⟩; have B := Lib.hid hb; clear hb)
    | (go_at_call 44; (with_reducible refine (I _).out.mono ?_); rintro e w2 ⟨rfl, rfl⟩))
  go_ret2
  exact ⟨rfl, B.out⟩
set_option maxRecDepth 100000 in
theorem number_no {l : List UInt8} (hl : l.length ≤ 18) (h : Lib.atoi l = none) (u : TypeId) (x : Value) (w : World) (hv : w.cell? ⟨7, 0, none⟩ = some (.iface u x)) :
    Calls Tryz.prog 88 #[.string (tx l)] w fun e w' => e = .returned (.tuple #[.int .i64 0, .bool false]) ∧ Below w.heap.size w w' := by
  have A := Lib.hid (atoi_no hl h u x w hv)
  generalize tx l = s at A ⊢
  go_enter Tryz.func88, Tryz.ntmps88
  go_wp2_with (go_at_call 116; (with_reducible refine A.out.mono ?_); rintro e w1 ⟨⟨N, rfl⟩, hb⟩; have B := Lib.hid hb; clear hb)
  go_ret2
  exact ⟨rfl, B.out⟩
theorem letter_a (w : World) : Calls Tryz.prog 117 #[.int .u8 97] w fun e w' => e = .returned (.bool true) ∧ w = w' := by
  go_enter Tryz.func117, Tryz.ntmps117
  go_wp2
  go_ret
  exact ⟨rfl, rfl⟩
set_option maxRecDepth 100000 in
theorem name_a (w : World) : Calls Tryz.prog 89 #[.string (tx [97])] w fun e w' => e = .returned (.bool true) ∧ w = w' := by
  have A := fun w => Lib.hid (letter_a w)
  have hz : (tx [97]).size = 1 := rfl
  have e1 : ∀ h, ((tx [97])[0]'h).toNat = 97 := fun _ => rfl
  have e2 : ((tx [97]).toList == [118, 97, 114]) = false := by rw [Lib.toList_data, tx_data]; rfl
  generalize tx [97] = s at hz e1 e2 ⊢
  go_enter Tryz.func89, Tryz.ntmps89
  go_wp2_with (go_at_call 117; (with_reducible refine (A _).out.mono ?_); rintro e w1 ⟨rfl, rfl⟩)
  refine wp_loop_rounds 2 ?_
  rw [rounds_succ]
  go_wp2_with (go_at_call 117; (with_reducible refine (A _).out.mono ?_); rintro e w1 ⟨rfl, rfl⟩)
  rw [rounds_succ]
  go_wp2
  go_ret
  exact ⟨rfl, rfl⟩
end Go.Proofs.YtbcihgimflljoaaGreatDoor
