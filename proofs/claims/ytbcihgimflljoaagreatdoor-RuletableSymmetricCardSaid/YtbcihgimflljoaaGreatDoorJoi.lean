/- The walks that ruletable's Text is made of: element at a state, nameOf at the neighbourhood of Neumann. -/
/- strings.Join at the texts of the example. -/
import Derived.Test.YtbcihgimflljoaaGreatDoorRsy
import Derived.Test.YtbcihgimflljoaaGreatDoorEq
import Derived.Test.YtbcihgimflljoaaGreatDoorExm
import Derived.Shelf.Strings.OnBuilder
namespace Go.Proofs.YtbcihgimflljoaaGreatDoor
open Go.RowKit Go.Shelf

theorem element_digit (d : Nat) (hd : d < 10) (w : World) :
    Calls Tryz.prog 45 #[.int .i64 (d : Int)] w fun e w' => e = .returned (.string (tx [UInt8.ofNat (48 + d)])) ∧ w = w' := by
  have I := Lib.hid (itoa_small d hd w)
  generalize tx [UInt8.ofNat (48 + d)] = s at I ⊢
  go_enter Tryz.func45, Tryz.ntmps45
  go_wp2_with (go_at_call 44; (with_reducible refine I.out.mono ?_); rintro e w1 ⟨rfl, rfl⟩)
  go_ret
  exact ⟨rfl, rfl⟩
set_option maxRecDepth 100000 in
theorem name_neumann (m : Int) (u : TypeId) (x : Value) (A : Option Addr) (c : Nat) (w : World) (V : Vr m u x w) (h : QReads w w.heap.size A 5 (lf N1)) :
    Calls Tryz.prog 43 #[.slice A 5 c] w fun e w' => e = .returned (.tuple #[.string (tx [110, 101, 117, 109, 97, 110, 110]), .bool true]) ∧ Below w.heap.size w w' := by
  have S0 : w.cell? ⟨2, 0, none⟩ = some (.string (tx [109, 111, 111, 114, 101])) := V.hn 0 (by omega)
  have S1 : w.cell? ⟨2, 1, none⟩ = some (.string (tx [110, 101, 117, 109, 97, 110, 110])) := V.hn 1 (by omega)
  obtain ⟨n2, hn2⟩ : ∃ n2, w.cell? ⟨2, 2, none⟩ = some (.string n2) := ⟨_, V.hn 2 (by omega)⟩
  obtain ⟨n3, hn3⟩ : ∃ n3, w.cell? ⟨2, 3, none⟩ = some (.string n3) := ⟨_, V.hn 3 (by omega)⟩
  have O0 := fun w => Lib.hid (offsets_moore w)
  have O1 := fun w => Lib.hid (offsets_neumann w)
  have H := Lib.hid h
  have E0 := fun w1 A1 c1 h1 h2 => Lib.hid (hsame_any A1 A 9 5 c1 c (lf M1) (lf N1) w1 h1 h2 (by omega) (by omega))
  have E1 := fun w1 A1 c1 h1 h2 => Lib.hid (hsame_any A1 A 5 5 c1 c (lf N1) (lf N1) w1 h1 h2 (by omega) (by omega))
  rw [show sm (lf M1) 9 (lf N1) 5 = false by decide +kernel] at E0
  simp only [sm_self] at E1
  generalize tx [109, 111, 111, 114, 101] = s0 at S0 O0
  generalize tx [110, 101, 117, 109, 97, 110, 110] = s1 at S1 O1 ⊢
  have q4 := (four_at s0 s1 n2 n3).1
  have q5 := (four_at s0 s1 n2 n3).2
  clear V h
  go_enter Tryz.func43, Tryz.ntmps43
  go_wp2
  refine wp_loop_rounds 2 ?_
  rw [rounds_succ]
  go_wp2_with (first
    | (go_at_call 67; (with_reducible refine (O0 _).out.mono ?_); rintro e w1 ⟨A1, c1, rfl, h1, hb⟩; have B1 := Lib.hid hb; have Q1 := Lib.hid h1; clear hb h1)
    | (go_at_call 38; (with_reducible refine (E0 _ _ _ Q1.out (H.out.later B1.out)).out.mono ?_); rintro e w2 ⟨rfl, hb⟩; have B2 := Lib.hid (B1.out.trans (hb.mono B1.out.size)); clear hb))
  rw [rounds_succ]
  go_wp2_with (first
    | (go_at_call 67; (with_reducible refine (O1 _).out.mono ?_); rintro e w3 ⟨A3, c3, rfl, h1, hb⟩; have B3 := Lib.hid (B2.out.trans (hb.mono B2.out.size)); have Q3 := Lib.hid h1; clear hb h1)
    | (go_at_call 38; (with_reducible refine (E1 _ _ _ Q3.out (H.out.later B3.out)).out.mono ?_); rintro e w4 ⟨rfl, hb⟩; have B4 := Lib.hid (B3.out.trans (hb.mono B3.out.size)); clear hb))
  go_ret2
  exact ⟨rfl, B4.out⟩
end Go.Proofs.YtbcihgimflljoaaGreatDoor
namespace Go.Proofs.YtbcihgimflljoaaGreatDoor
open Go.RowKit Go.Shelf

theorem joinX : Builder.Extra Tryz.prog rJ where
  sizeBuilder := by kernel_rfl
  liesBuilder := by kernel_rfl
  t5 := Tryz.underlying5
  a5 := Tryz.isAgg5
  z5 := Tryz.sizeOf5
  v5 := Tryz.zeroValue5
  infoByte := by kernel_rfl
  cellsByte := by kernel_rfl
  sizeByte := by kernel_rfl
  neB5 := by decide
/-- the texts of the row's elements, and of all of them -/
def e1 : List UInt8 := [49]
def e0 : List UInt8 := [48]
def er : List UInt8 := [49, 32, 48, 32, 48, 32, 48, 32, 48]
/-- the lines of the text -/
def x1 : List UInt8 := [115, 116, 97, 116, 101, 115, 32, 50]
def x2 : List UInt8 := [104, 111, 111, 100, 32, 110, 101, 117, 109, 97, 110, 110]
def x3 : List UInt8 := [115, 121, 109, 109, 101, 116, 114, 121, 32, 114, 111, 116, 97, 116, 101]
def x4 : List UInt8 := er ++ [32, 45, 62, 32, 49]
def xs4 : List UInt8 := x1 ++ [10] ++ x2 ++ [10] ++ x3 ++ [10] ++ x4
theorem join5 (g c : Nat) (hc : 5 ≤ c) (w : World) (hg : g < w.heap.size) (h : ∀ (j : Nat) (v : Value), [Value.string (tx e1), .string (tx e0), .string (tx e0), .string (tx e0), .string (tx e0)][j]? = some v → w.cell? ⟨g, j, none⟩ = some v) :
    Calls Tryz.prog 47 #[.slice (some ⟨g, 0, none⟩) 5 c, .string ⟨#[32]⟩] w fun e w' => e = .returned (.string (tx er)) ∧ Below w.heap.size w w' := by
  have H := Any.strings_Join layJoin joinX g 0 c [tx e1, tx e0, tx e0, tx e0, tx e0] ⟨#[32]⟩ w (fun j x hx => by
    rw [Nat.zero_add]
    refine h j (.string x) ?_
    have := congrArg (Option.map Value.string) hx
    rw [← List.getElem?_map] at this
    exact this) hg (by decide) hc (by decide)
  refine H.mono ?_
  rintro e w' ⟨rfl, hb⟩
  exact ⟨by kernel_rfl, hb⟩
theorem join4 (g c : Nat) (hc : 4 ≤ c) (w : World) (hg : g < w.heap.size) (h : ∀ (j : Nat) (v : Value), [Value.string (tx x1), .string (tx x2), .string (tx x3), .string (tx x4)][j]? = some v → w.cell? ⟨g, j, none⟩ = some v) :
    Calls Tryz.prog 47 #[.slice (some ⟨g, 0, none⟩) 4 c, .string ⟨#[10]⟩] w fun e w' => e = .returned (.string (tx xs4)) ∧ Below w.heap.size w w' := by
  have H := Any.strings_Join layJoin joinX g 0 c [tx x1, tx x2, tx x3, tx x4] ⟨#[10]⟩ w (fun j x hx => by
    rw [Nat.zero_add]
    refine h j (.string x) ?_
    have := congrArg (Option.map Value.string) hx
    rw [← List.getElem?_map] at this
    exact this) hg (by decide) hc (by decide)
  refine H.mono ?_
  rintro e w' ⟨rfl, hb⟩
  exact ⟨by kernel_rfl, hb⟩
end Go.Proofs.YtbcihgimflljoaaGreatDoor
