/- The walk of wolfram's divide, on any text. -/
import Derived.Test.YtdbeomibajcecaaDoorCut
import Derived.Test.YtdbeomibajcecaaDoorNumb
namespace Go.Proofs.YtdbeomibajcecaaDoor
open Go.RowKit

theorem pre_yes (x : UInt8) (r : List UInt8) : Lib.hasPrefix (x :: r) [x] = true ∧ Lib.trimPrefix (x :: r) [x] = r := by
  have h : Lib.hasPrefix (x :: r) [x] = true := by simp [Lib.hasPrefix]
  exact ⟨h, by simp [Lib.trimPrefix, h]⟩
theorem pre_no {x : UInt8} {l : List UInt8} (h : ∀ r, l ≠ x :: r) : Lib.hasPrefix l [x] = false ∧ Lib.trimPrefix l [x] = l := by
  have h : Lib.hasPrefix l [x] = false := by
    cases l with
    | nil => rfl
    | cons y r =>
      have : y ≠ x := fun e => h r (by rw [e])
      simp [Lib.hasPrefix, List.isPrefixOf, Ne.symm this]
  exact ⟨h, by simp [Lib.trimPrefix, h]⟩
theorem cutp_yes (x : UInt8) (r : List UInt8) (w : World) (hn : r.length ≤ 999) :
    Calls Tryd.prog 22 #[.string (tx (x :: r)), .string ⟨#[x]⟩] w fun e w' => e = .returned (.tuple #[.string (tx r), .bool true]) ∧ w = w' := by
  have h := cut_any (x :: r) [x] w (by simp; omega) (by simp)
  rwa [(pre_yes x r).1, (pre_yes x r).2] at h
theorem cutp_no (x : UInt8) (l : List UInt8) (w : World) (hn : l.length ≤ 1000) (h : ∀ r, l ≠ x :: r) :
    Calls Tryd.prog 22 #[.string (tx l), .string ⟨#[x]⟩] w fun e w' => e = .returned (.tuple #[.string (tx l), .bool false]) ∧ w = w' := by
  have h2 := cut_any l [x] w hn (by simp)
  rwa [(pre_no h).1, (pre_no h).2] at h2
set_option maxRecDepth 100000 in
theorem divide_w (r : List UInt8) (w : World) (hn : r.length ≤ 999) :
    Calls Tryd.prog 12 #[.string (tx (87 :: r))] w fun e w' => e = .returned (.tuple #[.string (tx r), .string (tx [50]), .bool false]) ∧ Below w.heap.size w w' := by
  have C := Lib.hid (cutp_yes 87 r w hn)
  have I : Hid (Calls Tryd.prog 23 #[.int .i64 2] w fun e w' => e = .returned (.string (tx [50])) ∧ w = w') := Lib.hid (itoa_any 2 w (by decide))
  generalize tx (87 :: r) = s at C ⊢
  generalize tx r = t at C ⊢
  generalize tx [50] = two at I ⊢
  go_enter Tryd.func12, Tryd.ntmps12
  go_wp2_with (first
    | (go_at_call 22; (with_reducible refine C.out.mono ?_); rintro e w1 ⟨rfl, rfl⟩)
    | (go_at_call 23; (with_reducible refine I.out.mono ?_); rintro e w1 ⟨rfl, rfl⟩))
  go_ret3
  exact ⟨rfl, Below.refl _ _⟩
set_option maxRecDepth 100000 in
theorem divide_t (r : List UInt8) (p q : ByteArray) (bb : Bool) (w : World) (hn : r.length ≤ 999) (D : Calls Tryd.prog 24 #[.string (tx r), .string ⟨#[47]⟩] w fun e w' => e = .returned (.tuple #[.string p, .string q, .bool bb]) ∧ Below w.heap.size w w') :
    Calls Tryd.prog 12 #[.string (tx (84 :: r))] w fun e w' => e = .returned (.tuple #[.string p, .string q, .bool true]) ∧ Below w.heap.size w w' := by
  have C1 := Lib.hid (cutp_no 87 (84 :: r) w (by simp; omega) (fun r' h => by injection h with h _; exact absurd h (by decide)))
  have C2 := Lib.hid (cutp_yes 84 r w hn)
  have D := Lib.hid D
  generalize tx (84 :: r) = s at C1 C2 ⊢
  generalize tx r = t at C2 D ⊢
  go_enter Tryd.func12, Tryd.ntmps12
  go_wp2_with (first
    | (go_at_call 24; (with_reducible refine D.out.mono ?_); rintro e w1 ⟨rfl, hb⟩)
    | (go_at_call 22; (with_reducible refine C2.out.mono ?_); rintro e w1 ⟨rfl, rfl⟩)
    | (go_at_call 22; (with_reducible refine C1.out.mono ?_); rintro e w1 ⟨rfl, rfl⟩))
  go_ret3
  exact ⟨rfl, hb⟩
set_option maxRecDepth 100000 in
theorem divide_no (l : List UInt8) (w : World) (hn : l.length ≤ 1000) (h1 : ∀ r, l ≠ 87 :: r) (h2 : ∀ r, l ≠ 84 :: r) :
    Calls Tryd.prog 12 #[.string (tx l)] w fun e w' => e = .returned (.tuple #[.string (tx []), .string (tx []), .bool false]) ∧ Below w.heap.size w w' := by
  have C1 := Lib.hid (cutp_no 87 l w hn h1)
  have C2 := Lib.hid (cutp_no 84 l w hn h2)
  generalize tx l = s at C1 C2 ⊢
  unfold tx
  clear h1 h2
  go_enter Tryd.func12, Tryd.ntmps12
  go_wp2_with (first
    | (go_at_call 22; (with_reducible refine C2.out.mono ?_); rintro e w1 ⟨rfl, rfl⟩)
    | (go_at_call 22; (with_reducible refine C1.out.mono ?_); rintro e w1 ⟨rfl, rfl⟩))
  go_ret3
  exact ⟨rfl, Below.refl _ _⟩
end Go.Proofs.YtdbeomibajcecaaDoor
