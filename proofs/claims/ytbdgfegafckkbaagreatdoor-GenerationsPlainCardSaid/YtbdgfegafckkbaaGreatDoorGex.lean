/- Parse at the chapter's examples. -/
import Derived.Test.YtbdgfegafckkbaaGreatDoorGparse
namespace Go.Proofs.YtbdgfegafckkbaaGreatDoor
open Go.RowKit

theorem add_at (a b c : List UInt8) (h : a ++ b = c) (hl : a.length + b.length ≤ 1000) (w : World) : (Op.stringOp .add (tx a) (tx b)).run Tryz.prog w = .ok (.string (tx c)) w := by
  rw [← h, ← tx_add]
  exact run_string_add_sum w _ _ (by rw [tx_size, tx_size]; omega)
theorem letter_at (a b : List UInt8) (ha : (a.getLast?.all fun x => x != 86 && x != 72) = true) (hb : (b.all fun x => x == 86 || x == 72) = true) (hl : a.length + b.length ≤ 1000) (w : World) :
    Calls Tryz.prog 22 #[.string (tx (a ++ b))] w fun e w' => e = .returned (.tuple #[.string (tx a), .string (tx b)]) ∧ Below w.heap.size w w' :=
  cutLetter_any a b w hl (fun x hx => by
    have := List.all_eq_true.1 hb x hx
    simpa using this) (fun x hx => by
    rw [Option.mem_def] at hx
    rw [hx] at ha
    simpa using ha)
theorem gex0 (m : Int) (u : TypeId) (x : Value) (w : World) (h : Vr m u x w) : Calls Tryz.prog 13 #[.string (tx [47, 50, 47, 51])] w fun e w' => ∃ A c A1 c1 A2 c2, e = .returned (.tuple #[.agg #[.slice A 9 c, .int .i64 3, .slice A1 1 c1, .slice A2 0 c2], .int .i64 0]) ∧ TR w' A 9 (lf M1) A1 1 [2] A2 0 [] ∧ Below w.heap.size w w' :=
  gparse_ok (tx [47, 50, 47, 51]) (tx [47, 50, 47, 51]) (tx []) (tx [66, 50, 47, 83]) (tx [51]) (tx [66, 50, 47, 83]) m u x 9 1 0 (lf M1) [2] [] 3 w (by decide) (by decide) (by decide) h (fun w => letter_at [47, 50, 47, 51] [] (by decide) (by decide) (by decide) w) (fun w h => divide0 m u x w h) (fun w _ => number3 w) (fun w => add_at [66, 50, 47, 83] [] [66, 50, 47, 83] rfl (by decide) w) (fun w => ex1 w) (fun w => letter_at [66, 50, 47, 83] [] (by decide) (by decide) (by decide) w)
theorem gex1 (m : Int) (u : TypeId) (x : Value) (w : World) (h : Vr m u x w) : Calls Tryz.prog 13 #[.string (tx [66, 50, 47, 83, 47, 67, 51])] w fun e w' => ∃ A c A1 c1 A2 c2, e = .returned (.tuple #[.agg #[.slice A 9 c, .int .i64 3, .slice A1 1 c1, .slice A2 0 c2], .int .i64 0]) ∧ TR w' A 9 (lf M1) A1 1 [2] A2 0 [] ∧ Below w.heap.size w w' :=
  gparse_ok (tx [66, 50, 47, 83, 47, 67, 51]) (tx [66, 50, 47, 83, 47, 67, 51]) (tx []) (tx [66, 50, 47, 83]) (tx [51]) (tx [66, 50, 47, 83]) m u x 9 1 0 (lf M1) [2] [] 3 w (by decide) (by decide) (by decide) h (fun w => letter_at [66, 50, 47, 83, 47, 67, 51] [] (by decide) (by decide) (by decide) w) (fun w h => divide1 m u x w h) (fun w _ => number3 w) (fun w => add_at [66, 50, 47, 83] [] [66, 50, 47, 83] rfl (by decide) w) (fun w => ex1 w) (fun w => letter_at [66, 50, 47, 83] [] (by decide) (by decide) (by decide) w)
theorem gex2 (m : Int) (u : TypeId) (x : Value) (w : World) (h : Vr m u x w) : Calls Tryz.prog 13 #[.string (tx [66, 50, 47, 83, 47, 67, 50])] w fun e w' => e = .returned (.tuple #[.agg #[.slice none 0 0, .int .i64 0, .slice none 0 0, .slice none 0 0], .int .i64 5]) ∧ Below w.heap.size w w' :=
  gparse_few (tx [66, 50, 47, 83, 47, 67, 50]) (tx [66, 50, 47, 83, 47, 67, 50]) (tx []) (tx [66, 50, 47, 83]) (tx [50]) (tx [66, 50, 47, 83]) m u x 9 1 0 2 w (by decide) h (fun w => letter_at [66, 50, 47, 83, 47, 67, 50] [] (by decide) (by decide) (by decide) w) (fun w h => divide2 m u x w h) (fun w _ => number2 w) (fun w => add_at [66, 50, 47, 83] [] [66, 50, 47, 83] rfl (by decide) w) (fun w => (ex1 w).mono fun e w' ⟨A, c, A1, c1, A2, c2, he, _, hb, _⟩ => ⟨A, c, A1, c1, A2, c2, he, hb⟩) (fun w => letter_at [66, 50, 47, 83] [] (by decide) (by decide) (by decide) w)
theorem gex3 (m : Int) (u : TypeId) (x : Value) (w : World) (h : Vr m u x w) : Calls Tryz.prog 13 #[.string (tx [66, 51, 47, 83, 50, 51])] w fun e w' => e = .returned (.tuple #[.agg #[.slice none 0 0, .int .i64 0, .slice none 0 0, .slice none 0 0], .int .i64 15]) ∧ Below w.heap.size w w' :=
  gparse_syn (tx [66, 51, 47, 83, 50, 51]) (tx [66, 51, 47, 83, 50, 51]) (tx []) (tx [66, 83, 50, 51, 47, 83, 66, 51]) (tx []) (tx [66, 83, 50, 51, 47, 83, 66, 51]) m u x 0 w h (fun w => letter_at [66, 51, 47, 83, 50, 51] [] (by decide) (by decide) (by decide) w) (fun w h => divide3 m u x w h) (fun w h => number_none u x w h.2.2 (by have := h.1; omega)) (fun w => add_at [66, 83, 50, 51, 47, 83, 66, 51] [] [66, 83, 50, 51, 47, 83, 66, 51] rfl (by decide) w) (fun w => ex3 w) (fun w => letter_at [66, 83, 50, 51, 47, 83, 66, 51] [] (by decide) (by decide) (by decide) w)
theorem gex4 (m : Int) (u : TypeId) (x : Value) (w : World) (h : Vr m u x w) : Calls Tryz.prog 13 #[.string (tx [66, 50, 47, 83, 51, 52, 53, 47, 67, 52, 86])] w fun e w' => e = .returned (.tuple #[.agg #[.slice none 0 0, .int .i64 0, .slice none 0 0, .slice none 0 0], .int .i64 5]) ∧ Below w.heap.size w w' :=
  gparse_rg (tx [66, 50, 47, 83, 51, 52, 53, 47, 67, 52, 86]) (tx [66, 50, 47, 83, 51, 52, 53, 47, 67, 52]) (tx [86]) (tx [66, 50, 47, 83, 51, 52, 53]) (tx [52]) (tx [66, 50, 47, 83, 51, 52, 53, 86]) m u x 4 w (by decide) (by decide) h (fun w => letter_at [66, 50, 47, 83, 51, 52, 53, 47, 67, 52] [86] (by decide) (by decide) (by decide) w) (fun w h => divide4 m u x w h) (fun w _ => number4 w) (fun w => add_at [66, 50, 47, 83, 51, 52, 53] [86] [66, 50, 47, 83, 51, 52, 53, 86] rfl (by decide) w) (fun w => ex2 w) (fun w => letter_at [66, 50, 47, 83, 51, 52, 53] [] (by decide) (by decide) (by decide) w)
end Go.Proofs.YtbdgfegafckkbaaGreatDoor
