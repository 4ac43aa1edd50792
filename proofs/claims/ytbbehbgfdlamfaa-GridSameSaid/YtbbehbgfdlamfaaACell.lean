/- Cells as values: what a list of cells reads as; the order of numbers, of places and of cells. -/
import Derived.Test.YtbbehbgfdlamfaaCPCell
import Derived.Test.YtbbehbgfdlamfaaTCell
import Derived.Test.YtbbehbgfdlamfaaTMem
import Derived.Below
import Derived.BigQuiet
import Derived.Deep.AppendLies
import Derived.Deep.Draws
import Derived.Deep.QuietTactic
import Derived.Laws.OwnMore
import Derived.Laws.Rows
import Derived.Lib.Hide
import Derived.StillTail
import Derived.Test.YtbbehbgfdlamfaaRows
import Derived.WalkKit
namespace Go.Proofs.Ytbbehbgfdlamfaa
open Go.RowKit
/-- a cell's value -/
abbrev cv (a : C3) : Value := .agg #[.int .i64 a.1, .int .i64 a.2.1, .int .i64 a.2.2]

section
variable {w w' : World} {B B' n : Nat} {A : Option Addr} {f : Nat → C3}
theorem CReads.drew (h : CReads w B A n f) : CReads w.drew B A n f := h
end
/-- a list of two cells, as a function of the place -/
def two (a b : C3) (k : Nat) : C3 := if k = 0 then a else b

/-- the order of places -/
def cp (a b : C3) : Int := or2 (sg a.2.1 b.2.1) (sg a.1 b.1)
/-- the order of cells -/
def cc (a b : C3) : Int := or2 (cp a b) (sg a.2.2 b.2.2)

section
variable (f : Nat → C3) (n : Nat) (g : Nat → C3) (m : Nat)
end
end Go.Proofs.Ytbbehbgfdlamfaa
