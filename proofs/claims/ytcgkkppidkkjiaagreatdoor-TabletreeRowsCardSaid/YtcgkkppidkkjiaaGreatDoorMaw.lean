/- The bodies of the library's generic functions on lists of numbers lie in this program as the library's own contracts ask: facts that the kernel compares, and nothing else. -/
import Derived.Below
import Derived.BigQuiet
import Derived.Deep.AppendLies
import Derived.Deep.Draws
import Derived.Deep.QuietTactic
import Derived.Laws.OwnMore
import Derived.Laws.Rows
import Derived.Lib.Hide
import Derived.Shelf.SlIterI.Sorted
import Derived.Shelf.Slices.Delete
import Derived.Shelf.Spec.SlicesInsert
import Derived.StillTail
import Derived.Test.YtcgkkppidkkjiaaGreatDoorRows
import Derived.WalkKit
namespace Go.Proofs.YtcgkkppidkkjiaaGreatDoor
open Go.Shelf
def r2 : Go.Shelf.Ren := ⟨fun | 0 => 0 | 1 => 1 | 2 => 2 | 15 => 57 | 21 => 79 | 23 => 77 | 27 => 105 | 28 => 106 | 31 => 122 | 35 => 127 | 37 => 109 | 39 => 137 | 40 => 152 | 41 => 153 | 42 => 154 | 43 => 155 | 44 => 156 | 45 => 157 | 46 => 158 | 47 => 159 | 48 => 160 | 49 => 161 | 50 => 162 | 51 => 163 | 52 => 164 | 53 => 165 | 54 => 166 | 55 => 168 | _ => 0, fun | 0 => 0 | 1 => 1 | 2 => 2 | 3 => 3 | 4 => 4 | 5 => 5 | 6 => 6 | 7 => 7 | 8 => 8 | 9 => 9 | 10 => 10 | 11 => 11 | 12 => 12 | 13 => 13 | 14 => 14 | 15 => 15 | 16 => 16 | 17 => 17 | 18 => 18 | 19 => 19 | 20 => 20 | 21 => 21 | 22 => 27 | 23 => 100 | 28 => 123 | 29 => 121 | 33 => 55 | 36 => 49 | 37 => 98 | 40 => 157 | 41 => 113 | 42 => 89 | 45 => 122 | 46 => 196 | 47 => 197 | 48 => 198 | 49 => 199 | 50 => 200 | 51 => 201 | 52 => 202 | 53 => 173 | 54 => 203 | 55 => 204 | 56 => 205 | 57 => 206 | 58 => 207 | 59 => 208 | 60 => 209 | 61 => 210 | 62 => 211 | _ => 0, fun n => n⟩
theorem layDelete : Lays2.n23 Tryz.prog r2 := {
  mixed := by kernel_rfl
  f23 := Tryz.func77.trans (congrArg some (by kernel_rfl))
  t0 := Tryz.underlying0
  a0 := Tryz.isAgg0
  z0 := Tryz.sizeOf0
  v0 := Tryz.zeroValue0
  t3 := Tryz.underlying3
  a3 := Tryz.isAgg3
  z3 := Tryz.sizeOf3
  v3 := Tryz.zeroValue3
  t4 := Tryz.underlying4
  a4 := Tryz.isAgg4
  z4 := Tryz.sizeOf4
  v4 := Tryz.zeroValue4
  t22 := Tryz.underlying27
  a22 := Tryz.isAgg27
  z22 := Tryz.sizeOf27
  v22 := Tryz.zeroValue27
  i3 := by kernel_rfl
}
theorem layInsert : Lays2.n21 Tryz.prog r2 := {
  mixed := by kernel_rfl
  f21 := Tryz.func79.trans (congrArg some (by kernel_rfl))
  f27 := Tryz.func105.trans (congrArg some (by kernel_rfl))
  f28 := Tryz.func106.trans (congrArg some (by kernel_rfl))
  f35 := Tryz.func127.trans (congrArg some (by kernel_rfl))
  f39 := Tryz.func137.trans (congrArg some (by kernel_rfl))
  t0 := Tryz.underlying0
  a0 := Tryz.isAgg0
  z0 := Tryz.sizeOf0
  v0 := Tryz.zeroValue0
  t3 := Tryz.underlying3
  a3 := Tryz.isAgg3
  z3 := Tryz.sizeOf3
  v3 := Tryz.zeroValue3
  t4 := Tryz.underlying4
  a4 := Tryz.isAgg4
  z4 := Tryz.sizeOf4
  v4 := Tryz.zeroValue4
  t22 := Tryz.underlying27
  a22 := Tryz.isAgg27
  z22 := Tryz.sizeOf27
  v22 := Tryz.zeroValue27
  i3 := by kernel_rfl
}
end Go.Proofs.YtcgkkppidkkjiaaGreatDoor
