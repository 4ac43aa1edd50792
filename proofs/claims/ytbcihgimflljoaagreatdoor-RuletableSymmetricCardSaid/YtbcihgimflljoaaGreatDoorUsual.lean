/- The walks of Moore, Neumann and Hex at the examples. -/
import Derived.Test.YtbcihgimflljoaaGreatDoorColl
import Derived.Test.YtbcihgimflljoaaGreatDoorRight
import Derived.Shelf.Abstract
namespace Go.Proofs.YtbcihgimflljoaaGreatDoor
open Go.RowKit

/-- what the predicates say -/
def pdM (_ : P2) : Bool := true
def pdN (r : Int) (p : P2) : Bool := decide (ab p.1 + ab p.2 ≤ r)
def pdH (p : P2) : Bool := decide (ab (p.1 - p.2) ≤ 1)
/-- the usual neighbourhoods -/
def M1 : List P2 := (lst (sq 1 3) 9).filter pdM
def M2 : List P2 := (lst (sq 2 5) 25).filter pdM
def N1 : List P2 := (lst (sq 1 3) 9).filter (pdN 1)
def N2 : List P2 := (lst (sq 2 5) 25).filter (pdN 2)
def HX : List P2 := (lst (sq 1 3) 9).filter pdH
theorem len_M1 : M1.length = 9 := by decide +kernel
theorem len_M2 : M2.length = 25 := by decide +kernel
theorem len_N1 : N1.length = 5 := by decide +kernel
theorem len_N2 : N2.length = 13 := by decide +kernel
theorem len_HX : HX.length = 7 := by decide +kernel

theorem moore_any (r : Int) (n N m : Nat) (w : World) (h1 : 0 ≤ r) (h2 : r ≤ 2) (hn : 2 * r + 1 = (n : Int)) (hN : n * n = N) (hm : ((lst (sq r n) N).filter pdM).length = m) :
    Calls Tryz.prog 92 #[.int .i64 r] w fun e w' => ∃ A c, e = .returned (.slice A m c) ∧ QReads w' w'.heap.size A m (lf ((lst (sq r n) N).filter pdM)) ∧ Below w.heap.size w w' := by
  have C := Lib.hid (collect_any r n N 120 #[] pdM w h1 h2 hn hN (enters_of Tryz.func120 (by kernel_rfl) rfl) (fun x y w1 _ _ _ _ _ => fnMoore_any x y w1))
  subst hm
  clear hn hN
  go_enter Tryz.func92, Tryz.ntmps92
  go_wp2_with (go_at_call 119; (with_reducible refine C.out.mono ?_); rintro e w' ⟨A, c, l, rfl, hl, hr, hb⟩; have R := Lib.hid (QReads.of_list hr); have HL := Lib.hid hl; have HB := Lib.hid hb; clear hr hb hl)
  go_ret
  have hl := HL.out
  subst hl
  exact ⟨A, c, rfl, R.out, HB.out⟩
theorem neumann_any (r : Int) (n N m : Nat) (w : World) (h1 : 0 ≤ r) (h2 : r ≤ 2) (hn : 2 * r + 1 = (n : Int)) (hN : n * n = N) (hm : ((lst (sq r n) N).filter (pdN r)).length = m) :
    Calls Tryz.prog 93 #[.int .i64 r] w fun e w' => ∃ A c, e = .returned (.slice A m c) ∧ QReads w' w'.heap.size A m (lf ((lst (sq r n) N).filter (pdN r))) ∧ Below w.heap.size w w' := by
  have K := Blk.new w 3 #[.int .i64 r]
  have HK := Lib.hid ((Below.refl w.heap.size w).alloc (Nat.le_refl _) (.cells #[.int .i64 r] 3))
  have c0 : (w.alloc (.cells #[.int .i64 r] 3)).cell? ⟨w.heap.size, 0, none⟩ = some (.int .i64 r) := by rw [K.cell]; rfl
  have C := Lib.hid (collect_any r n N 121 #[.pointer (some ⟨w.heap.size, 0, none⟩)] (pdN r) (w.alloc (.cells #[.int .i64 r] 3)) h1 h2 hn hN (enters_of Tryz.func121 (by kernel_rfl) rfl) (fun x y w1 a1 a2 a3 a4 hb => fnNeumann_any x y r w.heap.size 3 w1 a1 a2 a3 a4 (K.below hb K.lt)))
  subst hm
  clear hn hN K
  go_enter Tryz.func93, Tryz.ntmps93
  go_wp2_with (go_at_call 119; (with_reducible refine C.out.mono ?_); rintro e w' ⟨A, c, l, rfl, hl, hr, hb⟩; have R := Lib.hid (QReads.of_list hr); have HL := Lib.hid hl; have HB := Lib.hid (HK.out.trans (hb.mono HK.out.size)); clear hr hb hl)
  go_ret
  have hl := HL.out
  subst hl
  exact ⟨A, c, rfl, R.out, HB.out⟩
theorem hex_any (w : World) :
    Calls Tryz.prog 94 #[] w fun e w' => ∃ A c, e = .returned (.slice A 7 c) ∧ QReads w' w'.heap.size A 7 (lf HX) ∧ Below w.heap.size w w' := by
  have C := Lib.hid (collect_any 1 3 9 123 #[] pdH w (by omega) (by omega) (by omega) (by omega) (enters_of Tryz.func123 (by kernel_rfl) rfl) (fun x y w1 a1 a2 a3 a4 _ => fnHex_any x y w1 a1 a2 a3 a4))
  rw [← len_HX]
  go_enter Tryz.func94, Tryz.ntmps94
  go_wp2_with (go_at_call 119; (with_reducible refine C.out.mono ?_); rintro e w' ⟨A, c, l, rfl, hl, hr, hb⟩; have R := Lib.hid (QReads.of_list hr); have HL := Lib.hid (show l = HX from hl); have HB := Lib.hid hb; clear hr hb hl)
  go_ret
  have hl := HL.out
  subst hl
  exact ⟨A, c, rfl, R.out, HB.out⟩
theorem moore1 (w : World) : Calls Tryz.prog 92 #[.int .i64 1] w fun e w' => ∃ A c, e = .returned (.slice A 9 c) ∧ QReads w' w'.heap.size A 9 (lf M1) ∧ Below w.heap.size w w' := moore_any 1 3 9 9 w (by omega) (by omega) (by omega) (by omega) len_M1
theorem moore2 (w : World) : Calls Tryz.prog 92 #[.int .i64 2] w fun e w' => ∃ A c, e = .returned (.slice A 25 c) ∧ QReads w' w'.heap.size A 25 (lf M2) ∧ Below w.heap.size w w' := moore_any 2 5 25 25 w (by omega) (by omega) (by omega) (by omega) len_M2
theorem neumann1 (w : World) : Calls Tryz.prog 93 #[.int .i64 1] w fun e w' => ∃ A c, e = .returned (.slice A 5 c) ∧ QReads w' w'.heap.size A 5 (lf N1) ∧ Below w.heap.size w w' := neumann_any 1 3 9 5 w (by omega) (by omega) (by omega) (by omega) len_N1
theorem neumann2 (w : World) : Calls Tryz.prog 93 #[.int .i64 2] w fun e w' => ∃ A c, e = .returned (.slice A 13 c) ∧ QReads w' w'.heap.size A 13 (lf N2) ∧ Below w.heap.size w w' := neumann_any 2 5 25 13 w (by omega) (by omega) (by omega) (by omega) len_N2
end Go.Proofs.YtbcihgimflljoaaGreatDoor
