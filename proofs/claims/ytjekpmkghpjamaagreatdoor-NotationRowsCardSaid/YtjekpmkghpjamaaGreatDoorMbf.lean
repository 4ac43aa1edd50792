/- The walk of divide at the chapter's examples. -/
/- Cut at the two bytes that mark the number of states; Contains at a line feed; HasPrefix at W. -/
/- The walk of number at the chapter's examples. -/
import Derived.Test.YtjekpmkghpjamaaGreatDoorMba
import Derived.Test.YtjekpmkghpjamaaGreatDoorMaw
import Derived.Test.YtjekpmkghpjamaaGreatDoorMab
import Derived.Test.YtjekpmkghpjamaaGreatDoorMaa
import Derived.Test.YtjekpmkghpjamaaGreatDoorMav
import Derived.Below
import Derived.BigQuiet
import Derived.Deep.AppendLies
import Derived.Deep.CutRange
import Derived.Deep.Draws
import Derived.Deep.QuietTactic
import Derived.IntWalk
import Derived.Laws.Externs
import Derived.Laws.OwnMore
import Derived.Laws.Rows
import Derived.Laws.ShiftsVar
import Derived.Lib.Hide
import Derived.Lib.IndexEntry
import Derived.Lib.Strings
import Derived.LoopN
import Derived.OwnWalk
import Derived.Shelf.Abstract
import Derived.Shelf.Lays
import Derived.Shelf.Strings.Search1
import Derived.Sort.Statements
import Derived.StillTail
import Derived.StillTailTactics
import Derived.Test.YtjekpmkghpjamaaGreatDoorRows
import Derived.WalkKit
import Derived.Test.YtjekpmkghpjamaaGreatDoorMbe
import Derived.Laws.IdiomStrings
import Derived.Lib.IfaceEq
namespace Go.Proofs.YtjekpmkghpjamaaGreatDoor
open Go.RowKit
/-- what the walk reads of the package variables: MaxLen holds some number, ErrSyntax some error -/
def VrG (m : Int) (u : TypeId) (x : Value) (w : World) : Prop := 4 < w.heap.size ∧ w.cell? ⟨3, 0, none⟩ = some (.int .i64 m) ∧ w.cell? ⟨4, 0, none⟩ = some (.iface u x)
theorem VrG.later {m : Int} {u : TypeId} {x : Value} {w w' : World} (h : VrG m u x w) (hb : Below w.heap.size w w') : VrG m u x w' :=
  ⟨Nat.lt_of_lt_of_le h.1 hb.size, (hb.cell (p := ⟨3, 0, none⟩) (show 3 < w.heap.size by have := h.1; omega)).trans h.2.1, (hb.cell (p := ⟨4, 0, none⟩) (show 4 < w.heap.size by have := h.1; omega)).trans h.2.2⟩
set_option maxRecDepth 100000 in
theorem divide_yes (s a b : ByteArray) (w : World) (C : Calls Tryz.prog 77 #[.string s, .string ⟨#[47, 67]⟩] w fun e w' => e = .returned (.tuple #[.string a, .string b, .bool true]) ∧ Below w.heap.size w w') :
    Calls Tryz.prog 39 #[.string s] w fun e w' => e = .returned (.tuple #[.string a, .string b]) ∧ Below w.heap.size w w' := by
  have C := Lib.hid C
  go_enter Tryz.func39, Tryz.ntmps39
  go_wp2_with (go_at_call 77; (with_reducible refine (C.out).mono ?_); rintro e w' ⟨rfl, hb⟩)
  go_ret2
  exact ⟨rfl, hb⟩
set_option maxRecDepth 100000 in
theorem divide_noG (s r bi di sv : List UInt8) (b1 b2 : Bool) (w : World) (hz : bi.length + sv.length ≤ 1000)
    (C1 : Calls Tryz.prog 77 #[.string (tx s), .string (tx [47, 67])] w fun e w' => e = .returned (.tuple #[.string (tx s), .string (tx []), .bool false]) ∧ Below w.heap.size w w')
    (C2 : ∀ w, Calls Tryz.prog 77 #[.string (tx s), .string (tx [47])] w fun e w' => e = .returned (.tuple #[.string (tx sv), .string (tx r), .bool b1]) ∧ Below w.heap.size w w')
    (C3 : ∀ w, Calls Tryz.prog 77 #[.string (tx r), .string (tx [47])] w fun e w' => e = .returned (.tuple #[.string (tx bi), .string (tx di), .bool b2]) ∧ Below w.heap.size w w') :
    Calls Tryz.prog 39 #[.string (tx s)] w fun e w' => e = .returned (.tuple #[.string (tx ([66] ++ bi ++ [47, 83] ++ sv)), .string (tx di)]) ∧ Below w.heap.size w w' := by
  have C1 := Lib.hid (show Calls Tryz.prog 77 #[.string (tx s), .string ⟨#[47, 67]⟩] w fun e w' => e = .returned (.tuple #[.string (tx s), .string (tx []), .bool false]) ∧ Below w.heap.size w w' from C1)
  have C2 := Lib.hid (show ∀ w, Calls Tryz.prog 77 #[.string (tx s), .string ⟨#[47]⟩] w fun e w' => e = .returned (.tuple #[.string (tx sv), .string (tx r), .bool b1]) ∧ Below w.heap.size w w' from C2)
  have C3 := Lib.hid (show ∀ w, Calls Tryz.prog 77 #[.string (tx r), .string ⟨#[47]⟩] w fun e w' => e = .returned (.tuple #[.string (tx bi), .string (tx di), .bool b2]) ∧ Below w.heap.size w w' from C3)
  have y1 : (tx bi).size = bi.length := tx_size _
  have y2 : (tx sv).size = sv.length := tx_size _
  have HT : (((⟨#[66]⟩ : ByteArray) ++ tx bi) ++ ⟨#[47, 83]⟩) ++ tx sv = tx ([66] ++ bi ++ [47, 83] ++ sv) := by
    show ((tx [66] ++ tx bi) ++ tx [47, 83]) ++ tx sv = _
    rw [tx_addG, tx_addG, tx_addG]
  rw [← HT]
  clear HT
  generalize tx bi = u1 at C3 y1 ⊢
  generalize tx sv = u2 at C2 y2 ⊢
  generalize tx di = u3 at C3 ⊢
  generalize tx s = u4 at C1 C2 ⊢
  generalize tx r = u5 at C2 C3
  generalize tx [] = u6 at C1
  obtain ⟨v1, hv1⟩ : ∃ v1, v1 = (⟨#[66]⟩ : ByteArray) ++ u1 := ⟨_, rfl⟩
  obtain ⟨v2, hv2⟩ : ∃ v2, v2 = v1 ++ (⟨#[47, 83]⟩ : ByteArray) := ⟨_, rfl⟩
  obtain ⟨v3, hv3⟩ : ∃ v3, v3 = v2 ++ u2 := ⟨_, rfl⟩
  rw [← hv1, ← hv2, ← hv3]
  have x1 : v1.size = 1 + u1.size := by rw [hv1, ByteArray.size_append, show (⟨#[66]⟩ : ByteArray).size = 1 from rfl]
  have x2 : v2.size = v1.size + 2 := by rw [hv2, ByteArray.size_append, show (⟨#[47, 83]⟩ : ByteArray).size = 2 from rfl]
  have P1 : ∀ w : World, (Op.stringOp .add (⟨#[66]⟩ : ByteArray) u1).run Tryz.prog w = .ok (.string v1) w := fun w => by rw [hv1]; exact run_string_add_sum w _ _ (by rw [show (⟨#[66]⟩ : ByteArray).size = 1 from rfl]; omega)
  have P2 : ∀ w : World, (Op.stringOp .add v1 (⟨#[47, 83]⟩ : ByteArray)).run Tryz.prog w = .ok (.string v2) w := fun w => by rw [hv2]; exact run_string_add_sum w _ _ (by rw [show (⟨#[47, 83]⟩ : ByteArray).size = 2 from rfl]; omega)
  have P3 : ∀ w : World, (Op.stringOp .add v2 u2).run Tryz.prog w = .ok (.string v3) w := fun w => by rw [hv3]; exact run_string_add_sum w _ _ (by omega)
  clear hv1 hv2 hv3 x1 x2 y1 y2 hz
  go_enter Tryz.func39, Tryz.ntmps39
  go_wp2_with (first
    | (go_at_call 77; (with_reducible refine (C3.out _).mono ?_); rintro e w3 ⟨rfl, hb⟩; have B3 := Lib.hid (B2.out.trans (hb.mono B2.out.size)); clear hb)
    | (go_at_call 77; (with_reducible refine (C2.out _).mono ?_); rintro e w2 ⟨rfl, hb⟩; have B2 := Lib.hid (B1.out.trans (hb.mono B1.out.size)); clear hb)
    | (go_at_call 77; (with_reducible refine (C1.out).mono ?_); rintro e w1 ⟨rfl, hb⟩; have B1 := Lib.hid hb; clear hb))
  go_ret2
  exact ⟨rfl, B3.out⟩
theorem divide0 (m : Int) (u : TypeId) (x : Value) (w : World) (h : VrG m u x w) :
    Calls Tryz.prog 39 #[.string (tx [47, 50, 47, 51])] w fun e w' => e = .returned (.tuple #[.string (tx [66, 50, 47, 83]), .string (tx [51])]) ∧ Below w.heap.size w w' :=
  divide_noG [47, 50, 47, 51] [50, 47, 51] [50] [51] [] true true w (by decide) (cut0 m w h.2.1) (fun w => cut5 w) (fun w => cut6 w)
end Go.Proofs.YtjekpmkghpjamaaGreatDoor
namespace Go.Proofs.YtjekpmkghpjamaaGreatDoor
open Go.RowKit

set_option maxRecDepth 100000 in
set_option maxHeartbeats 4000000 in
theorem index_b3s (m : Int) (w : World) (hm : w.cell? ⟨3, 0, none⟩ = some (.int .i64 m)) :
    Calls Tryz.prog 115 #[.string (tx [98, 51, 47, 115, 50, 51]), .string (tx [47, 67])] w fun e w' => e = .returned (.int .i64 (-1)) ∧ w = w' := by
  have IS := istring_run (tx [98, 51, 47, 115, 50, 51]) (tx [47, 67]) m w hm
  rw [show Lib.index (tx [98, 51, 47, 115, 50, 51]).data.toList (tx [47, 67]).data.toList = -1 by decide +kernel] at IS
  have hw0 : IntKind.i64.wrap 0 = 0 := by decide
  unfold tx at IS ⊢
  by_cases h : 2 ≤ m
  · have IS := IS (by decide) h (by decide)
    go_enter Tryz.func115, Tryz.ntmps115
    go_wp2
    go_ret
    exact ⟨rfl, rfl⟩
  · clear IS
    have h2 : m < 2 := by omega
    go_enter Tryz.func115, Tryz.ntmps115
    go_wp2
    refine wp_loop_rounds 2 ?_
    rw [rounds_succ]
    go_wp2_with (go_at_call 166; (with_reducible refine (ibyte_any _ _ _).mono ?_); rintro e w' ⟨rfl, rfl⟩; generalize hr : Lib.indexByte _ _ = r; first | (have hr2 : r = 0 := by rw [← hr]; decide +kernel) | (have hr2 : r = 1 := by rw [← hr]; decide +kernel) | (have hr2 : r = 3 := by rw [← hr]; decide +kernel) | (have hr2 : r = -1 := by rw [← hr]; decide +kernel) | (have hr2 : r = 2 := by rw [← hr]; decide +kernel); subst hr2; clear hr)
    rw [rounds_succ]
    go_wp2_with (go_at_call 166; (with_reducible refine (ibyte_any _ _ _).mono ?_); rintro e w' ⟨rfl, rfl⟩; generalize hr : Lib.indexByte _ _ = r; first | (have hr2 : r = 0 := by rw [← hr]; decide +kernel) | (have hr2 : r = 1 := by rw [← hr]; decide +kernel) | (have hr2 : r = 3 := by rw [← hr]; decide +kernel) | (have hr2 : r = -1 := by rw [← hr]; decide +kernel) | (have hr2 : r = 2 := by rw [← hr]; decide +kernel); subst hr2; clear hr)
    go_ret
    exact ⟨rfl, rfl⟩
set_option maxRecDepth 100000 in
set_option maxHeartbeats 4000000 in
theorem index_t7 (m : Int) (w : World) (hm : w.cell? ⟨3, 0, none⟩ = some (.int .i64 m)) :
    Calls Tryz.prog 115 #[.string (tx [84, 55, 55, 55, 47, 51]), .string (tx [47, 67])] w fun e w' => e = .returned (.int .i64 (-1)) ∧ w = w' := by
  have IS := istring_run (tx [84, 55, 55, 55, 47, 51]) (tx [47, 67]) m w hm
  rw [show Lib.index (tx [84, 55, 55, 55, 47, 51]).data.toList (tx [47, 67]).data.toList = -1 by decide +kernel] at IS
  have hw0 : IntKind.i64.wrap 0 = 0 := by decide
  unfold tx at IS ⊢
  by_cases h : 2 ≤ m
  · have IS := IS (by decide) h (by decide)
    go_enter Tryz.func115, Tryz.ntmps115
    go_wp2
    go_ret
    exact ⟨rfl, rfl⟩
  · clear IS
    have h2 : m < 2 := by omega
    go_enter Tryz.func115, Tryz.ntmps115
    go_wp2
    refine wp_loop_rounds 2 ?_
    rw [rounds_succ]
    go_wp2_with (go_at_call 166; (with_reducible refine (ibyte_any _ _ _).mono ?_); rintro e w' ⟨rfl, rfl⟩; generalize hr : Lib.indexByte _ _ = r; first | (have hr2 : r = 0 := by rw [← hr]; decide +kernel) | (have hr2 : r = 1 := by rw [← hr]; decide +kernel) | (have hr2 : r = 3 := by rw [← hr]; decide +kernel) | (have hr2 : r = -1 := by rw [← hr]; decide +kernel) | (have hr2 : r = 2 := by rw [← hr]; decide +kernel); subst hr2; clear hr)
    rw [rounds_succ]
    go_wp2_with (go_at_call 166; (with_reducible refine (ibyte_any _ _ _).mono ?_); rintro e w' ⟨rfl, rfl⟩; generalize hr : Lib.indexByte _ _ = r; first | (have hr2 : r = 0 := by rw [← hr]; decide +kernel) | (have hr2 : r = 1 := by rw [← hr]; decide +kernel) | (have hr2 : r = 3 := by rw [← hr]; decide +kernel) | (have hr2 : r = -1 := by rw [← hr]; decide +kernel) | (have hr2 : r = 2 := by rw [← hr]; decide +kernel); subst hr2; clear hr)
    go_ret
    exact ⟨rfl, rfl⟩
/-- Cut finds no mark of the number of states -/
def CutC (l : List UInt8) : Prop := ∀ (m : Int) (w : World), w.cell? ⟨3, 0, none⟩ = some (.int .i64 m) → Calls Tryz.prog 77 #[.string (tx l), .string (tx [47, 67])] w fun e w' => e = .returned (.tuple #[.string (tx l), .string (tx []), .bool false]) ∧ Below w.heap.size w w'
theorem cutc_slashless {l : List UInt8} (hn : 47 ∉ l) (h2 : 2 ≤ l.length) (h60 : l.length ≤ 60) : CutC l := fun m w hm =>
  scut_no (fun w => w.cell? ⟨3, 0, none⟩ = some (.int .i64 m)) (tx l) (tx [47, 67]) w (fun w h => index_slashless hn h2 h60 m w h) hm
theorem cutc_b3s : CutC [98, 51, 47, 115, 50, 51] := fun m w hm =>
  scut_no (fun w => w.cell? ⟨3, 0, none⟩ = some (.int .i64 m)) (tx [98, 51, 47, 115, 50, 51]) (tx [47, 67]) w (fun w h => index_b3s m w h) hm
theorem cutc_t7 : CutC [84, 55, 55, 55, 47, 51] := fun m w hm =>
  scut_no (fun w => w.cell? ⟨3, 0, none⟩ = some (.int .i64 m)) (tx [84, 55, 55, 55, 47, 51]) (tx [47, 67]) w (fun w h => index_t7 m w h) hm
theorem prefix_w (l : List UInt8) (b : Bool) (h0 : 0 < l.length) (hl : l.length ≤ 1000) (hb : (l.take 1 == [87]) = b) (w : World) :
    Calls Tryz.prog 30 #[.string (tx l), .string ⟨#[87]⟩] w fun e w' => e = .returned (.bool b) ∧ w = w' := by
  have hz : (tx l).size = l.length := tx_size _
  have hx : (((tx l).extract 0 1).toList == [87]) = b := by
    rw [← hb, Lib.toList_data, show ((tx l).extract 0 1).data.toList = l.take 1 by simp [tx, ByteArray.data_extract, Array.toList_extract, List.extract_eq_take_drop]]
  generalize tx l = u at hz hx ⊢
  have hu : u.size = l.length := hz
  have d1 : (1 : Int) ≤ (l.length : Int) := by omega
  have d2 : 1 ≤ l.length := h0
  generalize l.length = n at hu d1 d2 hl
  clear hz hb h0
  have C : ∀ w, Calls Tryz.prog 62 #[.string u, .string ⟨#[87]⟩] w fun e w' => e = .returned (.bool b) ∧ w = w' := by
    intro w
    go_enter Tryz.func62, Tryz.ntmps62
    go_wp2
    go_ret
    exact ⟨rfl, rfl⟩
  have CH := Lib.hid C
  clear C hu hx d1 d2
  go_enter Tryz.func30, Tryz.ntmps30
  go_wp2_with (go_at_call 62; (with_reducible refine (CH.out _).mono ?_); rintro e w2 ⟨rfl, rfl⟩)
  go_ret
  exact ⟨rfl, rfl⟩
set_option maxRecDepth 100000 in
theorem contains_lf (l : List UInt8) (b : Bool) (h2 : 2 ≤ l.length) (hl : l.length ≤ 1000) (hb : decide (0 ≤ Lib.indexByte l 10) = b) (w : World) :
    Calls Tryz.prog 31 #[.string (tx l), .string ⟨#[10]⟩] w fun e w' => e = .returned (.bool b) ∧ w = w' := by
  have hw0 : IntKind.i64.wrap 0 = 0 := by decide
  have hz : (tx l).size = l.length := tx_size _
  have he : ([10] == (tx l).toList) = false := by
    rw [Lib.toList_data, tx_list, beq_eq_false_iff_ne]
    intro e
    rw [← e] at h2
    simp at h2
  have IB := fun w => ibyte_any (tx l) 10 w
  rw [tx_list, show ((10 : Int).toNat.toUInt8) = (10 : UInt8) from rfl] at IB
  generalize tx l = u at hz he IB ⊢
  generalize Lib.indexByte l 10 = r at IB hb
  have IX : ∀ w, Calls Tryz.prog 115 #[.string u, .string ⟨#[10]⟩] w fun e w' => e = .returned (.int .i64 r) ∧ w = w' := by
    intro w
    have IBH := Lib.hid IB
    clear IB
    go_enter Tryz.func115, Tryz.ntmps115
    go_wp2_with (go_at_call 166; refine (IBH.out _).mono ?_; rintro e w' ⟨rfl, rfl⟩)
    go_ret
    exact ⟨rfl, rfl⟩
  have IXH := Lib.hid IX
  clear IX IB he hz
  have SX : ∀ w, Calls Tryz.prog 63 #[.string u, .string ⟨#[10]⟩] w fun e w' => e = .returned (.int .i64 r) ∧ w = w' := by
    intro w
    go_enter Tryz.func63, Tryz.ntmps63
    go_wp2_with (go_at_call 115; (with_reducible refine (IXH.out _).mono ?_); rintro e w2 ⟨rfl, rfl⟩)
    go_ret
    exact ⟨rfl, rfl⟩
  have SXH := Lib.hid SX
  clear SX
  go_enter Tryz.func31, Tryz.ntmps31
  go_wp2_with (go_at_call 63; (with_reducible refine (SXH.out _).mono ?_); rintro e w2 ⟨rfl, rfl⟩)
  go_ret
  exact ⟨by rw [← hb]; simp, rfl⟩
end Go.Proofs.YtjekpmkghpjamaaGreatDoor
namespace Go.Proofs.YtjekpmkghpjamaaGreatDoor
open Go.RowKit
theorem bytes_one (d : UInt8) (w : World) : ∃ c w1, (convert 9 57 (.string ⟨#[d]⟩)).run Tryz.prog w = .ok (.slice (some ⟨w.heap.size, 0, none⟩) 1 c) w1 ∧ Below w.heap.size w w1 ∧ w1.cell? ⟨w.heap.size, 0, none⟩ = some (.int .u8 d.toNat) := by
  refine ⟨_, _, run_bytes_of_string w 9 57 5 ⟨#[d]⟩ Tryz.underlying9 Tryz.underlying57 Tryz.underlying5, ?_, ?_⟩
  · exact (Below.refl _ _).drew.alloc (Nat.le_refl _) _
  · have h := bytesRow_at ⟨#[d]⟩ (grownCap w (⟨#[d]⟩ : ByteArray).size 0 5) 0 (show 0 < 1 by decide)
    rw [show ((#[d] : Array UInt8)[0]) = d from rfl] at h
    unfold World.cell?
    simp only [World.alloc, World.drew]
    simp [h]
set_option maxRecDepth 100000 in
set_option maxHeartbeats 4000000 in
theorem iatoi3 (w : World) :
    Calls Tryz.prog 132 #[.string (tx [51])] w fun e w' => e = .returned (.tuple #[.int .i64 3, .nilIface]) ∧ Below w.heap.size w w' := by
  have hw0 : IntKind.i64.wrap 0 = 0 := by decide
  obtain ⟨c, w1, R1, B1, C1⟩ := bytes_one 51 w
  rw [show (((51 : UInt8).toNat : Nat) : Int) = 51 from rfl] at C1
  have B1 := Lib.hid B1
  unfold tx
  go_enter Tryz.func132, Tryz.ntmps132
  go_wp2
  refine wp_loop_rounds 2 ?_
  rw [rounds_succ]
  go_wp2
  rw [rounds_succ]
  go_wp2
  go_ret2
  exact ⟨rfl, B1.out⟩
set_option maxRecDepth 100000 in
set_option maxHeartbeats 4000000 in
theorem parseInt_none (w : World) :
    Calls Tryz.prog 176 #[.string ⟨#[]⟩, .int .i64 10, .int .i64 0] w fun e w' => e = .returned (.tuple #[.int .i64 0, .iface 226 (.int .i64 2)]) ∧ w = w' := by
  have hw0 : IntKind.i64.wrap 0 = 0 := by decide
  go_enter Tryz.func176, Tryz.ntmps176
  go_wp2
  go_ret2
  exact ⟨rfl, rfl⟩
set_option maxRecDepth 100000 in
set_option maxHeartbeats 4000000 in
theorem iatoi_none (w : World) :
    Calls Tryz.prog 132 #[.string ⟨#[]⟩] w fun e w' => e = .returned (.tuple #[.int .i64 0, .iface 226 (.int .i64 2)]) ∧ w = w' := by
  have hw0 : IntKind.i64.wrap 0 = 0 := by decide
  have C := Lib.hid (parseInt_none w)
  go_enter Tryz.func132, Tryz.ntmps132
  go_wp2_with (go_at_call 176; (with_reducible refine (C.out).mono ?_); rintro e w' ⟨rfl, rfl⟩)
  go_ret2
  exact ⟨rfl, rfl⟩
set_option maxRecDepth 100000 in
set_option maxHeartbeats 4000000 in
theorem syntaxError_any (u : TypeId) (x : Value) (w : World) (h2 : w.cell? ⟨4, 0, none⟩ = some (.iface u x)) (hz : 4 < w.heap.size) :
    Calls Tryz.prog 177 #[.string ⟨#[65, 116, 111, 105]⟩, .string ⟨#[]⟩] w fun e w' => (∃ a, e = .returned (.pointer (some a))) ∧ Below w.heap.size w w' := by
  have C : ∀ w, Calls Tryz.prog 211 #[.string ⟨#[]⟩] w fun e w' => e = .returned (.string ⟨#[]⟩) ∧ w = w' := by
    intro w
    go_enter Tryz.func211, Tryz.ntmps211
    go_wp2
    go_ret
    exact ⟨rfl, rfl⟩
  have C := Lib.hid C
  have k0 := fun p : LowW w.heap.size w => LowW.cell (a := ⟨4, 0, none⟩) hz h2 p
  clear h2
  go_enter Tryz.func177, Tryz.ntmps177
  go_wp2_with fail
  refine wp_region_low_tail w.heap.size w 5 (by kernel_rfl) (by kernel_rfl) (Below.refl _ _) ?_
  simp only [List.take_succ_cons, List.take_zero, List.drop_succ_cons, List.drop_zero]
  repeat (quiet_step (first | (go_at_call 211; with_reducible exact LowW.of_call _ (Nat.le_refl _) (below_quiet (C.out _)))))
  refine wpQuiet_nil ?_
  rintro w1 ⟨p, rfl⟩
  have PB := Lib.hid p.below
  clear k0
  generalize p.w = w1 at PB ⊢
  go_wp2
  go_ret
  exact ⟨⟨_, rfl⟩, PB.out.alloc PB.out.size _⟩
set_option maxRecDepth 100000 in
set_option maxHeartbeats 4000000 in
theorem toError_any (u : TypeId) (x : Value) (w : World) (h2 : w.cell? ⟨4, 0, none⟩ = some (.iface u x)) (hz : 4 < w.heap.size) :
    Calls Tryz.prog 133 #[.string ⟨#[65, 116, 111, 105]⟩, .string ⟨#[]⟩, .int .i64 0, .int .i64 0, .iface 226 (.int .i64 2)] w fun e w' => (∃ a, e = .returned (.iface 229 (.pointer (some a)))) ∧ Below w.heap.size w w' := by
  have C := Lib.hid (syntaxError_any u x w h2 hz)
  have hc : (Tryz.prog.info? 226).map (·.comparable) = some true := by kernel_rfl
  have hq := fun w => Lib.run_eql_iface_int (P := Tryz.prog) w (k := .i64) 2 2 Tryz.underlying125 hc Tryz.underlying226
  rw [show ((2 : Int) == 2) = true from rfl] at hq
  clear h2 hc
  go_enter Tryz.func133, Tryz.ntmps133
  go_wp2_with (go_at_call 177; (with_reducible refine (C.out).mono ?_); rintro e w' ⟨⟨a, rfl⟩, hb⟩)
  go_ret
  exact ⟨⟨_, rfl⟩, hb⟩
set_option maxRecDepth 100000 in
theorem atoi_none (u : TypeId) (x : Value) (w : World) (h2 : w.cell? ⟨4, 0, none⟩ = some (.iface u x)) (hz : 4 < w.heap.size) :
    Calls Tryz.prog 78 #[.string ⟨#[]⟩] w fun e w' => (∃ t x, e = .returned (.tuple #[.int .i64 0, .iface t x])) ∧ Below w.heap.size w w' := by
  have C1 := Lib.hid (iatoi_none w)
  have C2 := Lib.hid (toError_any u x w h2 hz)
  clear h2
  go_enter Tryz.func78, Tryz.ntmps78
  go_wp2_with (first | (go_at_call 132; (with_reducible refine (C1.out).mono ?_); rintro e w' ⟨rfl, rfl⟩) | (go_at_call 133; (with_reducible refine (C2.out).mono ?_); rintro e w' ⟨⟨a, rfl⟩, hb⟩))
  go_ret2
  exact ⟨⟨_, _, rfl⟩, hb⟩
set_option maxRecDepth 100000 in
theorem number_none (u : TypeId) (x : Value) (w : World) (h2 : w.cell? ⟨4, 0, none⟩ = some (.iface u x)) (hz : 4 < w.heap.size) :
    Calls Tryz.prog 40 #[.string (tx [])] w fun e w' => e = .returned (.tuple #[.int .i64 0, .bool false]) ∧ Below w.heap.size w w' := by
  have C1 := Lib.hid (atoi_none u x w h2 hz)
  clear h2
  unfold tx
  go_enter Tryz.func40, Tryz.ntmps40
  go_wp2_with (go_at_call 78; (with_reducible refine (C1.out).mono ?_); rintro e w' ⟨⟨t', x', rfl⟩, hb⟩)
  go_ret2
  exact ⟨rfl, hb⟩
set_option maxRecDepth 100000 in
theorem number3 (w : World) :
    Calls Tryz.prog 40 #[.string (tx [51])] w fun e w' => e = .returned (.tuple #[.int .i64 3, .bool true]) ∧ Below w.heap.size w w' := by
  have C : Calls Tryz.prog 78 #[.string (tx [51])] w fun e w' => e = .returned (.tuple #[.int .i64 3, .nilIface]) ∧ Below w.heap.size w w' := by
    have C1 := Lib.hid (iatoi3 w)
    generalize tx [51] = s at C1 ⊢
    go_enter Tryz.func78, Tryz.ntmps78
    go_wp2_with (go_at_call 132; (with_reducible refine (C1.out).mono ?_); rintro e w' ⟨rfl, hb⟩)
    go_ret2
    exact ⟨rfl, hb⟩
  have C := Lib.hid C
  have I := Lib.hid (show ∀ w, Calls Tryz.prog 70 #[.int .i64 3] w fun e w' => e = .returned (.string ⟨#[51]⟩) ∧ w = w' from fun w => itoa_any 3 w (by decide))
  unfold tx at C ⊢
  go_enter Tryz.func40, Tryz.ntmps40
  go_wp2_with (first | (go_at_call 78; (with_reducible refine (C.out).mono ?_); rintro e w' ⟨rfl, hb⟩) | (go_at_call 70; (with_reducible refine (I.out _).mono ?_); rintro e w2 ⟨rfl, rfl⟩))
  go_ret2
  exact ⟨rfl, hb⟩
end Go.Proofs.YtjekpmkghpjamaaGreatDoor
