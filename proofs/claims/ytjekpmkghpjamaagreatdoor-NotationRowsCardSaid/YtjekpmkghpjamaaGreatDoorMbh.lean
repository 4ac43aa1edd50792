/- The walk of TrimLeft at the ten digits, on any text. -/
/- The walks of TrimRight at the letters V and H, and of cutLetter, on any text. -/
/- Parse at the chapter's examples. -/
/- generations.Parse at texts that have not its form. -/
import Derived.Test.YtjekpmkghpjamaaGreatDoorMaa
import Derived.Test.YtjekpmkghpjamaaGreatDoorMaz
import Derived.Test.YtjekpmkghpjamaaGreatDoorMbg
import Derived.Test.YtjekpmkghpjamaaGreatDoorMav
import Derived.Below
import Derived.BigQuiet
import Derived.Deep.AppendLies
import Derived.Deep.Draws
import Derived.Deep.QuietTactic
import Derived.IntWalk
import Derived.Laws.OwnMore
import Derived.Laws.Rows
import Derived.Lib.AtoiAllCases
import Derived.Lib.Hide
import Derived.Lib.Strings
import Derived.LoopN
import Derived.Shelf.Abstract
import Derived.Shelf.Lays
import Derived.Shelf.Strings.SlTrimAscii
import Derived.StillTail
import Derived.StillTailTactics
import Derived.Test.YtjekpmkghpjamaaGreatDoorRows
import Derived.WalkKit
import Derived.Test.YtjekpmkghpjamaaGreatDoorMaw
import Derived.Test.YtjekpmkghpjamaaGreatDoorMab
import Derived.Deep.CutRange
import Derived.OwnWalk
import Derived.Sort.Statements
import Derived.Test.YtjekpmkghpjamaaGreatDoorMbf
import Derived.Test.YtjekpmkghpjamaaGreatDoorMbe
import Derived.Test.YtjekpmkghpjamaaGreatDoorMbc
import Derived.Test.YtjekpmkghpjamaaGreatDoorMaq
import Derived.Deep.DrawnRows
import Derived.Deep.RegionHeld3
import Derived.Laws.Externs
import Derived.Laws.IdiomStrings
import Derived.Laws.ShiftsVar
import Derived.Lib.IfaceEq
import Derived.Lib.IndexEntry
import Derived.Lib.SliceRun
import Derived.Shelf.Strings.Search1
namespace Go.Proofs.YtjekpmkghpjamaaGreatDoor
open Go.RowKit
/-- the ten digits -/
def ten : List UInt8 := [48, 49, 50, 51, 52, 53, 54, 55, 56, 57]
theorem ten_dgt (c : UInt8) : ten.contains c = dgt c := by
  rw [Bool.eq_iff_iff, dgt_iff]
  simp only [ten, List.contains_eq_mem, List.mem_cons, List.not_mem_nil, or_false, decide_eq_true_eq]
  simp only [← UInt8.toNat_inj]
  simp
  omega
theorem set_info : (Tryz.prog.info? 177).map (fun i => (i.zero, i.size)) = some (some (.agg (Array.replicate 256 (.bool false))), 256) := by kernel_rfl
theorem makeSet_ten (w : World) :
    Calls Tryz.prog 128 #[.string ⟨#[48, 49, 50, 51, 52, 53, 54, 55, 56, 57]⟩] w fun e w' => e = .returned (.tuple #[.agg (Lib.setCells ten), .bool true]) ∧ w' = w.alloc (.cells (Lib.setCells ten) 177) :=
  Any.strings_makeASCIISet setLays (zero_of_info set_info).1 (zero_of_info set_info).2 ⟨#[48, 49, 50, 51, 52, 53, 54, 55, 56, 57]⟩ w (by decide) (ascii_of_all (by decide))
theorem trimLeftASCII_any (s : ByteArray) (b : Nat) (w : World) (hset : ∀ x : UInt8, w.cell? ⟨b, x.toNat, none⟩ = some (.bool (ten.contains x))) :
    Calls Tryz.prog 135 #[.string s, .pointer (some ⟨b, 0, none⟩)] w fun e w' => e = .returned (.string ⟨(Lib.trimLeftS s.data.toList ten).toArray⟩) ∧ w' = w :=
  Any.strings_trimLeftASCII leftLays s b ten w hset
set_option maxRecDepth 1000000 in
set_option maxHeartbeats 8000000 in
theorem trimLeft_ten (s : ByteArray) (w : World) (h0 : 0 < s.size) :
    Calls Tryz.prog 84 #[.string s, .string ⟨#[48, 49, 50, 51, 52, 53, 54, 55, 56, 57]⟩] w fun e w' => e = .returned (.string ⟨(Lib.trimLeftS s.data.toList ten).toArray⟩) ∧ Below w.heap.size w w' := by
  have hM := Lib.hid (makeSet_ten w)
  have hemps : s.toList.isEmpty = false := by
    rw [Lib.toList_data]
    cases h : s.data.toList with
    | nil => have := Lib.size_eq s; rw [h, List.length_nil] at this; omega
    | cons _ _ => rfl
  have hsc : (storeCells ⟨w.heap.size + 1, 0, none⟩ (Lib.setCells ten).toList 0).run Tryz.prog ((w.alloc (.cells (Lib.setCells ten) 177)).alloc (.cells Tryz.zeroCells177 177)) = .ok () ((w.alloc (.cells (Lib.setCells ten) 177)).alloc (.cells (Lib.setCells ten) 177)) := by
    have := run_storeCells_new (P := Tryz.prog) (w.alloc (.cells (Lib.setCells ten) 177)) 177 Tryz.zeroCells177 (Lib.setCells ten) (by rw [Lib.setCells_size]; exact (zero_of_info set_info).2) (by rw [Lib.setCells_size]; kernel_rfl) (Lib.setCells_one _)
    simpa using this
  have hsz := Lib.setCells_size ten
  have hcellAt : ∀ x : UInt8, ((w.alloc (.cells (Lib.setCells ten) 177)).alloc (.cells (Lib.setCells ten) 177)).cell? ⟨w.heap.size + 1, x.toNat, none⟩ = some (.bool (ten.contains x)) := fun x => by
    rw [World.cell?_alloc_at _ _ _ _ (by simp), Lib.setCells_at]
  have hT := Lib.hid (trimLeftASCII_any s (w.heap.size + 1) _ hcellAt)
  have HB := Lib.hid (((Below.refl w.heap.size w).alloc (Nat.le_refl _) (.cells (Lib.setCells ten) 177)).alloc (by simp) (.cells (Lib.setCells ten) 177))
  clear hcellAt
  generalize Lib.trimLeftS s.data.toList ten = r at hT ⊢
  generalize Lib.setCells ten = cs at hM hsc hsz hT HB
  go_enter Tryz.func84, Tryz.ntmps84
  go_wp2_with (first
    | (go_at_call 128; (with_reducible refine (hM.out).mono ?_); rintro e w' ⟨rfl, hw⟩; rw [hw])
    | (go_at_call 135; (with_reducible refine (hT.out).mono ?_); rintro e w' ⟨rfl, hw⟩; rw [hw]))
  go_ret
  exact ⟨rfl, HB.out⟩
theorem trim_any (l : List UInt8) (w : World) :
    Calls Tryz.prog 84 #[.string (tx l), .string ⟨#[48, 49, 50, 51, 52, 53, 54, 55, 56, 57]⟩] w fun e w' => e = .returned (.string (tx (Lib.trimLeftS l ten))) ∧ Below w.heap.size w w' := by
  cases l with
  | nil =>
    rw [Lib.trimLeftS_nil]
    unfold tx
    go_enter Tryz.func84, Tryz.ntmps84
    go_wp2
    go_ret
    exact ⟨rfl, Below.refl _ _⟩
  | cons a l => 
    have h := trimLeft_ten (tx (a :: l)) w (by rw [tx_size]; simp)
    rwa [show (tx (a :: l)).data.toList = a :: l by simp [tx]] at h
/-- nothing but digits: nothing is left -/
theorem trim_all : ∀ {l : List UInt8}, l.all dgt = true → Lib.trimLeftS l ten = []
  | [], _ => rfl
  | c :: l, h => by
    rw [List.all_cons, Bool.and_eq_true] at h
    have ih := trim_all h.2
    unfold Lib.trimLeftS at ih ⊢
    rw [List.dropWhile_cons_of_pos (by rw [ten_dgt]; exact h.1)]
    exact ih
theorem trim_some : ∀ {l : List UInt8}, l.all dgt = false → ∃ c r, Lib.trimLeftS l ten = c :: r
  | [], h => by cases h
  | c :: l, h => by
    cases hc : dgt c with
    | true =>
      rw [List.all_cons, hc, Bool.true_and] at h
      obtain ⟨d, r, ih⟩ := trim_some h
      refine ⟨d, r, ?_⟩
      unfold Lib.trimLeftS at ih ⊢
      rw [List.dropWhile_cons_of_pos (by rw [ten_dgt]; exact hc)]
      exact ih
    | false => exact ⟨c, l, by unfold Lib.trimLeftS; rw [List.dropWhile_cons_of_neg (by rw [ten_dgt, hc]; simp)]⟩
end Go.Proofs.YtjekpmkghpjamaaGreatDoor
namespace Go.Proofs.YtjekpmkghpjamaaGreatDoor
open Go.RowKit
theorem makeSet_vh (w : World) :
    Calls Tryz.prog 128 #[.string ⟨#[86, 72]⟩] w fun e w' => e = .returned (.tuple #[.agg (Lib.setCells [86, 72]), .bool true]) ∧ w' = w.alloc (.cells (Lib.setCells [86, 72]) 177) :=
  Any.strings_makeASCIISet setLays (zero_of_info set_info).1 (zero_of_info set_info).2 ⟨#[86, 72]⟩ w (by decide) (fun j b h => by
    match j, h with
    | 0, h => obtain rfl : (86 : UInt8) = b := by simpa using h
              decide
    | 1, h => obtain rfl : (72 : UInt8) = b := by simpa using h
              decide
    | j + 2, h => simp at h)
theorem trimRightASCII_any (s : ByteArray) (b : Nat) (w : World) (hs : s.size ≤ 1000) (hset : ∀ x : UInt8, w.cell? ⟨b, x.toNat, none⟩ = some (.bool (([86, 72] : List UInt8).contains x))) :
    Calls Tryz.prog 129 #[.string s, .pointer (some ⟨b, 0, none⟩)] w fun e w' => e = .returned (.string ⟨(Lib.trimRightS s.data.toList [86, 72]).toArray⟩) ∧ w' = w :=
  Any.strings_trimRightASCII rightLays s b [86, 72] w (by omega) hset
set_option maxRecDepth 1000000 in
set_option maxHeartbeats 8000000 in
theorem trimRight_vh (s : ByteArray) (w : World) (hs : s.size ≤ 1000) (h0 : 0 < s.size) :
    Calls Tryz.prog 76 #[.string s, .string ⟨#[86, 72]⟩] w fun e w' => e = .returned (.string ⟨(Lib.trimRightS s.data.toList [86, 72]).toArray⟩) ∧ Below w.heap.size w w' := by
  have hM := Lib.hid (makeSet_vh w)
  have hemps : s.toList.isEmpty = false := by
    rw [Lib.toList_data]
    cases h : s.data.toList with
    | nil => have := Lib.size_eq s; rw [h, List.length_nil] at this; omega
    | cons _ _ => rfl
  have hsc : (storeCells ⟨w.heap.size + 1, 0, none⟩ (Lib.setCells [86, 72]).toList 0).run Tryz.prog ((w.alloc (.cells (Lib.setCells [86, 72]) 177)).alloc (.cells Tryz.zeroCells177 177)) = .ok () ((w.alloc (.cells (Lib.setCells [86, 72]) 177)).alloc (.cells (Lib.setCells [86, 72]) 177)) := by
    have := run_storeCells_new (P := Tryz.prog) (w.alloc (.cells (Lib.setCells [86, 72]) 177)) 177 Tryz.zeroCells177 (Lib.setCells [86, 72]) (by rw [Lib.setCells_size]; exact (zero_of_info set_info).2) (by rw [Lib.setCells_size]; kernel_rfl) (Lib.setCells_one _)
    simpa using this
  have hsz := Lib.setCells_size [86, 72]
  have hcellAt : ∀ x : UInt8, ((w.alloc (.cells (Lib.setCells [86, 72]) 177)).alloc (.cells (Lib.setCells [86, 72]) 177)).cell? ⟨w.heap.size + 1, x.toNat, none⟩ = some (.bool (([86, 72] : List UInt8).contains x)) := fun x => by
    rw [World.cell?_alloc_at _ _ _ _ (by simp), Lib.setCells_at]
  have hT := Lib.hid (trimRightASCII_any s (w.heap.size + 1) _ hs hcellAt)
  have HB := Lib.hid (((Below.refl w.heap.size w).alloc (Nat.le_refl _) (.cells (Lib.setCells [86, 72]) 177)).alloc (by simp) (.cells (Lib.setCells [86, 72]) 177))
  clear hcellAt
  go_enter Tryz.func76, Tryz.ntmps76
  go_wp2_with (first
    | (go_at_call 128; (with_reducible refine (hM.out).mono ?_); rintro e w' ⟨rfl, hw⟩; rw [hw])
    | (go_at_call 129; (with_reducible refine (hT.out).mono ?_); rintro e w' ⟨rfl, hw⟩; rw [hw]))
  go_ret
  exact ⟨rfl, HB.out⟩
theorem trim_anyG (l : List UInt8) (w : World) (hl : l.length ≤ 1000) :
    Calls Tryz.prog 76 #[.string (tx l), .string ⟨#[86, 72]⟩] w fun e w' => e = .returned (.string (tx (Lib.trimRightS l [86, 72]))) ∧ Below w.heap.size w w' := by
  cases l with
  | nil =>
    unfold tx
    go_enter Tryz.func76, Tryz.ntmps76
    go_wp2
    go_ret
    exact ⟨rfl, Below.refl _ _⟩
  | cons a l => exact trimRight_vh (tx (a :: l)) w (by rw [tx_size]; exact hl) (by rw [tx_size]; simp)
/-- a text whose letters at the end begin at k -/
theorem trim_at (l1 l2 : List UInt8) (h2 : ∀ x ∈ l2, x = 86 ∨ x = 72) (h1 : ∀ x ∈ l1.getLast?, x ≠ 86 ∧ x ≠ 72) : Lib.trimRightS (l1 ++ l2) [86, 72] = l1 := by
  unfold Lib.trimRightS
  rw [List.reverse_append, List.dropWhile_append_of_pos (fun x hx => by
    have := h2 x (by simpa using hx)
    rcases this with rfl | rfl <;> decide)]
  cases hr : l1.reverse with
  | nil => rw [List.reverse_eq_nil_iff] at hr; rw [hr]; rfl
  | cons x r =>
    have hx : x ∈ l1.getLast? := by
      rw [← List.head?_reverse, hr]; rfl
    have := h1 x hx
    rw [List.dropWhile_cons_of_neg (by simp [this.1, this.2]), ← hr, List.reverse_reverse]
set_option maxRecDepth 100000 in
theorem cutLetter_any (l1 l2 : List UInt8) (w : World) (hl : l1.length + l2.length ≤ 1000) (h2 : ∀ x ∈ l2, x = 86 ∨ x = 72) (h1 : ∀ x ∈ l1.getLast?, x ≠ 86 ∧ x ≠ 72) :
    Calls Tryz.prog 38 #[.string (tx (l1 ++ l2))] w fun e w' => e = .returned (.tuple #[.string (tx l1), .string (tx l2)]) ∧ Below w.heap.size w w' := by
  have T := trim_anyG (l1 ++ l2) w (by simpa using hl)
  rw [trim_at l1 l2 h2 h1] at T
  have z0 : (tx (l1 ++ l2)).size = l1.length + l2.length := by rw [tx_size]; simp
  have z1 : (tx l1).size = l1.length := tx_size _
  have hx : (tx (l1 ++ l2)).extract l1.length (l1.length + l2.length) = tx l2 := by
    rw [← tx_addG]
    apply ByteArray.ext
    simp [tx, ByteArray.data_extract]
  have HX := Lib.hid hx
  have c1 : (0 : Int) ≤ (l1.length : Int) := by omega
  have c2 : ((l1.length : Nat) : Int) ≤ ((l1.length + l2.length : Nat) : Int) := by omega
  generalize tx (l1 ++ l2) = s at T z0 HX ⊢
  generalize tx l1 = s1 at T z1 ⊢
  generalize tx l2 = s2 at HX ⊢
  rw [← HX.out]
  rw [← z0, ← z1] at c2
  rw [← z0, ← z1]
  rw [← z1] at c1
  clear hx HX z0 z1 hl h1 h2
  have T := Lib.hid T
  go_enter Tryz.func38, Tryz.ntmps38
  go_wp2_with (go_at_call 76; (with_reducible refine (T.out).mono ?_); rintro e w' ⟨rfl, hb⟩)
  go_region
  go_wp2
  go_ret2
  exact ⟨rfl, hb.drew⟩
end Go.Proofs.YtjekpmkghpjamaaGreatDoor
namespace Go.Proofs.YtjekpmkghpjamaaGreatDoor
open Go.RowKit
theorem add_at (a b c : List UInt8) (h : a ++ b = c) (hl : a.length + b.length ≤ 1000) (w : World) : (Op.stringOp .add (tx a) (tx b)).run Tryz.prog w = .ok (.string (tx c)) w := by
  rw [← h, ← tx_addG]
  exact run_string_add_sum w _ _ (by rw [tx_size, tx_size]; omega)
theorem letter_at (a b : List UInt8) (ha : (a.getLast?.all fun x => x != 86 && x != 72) = true) (hb : (b.all fun x => x == 86 || x == 72) = true) (hl : a.length + b.length ≤ 1000) (w : World) :
    Calls Tryz.prog 38 #[.string (tx (a ++ b))] w fun e w' => e = .returned (.tuple #[.string (tx a), .string (tx b)]) ∧ Below w.heap.size w w' :=
  cutLetter_any a b w hl (fun x hx => by
    have := List.all_eq_true.1 hb x hx
    simpa using this) (fun x hx => by
    rw [Option.mem_def] at hx
    rw [hx] at ha
    simpa using ha)
theorem gex0 (m : Int) (u : TypeId) (x : Value) (w : World) (h : VrG m u x w) : Calls Tryz.prog 15 #[.string (tx [47, 50, 47, 51])] w fun e w' => ∃ A c A1 c1 A2 c2, e = .returned (.tuple #[.agg #[.slice A 9 c, .int .i64 3, .slice A1 1 c1, .slice A2 0 c2], .int .i64 0]) ∧ TR w' A 9 (lf M1) A1 1 [2] A2 0 [] ∧ Below w.heap.size w w' :=
  gparse_ok (tx [47, 50, 47, 51]) (tx [47, 50, 47, 51]) (tx []) (tx [66, 50, 47, 83]) (tx [51]) (tx [66, 50, 47, 83]) m u x 9 1 0 (lf M1) [2] [] 3 w (by decide) (by decide) (by decide) h (fun w => letter_at [47, 50, 47, 51] [] (by decide) (by decide) (by decide) w) (fun w h => divide0 m u x w h) (fun w _ => number3 w) (fun w => add_at [66, 50, 47, 83] [] [66, 50, 47, 83] rfl (by decide) w) (fun w => ex1 w) (fun w => letter_at [66, 50, 47, 83] [] (by decide) (by decide) (by decide) w)
end Go.Proofs.YtjekpmkghpjamaaGreatDoor
namespace Go.Proofs.YtjekpmkghpjamaaGreatDoor
open Go.RowKit

/-- what a text that is no notation of this kind gives -/
def GSyn (s : List UInt8) : Prop := ∀ (m : Int) (u : TypeId) (x : Value) (w : World), VrG m u x w → Calls Tryz.prog 15 #[.string (tx s)] w fun e w' => e = .returned (.tuple #[.agg #[.slice none 0 0, .int .i64 0, .slice none 0 0, .slice none 0 0], .int .i64 15]) ∧ Below w.heap.size w w'
theorem letter_none (a : List UInt8) (ha : (a.getLast?.all fun x => x != 86 && x != 72) = true) (hl : a.length ≤ 1000) (w : World) :
    Calls Tryz.prog 38 #[.string (tx a)] w fun e w' => e = .returned (.tuple #[.string (tx a), .string (tx [])]) ∧ Below w.heap.size w w' := by
  have := letter_at a [] ha rfl (by simp; omega) w
  rwa [List.append_nil] at this
theorem add_none (a : List UInt8) (hl : a.length ≤ 1000) (w : World) : (Op.stringOp .add (tx a) (tx [])).run Tryz.prog w = .ok (.string (tx a)) w :=
  add_at a [] a (List.append_nil a) (by simp; omega) w
/-- a text without a mark of the number of states, cut at its first slashes -/
theorem gsyn_at (s r bi sv : List UInt8) (b1 b2 : Bool) (hl : s.length ≤ 100) (hlb : bi.length + sv.length ≤ 100) (ha : (s.getLast?.all fun x => x != 86 && x != 72) = true) (hb : (([66] ++ bi ++ [47, 83] ++ sv).getLast?.all fun x => x != 86 && x != 72) = true) (CC : CutC s)
    (C2 : ∀ w, Calls Tryz.prog 77 #[.string (tx s), .string (tx [47])] w fun e w' => e = .returned (.tuple #[.string (tx sv), .string (tx r), .bool b1]) ∧ Below w.heap.size w w')
    (C3 : ∀ w, Calls Tryz.prog 77 #[.string (tx r), .string (tx [47])] w fun e w' => e = .returned (.tuple #[.string (tx bi), .string (tx []), .bool b2]) ∧ Below w.heap.size w w')
    (LP : LSyn ([66] ++ bi ++ [47, 83] ++ sv)) : GSyn s := fun m u x w hv =>
  gparse_syn (tx s) (tx s) (tx []) (tx ([66] ++ bi ++ [47, 83] ++ sv)) (tx []) (tx ([66] ++ bi ++ [47, 83] ++ sv)) m u x 0 w hv (fun w => letter_none s ha (by omega) w)
    (fun w hv => divide_noG s r bi [] sv b1 b2 w (by omega) (CC m w hv.2.1) C2 C3) (fun w hv => number_none u x w hv.2.2 hv.1) (fun w => add_none _ (by simp; omega) w) LP (fun w => letter_none _ hb (by simp; omega) w)
theorem gsyn_slashless {c : UInt8} {r : List UInt8} (hn : 47 ∉ c :: r) (hc : c.toNat < 48 ∨ 57 < c.toNat) (h2 : 2 ≤ (c :: r).length) (h60 : (c :: r).length ≤ 60) (ha : ((c :: r).getLast?.all fun x => x != 86 && x != 72) = true) : GSyn (c :: r) :=
  gsyn_at (c :: r) [] [] (c :: r) false false (by omega) (by simp at h60 ⊢; omega) ha (by
    show ((66 :: 47 :: 83 :: c :: r).getLast?.all _) = true
    rw [List.getLast?_cons_cons, List.getLast?_cons_cons, List.getLast?_cons_cons]
    exact ha) (cutc_slashless hn h2 h60) (fun w => cut_no w hn) (fun w => cut_no w (by simp)) (lsyn_back hc (by omega) h2)
theorem gsyn_b3s : GSyn [98, 51, 47, 115, 50, 51] :=
  gsyn_at [98, 51, 47, 115, 50, 51] [115, 50, 51] [115, 50, 51] [98, 51] true false (by decide) (by decide) (by decide) (by decide) cutc_b3s (fun w => cut_yes (a := [98, 51]) [115, 50, 51] w (by decide) (by decide)) (fun w => cut_no w (by decide))
    (lsyn_at [66, 115, 50, 51, 47, 83, 98, 51] [115, 50, 51, 47, 83, 98, 51] [115, 50, 51, 47, 83, 98, 51] [115, 50, 51, 47, 83, 98, 51] [115, 50, 51, 47, 83, 98, 51] true false (by decide) (by decide +kernel) (by decide +kernel) (by decide +kernel) (by decide +kernel) (by decide))
theorem gsyn_t7 : GSyn [84, 55, 55, 55, 47, 51] :=
  gsyn_at [84, 55, 55, 55, 47, 51] [51] [51] [84, 55, 55, 55] true false (by decide) (by decide) (by decide) (by decide) cutc_t7 (fun w => cut_yes (a := [84, 55, 55, 55]) [51] w (by decide) (by decide)) (fun w => cut_no w (by decide))
    (lsyn_at [66, 51, 47, 83, 84, 55, 55, 55] [51, 47, 83, 84, 55, 55, 55] [47, 83, 84, 55, 55, 55] [84, 55, 55, 55] [84, 55, 55, 55] true true (by decide) (by decide +kernel) (by decide +kernel) (by decide +kernel) (by decide +kernel) (by decide))
/-- the texts of the examples that are no notation of the two first kinds -/
theorem lsyn_b3s : LSyn [98, 51, 47, 115, 50, 51] := lsyn_head (by decide) (by decide) (by decide) (by decide) (by decide)
theorem lsyn_t7 : LSyn [84, 55, 55, 55, 47, 51] := lsyn_head (by decide) (by decide) (by decide) (by decide) (by decide)
theorem lsyn_life : LSyn [108, 105, 102, 101] := lsyn_head (by decide) (by decide) (by decide) (by decide) (by decide)
theorem lsyn_xn : LSyn [120, 10] := lsyn_head (by decide) (by decide) (by decide) (by decide) (by decide)
theorem lsyn_gen : LSyn [47, 50, 47, 51] := lsyn_at [47, 50, 47, 51] [47, 50, 47, 51] [47, 50, 47, 51] [47, 50, 47, 51] [47, 50, 47, 51] false false (by decide) (by decide +kernel) (by decide +kernel) (by decide +kernel) (by decide +kernel) (by decide)
theorem gsyn_life : GSyn [108, 105, 102, 101] := gsyn_slashless (by decide) (by decide) (by decide) (by decide) (by decide)
theorem gsyn_xn : GSyn [120, 10] := gsyn_slashless (by decide) (by decide) (by decide) (by decide) (by decide)
/-- the notations of the examples -/
theorem lpar_life (w : World) : Calls Tryz.prog 14 #[.string (tx [66, 51, 47, 83, 50, 51])] w fun e w' => ∃ A c A1 c1 A2 c2, e = .returned (.tuple #[.agg #[.slice A 9 c, .int .i64 2, .slice A1 1 c1, .slice A2 2 c2], .int .i64 0]) ∧ TR w' A 9 (lf M1) A1 1 [3] A2 2 [2, 3] ∧ Below w.heap.size w w' ∧ (∀ ad, A1 = some ad → w.heap.size ≤ ad.block) ∧ (∀ ad, A2 = some ad → w.heap.size ≤ ad.block) :=
  parse_ok [66, 51, 47, 83, 50, 51] [51, 47, 83, 50, 51] [47, 83, 50, 51] [50, 51] [] [3] [2, 3] 1 2 9 (lf M1) w (by decide) (by decide +kernel) (by decide +kernel) (by decide +kernel) (by decide +kernel) (by decide +kernel) (by decide +kernel) rfl rfl (by decide) (by decide) (by decide +kernel) offsets0
theorem lpar_hex (w : World) : Calls Tryz.prog 14 #[.string (tx [66, 50, 47, 83, 51, 52, 72])] w fun e w' => ∃ A c A1 c1 A2 c2, e = .returned (.tuple #[.agg #[.slice A 7 c, .int .i64 2, .slice A1 1 c1, .slice A2 2 c2], .int .i64 0]) ∧ TR w' A 7 (lf HX) A1 1 [2] A2 2 [3, 4] ∧ Below w.heap.size w w' ∧ (∀ ad, A1 = some ad → w.heap.size ≤ ad.block) ∧ (∀ ad, A2 = some ad → w.heap.size ≤ ad.block) :=
  parse_ok [66, 50, 47, 83, 51, 52, 72] [50, 47, 83, 51, 52, 72] [47, 83, 51, 52, 72] [51, 52, 72] [72] [2] [3, 4] 1 2 7 (lf HX) w (by decide) (by decide +kernel) (by decide +kernel) (by decide +kernel) (by decide +kernel) (by decide +kernel) (by decide +kernel) rfl rfl (by decide) (by decide) (by decide +kernel) offsets2
end Go.Proofs.YtjekpmkghpjamaaGreatDoor
