/- The walks of TrimRight at the letters V and H, and of cutLetter, on any text. -/
import Derived.Test.YtbdgfegafckkbaaGreatDoorLays
import Derived.Test.YtbdgfegafckkbaaGreatDoorDig
import Derived.Shelf.Strings.SlTrimAscii
namespace Go.Proofs.YtbdgfegafckkbaaGreatDoor
open Go.RowKit

theorem set_info : (Tryz.prog.info? 74).map (fun i => (i.zero, i.size)) = some (some (.agg (Array.replicate 256 (.bool false))), 256) := by kernel_rfl
theorem makeSet_vh (w : World) :
    Calls Tryz.prog 49 #[.string ⟨#[86, 72]⟩] w fun e w' => e = .returned (.tuple #[.agg (Lib.setCells [86, 72]), .bool true]) ∧ w' = w.alloc (.cells (Lib.setCells [86, 72]) 74) :=
  Any.strings_makeASCIISet setLays (zero_of_info set_info).1 (zero_of_info set_info).2 ⟨#[86, 72]⟩ w (by decide) (fun j b h => by
    match j, h with
    | 0, h => obtain rfl : (86 : UInt8) = b := by simpa using h
              decide
    | 1, h => obtain rfl : (72 : UInt8) = b := by simpa using h
              decide
    | j + 2, h => simp at h)
theorem trimRightASCII_any (s : ByteArray) (b : Nat) (w : World) (hs : s.size ≤ 1000) (hset : ∀ x : UInt8, w.cell? ⟨b, x.toNat, none⟩ = some (.bool (([86, 72] : List UInt8).contains x))) :
    Calls Tryz.prog 50 #[.string s, .pointer (some ⟨b, 0, none⟩)] w fun e w' => e = .returned (.string ⟨(Lib.trimRightS s.data.toList [86, 72]).toArray⟩) ∧ w' = w :=
  Any.strings_trimRightASCII rightLays s b [86, 72] w (by omega) hset
set_option maxRecDepth 1000000 in
set_option maxHeartbeats 8000000 in
theorem trimRight_vh (s : ByteArray) (w : World) (hs : s.size ≤ 1000) (h0 : 0 < s.size) :
    Calls Tryz.prog 36 #[.string s, .string ⟨#[86, 72]⟩] w fun e w' => e = .returned (.string ⟨(Lib.trimRightS s.data.toList [86, 72]).toArray⟩) ∧ Below w.heap.size w w' := by
  have hM := Lib.hid (makeSet_vh w)
  have hemps : s.toList.isEmpty = false := by
    rw [Lib.toList_data]
    cases h : s.data.toList with
    | nil => have := Lib.size_eq s; rw [h, List.length_nil] at this; omega
    | cons _ _ => rfl
  have hsc : (storeCells ⟨w.heap.size + 1, 0, none⟩ (Lib.setCells [86, 72]).toList 0).run Tryz.prog ((w.alloc (.cells (Lib.setCells [86, 72]) 74)).alloc (.cells Tryz.zeroCells74 74)) = .ok () ((w.alloc (.cells (Lib.setCells [86, 72]) 74)).alloc (.cells (Lib.setCells [86, 72]) 74)) := by
    have := run_storeCells_new (P := Tryz.prog) (w.alloc (.cells (Lib.setCells [86, 72]) 74)) 74 Tryz.zeroCells74 (Lib.setCells [86, 72]) (by rw [Lib.setCells_size]; exact (zero_of_info set_info).2) (by rw [Lib.setCells_size]; kernel_rfl) (Lib.setCells_one _)
    simpa using this
  have hsz := Lib.setCells_size [86, 72]
  have hcellAt : ∀ x : UInt8, ((w.alloc (.cells (Lib.setCells [86, 72]) 74)).alloc (.cells (Lib.setCells [86, 72]) 74)).cell? ⟨w.heap.size + 1, x.toNat, none⟩ = some (.bool (([86, 72] : List UInt8).contains x)) := fun x => by
    rw [World.cell?_alloc_at _ _ _ _ (by simp), Lib.setCells_at]
  have hT := Lib.hid (trimRightASCII_any s (w.heap.size + 1) _ hs hcellAt)
  have HB := Lib.hid (((Below.refl w.heap.size w).alloc (Nat.le_refl _) (.cells (Lib.setCells [86, 72]) 74)).alloc (by simp) (.cells (Lib.setCells [86, 72]) 74))
  clear hcellAt
  go_enter Tryz.func36, Tryz.ntmps36
  go_wp2_with (first
    | (go_at_call 49; (with_reducible refine (hM.out).mono ?_); rintro e w' ⟨rfl, hw⟩; rw [hw])
    | (go_at_call 50; (with_reducible refine (hT.out).mono ?_); rintro e w' ⟨rfl, hw⟩; rw [hw]))
  go_ret
  exact ⟨rfl, HB.out⟩
theorem trim_any (l : List UInt8) (w : World) (hl : l.length ≤ 1000) :
    Calls Tryz.prog 36 #[.string (tx l), .string ⟨#[86, 72]⟩] w fun e w' => e = .returned (.string (tx (Lib.trimRightS l [86, 72]))) ∧ Below w.heap.size w w' := by
  cases l with
  | nil =>
    unfold tx
    go_enter Tryz.func36, Tryz.ntmps36
    go_wp2
    go_ret
    exact ⟨rfl, Below.refl _ _⟩
  | cons a l => exact trimRight_vh (tx (a :: l)) w (by rw [tx_size]; exact hl) (by rw [tx_size]; simp)
/-- a text whose letters at the end begin at k -/
theorem trim_at (l1 l2 : List UInt8) (h2 : ∀ x ∈ l2, x = 86 ∨ x = 72) (h1 : ∀ x ∈ l1.getLast?, x ≠ 86 ∧ x ≠ 72) : Lib.trimRightS (l1 ++ l2) [86, 72] = l1 := by
  unfold Lib.trimRightS
  rw [List.reverse_append, List.dropWhile_append_of_pos (fun x hx => by
    have := h2 x (by simpa using hx)
    rcases this with rfl | rfl <;> decide)]
  cases hr : l1.reverse with
  | nil => rw [List.reverse_eq_nil_iff] at hr; rw [hr]; rfl
  | cons x r =>
    have hx : x ∈ l1.getLast? := by
      rw [← List.head?_reverse, hr]; rfl
    have := h1 x hx
    rw [List.dropWhile_cons_of_neg (by simp [this.1, this.2]), ← hr, List.reverse_reverse]
set_option maxRecDepth 100000 in
theorem cutLetter_any (l1 l2 : List UInt8) (w : World) (hl : l1.length + l2.length ≤ 1000) (h2 : ∀ x ∈ l2, x = 86 ∨ x = 72) (h1 : ∀ x ∈ l1.getLast?, x ≠ 86 ∧ x ≠ 72) :
    Calls Tryz.prog 22 #[.string (tx (l1 ++ l2))] w fun e w' => e = .returned (.tuple #[.string (tx l1), .string (tx l2)]) ∧ Below w.heap.size w w' := by
  have T := trim_any (l1 ++ l2) w (by simpa using hl)
  rw [trim_at l1 l2 h2 h1] at T
  have z0 : (tx (l1 ++ l2)).size = l1.length + l2.length := by rw [tx_size]; simp
  have z1 : (tx l1).size = l1.length := tx_size _
  have hx : (tx (l1 ++ l2)).extract l1.length (l1.length + l2.length) = tx l2 := by
    rw [← tx_add]
    apply ByteArray.ext
    simp [tx, ByteArray.data_extract]
  have HX := Lib.hid hx
  have c1 : (0 : Int) ≤ (l1.length : Int) := by omega
  have c2 : ((l1.length : Nat) : Int) ≤ ((l1.length + l2.length : Nat) : Int) := by omega
  generalize tx (l1 ++ l2) = s at T z0 HX ⊢
  generalize tx l1 = s1 at T z1 ⊢
  generalize tx l2 = s2 at HX ⊢
  rw [← HX.out]
  rw [← z0, ← z1] at c2
  rw [← z0, ← z1]
  rw [← z1] at c1
  clear hx HX z0 z1 hl h1 h2
  have T := Lib.hid T
  go_enter Tryz.func22, Tryz.ntmps22
  go_wp2_with (go_at_call 36; (with_reducible refine (T.out).mono ?_); rintro e w' ⟨rfl, hb⟩)
  go_region
  go_wp2
  go_ret2
  exact ⟨rfl, hb.drew⟩
end Go.Proofs.YtbdgfegafckkbaaGreatDoor
