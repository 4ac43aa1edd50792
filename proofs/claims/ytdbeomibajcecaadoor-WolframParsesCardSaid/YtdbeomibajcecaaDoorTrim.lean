/- The walk of TrimLeft at the ten digits, on any text. -/
import Derived.Test.YtdbeomibajcecaaDoorLays
import Derived.Test.YtdbeomibajcecaaDoorNum
import Derived.Shelf.Strings.SlTrimAscii
namespace Go.Proofs.YtdbeomibajcecaaDoor
open Go.RowKit

/-- the ten digits -/
def ten : List UInt8 := [48, 49, 50, 51, 52, 53, 54, 55, 56, 57]
theorem ten_dgt (c : UInt8) : ten.contains c = dgt c := by
  rw [Bool.eq_iff_iff, dgt_iff]
  simp only [ten, List.contains_eq_mem, List.mem_cons, List.not_mem_nil, or_false, decide_eq_true_eq]
  simp only [← UInt8.toNat_inj]
  simp
  omega
theorem set_info : (Tryd.prog.info? 57).map (fun i => (i.zero, i.size)) = some (some (.agg (Array.replicate 256 (.bool false))), 256) := by kernel_rfl
theorem makeSet_ten (w : World) :
    Calls Tryd.prog 32 #[.string ⟨#[48, 49, 50, 51, 52, 53, 54, 55, 56, 57]⟩] w fun e w' => e = .returned (.tuple #[.agg (Lib.setCells ten), .bool true]) ∧ w' = w.alloc (.cells (Lib.setCells ten) 57) :=
  Any.strings_makeASCIISet setLays (zero_of_info set_info).1 (zero_of_info set_info).2 ⟨#[48, 49, 50, 51, 52, 53, 54, 55, 56, 57]⟩ w (by decide) (ascii_of_all (by decide))
theorem trimLeftASCII_any (s : ByteArray) (b : Nat) (w : World) (hset : ∀ x : UInt8, w.cell? ⟨b, x.toNat, none⟩ = some (.bool (ten.contains x))) :
    Calls Tryd.prog 33 #[.string s, .pointer (some ⟨b, 0, none⟩)] w fun e w' => e = .returned (.string ⟨(Lib.trimLeftS s.data.toList ten).toArray⟩) ∧ w' = w :=
  Any.strings_trimLeftASCII leftLays s b ten w hset
set_option maxRecDepth 1000000 in
set_option maxHeartbeats 8000000 in
theorem trimLeft_ten (s : ByteArray) (w : World) (h0 : 0 < s.size) :
    Calls Tryd.prog 25 #[.string s, .string ⟨#[48, 49, 50, 51, 52, 53, 54, 55, 56, 57]⟩] w fun e w' => e = .returned (.string ⟨(Lib.trimLeftS s.data.toList ten).toArray⟩) ∧ Below w.heap.size w w' := by
  have hM := Lib.hid (makeSet_ten w)
  have hemps : s.toList.isEmpty = false := by
    rw [Lib.toList_data]
    cases h : s.data.toList with
    | nil => have := Lib.size_eq s; rw [h, List.length_nil] at this; omega
    | cons _ _ => rfl
  have hsc : (storeCells ⟨w.heap.size + 1, 0, none⟩ (Lib.setCells ten).toList 0).run Tryd.prog ((w.alloc (.cells (Lib.setCells ten) 57)).alloc (.cells Tryd.zeroCells57 57)) = .ok () ((w.alloc (.cells (Lib.setCells ten) 57)).alloc (.cells (Lib.setCells ten) 57)) := by
    have := run_storeCells_new (P := Tryd.prog) (w.alloc (.cells (Lib.setCells ten) 57)) 57 Tryd.zeroCells57 (Lib.setCells ten) (by rw [Lib.setCells_size]; exact (zero_of_info set_info).2) (by rw [Lib.setCells_size]; kernel_rfl) (Lib.setCells_one _)
    simpa using this
  have hsz := Lib.setCells_size ten
  have hcellAt : ∀ x : UInt8, ((w.alloc (.cells (Lib.setCells ten) 57)).alloc (.cells (Lib.setCells ten) 57)).cell? ⟨w.heap.size + 1, x.toNat, none⟩ = some (.bool (ten.contains x)) := fun x => by
    rw [World.cell?_alloc_at _ _ _ _ (by simp), Lib.setCells_at]
  have hT := Lib.hid (trimLeftASCII_any s (w.heap.size + 1) _ hcellAt)
  have HB := Lib.hid (((Below.refl w.heap.size w).alloc (Nat.le_refl _) (.cells (Lib.setCells ten) 57)).alloc (by simp) (.cells (Lib.setCells ten) 57))
  clear hcellAt
  generalize Lib.trimLeftS s.data.toList ten = r at hT ⊢
  generalize Lib.setCells ten = cs at hM hsc hsz hT HB
  go_enter Tryd.func25, Tryd.ntmps25
  go_wp2_with (first
    | (go_at_call 32; (with_reducible refine (hM.out).mono ?_); rintro e w' ⟨rfl, hw⟩; rw [hw])
    | (go_at_call 33; (with_reducible refine (hT.out).mono ?_); rintro e w' ⟨rfl, hw⟩; rw [hw]))
  go_ret
  exact ⟨rfl, HB.out⟩
theorem trim_any (l : List UInt8) (w : World) :
    Calls Tryd.prog 25 #[.string (tx l), .string ⟨#[48, 49, 50, 51, 52, 53, 54, 55, 56, 57]⟩] w fun e w' => e = .returned (.string (tx (Lib.trimLeftS l ten))) ∧ Below w.heap.size w w' := by
  cases l with
  | nil =>
    rw [Lib.trimLeftS_nil]
    unfold tx
    go_enter Tryd.func25, Tryd.ntmps25
    go_wp2
    go_ret
    exact ⟨rfl, Below.refl _ _⟩
  | cons a l => 
    have h := trimLeft_ten (tx (a :: l)) w (by rw [tx_size]; simp)
    rwa [show (tx (a :: l)).data.toList = a :: l by simp [tx]] at h
/-- nothing but digits: nothing is left -/
theorem trim_all : ∀ {l : List UInt8}, l.all dgt = true → Lib.trimLeftS l ten = []
  | [], _ => rfl
  | c :: l, h => by
    rw [List.all_cons, Bool.and_eq_true] at h
    have ih := trim_all h.2
    unfold Lib.trimLeftS at ih ⊢
    rw [List.dropWhile_cons_of_pos (by rw [ten_dgt]; exact h.1)]
    exact ih
theorem trim_some : ∀ {l : List UInt8}, l.all dgt = false → ∃ c r, Lib.trimLeftS l ten = c :: r
  | [], h => by cases h
  | c :: l, h => by
    cases hc : dgt c with
    | true =>
      rw [List.all_cons, hc, Bool.true_and] at h
      obtain ⟨d, r, ih⟩ := trim_some h
      refine ⟨d, r, ?_⟩
      unfold Lib.trimLeftS at ih ⊢
      rw [List.dropWhile_cons_of_pos (by rw [ten_dgt]; exact hc)]
      exact ih
    | false => exact ⟨c, l, by unfold Lib.trimLeftS; rw [List.dropWhile_cons_of_neg (by rw [ten_dgt, hc]; simp)]⟩
end Go.Proofs.YtdbeomibajcecaaDoor
