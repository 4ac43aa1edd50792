/- The walk of strings.CutPrefix at the prefix of one minus sign. -/
import Derived.Test.YtckkbeknjipddaaDoorForm
namespace Go.Proofs.YtckkbeknjipddaaDoor
open Go.RowKit

theorem minus_iff (s : ByteArray) : minusB (bs s) = (decide (1 ≤ s.size) && ((s.extract 0 1).toList == [45])) := by
  unfold minusB
  have h1 : (s.extract 0 1).toList = s.data.toList.take 1 := by rw [Lib.toList_data, Lib.extract_data]; simp
  rw [h1]
  have h2 : s.size = s.data.toList.length := by simp
  rw [h2, bs]
  match s.data.toList with
  | [] => rfl
  | a :: l => 
    rw [Bool.eq_iff_iff]
    simp
    constructor
    · intro h
      exact UInt8.toNat_inj.1 h
    · rintro rfl; rfl

theorem cut_yes (s : ByteArray) (w : World) (hn : s.size ≤ maxLen) (h : minusB (bs s) = true) :
    Calls Tryd.prog 21 #[.string s, .string ⟨#[45]⟩] w fun e w' => e = .returned (.tuple #[.string (s.extract 1 s.size), .bool true]) ∧ w = w' := by
  unfold maxLen at hn
  rw [minus_iff] at h
  simp only [Bool.and_eq_true, decide_eq_true_eq] at h
  obtain ⟨h1, h2⟩ := h
  go_enter Tryd.func21, Tryd.ntmps21
  go_wp2_with (go_in)
  go_ret2
  exact ⟨rfl, rfl⟩
theorem cut_no (s : ByteArray) (w : World) (hn : s.size ≤ maxLen) (h : minusB (bs s) = false) :
    Calls Tryd.prog 21 #[.string s, .string ⟨#[45]⟩] w fun e w' => e = .returned (.tuple #[.string s, .bool false]) ∧ w = w' := by
  unfold maxLen at hn
  rw [minus_iff] at h
  by_cases h1 : 1 ≤ s.size
  · have h2 : ((s.extract 0 1).toList == [45]) = false := by simpa [h1] using h
    go_enter Tryd.func21, Tryd.ntmps21
    go_wp2_with (go_in)
    go_ret2
    exact ⟨rfl, rfl⟩
  · go_enter Tryd.func21, Tryd.ntmps21
    go_wp2_with (go_in)
    go_ret2
    exact ⟨rfl, rfl⟩

def bodyS (s : ByteArray) : ByteArray := if minusB (bs s) then s.extract 1 s.size else s
theorem bs_bodyS (s : ByteArray) : bs (bodyS s) = bodyL (bs s) := by
  unfold bodyS bodyL
  split
  · exact bs_tail s
  · rfl
theorem bodyS_le (s : ByteArray) : (bodyS s).size ≤ s.size := by
  unfold bodyS
  split
  · simp
  · exact Nat.le_refl _
theorem cut_any (s : ByteArray) (w : World) (hn : s.size ≤ maxLen) :
    Calls Tryd.prog 21 #[.string s, .string ⟨#[45]⟩] w fun e w' => e = .returned (.tuple #[.string (bodyS s), .bool (minusB (bs s))]) ∧ w = w' := by
  unfold bodyS
  by_cases h : minusB (bs s) = true
  · rw [h]; exact cut_yes s w hn h
  · have h' : minusB (bs s) = false := by simpa using h
    rw [h']; exact cut_no s w hn h'

end Go.Proofs.YtckkbeknjipddaaDoor
