/- The walk of the reference's Form. -/
import Derived.Test.YtckkbeknjipddaaDoorStr
namespace Go.Proofs.YtckkbeknjipddaaDoor
open Go.RowKit

theorem bs_tail (s : ByteArray) : bs (s.extract 1 s.size) = (bs s).drop 1 := by
  simp [bs, Lib.extract_data]
  rw [List.take_of_length_le (by simp)]
def minusB (l : List Nat) : Bool := l.getD 0 0 == 45
def bodyL (l : List Nat) : List Nat := if minusB l then l.drop 1 else l
def formB (l : List Nat) : Bool := isDecB (bodyL l) && !(minusB l && bodyL l == [48])

theorem isDecB_of {l : List Nat} (h : l.all digB = true) : isDecB l = !(l.length == 0 || (l.getD 0 0 == 48 && decide (1 < l.length))) := by
  unfold isDecB
  rw [h]
  match l with
  | [] => rfl
  | [a] =>
    by_cases ha : a = 48 <;> simp [ha]
  | a :: b :: l =>
    by_cases ha : a = 48 <;> simp [ha, bne]

theorem form_pos {l : List Nat} (h : minusB l = false) : formB l = isDecB l := by simp [formB, bodyL, h]
theorem form_neg {l : List Nat} (h : minusB l = true) : formB l = (isDecB (l.drop 1) && !(l == [45, 48])) := by
  unfold formB bodyL
  rw [h]
  simp only [Bool.true_and, if_true]
  congr 2
  match l with
  | [] => cases h
  | a :: l => 
    have ha : a = 45 := by simpa [minusB] using h
    subst ha
    rw [Bool.eq_iff_iff]; simp

theorem rform_any (s : ByteArray) (w : World) (hn : s.size ≤ maxLen) :
    Calls Tryd.prog 25 #[.string s] w fun e w' => e = .returned (.bool (formB (bs s))) ∧ w = w' := by
  unfold maxLen at hn
  by_cases hm : minusB (bs s) = true
  · have HM := Lib.hid hm
    have hz : 0 < s.size := by
      rcases Nat.eq_zero_or_pos s.size with h | h
      · exfalso
        have e : bs s = [] := List.eq_nil_of_length_eq_zero (by rw [bs_len]; exact h)
        rw [e] at hm; cases hm
      · exact h
    have h45 : (s[0].toNat : Int) = 45 := by
      have := bs_at s 0 hz
      unfold minusB List.getD at hm
      rw [this] at hm
      have : s[0].toNat = 45 := by simpa using hm
      omega
    have HF0 := Lib.hid (form_neg hm)
    have HS0 := Lib.hid (show (s.toList == [45, 48]) = (bs s == [45, 48]) by rw [Bool.eq_iff_iff]; simp only [beq_iff_eq]; exact toList_iff s [45, 48])
    clear hm
    go_enter Tryd.func25, Tryd.ntmps25
    go_wp2
    obtain ⟨t, ht⟩ : ∃ t, t = s.extract 1 s.size := ⟨_, rfl⟩
    have hts : t.size ≤ 2 ^ 63 - 1 := by rw [ht]; simp; omega
    rw [← ht]
    have HF : Hid (formB (bs s) = (isDecB (bs t) && !(s.toList == [45, 48]))) := by
      show formB (bs s) = (isDecB (bs t) && !(s.toList == [45, 48]))
      rw [HF0.out, HS0.out, ht, bs_tail]
    have HTT := Lib.hid ht; clear ht
    go_loop [4] (fun i => ∃ k : Nat, k ≤ t.size ∧ i = .int .i64 k ∧ ((bs t).take k).all digB = true) (fun i => t.size - (intOf i).toNat)
    case atStart => exact ⟨0, Nat.zero_le _, rfl, rfl⟩
    case round =>
      obtain ⟨k, hk, rfl, ht⟩ := hrel
      have HT := Lib.hid ht; clear ht
      by_cases hlt : k < t.size
      · have HA := Lib.hid (bs_at t k hlt)
        by_cases h1 : (t[k].toNat : Int) < 48
        · go_wp2
          go_ret
          exact ⟨ret_bool (by rw [HF.out, isDecB, not_all HA.out (by simp [digB]; omega)]; rfl), rfl⟩
        · by_cases h2 : 57 < (t[k].toNat : Int)
          · go_wp2
            go_ret
            exact ⟨ret_bool (by rw [HF.out, isDecB, not_all HA.out (by simp [digB]; omega)]; rfl), rfl⟩
          · go_wp2
            go_round
            case rel => exact ⟨k + 1, by omega, by go_num, by rw [all_take_succ HA.out, HT.out]; simp [digB]; omega⟩
            case measure => simp [intOf]; omega
      · obtain rfl : t.size = k := by omega
        have HA := Lib.hid (show (bs t).all digB = true by rw [← HT.out, ← bs_len t, List.take_length])
        have HD := Lib.hid (isDecB_of HA.out)
        by_cases h0 : t.size = 0
        · have HL := Lib.hid (show (bs t).length = 0 by rw [bs_len]; exact h0)
          go_wp2
          go_ret
          exact ⟨ret_bool (by rw [HF.out, HD.out, HL.out]; rfl), rfl⟩
        · have hp : 0 < t.size := by omega
          have HC := Lib.hid (bs_at t 0 hp)
          have HL := Lib.hid (bs_len t)
          have h0' : ((t.size : Int) == 0) = false := by rw [← Bool.not_eq_true, beq_iff_eq]; omega
          by_cases h4 : (t[0].toNat : Int) = 48
          · by_cases h5 : 1 < t.size
            · go_wp2
              go_ret
              refine ⟨ret_bool ?_, rfl⟩
              have e4 := HC.out
              have e5 := HL.out
              rw [HF.out, HD.out]
              have e6 : t[0].toNat = 48 := by omega
              simp [e4, e5, e6, h5]
            · go_wp2
              go_ret
              refine ⟨ret_bool ?_, rfl⟩
              have e4 := HC.out
              have e5 := HL.out
              rw [HF.out, HD.out]
              have e6 : t[0].toNat = 48 := by omega
              have e7 : t.size ≠ 0 := by omega
              simp [e4, e5, e6, h5, e7]
          · have h4' : ((t[0].toNat : Int) == 48) = false := by simpa using h4
            go_wp2
            go_ret
            refine ⟨ret_bool ?_, rfl⟩
            have e4 := HC.out
            have e5 := HL.out
            rw [HF.out, HD.out]
            have e6 : ¬ t[0].toNat = 48 := by omega
            have e7 : t.size ≠ 0 := by omega
            simp [e4, e5, e6, e7]
  · have HM := Lib.hid hm
    have HF0 := Lib.hid (form_pos (by simpa using hm))
    have HF : Hid (formB (bs s) = (isDecB (bs s) && !(s.toList == [45, 48]))) := by
      show formB (bs s) = (isDecB (bs s) && !(s.toList == [45, 48]))
      rw [HF0.out]
      have : (s.toList == [45, 48]) = false := by
        rw [← Bool.not_eq_true, beq_iff_eq, toList_iff]
        intro h
        rw [h] at hm
        exact hm rfl
      rw [this]; simp
    by_cases hz : 0 < s.size
    · have h45 : ((s[0].toNat : Int) == 45) = false := by
        rw [← Bool.not_eq_true, beq_iff_eq]
        intro h
        apply hm
        have h1 := bs_at s 0 hz
        unfold minusB List.getD
        rw [h1]
        simp; omega
      clear hm
      go_enter Tryd.func25, Tryd.ntmps25
      go_wp2
      go_loop [4] (fun i => ∃ k : Nat, k ≤ s.size ∧ i = .int .i64 k ∧ ((bs s).take k).all digB = true) (fun i => s.size - (intOf i).toNat)
      case atStart => exact ⟨0, Nat.zero_le _, rfl, rfl⟩
      case round =>
        obtain ⟨k, hk, rfl, ht⟩ := hrel
        have HT := Lib.hid ht; clear ht
        by_cases hlt : k < s.size
        · have HA := Lib.hid (bs_at s k hlt)
          by_cases h1 : (s[k].toNat : Int) < 48
          · go_wp2
            go_ret
            exact ⟨ret_bool (by rw [HF.out, isDecB, not_all HA.out (by simp [digB]; omega)]; rfl), rfl⟩
          · by_cases h2 : 57 < (s[k].toNat : Int)
            · go_wp2
              go_ret
              exact ⟨ret_bool (by rw [HF.out, isDecB, not_all HA.out (by simp [digB]; omega)]; rfl), rfl⟩
            · go_wp2
              go_round
              case rel => exact ⟨k + 1, by omega, by go_num, by rw [all_take_succ HA.out, HT.out]; simp [digB]; omega⟩
              case measure => simp [intOf]; omega
        · obtain rfl : s.size = k := by omega
          have HA := Lib.hid (show (bs s).all digB = true by rw [← HT.out, ← bs_len s, List.take_length])
          have HD := Lib.hid (isDecB_of HA.out)
          by_cases h0 : s.size = 0
          · have HL := Lib.hid (show (bs s).length = 0 by rw [bs_len]; exact h0)
            go_wp2
            go_ret
            exact ⟨ret_bool (by rw [HF.out, HD.out, HL.out]; rfl), rfl⟩
          · have hp : 0 < s.size := by omega
            have HC := Lib.hid (bs_at s 0 hp)
            have HL := Lib.hid (bs_len s)
            have h0' : ((s.size : Int) == 0) = false := by rw [← Bool.not_eq_true, beq_iff_eq]; omega
            by_cases h4 : (s[0].toNat : Int) = 48
            · by_cases h5 : 1 < s.size
              · go_wp2
                go_ret
                refine ⟨ret_bool ?_, rfl⟩
                have e4 := HC.out
                have e5 := HL.out
                rw [HF.out, HD.out]
                have e6 : s[0].toNat = 48 := by omega
                simp [e4, e5, e6, h5]
              · go_wp2
                go_ret
                refine ⟨ret_bool ?_, rfl⟩
                have e4 := HC.out
                have e5 := HL.out
                rw [HF.out, HD.out]
                have e6 : s[0].toNat = 48 := by omega
                have e7 : s.size ≠ 0 := by omega
                simp [e4, e5, e6, h5, e7]
            · have h4' : ((s[0].toNat : Int) == 48) = false := by simpa using h4
              go_wp2
              go_ret
              refine ⟨ret_bool ?_, rfl⟩
              have e4 := HC.out
              have e5 := HL.out
              rw [HF.out, HD.out]
              have e6 : ¬ s[0].toNat = 48 := by omega
              have e7 : s.size ≠ 0 := by omega
              simp [e4, e5, e6, e7]
    · clear hm
      have h0 : s.size = 0 := by omega
      have HB := Lib.hid (show bs s = [] from List.eq_nil_of_length_eq_zero (by rw [bs_len]; exact h0))
      have h0' : ((s.size : Int) == 0) = true := by rw [beq_iff_eq]; omega
      clear h0
      go_enter Tryd.func25, Tryd.ntmps25
      go_wp2
      refine wp_loop_rounds 1 ?_
      rw [rounds_succ]
      go_wp2
      go_ret
      exact ⟨ret_bool (by rw [HF.out, HB.out]; rfl), rfl⟩

end Go.Proofs.YtckkbeknjipddaaDoor
