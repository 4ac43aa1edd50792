/- The walks of the functions that look into a string. -/
import Derived.Test.YtckkbeknjipddaaDoorSmall
import Derived.Lib.Strings
namespace Go.Proofs.YtckkbeknjipddaaDoor
open Go.RowKit

/-- the bytes of a string as numbers -/
def bs (s : ByteArray) : List Nat := s.data.toList.map UInt8.toNat
theorem bs_len (s : ByteArray) : (bs s).length = s.size := by simp [bs]
theorem bs_at (s : ByteArray) (k : Nat) (h : k < s.size) : (bs s)[k]? = some s[k].toNat := by
  simp [bs, Array.getElem?_eq_getElem, h]
  rfl
theorem bs_lt (s : ByteArray) : ∀ d ∈ bs s, d < 256 := by
  intro d hd
  simp only [bs, List.mem_map] at hd
  obtain ⟨c, _, rfl⟩ := hd
  exact c.toNat_lt
theorem map_inj {l l' : List UInt8} (h : l.map UInt8.toNat = l'.map UInt8.toNat) : l = l' := by
  induction l generalizing l' with
  | nil => cases l' with
    | nil => rfl
    | cons _ _ => cases h
  | cons a l ih => cases l' with
    | nil => cases h
    | cons b l' =>
      simp only [List.map_cons, List.cons.injEq] at h
      rw [ih h.2, UInt8.toNat_inj.1 h.1]
theorem bs_inj {s t : ByteArray} (h : bs s = bs t) : s = t := by
  have := map_inj h
  cases s; cases t
  simp only [ByteArray.mk.injEq]
  exact Array.toList_inj.1 this
theorem toList_iff (s : ByteArray) (l : List UInt8) : s.toList = l ↔ bs s = l.map UInt8.toNat := by
  rw [Lib.toList_data]
  exact ⟨fun h => by rw [bs, h], fun h => map_inj h⟩

def digB (c : Nat) : Bool := decide (48 ≤ c) && decide (c ≤ 57)
def isDecB (l : List Nat) : Bool := l.all digB && (l == [48] || (l != [] && l.getD 0 0 != 48))

theorem all_take_succ {l : List Nat} {p : Nat → Bool} {k d : Nat} (h : l[k]? = some d) : (l.take (k + 1)).all p = ((l.take k).all p && p d) := by
  rw [List.take_add_one, h]
  simp
theorem not_all {l : List Nat} {p : Nat → Bool} {k d : Nat} (h : l[k]? = some d) (hp : p d = false) : l.all p = false := by
  rw [List.all_eq_false]
  exact ⟨d, List.mem_of_getElem? h, by simp [hp]⟩

theorem isDecimal_any (s : ByteArray) (w : World) (hn : s.size ≤ maxLen) :
    Calls Tryd.prog 22 #[.string s] w fun e w' => e = .returned (.bool (isDecB (bs s))) ∧ w = w' := by
  unfold maxLen at hn
  go_enter Tryd.func22, Tryd.ntmps22
  go_wp2
  go_loop [6] (fun i => ∃ k : Nat, k ≤ s.size ∧ i = .int .i64 k ∧ ((bs s).take k).all digB = true) (fun i => s.size - (intOf i).toNat)
  case atStart => exact ⟨0, Nat.zero_le _, rfl, rfl⟩
  case round =>
    obtain ⟨k, hk, rfl, ht⟩ := hrel
    have HT := Lib.hid ht; clear ht
    by_cases hlt : k < s.size
    · have HA := Lib.hid (bs_at s k hlt)
      by_cases h1 : (s[k].toNat : Int) < 48
      · go_wp2
        go_ret
        exact ⟨ret_bool (by rw [isDecB, not_all HA.out (by simp [digB]; omega)]; rfl), rfl⟩
      · by_cases h2 : 57 < (s[k].toNat : Int)
        · go_wp2
          go_ret
          exact ⟨ret_bool (by rw [isDecB, not_all HA.out (by simp [digB]; omega)]; rfl), rfl⟩
        · go_wp2
          go_round
          case rel => exact ⟨k + 1, by omega, by go_num, by rw [all_take_succ HA.out, HT.out]; simp [digB]; omega⟩
          case measure => simp [intOf]; omega
    · obtain rfl : s.size = k := by omega
      have HA := Lib.hid (show (bs s).all digB = true by rw [← HT.out, ← bs_len s, List.take_length])
      by_cases h0 : s.size = 0
      · have he : s.toList = [] := by
          rw [toList_iff]
          exact List.eq_nil_of_length_eq_zero (by rw [bs_len]; exact h0)
        have HB := Lib.hid (show bs s = [] by exact (toList_iff s []).1 he)
        go_wp2
        go_ret
        exact ⟨ret_bool (by rw [HB.out]; rfl), rfl⟩
      · have hp : 0 < s.size := by omega
        have h3 : ¬ s.toList = [] := by
          intro he
          have := (toList_iff s []).1 he
          have := bs_len s
          simp_all
        have HC := Lib.hid (bs_at s 0 hp)
        by_cases h4 : s.toList = [48]
        · have HB := Lib.hid (show bs s = [48] by exact (toList_iff s [48]).1 h4)
          go_wp2
          go_ret
          exact ⟨ret_bool (by rw [HB.out]; rfl), rfl⟩
        · have HB := Lib.hid (show ¬ bs s = [48] by intro h; exact h4 ((toList_iff s [48]).2 h))
          have HN := Lib.hid (show ¬ bs s = [] by intro h; exact h3 ((toList_iff s []).2 h))
          have h4' : (s.toList == [48]) = false := by simpa using h4
          have h3' : s.toList.isEmpty = false := by simpa using h3
          go_wp2
          go_ret
          refine ⟨ret_bool ?_, rfl⟩
          have e1 := HB.out
          have e2 := HN.out
          have e3 := HA.out
          have e4 := HC.out
          simp only [isDecB, e3, List.getD, e4, h4', h3']
          have e5 : (bs s == [48]) = false := by simpa using e1
          have e6 : (bs s != []) = true := by simpa using e2
          rw [e5, e6]
          simp
          rw [Bool.eq_iff_iff]; simp; omega

end Go.Proofs.YtckkbeknjipddaaDoor
