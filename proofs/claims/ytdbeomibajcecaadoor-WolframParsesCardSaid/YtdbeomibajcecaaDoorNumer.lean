/- The walks of the reference's Numeral and Value, on any text. -/
import Derived.Test.YtdbeomibajcecaaDoorNum
namespace Go.Proofs.YtdbeomibajcecaaDoor
open Go.RowKit

/-- byte k of a text -/
def by_ (l : List UInt8) (k : Nat) : Nat := (l.getD k 0).toNat
theorem by_at (l : List UInt8) (k : Nat) (h : k < (tx l).size) : ((tx l)[k]'h).toNat = by_ l k := by
  have hk : k < l.length := by rw [← tx_size]; exact h
  unfold by_
  rw [List.getD_eq_getElem?_getD, List.getElem?_eq_getElem hk]
  rfl
theorem by_lt (l : List UInt8) (k : Nat) : by_ l k < 256 := (l.getD k 0).toNat_lt
theorem take_dgt (l : List UInt8) (k : Nat) (hk : k < l.length) : (l.take (k + 1)).all dgt = ((l.take k).all dgt && (decide (48 ≤ by_ l k) && decide (by_ l k ≤ 57))) := by
  rw [List.take_succ_eq_append_getElem hk, List.all_append, List.all_cons, List.all_nil, Bool.and_true]
  unfold by_ dgt
  rw [List.getD_eq_getElem?_getD, List.getElem?_eq_getElem hk]
  rfl
theorem take_va (l : List UInt8) (k : Nat) (hk : k < l.length) : va 0 (l.take (k + 1)) = 10 * va 0 (l.take k) + (by_ l k - 48) := by
  rw [List.take_succ_eq_append_getElem hk, va_snoc]
  unfold by_
  rw [List.getD_eq_getElem?_getD, List.getElem?_eq_getElem hk]
  rfl
theorem all_by {l : List UInt8} (h : l.all dgt = true) {k : Nat} (hk : k < l.length) : 48 ≤ by_ l k ∧ by_ l k ≤ 57 := by
  have h2 := List.all_eq_true.1 h l[k] (List.getElem_mem hk)
  rw [dgt_iff] at h2
  unfold by_
  rw [List.getD_eq_getElem?_getD, List.getElem?_eq_getElem hk]
  exact h2
/-- the first byte that is no digit -/
theorem first_bad {l : List UInt8} (h : l.all dgt = false) : ∃ k, k < l.length ∧ (l.take k).all dgt = true ∧ ¬ (48 ≤ by_ l k ∧ by_ l k ≤ 57) := by
  induction l with
  | nil => cases h
  | cons c l ih =>
    cases hc : dgt c with
    | false => exact ⟨0, by simp, rfl, fun h2 => by
        have : dgt c = true := dgt_iff.2 h2
        rw [hc] at this; cases this⟩
    | true =>
      rw [List.all_cons, hc, Bool.true_and] at h
      obtain ⟨k, h1, h2, h3⟩ := ih h
      exact ⟨k + 1, by simp; omega, by rw [List.take_succ_cons, List.all_cons, hc, h2]; rfl, h3⟩

section
variable (s : ByteArray) (f : Nat → Nat) (k : Nat) (w : World)
set_option maxRecDepth 100000 in
/-- Numeral where the guard lets by, with the first bad place k, or the length -/
theorem numeral_loop (B : ∀ j (h : j < s.size), (s[j]'h).toNat = f j) (hl : s.size ≤ 1000) (h0 : 0 < s.size) (hg : s.size = 1 ∨ (1 < s.size ∧ f 0 ≠ 48)) (hk : k ≤ s.size) (h1 : ∀ j, j < k → 48 ≤ f j ∧ f j ≤ 57) (h2 : k < s.size → ¬ (48 ≤ f k ∧ f k ≤ 57)) :
    Calls Tryd.prog 14 #[.string s] w fun e w' => e = .returned (.bool (decide (k = s.size))) ∧ w = w' := by
  have BH := Lib.hid B
  clear B
  have H1 := Lib.hid h1
  have H2 := Lib.hid h2
  clear h1 h2
  obtain ⟨b, hb⟩ : ∃ b, b = decide (k = s.size) := ⟨_, rfl⟩
  have BB := Lib.hid hb
  rw [← hb]
  clear hb
  rcases hg with hg | ⟨hg, hf⟩
  · have g1 : ¬ ((s.size : Int) > 1) := by omega
    have g2 : ((s.size : Int) == 0) = false := by rw [beq_eq_false_iff_ne]; omega
    go_enter Tryd.func14, Tryd.ntmps14
    go_wp2
    go_loop [3] (fun jv => ∃ j : Nat, j ≤ k ∧ jv = .int .i64 (j : Int)) (fun jv => s.size - (intOf jv).toNat)
    case atStart => exact ⟨0, Nat.zero_le _, rfl⟩
    case round =>
      obtain ⟨j, hj, rfl⟩ := hrel
      by_cases hjk : j < k
      · have hd := H1.out j hjk
        have hb := BH.out j
        have hjs : j < s.size := by omega
        generalize f j = x at hd hb
        obtain ⟨d1, d2⟩ := hd
        go_wp2
        go_round
        case rel => exact ⟨j + 1, by omega, by go_num⟩
        case measure => simp [intOf]; omega
      · obtain rfl : j = k := by omega
        by_cases hjs : j < s.size
        · have hd := H2.out hjs
          have hb := BH.out j
          have hbb : b = false := by rw [BB.out]; exact decide_eq_false (by omega)
          subst hbb
          generalize f j = x at hd hb
          by_cases d1 : 48 ≤ x
          · have d2 : ¬ x ≤ 57 := fun h => hd ⟨d1, h⟩
            clear hd
            go_wp2
            go_ret
            exact ⟨rfl, rfl⟩
          · clear hd
            go_wp2
            go_ret
            exact ⟨rfl, rfl⟩
        · obtain rfl : j = s.size := by omega
          have hbb : b = true := by rw [BB.out]; exact decide_eq_true rfl
          subst hbb
          go_wp2
          go_ret
          exact ⟨rfl, rfl⟩
  · have g1 : ((s.size : Int) > 1) := by omega
    have g2 : ((s.size : Int) == 0) = false := by rw [beq_eq_false_iff_ne]; omega
    have q0 := BH.out 0
    have q1 : (((f 0 : Nat) : Int) == 48) = false := by rw [beq_eq_false_iff_ne]; omega
    go_enter Tryd.func14, Tryd.ntmps14
    go_wp2
    go_loop [3] (fun jv => ∃ j : Nat, j ≤ k ∧ jv = .int .i64 (j : Int)) (fun jv => s.size - (intOf jv).toNat)
    case atStart => exact ⟨0, Nat.zero_le _, rfl⟩
    case round =>
      obtain ⟨j, hj, rfl⟩ := hrel
      by_cases hjk : j < k
      · have hd := H1.out j hjk
        have hb := BH.out j
        have hjs : j < s.size := by omega
        generalize f j = x at hd hb
        obtain ⟨d1, d2⟩ := hd
        go_wp2
        go_round
        case rel => exact ⟨j + 1, by omega, by go_num⟩
        case measure => simp [intOf]; omega
      · obtain rfl : j = k := by omega
        by_cases hjs : j < s.size
        · have hd := H2.out hjs
          have hb := BH.out j
          have hbb : b = false := by rw [BB.out]; exact decide_eq_false (by omega)
          subst hbb
          generalize f j = x at hd hb
          by_cases d1 : 48 ≤ x
          · have d2 : ¬ x ≤ 57 := fun h => hd ⟨d1, h⟩
            clear hd
            go_wp2
            go_ret
            exact ⟨rfl, rfl⟩
          · clear hd
            go_wp2
            go_ret
            exact ⟨rfl, rfl⟩
        · obtain rfl : j = s.size := by omega
          have hbb : b = true := by rw [BB.out]; exact decide_eq_true rfl
          subst hbb
          go_wp2
          go_ret
          exact ⟨rfl, rfl⟩
set_option maxRecDepth 100000 in
theorem numeral_lead (B : ∀ j (h : j < s.size), (s[j]'h).toNat = f j) (hl : s.size ≤ 1000) (hg : 1 < s.size) (hf : f 0 = 48) :
    Calls Tryd.prog 14 #[.string s] w fun e w' => e = .returned (.bool false) ∧ w = w' := by
  have g1 : ((s.size : Int) > 1) := by omega
  have g2 : ((s.size : Int) == 0) = false := by rw [beq_eq_false_iff_ne]; omega
  have q0 := B 0
  have q1 : (((f 0 : Nat) : Int) == 48) = true := by rw [hf]; rfl
  clear B hf
  go_enter Tryd.func14, Tryd.ntmps14
  go_wp2
  go_ret
  exact ⟨rfl, rfl⟩
set_option maxRecDepth 100000 in
/-- Value at digits: V j is the value of the first j of them -/
theorem value_loop (V : Nat → Nat) (m : Nat) (B : ∀ j (h : j < s.size), (s[j]'h).toNat = f j) (hl : s.size ≤ 1000) (h1 : ∀ j, j < s.size → 48 ≤ f j ∧ f j ≤ 57) (hV0 : V 0 = 0) (hV : ∀ j, j < s.size → V (j + 1) = 10 * V j + (f j - 48)) (hm : ∀ j, j ≤ s.size → V j ≤ m) (hs : V s.size = m) :
    Calls Tryd.prog 15 #[.string s] w fun e w' => e = .returned (.tuple #[.int .i64 (if m ≤ big then (m : Int) else 0), .bool (decide (m ≤ big))]) ∧ w = w' := by
  obtain ⟨r, hr⟩ : ∃ r : Int, r = if m ≤ big then (m : Int) else 0 := ⟨_, rfl⟩
  obtain ⟨b, hb⟩ : ∃ b, b = decide (m ≤ big) := ⟨_, rfl⟩
  rw [← hr, ← hb]
  have BH := Lib.hid B
  have H1 := Lib.hid h1
  have HV := Lib.hid hV
  have HM := Lib.hid hm
  have HS := Lib.hid hs
  have HV0 := Lib.hid hV0
  have HR := Lib.hid hr
  have HB := Lib.hid hb
  clear B h1 hV hm hs hr hb hV0
  go_enter Tryd.func15, Tryd.ntmps15
  go_wp2
  go_loop [4, 5] (fun nv jv => ∃ j : Nat, j ≤ s.size ∧ V j ≤ big ∧ nv = .int .i64 (V j : Int) ∧ jv = .int .i64 (j : Int)) (fun nv jv => s.size - (intOf jv).toNat)
  case atStart => exact ⟨0, Nat.zero_le _, by rw [HV0.out]; exact Nat.zero_le _, by rw [HV0.out]; rfl, rfl⟩
  case round =>
    obtain ⟨j, hj, hvj, rfl, rfl⟩ := hrel
    by_cases hjs : j < s.size
    · obtain ⟨d1, d2⟩ := H1.out j hjs
      have hb := BH.out j
      have hv := HV.out j hjs
      obtain ⟨d, hd⟩ : ∃ d, d = f j - 48 := ⟨_, rfl⟩
      have hfj : f j = d + 48 := by omega
      rw [hfj] at hb hv
      have hv : V (j + 1) = 10 * V j + d := by omega
      have hd9 : d ≤ 9 := by omega
      clear d1 d2 hd hfj
      have HVV := Lib.hid hv
      clear hv
      unfold big at hvj
      by_cases ho : 10 * V j + d ≤ big
      · unfold big at ho
        have e1 : ¬ ((V j : Int) > (9223372036854775807 - (d : Int)) / 10) := by omega
        go_wp2
        go_round
        case rel => exact ⟨j + 1, by omega, by rw [HVV.out]; exact ho, by rw [HVV.out]; go_num, by go_num⟩
        case measure => simp [intOf]; omega
      · unfold big at ho
        have e1 : ((V j : Int) > (9223372036854775807 - (d : Int)) / 10) := by omega
        have hm1 := HM.out (j + 1) (by omega)
        have hnm : ¬ m ≤ big := by unfold big; have := HVV.out; omega
        have hr : r = 0 := by rw [HR.out, if_neg hnm]
        have hb2 : b = false := by rw [HB.out]; exact decide_eq_false hnm
        subst hr hb2
        clear hm1 hnm
        go_wp2
        go_ret2
        exact ⟨rfl, rfl⟩
    · obtain rfl : j = s.size := by omega
      have hnm : m ≤ big := by rw [← HS.out]; exact hvj
      have hr : r = (V s.size : Int) := by rw [HR.out, if_pos hnm, HS.out]
      have hb2 : b = true := by rw [HB.out]; exact decide_eq_true hnm
      subst hr hb2
      clear hnm
      go_wp2
      go_ret2
      exact ⟨rfl, rfl⟩
end
set_option maxRecDepth 100000 in
theorem numeral_empty (w : World) : Calls Tryd.prog 14 #[.string (tx [])] w fun e w' => e = .returned (.bool false) ∧ w = w' := by
  unfold tx
  go_enter Tryd.func14, Tryd.ntmps14
  go_wp2
  go_ret
  exact ⟨rfl, rfl⟩
/-- Numeral at any text -/
theorem numeral_any (l : List UInt8) (w : World) (hl : l.length ≤ 1000) :
    Calls Tryd.prog 14 #[.string (tx l)] w fun e w' => e = .returned (.bool (numl l)) ∧ w = w' := by
  have hz := tx_size l
  match l, hl, hz with
  | [], _, _ => exact numeral_empty w
  | c :: r, hl, hz =>
    by_cases hg : (c :: r).length = 1 ∨ c.toNat ≠ 48
    · have hN : numl (c :: r) = (c :: r).all dgt := by
        unfold numl
        have h1 : (decide ((c :: r).length = 1) || decide ((c :: r).head?.map (·.toNat) ≠ some 48)) = true := by
          rcases hg with hg | hg
          · rw [decide_eq_true hg]; rfl
          · rw [Bool.or_eq_true]; exact .inr (decide_eq_true (by simpa using hg))
        rw [h1, decide_eq_true (show 0 < (c :: r).length by simp)]
        rfl
      rw [hN]
      have hg' : (tx (c :: r)).size = 1 ∨ (1 < (tx (c :: r)).size ∧ by_ (c :: r) 0 ≠ 48) := by
        rw [hz]
        by_cases h1 : (c :: r).length = 1
        · exact .inl h1
        · exact .inr ⟨by simp at h1 ⊢; cases r with
            | nil => exact absurd rfl h1
            | cons _ _ => simp, hg.resolve_left h1⟩
      cases ha : (c :: r).all dgt with
      | true =>
        have h := numeral_loop (tx (c :: r)) (by_ (c :: r)) (c :: r).length w (fun j hj => by_at _ j hj) (by omega) (by rw [hz]; simp) hg' (by omega) (fun j hj => all_by ha hj) (fun h => by omega)
        rwa [decide_eq_true hz.symm] at h
      | false =>
        obtain ⟨k, h1, h2, h3⟩ := first_bad ha
        have h := numeral_loop (tx (c :: r)) (by_ (c :: r)) k w (fun j hj => by_at _ j hj) (by omega) (by rw [hz]; simp) hg' (by omega) (fun j hj => by
          have h4 := all_by h2 (k := j) (by rw [List.length_take]; omega)
          have h5 : by_ ((c :: r).take k) j = by_ (c :: r) j := by
            unfold by_
            rw [List.getD_eq_getElem?_getD, List.getD_eq_getElem?_getD, List.getElem?_take, if_pos hj]
          rwa [h5] at h4) (fun _ => h3)
        rwa [decide_eq_false (by omega)] at h
    · have h1 : ¬ (c :: r).length = 1 := fun h => hg (.inl h)
      have h2 : c.toNat = 48 := Classical.not_not.1 fun h => hg (.inr h)
      have hN : numl (c :: r) = false := by
        have h3 : (decide ((c :: r).length = 1) || decide ((c :: r).head?.map (·.toNat) ≠ some 48)) = false := by
          rw [decide_eq_false h1, Bool.false_or]
          exact decide_eq_false (fun h => h (show some c.toNat = some 48 by rw [h2]))
        unfold numl
        rw [h3, Bool.and_false, Bool.false_and]
      rw [hN]
      exact numeral_lead (tx (c :: r)) (by_ (c :: r)) w (fun j hj => by_at _ j hj) (by omega) (by rw [hz]; simp at h1 ⊢; cases r with
        | nil => exact absurd rfl h1
        | cons _ _ => simp) h2
/-- Value at digits -/
theorem value_any (l : List UInt8) (w : World) (hl : l.length ≤ 1000) (ha : l.all dgt = true) :
    Calls Tryd.prog 15 #[.string (tx l)] w fun e w' => e = .returned (.tuple #[.int .i64 (if va 0 l ≤ big then (va 0 l : Int) else 0), .bool (decide (va 0 l ≤ big))]) ∧ w = w' := by
  have hz := tx_size l
  exact value_loop (tx l) (by_ l) w (fun j => va 0 (l.take j)) (va 0 l) (fun j hj => by_at _ j hj) (by omega) (fun j hj => all_by ha (by omega)) rfl (fun j hj => take_va l j (by omega)) (fun j _ => va_take l 0 j) (by rw [hz, List.take_length])
end Go.Proofs.YtdbeomibajcecaaDoor
