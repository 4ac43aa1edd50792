/- The walk of permits on valid neighbourhoods. -/
import Derived.Test.YtbcihgimflljoaaGreatDoorSyms
import Derived.Test.YtbcihgimflljoaaGreatDoorStat
namespace Go.Proofs.YtbcihgimflljoaaGreatDoor
open Go.RowKit

theorem ints_il (l : List Nat) : ints l = il (l.map fun (d : Nat) => (d : Int)) := by simp [ints, il, List.map_map]
theorem mem_cast (j : Nat) (l : List Nat) : decide ((j : Int) ∈ l.map fun (d : Nat) => (d : Int)) = decide (j ∈ l) := by
  rw [decide_eq_decide]
  simp only [List.mem_map]
  exact ⟨fun ⟨a, h1, h2⟩ => by rw [show j = a by omega]; exact h1, fun h => ⟨j, h, rfl⟩⟩
/-- the first m symmetries map the neighbourhood to itself -/
def own (f : Nat → P2) (n m : Nat) : Bool := (List.range m).all fun i => decide (i ∈ sy f n 8)
theorem own_iff (f : Nat → P2) (n m : Nat) : own f n m = true ↔ ∀ i, i < m → i ∈ sy f n 8 := by
  simp [own, List.all_eq_true]
/-- whether a neighbourhood may have a kind of symmetry -/
def pmt (f : Nat → P2) (n : Nat) (k : Int) : Bool := if k = 0 then true else if k = 3 then decide (n ≤ 9) else if k = 1 ∨ k = 2 then own f n (ns k) else false

set_option maxRecDepth 100000 in
set_option maxHeartbeats 2000000 in
theorem permits_sym (k : Int) (m : Nat) (A : Option Addr) (n c : Nat) (f : Nat → P2) (w : World) (hM : Mat w) (h : QReads w w.heap.size A n f) (hd : Hd f n) (hk : k = 1 ∧ m = 4 ∨ k = 2 ∧ m = 8) :
    Calls Tryz.prog 12 #[.slice A n c, .int .i64 k] w fun e w' => e = .returned (.bool (own f n m)) ∧ Below w.heap.size w w' := by
  have SY := Lib.hid (syms_any A n c f w hM h hd)
  have hns : (ns k : Int) = (m : Int) := by rcases hk with ⟨rfl, rfl⟩ | ⟨rfl, rfl⟩ <;> decide
  have SN := fun w => symmetries_any k w
  rw [hns] at SN
  have SN := Lib.hid SN
  have OI := Lib.hid (own_iff f n m)
  have hm : m ≤ 8 := by omega
  have HLL := Lib.hid (show (sy f n 8).length ≤ 1000000 by have := sy_len f n 8; omega)
  generalize own f n m = q at OI ⊢
  generalize sy f n 8 = l at SY OI HLL
  have k0 : (k == 0) = false := by rw [beq_eq_false_iff_ne]; omega
  have k3 : (k == 3) = false := by rw [beq_eq_false_iff_ne]; omega
  clear h hM hd hns
  rcases hk with ⟨rfl, rfl⟩ | ⟨rfl, rfl⟩
  · go_enter Tryz.func12, Tryz.ntmps12
    go_wp2_with (first
      | (go_at_call 30; (with_reducible refine SY.out.mono ?_); rintro e w1 ⟨A', c', rfl, h1, hb⟩; have B1 := Lib.hid hb; have R1 := Lib.hid h1; clear h1 hb)
      | (go_at_call 31; (with_reducible refine (SN.out _).mono ?_); rintro e w2 ⟨rfl, rfl⟩))
    go_loop [22] (fun iv => ∃ j : Nat, j ≤ 4 ∧ iv = .int .i64 (j : Int) ∧ ∀ i, i < j → i ∈ l) (fun iv => 4 - (intOf iv).toNat)
    case atStart => exact ⟨0, Nat.zero_le _, rfl, fun i hi => absurd hi (by omega)⟩
    case round =>
      obtain ⟨j, hj, rfl, hno⟩ := hrel
      have HN := Lib.hid hno
      clear hno
      by_cases hlt : j < 4
      · have CO := contains_any A' l.length c' _ _ (j : Int) w1 (by have h := R1.out; rw [ints_il] at h; exact h) HLL.out
        rw [mem_cast] at CO
        by_cases hq : j ∈ l
        · have HQ := Lib.hid hq
          rw [decide_eq_true hq] at CO
          have CO := Lib.hid CO
          clear hq
          go_wp2_with (go_at_call 32; (with_reducible refine CO.out.mono ?_); rintro e w2 ⟨rfl, rfl⟩)
          go_round
          case rel => exact ⟨j + 1, by omega, by go_num, fun i hi => by
            by_cases e : i < j
            · exact HN.out i e
            · obtain rfl : i = j := by omega
              exact HQ.out⟩
          case measure => simp [intOf]; omega
        · have HF := Lib.hid (show q = false by rw [← Bool.not_eq_true, OI.out]; exact fun h => hq (h j hlt))
          rw [decide_eq_false hq] at CO
          have CO := Lib.hid CO
          clear hq
          go_wp2_with (go_at_call 32; (with_reducible refine CO.out.mono ?_); rintro e w2 ⟨rfl, rfl⟩)
          go_ret
          exact ⟨ret_bool HF.out.symm, B1.out⟩
      · obtain rfl : j = 4 := by omega
        have HF := Lib.hid (show q = true by rw [OI.out]; exact HN.out)
        go_wp2
        go_ret
        exact ⟨ret_bool HF.out.symm, B1.out⟩
  · go_enter Tryz.func12, Tryz.ntmps12
    go_wp2_with (first
      | (go_at_call 30; (with_reducible refine SY.out.mono ?_); rintro e w1 ⟨A', c', rfl, h1, hb⟩; have B1 := Lib.hid hb; have R1 := Lib.hid h1; clear h1 hb)
      | (go_at_call 31; (with_reducible refine (SN.out _).mono ?_); rintro e w2 ⟨rfl, rfl⟩))
    go_loop [22] (fun iv => ∃ j : Nat, j ≤ 8 ∧ iv = .int .i64 (j : Int) ∧ ∀ i, i < j → i ∈ l) (fun iv => 8 - (intOf iv).toNat)
    case atStart => exact ⟨0, Nat.zero_le _, rfl, fun i hi => absurd hi (by omega)⟩
    case round =>
      obtain ⟨j, hj, rfl, hno⟩ := hrel
      have HN := Lib.hid hno
      clear hno
      by_cases hlt : j < 8
      · have CO := contains_any A' l.length c' _ _ (j : Int) w1 (by have h := R1.out; rw [ints_il] at h; exact h) HLL.out
        rw [mem_cast] at CO
        by_cases hq : j ∈ l
        · have HQ := Lib.hid hq
          rw [decide_eq_true hq] at CO
          have CO := Lib.hid CO
          clear hq
          go_wp2_with (go_at_call 32; (with_reducible refine CO.out.mono ?_); rintro e w2 ⟨rfl, rfl⟩)
          go_round
          case rel => exact ⟨j + 1, by omega, by go_num, fun i hi => by
            by_cases e : i < j
            · exact HN.out i e
            · obtain rfl : i = j := by omega
              exact HQ.out⟩
          case measure => simp [intOf]; omega
        · have HF := Lib.hid (show q = false by rw [← Bool.not_eq_true, OI.out]; exact fun h => hq (h j hlt))
          rw [decide_eq_false hq] at CO
          have CO := Lib.hid CO
          clear hq
          go_wp2_with (go_at_call 32; (with_reducible refine CO.out.mono ?_); rintro e w2 ⟨rfl, rfl⟩)
          go_ret
          exact ⟨ret_bool HF.out.symm, B1.out⟩
      · obtain rfl : j = 8 := by omega
        have HF := Lib.hid (show q = true by rw [OI.out]; exact HN.out)
        go_wp2
        go_ret
        exact ⟨ret_bool HF.out.symm, B1.out⟩
theorem permits_any (k : Int) (A : Option Addr) (n c : Nat) (f : Nat → P2) (w : World) (hM : Mat w) (h : QReads w w.heap.size A n f) (hd : Hd f n) :
    Calls Tryz.prog 12 #[.slice A n c, .int .i64 k] w fun e w' => e = .returned (.bool (pmt f n k)) ∧ Below w.heap.size w w' := by
  have hn : n ≤ 25 := hd.1.2
  by_cases h0 : k = 0
  · subst h0
    rw [show pmt f n 0 = true by rfl]
    clear h hM hd
    go_enter Tryz.func12, Tryz.ntmps12
    go_wp2
    go_ret
    exact ⟨rfl, Below.refl _ _⟩
  · by_cases h3 : k = 3
    · subst h3
      rw [show pmt f n 3 = decide (n ≤ 9) by rfl]
      clear h hM hd h0
      by_cases h9 : n ≤ 9
      · have d : decide ((n : Int) ≤ 9) = true := by rw [decide_eq_true_iff]; omega
        rw [decide_eq_true h9]
        go_enter Tryz.func12, Tryz.ntmps12
        go_wp2
        go_ret
        exact ⟨ret_bool (by first | (simp; done) | (simp; omega)), Below.refl _ _⟩
      · rw [decide_eq_false h9]
        go_enter Tryz.func12, Tryz.ntmps12
        go_wp2
        go_ret
        exact ⟨ret_bool (by first | (simp; done) | (simp; omega)), Below.refl _ _⟩
    · by_cases h12 : k = 1 ∨ k = 2
      · rw [pmt, if_neg h0, if_neg h3, if_pos h12]
        rcases h12 with rfl | rfl
        · exact permits_sym 1 4 A n c f w hM h hd (by omega)
        · exact permits_sym 2 8 A n c f w hM h hd (by omega)
      · rw [pmt, if_neg h0, if_neg h3, if_neg h12]
        have k0 : (k == 0) = false := by rw [beq_eq_false_iff_ne]; omega
        have k1 : (k == 1) = false := by rw [beq_eq_false_iff_ne]; omega
        have k2 : (k == 2) = false := by rw [beq_eq_false_iff_ne]; omega
        have k3 : (k == 3) = false := by rw [beq_eq_false_iff_ne]; omega
        clear h hM hd h0 h3 h12
        go_enter Tryz.func12, Tryz.ntmps12
        go_wp2
        go_ret
        exact ⟨rfl, Below.refl _ _⟩
end Go.Proofs.YtbcihgimflljoaaGreatDoor
