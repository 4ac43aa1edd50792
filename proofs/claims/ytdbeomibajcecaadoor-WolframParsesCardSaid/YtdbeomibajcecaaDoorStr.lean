/- The walks of the functions that look into a string: HasPrefix, CutPrefix, and Itoa of a digit. -/
import Derived.Test.YtdbeomibajcecaaDoorSmall
import Derived.Lib.Strings
namespace Go.Proofs.YtdbeomibajcecaaDoor
open Go.RowKit

theorem hasPrefix_any (s p : ByteArray) (w : World) (hn : s.size ≤ 1000) (hp : p.size ≤ 1000) :
    Calls Tryd.prog 37 #[.string s, .string p] w fun e w' => e = .returned (.bool (decide (p.size ≤ s.size) && ((s.extract 0 p.size).toList == p.toList))) ∧ w = w' := by
  by_cases h1 : p.size ≤ s.size
  · have h2 : (p.size : Int) ≤ (s.size : Int) := by omega
    go_enter Tryd.func37, Tryd.ntmps37
    go_wp2
    go_ret
    exact ⟨ret_bool (by simp [h1]), rfl⟩
  · go_enter Tryd.func37, Tryd.ntmps37
    go_wp2
    go_ret
    exact ⟨ret_bool (by simp [h1]), rfl⟩
/-- a text that begins so, and what follows -/
theorem lcut_yes (s p : ByteArray) (w : World) (hn : s.size ≤ 1000) (hp : p.size ≤ s.size) (h : ((s.extract 0 p.size).toList == p.toList) = true) :
    Calls Tryd.prog 28 #[.string s, .string p] w fun e w' => e = .returned (.tuple #[.string (s.extract p.size s.size), .bool true]) ∧ w = w' := by
  have H := hasPrefix_any s p w hn (by omega)
  rw [h, decide_eq_true hp] at H
  have H := Lib.hid H
  clear h
  go_enter Tryd.func28, Tryd.ntmps28
  go_wp2_with (go_at_call 37; (with_reducible refine H.out.mono ?_); rintro e w' ⟨rfl, rfl⟩)
  go_ret2
  exact ⟨rfl, rfl⟩
theorem lcut_no (s p : ByteArray) (w : World) (hn : s.size ≤ 1000) (hp : p.size ≤ 1000) (h : (decide (p.size ≤ s.size) && ((s.extract 0 p.size).toList == p.toList)) = false) :
    Calls Tryd.prog 28 #[.string s, .string p] w fun e w' => e = .returned (.tuple #[.string s, .bool false]) ∧ w = w' := by
  have H := hasPrefix_any s p w hn hp
  rw [h] at H
  have H := Lib.hid H
  clear h
  go_enter Tryd.func28, Tryd.ntmps28
  go_wp2_with (go_at_call 37; (with_reducible refine H.out.mono ?_); rintro e w' ⟨rfl, rfl⟩)
  go_ret2
  exact ⟨rfl, rfl⟩
/-- a text by its bytes -/
def tx (l : List UInt8) : ByteArray := ⟨l.toArray⟩
theorem tx_size (l : List UInt8) : (tx l).size = l.length := by
  rw [Lib.size_eq]; simp [tx]
theorem cut_any (l q : List UInt8) (w : World) (hn : l.length ≤ 1000) (hq : q.length ≤ 1000) :
    Calls Tryd.prog 22 #[.string (tx l), .string (tx q)] w fun e w' => e = .returned (.tuple #[.string (tx (Lib.trimPrefix l q)), .bool (Lib.hasPrefix l q)]) ∧ w = w' := by
  have H : Calls Tryd.prog 28 #[.string (tx l), .string (tx q)] w fun e w' => e = .returned (.tuple #[.string (tx (Lib.trimPrefix l q)), .bool (Lib.hasPrefix l q)]) ∧ w = w' := by
    have hr := Lib.hasPrefix_raw (tx l) (tx q)
    have e1 : (tx l).data.toList = l := by simp [tx]
    have e2 : (tx q).data.toList = q := by simp [tx]
    rw [e1, e2] at hr
    cases hb : Lib.hasPrefix l q with
    | true =>
      rw [hb] at hr
      simp only [Bool.and_eq_true, decide_eq_true_eq] at hr
      have h9 := Lib.trimPrefix_hit (tx l) (tx q) hr.1 hr.2
      rw [e1, e2] at h9
      have h9 : tx (Lib.trimPrefix l q) = (tx l).extract (tx q).size (tx l).size := h9
      rw [h9]
      exact lcut_yes (tx l) (tx q) w (by rw [tx_size]; exact hn) hr.1 hr.2
    | false =>
      rw [hb] at hr
      have h9 := Lib.trimPrefix_miss (tx l) (tx q) hr
      rw [e1, e2] at h9
      have h9 : tx (Lib.trimPrefix l q) = tx l := h9
      rw [h9]
      exact lcut_no (tx l) (tx q) w (by rw [tx_size]; exact hn) (by rw [tx_size]; exact hq) hr
  have H := Lib.hid H
  generalize tx (Lib.trimPrefix l q) = r at H ⊢
  generalize Lib.hasPrefix l q = b at H ⊢
  generalize tx l = s at H ⊢
  generalize tx q = p at H ⊢
  go_enter Tryd.func22, Tryd.ntmps22
  go_wp2_with (go_at_call 28; (with_reducible refine H.out.mono ?_); rintro e w' ⟨rfl, rfl⟩)
  go_ret2
  exact ⟨rfl, rfl⟩
/-- the text of a digit -/
def dg (n : Nat) : List UInt8 := [(48 + n).toUInt8]
theorem digit_at (n : Nat) (hn : n < 10) : (⟨#[48, 49, 50, 51, 52, 53, 54, 55, 56, 57, 97, 98, 99, 100, 101, 102, 103, 104, 105, 106, 107, 108, 109, 110, 111, 112, 113, 114, 115, 116, 117, 118, 119, 120, 121, 122]⟩ : ByteArray).extract n (n + 1) = tx (dg n) := by
  rw [Lib.extract_eq]
  match n, hn with
  | 0, _ | 1, _ | 2, _ | 3, _ | 4, _ | 5, _ | 6, _ | 7, _ | 8, _ | 9, _ => rfl
theorem small_any (n : Nat) (w : World) (hn : n < 10) :
    Calls Tryd.prog 48 #[.int .i64 (n : Int)] w fun e w' => e = .returned (.string (tx (dg n))) ∧ w = w' := by
  have hd := digit_at n hn
  match n, hn with
  | 0, _ | 1, _ | 2, _ | 3, _ | 4, _ | 5, _ | 6, _ | 7, _ | 8, _ | 9, _ =>
    rw [← hd]
    clear hd
    go_enter Tryd.func48, Tryd.ntmps48
    go_wp2
    go_ret
    exact ⟨rfl, rfl⟩
theorem format_any (n : Nat) (w : World) (hn : n < 10) :
    Calls Tryd.prog 38 #[.int .i64 (n : Int), .int .i64 10] w fun e w' => e = .returned (.string (tx (dg n))) ∧ w = w' := by
  have H := Lib.hid (small_any n w hn)
  generalize tx (dg n) = s at H ⊢
  go_enter Tryd.func38, Tryd.ntmps38
  go_wp2_with (go_at_call 48; (with_reducible refine H.out.mono ?_); rintro e w' ⟨rfl, rfl⟩)
  go_ret
  exact ⟨rfl, rfl⟩
theorem iitoa_any (n : Nat) (w : World) (hn : n < 10) :
    Calls Tryd.prog 29 #[.int .i64 (n : Int)] w fun e w' => e = .returned (.string (tx (dg n))) ∧ w = w' := by
  have H := Lib.hid (format_any n w hn)
  generalize tx (dg n) = s at H ⊢
  go_enter Tryd.func29, Tryd.ntmps29
  go_wp2_with (go_at_call 38; (with_reducible refine H.out.mono ?_); rintro e w' ⟨rfl, rfl⟩)
  go_ret
  exact ⟨rfl, rfl⟩
theorem itoa_any (n : Nat) (w : World) (hn : n < 10) :
    Calls Tryd.prog 23 #[.int .i64 (n : Int)] w fun e w' => e = .returned (.string (tx (dg n))) ∧ w = w' := by
  have H := Lib.hid (iitoa_any n w hn)
  generalize tx (dg n) = s at H ⊢
  go_enter Tryd.func23, Tryd.ntmps23
  go_wp2_with (go_at_call 29; (with_reducible refine H.out.mono ?_); rintro e w' ⟨rfl, rfl⟩)
  go_ret
  exact ⟨rfl, rfl⟩
end Go.Proofs.YtdbeomibajcecaaDoor
