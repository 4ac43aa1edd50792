/- The walk of wolfram's Parse, by what divide answers. -/
import Derived.Test.YtdbeomibajcecaaDoorDivi
import Derived.Test.YtdbeomibajcecaaDoorDigi
import Derived.Test.YtdbeomibajcecaaDoorElem
namespace Go.Proofs.YtdbeomibajcecaaDoor
open Go.RowKit

theorem nv_bd (l : List UInt8) : -1 ≤ nv l ∧ nv l ≤ 9223372036854775807 := by
  unfold nv big
  split <;> omega
theorem digits_any (t n : Int) (w : World) (hn : n ≤ 9223372036854775807) :
    Calls Tryd.prog 10 #[.int .i64 t, .int .i64 n] w fun e w' => ∃ A k c, e = .returned (.tuple #[.slice A k c, .int .i64 (der t n)]) ∧ Below w.heap.size w w' := by
  unfold der
  by_cases h : 2 ≤ t ∧ t ≤ 8
  · rw [if_neg (fun h2 => h2 h)]
    by_cases hn0 : n < 0
    · rw [if_pos hn0]
      exact (digits_neg t n w h hn0).mono fun e w' ⟨he, hw⟩ => ⟨none, 0, 0, he, hw ▸ Below.refl _ _⟩
    · rw [if_neg hn0]
      obtain ⟨tn, rfl⟩ := Int.eq_ofNat_of_zero_le (show 0 ≤ t by omega)
      obtain ⟨nn, rfl⟩ := Int.eq_ofNat_of_zero_le (show 0 ≤ n by omega)
      rw [Int.toNat_natCast, Int.toNat_natCast]
      exact (digits_pos tn nn _ w (by omega) (by omega) rfl (by omega)).mono fun e w' ⟨A, k, c, he, _, hb⟩ => ⟨A, k, c, he, hb⟩
  · rw [if_pos h]
    exact (digits_arg t n w h).mono fun e w' ⟨he, hw⟩ => ⟨none, 0, 0, he, hw ▸ Below.refl _ _⟩
theorem rdigits_any (t n : Int) (w : World) (hn : n ≤ 9223372036854775807) :
    Calls Tryd.prog 16 #[.int .i64 t, .int .i64 n] w fun e w' => ∃ A k c, e = .returned (.tuple #[.slice A k c, .int .i64 (der t n)]) ∧ Below w.heap.size w w' := by
  unfold der
  by_cases h : 2 ≤ t ∧ t ≤ 8
  · rw [if_neg (fun h2 => h2 h)]
    by_cases hn0 : n < 0
    · rw [if_pos hn0]
      exact (rdigits_neg t n w h hn0).mono fun e w' ⟨he, hw⟩ => ⟨none, 0, 0, he, hw ▸ Below.refl _ _⟩
    · rw [if_neg hn0]
      obtain ⟨tn, rfl⟩ := Int.eq_ofNat_of_zero_le (show 0 ≤ t by omega)
      obtain ⟨nn, rfl⟩ := Int.eq_ofNat_of_zero_le (show 0 ≤ n by omega)
      rw [Int.toNat_natCast, Int.toNat_natCast]
      exact (rdigits_pos tn nn _ w (by omega) (by omega) rfl (by omega)).mono fun e w' ⟨A, k, c, he, hb⟩ => ⟨A, k, c, he, hb⟩
  · rw [if_pos h]
    exact (rdigits_arg t n w h).mono fun e w' ⟨he, hw⟩ => ⟨none, 0, 0, he, hw ▸ Below.refl _ _⟩
theorem elem_any (n : Int) (w : World) :
    Calls Tryd.prog 7 #[.int .i64 n] w fun e w' => ∃ cs, e = .returned (.tuple #[.agg cs, .int .i64 (if 0 ≤ n ∧ n ≤ 255 then 0 else 5)]) ∧ Below w.heap.size w w' := by
  by_cases h : 0 ≤ n ∧ n ≤ 255
  · rw [if_pos h]
    obtain ⟨nn, rfl⟩ := Int.eq_ofNat_of_zero_le h.1
    exact (elem_in nn w (by omega)).mono fun e w' ⟨he, hb⟩ => ⟨_, he, hb⟩
  · rw [if_neg h]
    exact (elem_out n w h).mono fun e w' ⟨he, hb⟩ => ⟨_, he, hb⟩

theorem results_tmp4 {fn : Func} {t1 t2 t3 t4 : Tmp} (h : fn.results = #[.tmp t1, .tmp t2, .tmp t3, .tmp t4]) (tmps : Array Value) (P : Program) (w : World) :
    (results fn tmps).run P w = .ok (.tuple #[tmps.getD t1 undef, tmps.getD t2 undef, tmps.getD t3 undef, tmps.getD t4 undef]) w := by
  simp [results, h]
section
variable (s c b : ByteArray) (x y : Int) (u : TypeId) (v : Value) (w : World)
set_option maxRecDepth 100000 in
theorem parse_syn (sm p q : Bool) (hpq : (p && q) = false) (hv : Vr u v w)
    (D : Calls Tryd.prog 12 #[.string s] w fun e w' => e = .returned (.tuple #[.string c, .string b, .bool sm]) ∧ Below w.heap.size w w')
    (N1 : ∀ w, Vr u v w → Calls Tryd.prog 13 #[.string c] w fun e w' => e = .returned (.tuple #[.int .i64 x, .bool p]) ∧ Below w.heap.size w w')
    (N2 : ∀ w, Vr u v w → Calls Tryd.prog 13 #[.string b] w fun e w' => e = .returned (.tuple #[.int .i64 y, .bool q]) ∧ Below w.heap.size w w') :
    Calls Tryd.prog 5 #[.string s] w fun e w' => e = .returned (.tuple #[.int .i64 0, .int .i64 0, .bool false, .int .i64 15]) ∧ Below w.heap.size w w' := by
  have HD := Lib.hid D
  have H1 := Lib.hid N1
  have H2 := Lib.hid N2
  have HV := Lib.hid hv
  clear D N1 N2 hv
  cases p with
  | false =>
    go_enter Tryd.func5, Tryd.ntmps5
    go_wp2_with (first
      | (go_at_call 13; (with_reducible refine (H2.out _ V2.out).mono ?_); rintro e w3 ⟨rfl, hb⟩; have B3 := Lib.hid (B2.out.trans (hb.mono B2.out.size)); clear hb)
      | (go_at_call 13; (with_reducible refine (H1.out _ V1.out).mono ?_); rintro e w2 ⟨rfl, hb⟩; have B2 := Lib.hid (B1.out.trans (hb.mono B1.out.size)); have V2 := Lib.hid (V1.out.later hb); clear hb)
      | (go_at_call 12; (with_reducible refine HD.out.mono ?_); rintro e w1 ⟨rfl, hb⟩; have B1 := Lib.hid hb; have V1 := Lib.hid (HV.out.later hb); clear hb))
    (try simp only [Exit.inBlock, Exit.then])
    refine bodyPost_ret (results_tmp4 rfl _ _ _) rfl ?_
    exact ⟨rfl, B3.out⟩
  | true =>
    obtain rfl : q = false := by simpa using hpq
    go_enter Tryd.func5, Tryd.ntmps5
    go_wp2_with (first
      | (go_at_call 13; (with_reducible refine (H2.out _ V2.out).mono ?_); rintro e w3 ⟨rfl, hb⟩; have B3 := Lib.hid (B2.out.trans (hb.mono B2.out.size)); clear hb)
      | (go_at_call 13; (with_reducible refine (H1.out _ V1.out).mono ?_); rintro e w2 ⟨rfl, hb⟩; have B2 := Lib.hid (B1.out.trans (hb.mono B1.out.size)); have V2 := Lib.hid (V1.out.later hb); clear hb)
      | (go_at_call 12; (with_reducible refine HD.out.mono ?_); rintro e w1 ⟨rfl, hb⟩; have B1 := Lib.hid hb; have V1 := Lib.hid (HV.out.later hb); clear hb))
    (try simp only [Exit.inBlock, Exit.then])
    refine bodyPost_ret (results_tmp4 rfl _ _ _) rfl ?_
    exact ⟨rfl, B3.out⟩
set_option maxRecDepth 100000 in
theorem parse_total_ok (hx : x ≤ 9223372036854775807) (hd : der y x = 0) (hv : Vr u v w)
    (D : Calls Tryd.prog 12 #[.string s] w fun e w' => e = .returned (.tuple #[.string c, .string b, .bool true]) ∧ Below w.heap.size w w')
    (N1 : ∀ w, Vr u v w → Calls Tryd.prog 13 #[.string c] w fun e w' => e = .returned (.tuple #[.int .i64 x, .bool true]) ∧ Below w.heap.size w w')
    (N2 : ∀ w, Vr u v w → Calls Tryd.prog 13 #[.string b] w fun e w' => e = .returned (.tuple #[.int .i64 y, .bool true]) ∧ Below w.heap.size w w') :
    Calls Tryd.prog 5 #[.string s] w fun e w' => e = .returned (.tuple #[.int .i64 y, .int .i64 x, .bool true, .int .i64 0]) ∧ Below w.heap.size w w' := by
  have HD := Lib.hid D
  have H1 := Lib.hid N1
  have H2 := Lib.hid N2
  have HV := Lib.hid hv
  clear D N1 N2 hv
  · have DG := Lib.hid (fun w => digits_any y x w hx)
    rw [hd] at DG
    clear hd
    go_enter Tryd.func5, Tryd.ntmps5
    go_wp2_with (first
      | (go_at_call 13; (with_reducible refine (H2.out _ V2.out).mono ?_); rintro e w3 ⟨rfl, hb⟩; have B3 := Lib.hid (B2.out.trans (hb.mono B2.out.size)); clear hb)
      | (go_at_call 13; (with_reducible refine (H1.out _ V1.out).mono ?_); rintro e w2 ⟨rfl, hb⟩; have B2 := Lib.hid (B1.out.trans (hb.mono B1.out.size)); have V2 := Lib.hid (V1.out.later hb); clear hb)
      | (go_at_call 12; (with_reducible refine HD.out.mono ?_); rintro e w1 ⟨rfl, hb⟩; have B1 := Lib.hid hb; have V1 := Lib.hid (HV.out.later hb); clear hb)
      | (go_at_call 10; (with_reducible refine (DG.out _).mono ?_); rintro e w4 ⟨A, k, cc, rfl, hb⟩; have B4 := Lib.hid (B3.out.trans (hb.mono B3.out.size)); clear hb))
    (try simp only [Exit.inBlock, Exit.then])
    refine bodyPost_ret (results_tmp4 rfl _ _ _) rfl ?_
    exact ⟨rfl, B4.out⟩
set_option maxRecDepth 100000 in
theorem parse_total_no (hx : x ≤ 9223372036854775807) (hd : der y x ≠ 0) (hv : Vr u v w)
    (D : Calls Tryd.prog 12 #[.string s] w fun e w' => e = .returned (.tuple #[.string c, .string b, .bool true]) ∧ Below w.heap.size w w')
    (N1 : ∀ w, Vr u v w → Calls Tryd.prog 13 #[.string c] w fun e w' => e = .returned (.tuple #[.int .i64 x, .bool true]) ∧ Below w.heap.size w w')
    (N2 : ∀ w, Vr u v w → Calls Tryd.prog 13 #[.string b] w fun e w' => e = .returned (.tuple #[.int .i64 y, .bool true]) ∧ Below w.heap.size w w') :
    Calls Tryd.prog 5 #[.string s] w fun e w' => e = .returned (.tuple #[.int .i64 0, .int .i64 0, .bool false, .int .i64 5]) ∧ Below w.heap.size w w' := by
  have HD := Lib.hid D
  have H1 := Lib.hid N1
  have H2 := Lib.hid N2
  have HV := Lib.hid hv
  clear D N1 N2 hv
  · have DG := Lib.hid (fun w => digits_any y x w hx)
    have hd2 : (der y x != 0) = true := by rw [bne_iff_ne]; exact hd
    generalize der y x = d at DG hd2
    clear hd
    go_enter Tryd.func5, Tryd.ntmps5
    go_wp2_with (first
      | (go_at_call 13; (with_reducible refine (H2.out _ V2.out).mono ?_); rintro e w3 ⟨rfl, hb⟩; have B3 := Lib.hid (B2.out.trans (hb.mono B2.out.size)); clear hb)
      | (go_at_call 13; (with_reducible refine (H1.out _ V1.out).mono ?_); rintro e w2 ⟨rfl, hb⟩; have B2 := Lib.hid (B1.out.trans (hb.mono B1.out.size)); have V2 := Lib.hid (V1.out.later hb); clear hb)
      | (go_at_call 12; (with_reducible refine HD.out.mono ?_); rintro e w1 ⟨rfl, hb⟩; have B1 := Lib.hid hb; have V1 := Lib.hid (HV.out.later hb); clear hb)
      | (go_at_call 10; (with_reducible refine (DG.out _).mono ?_); rintro e w4 ⟨A, k, cc, rfl, hb⟩; have B4 := Lib.hid (B3.out.trans (hb.mono B3.out.size)); clear hb))
    (try simp only [Exit.inBlock, Exit.then])
    refine bodyPost_ret (results_tmp4 rfl _ _ _) rfl ?_
    exact ⟨rfl, B4.out⟩
set_option maxRecDepth 100000 in
theorem parse_elem_ok (hx : 0 ≤ x ∧ x ≤ 255) (hv : Vr u v w)
    (D : Calls Tryd.prog 12 #[.string s] w fun e w' => e = .returned (.tuple #[.string c, .string b, .bool false]) ∧ Below w.heap.size w w')
    (N1 : ∀ w, Vr u v w → Calls Tryd.prog 13 #[.string c] w fun e w' => e = .returned (.tuple #[.int .i64 x, .bool true]) ∧ Below w.heap.size w w')
    (N2 : ∀ w, Vr u v w → Calls Tryd.prog 13 #[.string b] w fun e w' => e = .returned (.tuple #[.int .i64 y, .bool true]) ∧ Below w.heap.size w w') :
    Calls Tryd.prog 5 #[.string s] w fun e w' => e = .returned (.tuple #[.int .i64 y, .int .i64 x, .bool false, .int .i64 0]) ∧ Below w.heap.size w w' := by
  have HD := Lib.hid D
  have H1 := Lib.hid N1
  have H2 := Lib.hid N2
  have HV := Lib.hid hv
  clear D N1 N2 hv
  · have DG := Lib.hid (fun w => elem_any x w)
    rw [if_pos hx] at DG
    clear hx
    go_enter Tryd.func5, Tryd.ntmps5
    go_wp2_with (first
      | (go_at_call 13; (with_reducible refine (H2.out _ V2.out).mono ?_); rintro e w3 ⟨rfl, hb⟩; have B3 := Lib.hid (B2.out.trans (hb.mono B2.out.size)); clear hb)
      | (go_at_call 13; (with_reducible refine (H1.out _ V1.out).mono ?_); rintro e w2 ⟨rfl, hb⟩; have B2 := Lib.hid (B1.out.trans (hb.mono B1.out.size)); have V2 := Lib.hid (V1.out.later hb); clear hb)
      | (go_at_call 12; (with_reducible refine HD.out.mono ?_); rintro e w1 ⟨rfl, hb⟩; have B1 := Lib.hid hb; have V1 := Lib.hid (HV.out.later hb); clear hb)
      | (go_at_call 7; (with_reducible refine (DG.out _).mono ?_); rintro e w4 ⟨cs, rfl, hb⟩; have B4 := Lib.hid (B3.out.trans (hb.mono B3.out.size)); clear hb))
    (try simp only [Exit.inBlock, Exit.then])
    refine bodyPost_ret (results_tmp4 rfl _ _ _) rfl ?_
    exact ⟨rfl, B4.out⟩
set_option maxRecDepth 100000 in
theorem parse_elem_no (hx : ¬ (0 ≤ x ∧ x ≤ 255)) (hv : Vr u v w)
    (D : Calls Tryd.prog 12 #[.string s] w fun e w' => e = .returned (.tuple #[.string c, .string b, .bool false]) ∧ Below w.heap.size w w')
    (N1 : ∀ w, Vr u v w → Calls Tryd.prog 13 #[.string c] w fun e w' => e = .returned (.tuple #[.int .i64 x, .bool true]) ∧ Below w.heap.size w w')
    (N2 : ∀ w, Vr u v w → Calls Tryd.prog 13 #[.string b] w fun e w' => e = .returned (.tuple #[.int .i64 y, .bool true]) ∧ Below w.heap.size w w') :
    Calls Tryd.prog 5 #[.string s] w fun e w' => e = .returned (.tuple #[.int .i64 0, .int .i64 0, .bool false, .int .i64 5]) ∧ Below w.heap.size w w' := by
  have HD := Lib.hid D
  have H1 := Lib.hid N1
  have H2 := Lib.hid N2
  have HV := Lib.hid hv
  clear D N1 N2 hv
  · have DG := Lib.hid (fun w => elem_any x w)
    rw [if_neg hx] at DG
    clear hx
    go_enter Tryd.func5, Tryd.ntmps5
    go_wp2_with (first
      | (go_at_call 13; (with_reducible refine (H2.out _ V2.out).mono ?_); rintro e w3 ⟨rfl, hb⟩; have B3 := Lib.hid (B2.out.trans (hb.mono B2.out.size)); clear hb)
      | (go_at_call 13; (with_reducible refine (H1.out _ V1.out).mono ?_); rintro e w2 ⟨rfl, hb⟩; have B2 := Lib.hid (B1.out.trans (hb.mono B1.out.size)); have V2 := Lib.hid (V1.out.later hb); clear hb)
      | (go_at_call 12; (with_reducible refine HD.out.mono ?_); rintro e w1 ⟨rfl, hb⟩; have B1 := Lib.hid hb; have V1 := Lib.hid (HV.out.later hb); clear hb)
      | (go_at_call 7; (with_reducible refine (DG.out _).mono ?_); rintro e w4 ⟨cs, rfl, hb⟩; have B4 := Lib.hid (B3.out.trans (hb.mono B3.out.size)); clear hb))
    (try simp only [Exit.inBlock, Exit.then])
    refine bodyPost_ret (results_tmp4 rfl _ _ _) rfl ?_
    exact ⟨rfl, B4.out⟩
end
end Go.Proofs.YtdbeomibajcecaaDoor
