/- The walks of wolfram's Digits and of the reference's, at any numbers. -/
import Derived.Test.YtdbeomibajcecaaDoorSmall
namespace Go.Proofs.YtdbeomibajcecaaDoor
open Go.RowKit

/-- what is left of n behind k divisions -/
def qd (t n : Nat) : Nat → Nat
  | 0 => n
  | k + 1 => qd t n k / t
theorem qd_le (t n : Nat) : ∀ k, qd t n k ≤ n
  | 0 => Nat.le_refl _
  | k + 1 => Nat.le_trans (Nat.div_le_self _ _) (qd_le t n k)
/-- the lowest m digits -/
def digl (t n m : Nat) : List Int := (List.range m).map fun k => ((qd t n k % t : Nat) : Int)
theorem digl_len (t n m : Nat) : (digl t n m).length = m := by simp [digl]
theorem digl_succ (t n m : Nat) : digl t n (m + 1) = digl t n m ++ [((qd t n m % t : Nat) : Int)] := by simp [digl, List.range_succ]
/-- the error of Digits -/
def der (t n : Int) : Int := if ¬ (2 ≤ t ∧ t ≤ 8) then 2 else if n < 0 then 5 else if 0 < qd t.toNat n.toNat (3 * t.toNat - 2) then 5 else 0
theorem il_set (L : List Int) (j : Nat) (x : Int) : (il L).set j (.int .i64 x) = il (L.set j x) := by simp [il, List.map_set]
theorem take_set (L : List Int) (j : Nat) (x : Int) (h : j < L.length) : (L.set j x).take (j + 1) = L.take j ++ [x] := by
  rw [List.take_succ_eq_append_getElem (by simpa using h), List.getElem_set_self, List.take_set]
  congr 1
  apply List.set_eq_of_length_le
  rw [List.length_take]; omega

theorem possible_any (t : Int) (w : World) :
    Calls Tryd.prog 20 #[.int .i64 t] w fun e w' => e = .returned (.bool (decide (2 ≤ t ∧ t ≤ 8))) ∧ w = w' := by
  by_cases h1 : 2 ≤ t
  · by_cases h2 : t ≤ 8
    · rw [decide_eq_true ⟨h1, h2⟩]
      go_enter Tryd.func20, Tryd.ntmps20
      go_wp2
      go_ret
      exact ⟨rfl, rfl⟩
    · rw [decide_eq_false (fun h => h2 h.2)]
      go_enter Tryd.func20, Tryd.ntmps20
      go_wp2
      go_ret
      exact ⟨rfl, rfl⟩
  · rw [decide_eq_false (fun h => h1 h.1)]
    go_enter Tryd.func20, Tryd.ntmps20
    go_wp2
    go_ret
    exact ⟨rfl, rfl⟩
theorem sums_any (t : Nat) (w : World) (h1 : 2 ≤ t) (h2 : t ≤ 8) :
    Calls Tryd.prog 21 #[.int .i64 (t : Int)] w fun e w' => e = .returned (.int .i64 ((3 * t - 2 : Nat) : Int)) ∧ w = w' := by
  have e : ((3 * t - 2 : Nat) : Int) = 3 * (t : Int) - 2 := by omega
  rw [e]
  go_enter Tryd.func21, Tryd.ntmps21
  go_wp2
  go_ret
  exact ⟨rfl, rfl⟩
set_option maxRecDepth 100000 in
theorem digits_arg (t n : Int) (w : World) (h : ¬ (2 ≤ t ∧ t ≤ 8)) :
    Calls Tryd.prog 10 #[.int .i64 t, .int .i64 n] w fun e w' => e = .returned (.tuple #[.slice none 0 0, .int .i64 2]) ∧ w = w' := by
  have P := Lib.hid (possible_any t w)
  rw [decide_eq_false h] at P
  clear h
  go_enter Tryd.func10, Tryd.ntmps10
  go_wp2_with (go_at_call 20; (with_reducible refine P.out.mono ?_); rintro e w' ⟨rfl, rfl⟩)
  go_ret2
  exact ⟨rfl, rfl⟩
set_option maxRecDepth 100000 in
theorem digits_neg (t n : Int) (w : World) (h : 2 ≤ t ∧ t ≤ 8) (hn : n < 0) :
    Calls Tryd.prog 10 #[.int .i64 t, .int .i64 n] w fun e w' => e = .returned (.tuple #[.slice none 0 0, .int .i64 5]) ∧ w = w' := by
  have P := Lib.hid (possible_any t w)
  rw [decide_eq_true h] at P
  clear h
  go_enter Tryd.func10, Tryd.ntmps10
  go_wp2_with (go_at_call 20; (with_reducible refine P.out.mono ?_); rintro e w' ⟨rfl, rfl⟩)
  go_ret2
  exact ⟨rfl, rfl⟩
set_option maxRecDepth 100000 in
set_option maxHeartbeats 2000000 in
theorem digits_pos (t n m : Nat) (w : World) (h1 : 2 ≤ t) (h2 : t ≤ 8) (hm : m = 3 * t - 2) (hn : n ≤ 9223372036854775807) :
    Calls Tryd.prog 10 #[.int .i64 (t : Int), .int .i64 (n : Int)] w fun e w' => ∃ A k c, e = .returned (.tuple #[.slice A k c, .int .i64 (if 0 < qd t n m then 5 else 0)]) ∧ (qd t n m = 0 → Reads w' w'.heap.size A k (il (digl t n m))) ∧ Below w.heap.size w w' := by
  obtain ⟨r, hr⟩ : ∃ r : Int, r = if 0 < qd t n m then 5 else 0 := ⟨_, rfl⟩
  rw [← hr]
  have HR := Lib.hid hr
  clear hr
  have P := Lib.hid (possible_any (t : Int) w)
  rw [decide_eq_true (by omega)] at P
  have S := Lib.hid (sums_any t w h1 h2)
  rw [← hm] at S
  have hmb : m ≤ 22 := by omega
  have QL := Lib.hid (fun k => Nat.le_trans (qd_le t n k) hn)
  have QS := Lib.hid (fun k => show qd t n (k + 1) = qd t n k / t from rfl)
  have DS := Lib.hid (digl_succ t n)
  have Q0 := Lib.hid (show qd t n 0 = n from rfl)
  have D0 := Lib.hid (show digl t n 0 = [] from rfl)
  generalize digl t n = D at DS D0 ⊢
  generalize hq : qd t n = q at HR QL QS DS Q0 ⊢
  clear hq hm
  obtain ⟨i0, hi, hz0, hz1, hz2⟩ := info_parts Tryd.info_int
  go_enter Tryd.func10, Tryd.ntmps10
  go_wp2_with (first
    | (go_at_call 20; (with_reducible refine P.out.mono ?_); rintro e w' ⟨rfl, rfl⟩)
    | (go_at_call 21; (with_reducible refine S.out.mono ?_); rintro e w' ⟨rfl, rfl⟩)
    | (at_make; refine wpList_make_full _ rfl _ _ 32 rfl w.heap.size 3 i0 (.int .i64 0) 1 Tryd.underlying32 hi hz0 hz1 .i64 .i64 _ _ m rfl rfl rfl rfl (by rw [hz2]; omega) (by unfold maxLen; omega) (Nat.le_refl _) ?_; intro w1 hown1 hgrow1))
  have ht0 : ((t : Int) == 0) = false := by rw [beq_eq_false_iff_ne]; omega
  have ht1 : ((t : Int) == -1) = false := by rw [beq_eq_false_iff_ne]; omega
  go_loopw [1, 20] (fun nv jv wr => ∃ (j : Nat) (L : List Int), j ≤ m ∧ nv = .int .i64 (q j : Int) ∧ jv = .int .i64 (j : Int) ∧ L.length = m ∧ L.take j = D j ∧
      wr.ownsRow w.heap.size 3 1 (.slice (some ⟨w.heap.size, 0, none⟩) m m) m (il L) ∧ Below w.heap.size w wr) (fun _ jv _ => m - (intOf jv).toNat)
  case atStart =>
    refine ⟨0, List.replicate m 0, Nat.zero_le _, by rw [Q0.out], rfl, List.length_replicate, by rw [D0.out]; rfl, ?_, (Below.refl _ _).grown hgrow1 (Nat.le_refl _) (fun k hk => by cases hk)⟩
    have e : il (List.replicate m 0) = (madeCells (Value.int .i64 0).cells (m * 1)).toList := by
      rw [il, List.map_replicate]
      apply List.ext_getElem
      · simp [madeCells, Value.cells]
      · intro i h1 h2
        simp [madeCells, Value.cells, Nat.mod_one]
    rw [e]
    exact hown1
  case round =>
    obtain ⟨j, L, hj, rfl, rfl, hLl, hLt, hown, hbel⟩ := hrel
    have HLL := Lib.hid hLl
    have HLT := Lib.hid hLt
    have HB := Lib.hid hbel
    by_cases hjm : j < m
    · have hcell : wr.cell? ⟨w.heap.size, j, none⟩ = some (.int .i64 (ig L j)) := by
        rw [hown.cellAt j (by omega)]
        have hjl : j < L.length := by omega
        simp [il, ig, List.getD, hjl]
      have hfr : wr.frozen? ⟨w.heap.size, j, none⟩ = false := hown.frozenAt j
      have HO := Lib.hid hown
      have hql := QL.out j
      have hqs := QS.out j
      have hds := DS.out j
      clear hLl hLt hown hbel
      have hab := Nat.le_trans (Nat.div_le_self (q j) t) hql
      obtain ⟨a, ha⟩ : ∃ a, a = q j / t := ⟨_, rfl⟩
      obtain ⟨b, hb⟩ : ∃ b, b = q j % t := ⟨_, rfl⟩
      rw [← ha] at hqs hab
      rw [← hb] at hds
      have e1 : ((q j : Nat) : Int) / (t : Int) = (a : Int) := by rw [ha]; simp
      have e2 : ((q j : Nat) : Int) % (t : Int) = (b : Int) := by rw [hb]; simp
      have HQ := Lib.hid hqs
      have HD := Lib.hid hds
      clear hqs hds ha hb
      go_wp2
      go_roundw
      case rel =>
        refine ⟨j + 1, L.set j (b : Int), by omega, by rw [HQ.out], by go_num, by rw [List.length_set, HLL.out], by rw [take_set L j _ (by rw [HLL.out]; exact hjm), HLT.out, HD.out], ?_, Below.setCell HB.out (p := ⟨w.heap.size, j, none⟩) (Nat.le_refl _) _⟩
        have := (HO.out.stored j (.int .i64 (b : Int))).1
        rw [il_set] at this
        exact this
      case measure => simp [intOf]; omega
    · obtain rfl : j = m := by omega
      have hLd : L = D j := by rw [← hLt, ← hLl, List.take_length]
      by_cases hq : 0 < q j
      · have hr : r = 5 := by rw [HR.out, if_pos hq]
        subst hr
        have hq' : (0 : Int) < ((q j : Nat) : Int) := by omega
        have hq2 := Lib.hid (show q j ≠ 0 by omega)
        go_wp2
        go_ret2
        exact ⟨_, _, _, rfl, fun h => absurd h hq2.out, HB.out⟩
      · have hr : r = 0 := by rw [HR.out, if_neg hq]
        subst hr
        have hq2 : ((q j : Nat) : Int) = 0 := by omega
        have HF := Lib.hid (Reads.of_own hown)
        rw [hLd] at HF
        go_wp2
        go_ret2
        exact ⟨_, _, _, rfl, fun _ => HF.out, HB.out⟩
set_option maxRecDepth 100000 in
theorem rdigits_arg (t n : Int) (w : World) (h : ¬ (2 ≤ t ∧ t ≤ 8)) :
    Calls Tryd.prog 16 #[.int .i64 t, .int .i64 n] w fun e w' => e = .returned (.tuple #[.slice none 0 0, .int .i64 2]) ∧ w = w' := by
  by_cases h1 : 2 ≤ t
  · have h2 : ¬ t ≤ 8 := fun h2 => h ⟨h1, h2⟩
    clear h
    go_enter Tryd.func16, Tryd.ntmps16
    go_wp2
    go_ret2
    exact ⟨rfl, rfl⟩
  · clear h
    go_enter Tryd.func16, Tryd.ntmps16
    go_wp2
    go_ret2
    exact ⟨rfl, rfl⟩
set_option maxRecDepth 100000 in
theorem rdigits_neg (t n : Int) (w : World) (h : 2 ≤ t ∧ t ≤ 8) (hn : n < 0) :
    Calls Tryd.prog 16 #[.int .i64 t, .int .i64 n] w fun e w' => e = .returned (.tuple #[.slice none 0 0, .int .i64 5]) ∧ w = w' := by
  obtain ⟨h1, h2⟩ := h
  go_enter Tryd.func16, Tryd.ntmps16
  go_wp2
  go_ret2
  exact ⟨rfl, rfl⟩
set_option maxRecDepth 100000 in
set_option maxHeartbeats 2000000 in
theorem rdigits_pos (t n m : Nat) (w : World) (h1 : 2 ≤ t) (h2 : t ≤ 8) (hm : m = 3 * t - 2) (hn : n ≤ 9223372036854775807) :
    Calls Tryd.prog 16 #[.int .i64 (t : Int), .int .i64 (n : Int)] w fun e w' => ∃ A k c, e = .returned (.tuple #[.slice A k c, .int .i64 (if 0 < qd t n m then 5 else 0)]) ∧ Below w.heap.size w w' := by
  obtain ⟨r, hr⟩ : ∃ r : Int, r = if 0 < qd t n m then 5 else 0 := ⟨_, rfl⟩
  rw [← hr]
  have HR := Lib.hid hr
  clear hr
  have hmb : m ≤ 22 := by omega
  have hmt : 3 * ((t : Int) - 1) = (m : Int) - 1 := by omega
  have QL := Lib.hid (fun k => Nat.le_trans (qd_le t n k) hn)
  have QS := Lib.hid (fun k => show qd t n (k + 1) = qd t n k / t from rfl)
  have Q0 := Lib.hid (show qd t n 0 = n from rfl)
  generalize hq : qd t n = q at HR QL QS Q0 ⊢
  clear hq hm
  have ht0 : ((t : Int) == 0) = false := by rw [beq_eq_false_iff_ne]; omega
  have ht1 : ((t : Int) == -1) = false := by rw [beq_eq_false_iff_ne]; omega
  obtain ⟨i0, hi, hz0, hz1, hz2⟩ := info_parts Tryd.info_int
  go_enter Tryd.func16, Tryd.ntmps16
  go_wp2
  go_loopw [1, 6, 7] (fun nv lv jv wr => ∃ (j : Nat) (A : Option Addr) (c : Nat) (L : List Int), j ≤ m ∧ nv = .int .i64 (q j : Int) ∧ jv = .int .i64 (j : Int) ∧ lv = .slice A j c ∧
      wr.ownsRow w.heap.size 3 1 (.slice A j c) j (il L) ∧ Below w.heap.size w wr) (fun _ _ jv _ => m - (intOf jv).toNat)
  case atStart =>
    exact ⟨0, none, 0, [], Nat.zero_le _, by rw [Q0.out], rfl, rfl, World.ownsRow_nil _ _ _ _, Below.refl _ _⟩
  case round =>
    obtain ⟨j, A, c, L, hj, rfl, rfl, rfl, hown, hbel⟩ := hrel
    have HB := Lib.hid hbel
    by_cases hjm : j < m
    · have hsz := hbel.size
      have hql := QL.out j
      have hqs := QS.out j
      clear hbel
      have hab := Nat.le_trans (Nat.div_le_self (q j) t) hql
      obtain ⟨a, ha⟩ : ∃ a, a = q j / t := ⟨_, rfl⟩
      obtain ⟨b, hb⟩ : ∃ b, b = q j % t := ⟨_, rfl⟩
      rw [← ha] at hqs hab
      have e1 : ((q j : Nat) : Int) / (t : Int) = (a : Int) := by rw [ha]; simp
      have e2 : ((q j : Nat) : Int) % (t : Int) = (b : Int) := by rw [hb]; simp
      have HQ := Lib.hid hqs
      clear hqs ha hb
      go_wp2_with (at_builtin; refine wpList_append1 rfl _ _ 32 rfl w.heap.size 3 i0 (.int .i64 0) 8 Tryd.underlying32 hi hz0 hz1 hz2 rfl A j c _ rfl hown (.int .i64 (b : Int)) rfl rfl (by unfold maxLen; omega) (by omega) hsz ?_; intro g' c' w' hown' hbel')
      go_roundw
      case rel => exact ⟨j + 1, some ⟨g', 0, none⟩, c', L ++ [(b : Int)], by omega, by rw [HQ.out], by go_num, rfl, by rw [il_add]; exact hown', HB.out.trans hbel'⟩
      case measure => simp [intOf]; omega
    · obtain rfl : j = m := by omega
      by_cases hq : 0 < q j
      · have hr : r = 5 := by rw [HR.out, if_pos hq]
        subst hr
        have hq' : (0 : Int) < ((q j : Nat) : Int) := by omega
        go_wp2
        go_ret2
        exact ⟨_, _, _, rfl, HB.out⟩
      · have hr : r = 0 := by rw [HR.out, if_neg hq]
        subst hr
        have hq2 : ((q j : Nat) : Int) = 0 := by omega
        go_wp2
        go_ret2
        exact ⟨_, _, _, rfl, HB.out⟩
end Go.Proofs.YtdbeomibajcecaaDoor
