/- The walk of appendDecimal: ten times the digits plus a decimal digit, in place. -/
import Derived.Test.YtckkbeknjipddaaDoorSmall
namespace Go.Proofs.YtckkbeknjipddaaDoor
open Go.RowKit

def mulCar (b m : Nat) : List Nat → Nat → Nat
  | [], c => c
  | d :: ds, c => mulCar b m ds ((d * m + c) / b)
def mulDigs (b m : Nat) : List Nat → Nat → List Nat
  | [], _ => []
  | d :: ds, c => (d * m + c) % b :: mulDigs b m ds ((d * m + c) / b)
theorem mulCar_snoc (b m : Nat) (l : List Nat) (d c : Nat) : mulCar b m (l ++ [d]) c = (d * m + mulCar b m l c) / b := by
  induction l generalizing c with
  | nil => rfl
  | cons x l ih => simp only [List.cons_append, mulCar]; exact ih _
theorem mulDigs_snoc (b m : Nat) (l : List Nat) (d c : Nat) : mulDigs b m (l ++ [d]) c = mulDigs b m l c ++ [(d * m + mulCar b m l c) % b] := by
  induction l generalizing c with
  | nil => rfl
  | cons x l ih => simp only [List.cons_append, mulDigs, mulCar]; rw [ih]
theorem mulDigs_len (b m : Nat) (l : List Nat) (c : Nat) : (mulDigs b m l c).length = l.length := by
  induction l generalizing c with
  | nil => rfl
  | cons x l ih => simp only [mulDigs, List.length_cons]; rw [ih]
theorem mulCar_lt {b m : Nat} (hb : 0 < b) (l : List Nat) (c : Nat) (hl : ∀ d ∈ l, d < b) (hc : c < m) : mulCar b m l c < m := by
  induction l generalizing c with
  | nil => exact hc
  | cons x l ih =>
    refine ih _ (fun d hd => hl d (List.mem_cons_of_mem _ hd)) ?_
    have hx := hl x (List.mem_cons_self ..)
    rw [Nat.div_lt_iff_lt_mul hb]
    calc x * m + c < x * m + m := by omega
      _ = (x + 1) * m := by rw [Nat.succ_mul]
      _ ≤ b * m := Nat.mul_le_mul_right _ hx
      _ = m * b := Nat.mul_comm _ _
def mulAdd (b m : Nat) (l : List Nat) (c : Nat) : List Nat := if mulCar b m l c = 0 then mulDigs b m l c else mulDigs b m l c ++ [mulCar b m l c]

theorem mulAdd_len (b m : Nat) (l : List Nat) (c : Nat) : l.length ≤ (mulAdd b m l c).length ∧ (mulAdd b m l c).length ≤ l.length + 1 := by
  unfold mulAdd; split <;> simp [mulDigs_len]

/-- the state of the row in the middle of the loop -/
def midRow (b m : Nat) (l : List Nat) (c k : Nat) : List Nat := mulDigs b m (l.take k) c ++ l.drop k
theorem midRow_zero (b m : Nat) (l : List Nat) (c : Nat) : midRow b m l c 0 = l := by simp [midRow, mulDigs]
theorem midRow_all (b m : Nat) (l : List Nat) (c : Nat) : midRow b m l c l.length = mulDigs b m l c := by simp [midRow]
theorem midRow_len (b m : Nat) (l : List Nat) (c k : Nat) (hk : k ≤ l.length) : (midRow b m l c k).length = l.length := by
  simp [midRow, mulDigs_len]; omega
theorem midRow_at (b m : Nat) (l : List Nat) (c k : Nat) (hk : k < l.length) : (midRow b m l c k)[k]? = some l[k] := by
  unfold midRow
  rw [List.getElem?_append_right (by simp [mulDigs_len]; omega)]
  simp [mulDigs_len]
  rw [show k - min k l.length = 0 by omega]
  simp [hk]
theorem midRow_succ (b m : Nat) (l : List Nat) (c k : Nat) (hk : k < l.length) :
    (midRow b m l c k).set k ((l[k] * m + mulCar b m (l.take k) c) % b) = midRow b m l c (k + 1) := by
  unfold midRow
  rw [List.take_succ_eq_append_getElem hk, mulDigs_snoc, List.set_append_right _ _ (by simp [mulDigs_len]; omega)]
  rw [mulDigs_len, List.length_take, show k - min k l.length = 0 by omega, List.drop_eq_getElem_cons hk]
  simp only [List.set_cons_zero, List.append_assoc, List.cons_append, List.nil_append]
theorem u32s_set (l : List Nat) (k d : Nat) : (u32s l).set k (.int .u32 (d : Nat)) = u32s (l.set k d) := by
  simp [u32s, List.map_set]
theorem u32s_len' (l : List Nat) : (u32s l).length = l.length := by simp [u32s]
theorem u32s_at' (l : List Nat) (k : Nat) {d : Nat} (h : l[k]? = some d) : (u32s l)[k]? = some (.int .u32 (d : Nat)) := by
  simp [u32s, h]
theorem reads_lit (w : World) (cs : Array Value) (e : TypeId) (n : Nat) (hm : n ≤ maxLen) (hs : cs.size = n) :
    Reads (w.alloc (.cells cs e)) (w.heap.size + 1) (some ⟨w.heap.size, 0, none⟩) n cs.toList := by
  have h := World.ownsRow_lit (e := e) (size := 1) (base := 0) w cs n (Nat.zero_le _) hm (by omega)
  simpa using Reads.of_own h

theorem Tryd.info_u32 : (Tryd.prog.info? 42).map (fun i => (i.zero, i.size, i.bytes)) = some (some (.int .u32 0), 1, 4) := by kernel_rfl

set_option maxRecDepth 100000 in
set_option maxHeartbeats 400000 in
theorem appendDecimal_any (A : Option Addr) (c base : Nat) (xs : List Nat) (cc : Nat) (w : World)
    (h : w.ownsRow base 42 1 (.slice A xs.length c) xs.length (u32s xs)) (hB : base ≤ w.heap.size) (hn : xs.length ≤ 100) (hx : ∀ d ∈ xs, d < 4294967296) (hc1 : 48 ≤ cc) (hc2 : cc ≤ 57) :
    Calls Tryd.prog 23 #[.slice A xs.length c, .int .u8 (cc : Nat)] w fun e w' =>
      ∃ A' c', e = .returned (.slice A' (mulAdd 4294967296 10 xs (cc - 48)).length c') ∧ w'.ownsRow base 42 1 (.slice A' (mulAdd 4294967296 10 xs (cc - 48)).length c') (mulAdd 4294967296 10 xs (cc - 48)).length (u32s (mulAdd 4294967296 10 xs (cc - 48))) ∧ Below base w w' := by
  obtain ⟨n, hnn⟩ : ∃ n, n = xs.length := ⟨_, rfl⟩
  rw [← hnn] at h hn ⊢
  have HN := Lib.hid hnn; clear hnn
  obtain ⟨i0, hi, hz0, hz1, hz2⟩ := info_parts Tryd.info_u32
  go_enter Tryd.func23, Tryd.ntmps23
  go_wp2
  go_loopw [5, 13] (fun s i wr => ∃ k : Nat, k ≤ n ∧ i = .int .i64 k ∧ s = .int .u64 (mulCar 4294967296 10 (xs.take k) (cc - 48) : Nat) ∧ wr.ownsRow base 42 1 (.slice A n c) n (u32s (midRow 4294967296 10 xs (cc - 48) k)) ∧ Below base w wr)
    (fun _ i _ => n - (intOf i).toNat)
  case atStart => exact ⟨0, Nat.zero_le _, rfl, by simp [mulCar]; omega, by rw [midRow_zero]; exact h, Below.refl _ _⟩
  case round =>
    obtain ⟨k, hk, rfl, rfl, hown, hbel⟩ := hrel
    have hcar := mulCar_lt (b := 4294967296) (m := 10) (by omega) (xs.take k) (cc - 48) (fun d hd => hx d (List.mem_of_mem_take hd)) (by omega)
    obtain ⟨q, hq⟩ : ∃ q, q = mulCar 4294967296 10 (xs.take k) (cc - 48) := ⟨_, rfl⟩
    rw [← hq] at hcar ⊢
    have HQ := Lib.hid hq; clear hq
    by_cases hlt : k < n
    · have hlt' : k < xs.length := by rw [← HN.out]; exact hlt
      have hdx := hx xs[k] (List.getElem_mem hlt')
      obtain ⟨g, cap, hv, hg, hgs⟩ := hown.form (by omega)
      obtain ⟨rfl, rfl⟩ : A = some ⟨g, 0, none⟩ ∧ c = cap := by injection hv with h1 _ h3; exact ⟨h1, h3⟩
      clear hv
      obtain ⟨x, hxk⟩ : ∃ x, x = xs[k] := ⟨_, rfl⟩
      rw [← hxk] at hdx
      have HX := Lib.hid hxk; clear hxk
      have hcell : wr.cell? ⟨g, k, none⟩ = some (.int .u32 (x : Nat)) := by
        rw [hown.cellAt k (by omega), u32s_at' _ _ (midRow_at _ _ _ _ _ hlt'), HX.out]
      have hfr : wr.frozen? ⟨g, k, none⟩ = false := hown.frozenAt k
      have hR := reads_lit wr #[.int .u64 ((x : Int) * 10), .int .u64 (q : Int)] 53 2 (by decide) rfl
      have hR' : Reads (wr.alloc (.cells #[.int .u64 ((x : Int) * 10), .int .u64 (q : Int)] 53)) (wr.heap.size + 1) (some ⟨wr.heap.size, 0, none⟩) 2 (u64s [x * 10, q]) := by
        have e : u64s [x * 10, q] = (#[.int .u64 ((x : Int) * 10), .int .u64 (q : Int)] : Array Value).toList := by simp [u64s]
        rw [e]; exact hR
      have HR := Lib.hid hR'; clear hR hR'
      go_wp2_with (go_at_call 41; refine (column_any _ _ _ _ [x * 10, q] _ HR.out (by decide) (by simp; omega)).mono ?_; rintro e w' ⟨rfl, rfl⟩)
      go_roundw
      case rel =>
        have hs := ((hown.stored k (.int .u32 (((x * 10 + q) % 4294967296 : Nat) : Int))).1.alloc (.cells #[.int .u64 ((x : Int) * 10), .int .u64 (q : Int)] 53))
        rw [u32s_set, HX.out, HQ.out, midRow_succ _ _ _ _ _ hlt', ← HX.out, ← HQ.out] at hs
        refine ⟨k + 1, by omega, by go_num, ?_, by simpa using hs, ?_⟩
        · rw [List.take_succ_eq_append_getElem hlt', mulCar_snoc, ← HX.out, ← HQ.out]
          simp
        · exact (Below.setCell hbel (p := ⟨g, k, none⟩) hg _).alloc (by have := hbel.size; simp [World.setCell]; omega) _
      case measure => simp [intOf]; omega
    · obtain rfl : n = k := by omega
      have HT := Lib.hid (show q = mulCar 4294967296 10 xs (cc - 48) by rw [HQ.out, HN.out, List.take_length])
      have HM := Lib.hid (midRow_all 4294967296 10 xs (cc - 48))
      by_cases h0 : q = 0
      · have HA := Lib.hid (show mulAdd 4294967296 10 xs (cc - 48) = midRow 4294967296 10 xs (cc - 48) n by rw [HN.out, HM.out, mulAdd, if_pos (by rw [← HT.out, h0])])
        subst h0
        go_wp2
        go_ret
        have hl : (mulAdd 4294967296 10 xs (cc - 48)).length = n := by rw [HA.out, midRow_len _ _ _ _ _ (by rw [← HN.out]; exact Nat.le_refl _), HN.out]
        rw [hl, HA.out]
        exact ⟨A, c, rfl, hown, hbel⟩
      · have HA := Lib.hid (show mulAdd 4294967296 10 xs (cc - 48) = midRow 4294967296 10 xs (cc - 48) n ++ [q] by rw [HN.out, HM.out, mulAdd, if_neg (by rw [← HT.out]; exact h0), HT.out])
        go_wp2_with (at_builtin; refine wpList_append1 rfl _ _ 22 rfl base 42 i0 (.int .u32 0) 4 Tryd.underlying22 hi hz0 hz1 hz2 rfl _ _ _ _ rfl hown (.int .u32 (q : Int)) rfl rfl (by unfold maxLen; omega) (by omega) (by have := hbel.size; omega) ?_; intro g' c' w' hown' hbel')
        go_ret
        have hl : (mulAdd 4294967296 10 xs (cc - 48)).length = n + 1 := by rw [HA.out, List.length_append, midRow_len _ _ _ _ _ (by rw [← HN.out]; exact Nat.le_refl _), HN.out]; rfl
        rw [hl, HA.out]
        exact ⟨_, c', rfl, by simpa [u32s] using hown', hbel.trans hbel'⟩

end Go.Proofs.YtckkbeknjipddaaDoor
