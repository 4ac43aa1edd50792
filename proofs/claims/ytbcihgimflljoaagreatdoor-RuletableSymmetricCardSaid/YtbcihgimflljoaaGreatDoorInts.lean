/- Lists of numbers: what they read as; the searches in them and their comparison. -/
import Derived.Test.YtbcihgimflljoaaGreatDoorCmp
import Derived.BigQuiet
import Derived.IntWalk
namespace Go.Proofs.YtbcihgimflljoaaGreatDoor
open Go.RowKit

/-- a list of numbers as cells -/
def il (l : List Int) : List Value := l.map fun x => .int .i64 x
theorem il_len (l : List Int) : (il l).length = l.length := by simp [il]
theorem il_add (l : List Int) (x : Int) : il (l ++ [x]) = il l ++ [.int .i64 x] := by simp [il]
/-- number k of a list -/
def ig (l : List Int) (k : Nat) : Int := l.getD k 0
theorem Reads.later {w w' : World} {A : Option Addr} {n : Nat} {xs : List Value} (h : Reads w w.heap.size A n xs) (hb : Below w.heap.size w w') : Reads w' w'.heap.size A n xs := (h.below hb).more hb.size
theorem il_at {w : World} {B n : Nat} {A : Option Addr} {l : List Int} (h : Reads w B A n (il l)) {k : Nat} (hk : k < n) :
    ∃ ad, A = some ad ∧ ad.block < B ∧ w.cell? (ad.add k) = some (.int .i64 (ig l k)) := by
  obtain ⟨ad, u, e, hb, hx, hc⟩ := h.at_ hk
  refine ⟨ad, e, hb, ?_⟩
  rw [hc, ← hx]
  simp only [il, List.getElem?_map, ig, List.getD] at hx ⊢
  cases h' : l[k]? with
  | none => rw [h'] at hx; cases hx
  | some d => simp
theorem reads_len {w : World} {B n : Nat} {A : Option Addr} {l : List Int} (h : Reads w B A n (il l)) : l.length = n := by simpa [il] using h.1
theorem ig_mem {l : List Int} {j : Nat} (h : j < l.length) : ig l j ∈ l := by
  rw [ig, List.getD_eq_getElem?_getD, List.getElem?_eq_getElem h]; exact List.getElem_mem h
theorem mem_ig {l : List Int} {k : Int} (h : k ∈ l) : ∃ j, j < l.length ∧ ig l j = k := by
  obtain ⟨j, hj, rfl⟩ := List.getElem_of_mem h
  exact ⟨j, hj, by rw [ig, List.getD_eq_getElem?_getD, List.getElem?_eq_getElem hj]; rfl⟩

/-- a strictly ascending list of numbers from 0 to m - 1 -/
def asc (l : List Int) (m : Int) : Bool := (List.range l.length).all fun i => decide (0 ≤ ig l i) && decide (ig l i < m) && (decide (i = 0) || decide (ig l (i - 1) < ig l i))
theorem asc_iff (l : List Int) (m : Int) : asc l m = true ↔ ∀ i, i < l.length → 0 ≤ ig l i ∧ ig l i < m ∧ (0 < i → ig l (i - 1) < ig l i) := by
  simp only [asc, List.all_eq_true, List.mem_range, Bool.and_eq_true, Bool.or_eq_true, decide_eq_true_eq]
  constructor
  · intro h i hi
    obtain ⟨⟨h1, h2⟩, h3⟩ := h i hi
    exact ⟨h1, h2, fun h4 => by rcases h3 with h3 | h3 <;> omega⟩
  · intro h i hi
    obtain ⟨h1, h2, h3⟩ := h i hi
    exact ⟨⟨h1, h2⟩, (Nat.eq_zero_or_pos i).imp id h3⟩
theorem asc_no {l : List Int} {m : Int} {i : Nat} (hi : i < l.length) (h : ¬ (0 ≤ ig l i ∧ ig l i < m ∧ (0 < i → ig l (i - 1) < ig l i))) : asc l m = false := by
  rw [← Bool.not_eq_true, asc_iff]
  exact fun h' => h (h' i hi)

section
variable (A : Option Addr) (n c B : Nat) (l : List Int) (k : Int) (w : World)
theorem rhas_any (h : Reads w B A n (il l)) (hn : n ≤ 1000000) :
    Calls Tryz.prog 10 #[.slice A n c, .int .i64 k] w fun e w' => e = .returned (.bool (decide (k ∈ l))) ∧ w = w' := by
  have hl := reads_len h
  have H := Lib.hid h
  have HL := Lib.hid hl
  clear h hl
  go_enter Tryz.func10, Tryz.ntmps10
  go_wp2
  go_loop [5] (fun iv => ∃ j : Nat, j ≤ n ∧ iv = .int .i64 (j : Int) ∧ ∀ i, i < j → ig l i ≠ k) (fun iv => n - (intOf iv).toNat)
  case atStart => exact ⟨0, Nat.zero_le _, rfl, fun i hi => absurd hi (by omega)⟩
  case round =>
    obtain ⟨j, hj, rfl, hno⟩ := hrel
    have HN := Lib.hid hno
    clear hno
    by_cases hlt : j < n
    · obtain ⟨ad, rfl, hb, hc⟩ := il_at H.out hlt
      obtain ⟨x, hx⟩ : ∃ x, x = ig l j := ⟨_, rfl⟩
      rw [← hx] at hc
      have HXX := Lib.hid hx
      clear hx
      by_cases hxk : x = k
      · subst hxk
        go_wp2
        go_ret
        exact ⟨ret_bool (by rw [eq_comm, decide_eq_true_iff, HXX.out]; exact ig_mem (by rw [HL.out]; exact hlt)), rfl⟩
      · have ht : (x == k) = false := by rw [beq_eq_false_iff_ne]; exact hxk
        have HK := Lib.hid hxk
        clear hxk
        go_wp2
        go_round
        case rel =>
          exact ⟨j + 1, by omega, by go_num, fun i hi => by
            by_cases e : i = j
            · subst e; rw [← HXX.out]; exact HK.out
            · exact HN.out i (by omega)⟩
        case measure => simp [intOf]; omega
    · obtain rfl : j = n := by omega
      go_wp2
      go_ret
      exact ⟨ret_bool (by
        rw [eq_comm, decide_eq_false_iff_not]
        intro hm
        obtain ⟨i, hi, he⟩ := mem_ig hm
        exact HN.out i (by have := HL.out; omega) he), rfl⟩
theorem index_no (h : Reads w B A n (il l)) (hn : n ≤ 1000000) (hk : k ∉ l) :
    Calls Tryz.prog 58 #[.slice A n c, .int .i64 k] w fun e w' => e = .returned (.int .i64 (-1)) ∧ w = w' := by
  have HL := Lib.hid (reads_len h)
  have H := Lib.hid h
  clear h
  go_enter Tryz.func58, Tryz.ntmps58
  go_wp2
  go_loop [8] (fun iv => ∃ j : Nat, j ≤ n ∧ iv = .int .i64 (j : Int)) (fun iv => n - (intOf iv).toNat)
  case atStart => exact ⟨0, Nat.zero_le _, rfl⟩
  case round =>
    obtain ⟨j, hj, rfl⟩ := hrel
    by_cases hlt : j < n
    · obtain ⟨ad, rfl, hb, hc⟩ := il_at H.out hlt
      have hx : ig l j ≠ k := fun e => hk (by rw [← e]; exact ig_mem (by rw [HL.out]; exact hlt))
      generalize ig l j = x at hc hx
      have ht : (x == k) = false := by rw [beq_eq_false_iff_ne]; exact hx
      have ht2 : (k == x) = false := by rw [beq_eq_false_iff_ne]; exact hx.symm
      clear hx
      go_wp2
      go_round
      case rel => exact ⟨j + 1, by omega, by go_num⟩
      case measure => simp [intOf]; omega
    · obtain rfl : j = n := by omega
      go_wp2
      go_ret
      exact ⟨rfl, rfl⟩
theorem index_yes (h : Reads w B A n (il l)) (hn : n ≤ 1000000) (hk : k ∈ l) :
    Calls Tryz.prog 58 #[.slice A n c, .int .i64 k] w fun e w' => ∃ r : Nat, e = .returned (.int .i64 (r : Nat)) ∧ w = w' := by
  have HL := Lib.hid (reads_len h)
  have H := Lib.hid h
  clear h
  go_enter Tryz.func58, Tryz.ntmps58
  go_wp2
  go_loop [8] (fun iv => ∃ j : Nat, j ≤ n ∧ iv = .int .i64 (j : Int) ∧ ∀ i, i < j → ig l i ≠ k) (fun iv => n - (intOf iv).toNat)
  case atStart => exact ⟨0, Nat.zero_le _, rfl, fun i hi => absurd hi (by omega)⟩
  case round =>
    obtain ⟨j, hj, rfl, hno⟩ := hrel
    have HN := Lib.hid hno
    clear hno
    by_cases hlt : j < n
    · obtain ⟨ad, rfl, hb, hc⟩ := il_at H.out hlt
      obtain ⟨x, hx⟩ : ∃ x, x = ig l j := ⟨_, rfl⟩
      rw [← hx] at hc
      have HXX := Lib.hid hx
      clear hx
      by_cases hxk : x = k
      · subst hxk
        go_wp2
        go_ret
        exact ⟨⟨j, rfl⟩, rfl⟩
      · have ht : (x == k) = false := by rw [beq_eq_false_iff_ne]; exact hxk
        have ht2 : (k == x) = false := by rw [beq_eq_false_iff_ne]; exact fun e => hxk e.symm
        have HK := Lib.hid hxk
        clear hxk
        go_wp2
        go_round
        case rel =>
          exact ⟨j + 1, by omega, by go_num, fun i hi => by
            by_cases e : i = j
            · subst e; rw [← HXX.out]; exact HK.out
            · exact HN.out i (by omega)⟩
        case measure => simp [intOf]; omega
    · exfalso
      obtain ⟨i, hi, he⟩ := mem_ig hk
      exact HN.out i (by have := HL.out; omega) he
theorem contains_any (h : Reads w B A n (il l)) (hn : n ≤ 1000000) :
    Calls Tryz.prog 32 #[.slice A n c, .int .i64 k] w fun e w' => e = .returned (.bool (decide (k ∈ l))) ∧ w = w' := by
  by_cases hk : k ∈ l
  · have IX := Lib.hid (index_yes A n c B l k w h hn hk)
    rw [decide_eq_true hk]
    clear h hk
    go_enter Tryz.func32, Tryz.ntmps32
    go_wp2_with (go_at_call 58; (with_reducible refine IX.out.mono ?_); rintro e w' ⟨r, rfl, rfl⟩)
    go_ret
    exact ⟨rfl, rfl⟩
  · have IX := Lib.hid (index_no A n c B l k w h hn hk)
    rw [decide_eq_false hk]
    clear h hk
    go_enter Tryz.func32, Tryz.ntmps32
    go_wp2_with (go_at_call 58; (with_reducible refine IX.out.mono ?_); rintro e w' ⟨rfl, rfl⟩)
    go_ret
    exact ⟨rfl, rfl⟩
end
set_option maxRecDepth 100000 in
set_option maxHeartbeats 1000000 in
theorem iequal_yes (A A' : Option Addr) (n c c' : Nat) (l : List Int) (w : World) (h : Reads w w.heap.size A n (il l)) (h' : Reads w w.heap.size A' n (il l)) (hn : n ≤ 1000000) :
    Calls Tryz.prog 40 #[.slice A n c, .slice A' n c'] w fun e w' => e = .returned (.bool true) ∧ Below w.heap.size w w' := by
  have H := Lib.hid h
  have H' := Lib.hid h'
  clear h h'
  go_enter Tryz.func40, Tryz.ntmps40
  go_wp2
  go_loopw [13] (fun iv wr => ∃ j : Nat, j ≤ n ∧ iv = .int .i64 (j : Int) ∧ Below w.heap.size w wr) (fun iv _ => n - (intOf iv).toNat)
  case atStart => exact ⟨0, Nat.zero_le _, rfl, Below.refl _ _⟩
  case round =>
    obtain ⟨j, hj, rfl, hbel⟩ := hrel
    have HB := Lib.hid hbel
    by_cases hk : j < n
    · obtain ⟨a1, rfl, hb1, hc1⟩ := il_at (H.out.below hbel) hk
      obtain ⟨a2, rfl, hb2, hc2⟩ := il_at (H'.out.below hbel) hk
      clear hbel
      generalize ig l j = x at hc1 hc2
      go_wp2_with fail
      go_quiet (fail)
      go_wp2
      go_roundw
      case rel => exact ⟨j + 1, by omega, by go_num, below_drewN HB.out _⟩
      case measure => simp [intOf]; omega
    · obtain rfl : j = n := by omega
      clear hbel
      go_wp2
      go_ret
      exact ⟨rfl, HB.out⟩
end Go.Proofs.YtbcihgimflljoaaGreatDoor
