/- The walks of TrimRight (one byte) and Reverse. -/
import Derived.Test.YtckkbeknjipddaaDoorNum
import Derived.BigRegion
namespace Go.Proofs.YtckkbeknjipddaaDoor
open Go.RowKit

theorem u8s_len {w : World} {B n : Nat} {A : Option Addr} {xs : List Nat} (h : Reads w B A n (u8s xs)) : xs.length = n := by simpa [u8s] using h.1
theorem u8s_at {w : World} {B n : Nat} {A : Option Addr} {xs : List Nat} (h : Reads w B A n (u8s xs)) {k : Nat} (hk : k < n) :
    ∃ ad, A = some ad ∧ ad.block < B ∧ w.cell? (ad.add k) = some (.int .u8 (xs.getD k 0 : Nat)) := by
  obtain ⟨ad, u, e, hb, hx, hc⟩ := h.at_ hk
  refine ⟨ad, e, hb, ?_⟩
  rw [hc, ← hx]
  simp only [u8s, List.getElem?_map, List.getD] at hx ⊢
  cases h' : xs[k]? with
  | none => rw [h'] at hx; cases hx
  | some d => simp

/-- how many of the first k bytes stay when the bytes c at the end go -/
def trimC (c : Nat) (xs : List Nat) : Nat → Nat
  | 0 => 0
  | k + 1 => if xs.getD k 0 = c then trimC c xs k else k + 1
theorem trimC_le (c : Nat) (xs : List Nat) (k : Nat) : trimC c xs k ≤ k := by
  induction k with
  | zero => exact Nat.le_refl _
  | succ k ih => unfold trimC; split <;> omega
theorem trimC_hit {c : Nat} {xs : List Nat} {k : Nat} (h : xs[k]?.getD 0 = c) : trimC c xs (k + 1) = trimC c xs k := by
  simp [trimC, List.getD, h]
theorem trimC_miss {c : Nat} {xs : List Nat} {k : Nat} (h : ¬ xs[k]?.getD 0 = c) : trimC c xs (k + 1) = k + 1 := by
  simp [trimC, List.getD, h]

def lenOf : Value → Nat | .slice _ n _ => n | _ => 0
theorem trimByte_any (A : Option Addr) (n c B : Nat) (xs : List Nat) (w : World) (h : Reads w B A n (u8s xs)) (hn : n ≤ maxLen) (hc : n ≤ c) :
    Calls Tryd.prog 52 #[.slice A n c, .int .u8 48] w fun e w' => e = .returned (.slice A (trimC 48 xs n) c) ∧ w = w' := by
  unfold maxLen at hn
  go_enter Tryd.func52, Tryd.ntmps52
  go_wp2
  go_loop [0] (fun s => ∃ k : Nat, k ≤ n ∧ s = .slice A k c ∧ trimC 48 xs k = trimC 48 xs n) (fun s => lenOf s)
  case atStart => exact ⟨n, Nat.le_refl _, rfl, rfl⟩
  case round =>
    obtain ⟨k, hk, rfl, ht⟩ := hrel
    have HT := Lib.hid ht; clear ht
    cases k with
    | zero =>
      go_wp2
      go_ret
      exact ⟨by rw [← HT.out]; rfl, rfl⟩
    | succ k =>
      obtain ⟨ad, rfl, _, hcell⟩ := u8s_at h (k := k) (by omega)
      go_wp2
      · have hz : (((xs[k]?.getD 0 : Nat) : Int) == 48) = true := by assumption
        go_round
        case rel => exact ⟨k, by omega, rfl, by rw [← HT.out]; exact (trimC_hit (by have := eq_of_beq hz; omega)).symm⟩
        case measure => simp [lenOf]
      · have hz : (((xs[k]?.getD 0 : Nat) : Int) == 48) = false := by assumption
        go_ret
        exact ⟨by rw [← HT.out, trimC_miss (by intro e; rw [e] at hz; simp at hz)]; rfl, rfl⟩
set_option maxRecDepth 100000 in
theorem trimRight_any (A : Option Addr) (n c B : Nat) (xs : List Nat) (w : World) (h : Reads w B A n (u8s xs)) (hn : n ≤ maxLen) (hc : n ≤ c) (hp : 0 < n) :
    Calls Tryd.prog 44 #[.slice A n c, .string ⟨#[48]⟩] w fun e w' => e = .returned (.slice A (trimC 48 xs n) c) ∧ w = w' := by
  have H := Lib.hid (trimByte_any A n c B xs w h hn hc)
  unfold maxLen at hn
  go_enter Tryd.func44, Tryd.ntmps44
  go_wp2_with (go_at_call 52; refine H.out.mono ?_; rintro e w' ⟨rfl, rfl⟩)
  go_ret
  exact ⟨rfl, rfl⟩

theorem u8s_set (l : List Nat) (k d : Nat) : (u8s l).set k (.int .u8 (d : Nat)) = u8s (l.set k d) := by
  simp [u8s, List.map_set]
theorem u8s_at' (l : List Nat) (k : Nat) (h : k < l.length) : (u8s l)[k]? = some (.int .u8 (l.getD k 0 : Nat)) := by
  simp [u8s, List.getD, h]

/-- the row after k exchanges from both ends -/
def swaps (xs : List Nat) : Nat → List Nat
  | 0 => xs
  | k + 1 => ((swaps xs k).set k ((swaps xs k).getD (xs.length - 1 - k) 0)).set (xs.length - 1 - k) ((swaps xs k).getD k 0)

theorem swaps_len (xs : List Nat) (k : Nat) : (swaps xs k).length = xs.length := by
  induction k with
  | zero => rfl
  | succ k ih => simp [swaps, ih]
theorem getD_set (l : List Nat) (i j v : Nat) (hi : i < l.length) : (l.set i v).getD j 0 = if i = j then v else l.getD j 0 := by
  simp only [List.getD, List.getElem?_set]
  by_cases h : i = j
  · subst h; simp [hi]
  · simp [h]
theorem swaps_at (xs : List Nat) (k : Nat) (hk : 2 * k ≤ xs.length) (i : Nat) (hi : i < xs.length) :
    (swaps xs k).getD i 0 = if i < k ∨ xs.length ≤ i + k then xs.getD (xs.length - 1 - i) 0 else xs.getD i 0 := by
  induction k generalizing i with
  | zero =>
    rw [if_neg (by omega)]; rfl
  | succ k ih =>
    have ih' := ih (by omega)
    rw [swaps, getD_set _ _ _ _ (by rw [List.length_set, swaps_len]; omega), getD_set _ _ _ _ (by rw [swaps_len]; omega)]
    by_cases h1 : xs.length - 1 - k = i
    · rw [if_pos h1, if_pos (by omega), ih' k (by omega), if_neg (by omega)]
      rw [show xs.length - 1 - i = k by omega]
    · rw [if_neg h1]
      by_cases h2 : k = i
      · rw [if_pos h2, if_pos (by omega), ih' _ (by omega), if_neg (by omega), h2]
      · rw [if_neg h2, ih' i hi]
        by_cases h3 : i < k ∨ xs.length ≤ i + k
        · rw [if_pos h3, if_pos (by omega)]
        · rw [if_neg h3, if_neg (by omega)]
theorem swaps_all (xs : List Nat) (k : Nat) (hk : 2 * k ≤ xs.length) (hk2 : xs.length ≤ 2 * k + 1) : swaps xs k = xs.reverse := by
  apply List.ext_getElem
  · rw [swaps_len, List.length_reverse]
  · intro i h1 h2
    rw [swaps_len] at h1
    have h := swaps_at xs k hk i h1
    simp only [List.getD, List.getElem?_eq_getElem (show i < (swaps xs k).length by rw [swaps_len]; exact h1), Option.getD_some] at h
    rw [h, List.getElem_reverse]
    by_cases h3 : i < k ∨ xs.length ≤ i + k
    · rw [if_pos h3, List.getElem?_eq_getElem (by omega), Option.getD_some]
    · rw [if_neg h3, List.getElem?_eq_getElem h1, Option.getD_some]
      congr 1
      omega

set_option maxRecDepth 100000 in
set_option maxHeartbeats 400000 in
theorem reverse_any (g n c base : Nat) (xs : List Nat) (w : World) (h : w.ownsRow base 5 1 (.slice (some ⟨g, 0, none⟩) n c) n (u8s xs)) (hg : base ≤ g) (hn : n ≤ maxLen) :
    Calls Tryd.prog 45 #[.slice (some ⟨g, 0, none⟩) n c] w fun e w' => e = .returned (.tuple #[]) ∧ w'.ownsRow base 5 1 (.slice (some ⟨g, 0, none⟩) n c) n (u8s xs.reverse) ∧ Below base w w' := by
  unfold maxLen at hn
  go_enter Tryd.func45, Tryd.ntmps45
  go_wp2
  go_loopw [2, 3] (fun i j wr => ∃ k : Nat, 2 * k ≤ n ∧ i = .int .i64 k ∧ j = .int .i64 ((n : Int) - 1 - k) ∧ wr.ownsRow base 5 1 (.slice (some ⟨g, 0, none⟩) n c) n (u8s (swaps xs k)) ∧ Below base w wr)
    (fun i _ _ => n - (intOf i).toNat)
  case atStart => exact ⟨0, by omega, rfl, by simp, h, Below.refl _ _⟩
  case round =>
    obtain ⟨k, hk, rfl, rfl, hown, hbel⟩ := hrel
    have HL := Lib.hid (show xs.length = n by have := h.1; simpa [u8s] using this)
    by_cases hlt : 2 * k + 1 < n
    · obtain ⟨L, hL⟩ : ∃ L, L = swaps xs k := ⟨_, rfl⟩
      rw [← hL] at hown
      have hll : L.length = n := by rw [hL, swaps_len, HL.out]
      have hc1 : wr.cell? ⟨g, k, none⟩ = some (.int .u8 (L.getD k 0 : Nat)) := by
        rw [hown.cellAt k (by omega), u8s_at' _ _ (by omega)]
      have hc2 : wr.cell? ⟨g, n - 1 - k, none⟩ = some (.int .u8 (L.getD (n - 1 - k) 0 : Nat)) := by
        rw [hown.cellAt (n - 1 - k) (by omega), u8s_at' _ _ (by omega)]
      have hf1 : wr.frozen? ⟨g, k, none⟩ = false := hown.frozenAt k
      have hf2 : wr.frozen? ⟨g, n - 1 - k, none⟩ = false := hown.frozenAt _
      have HLL := Lib.hid hll
      have HLE := Lib.hid hL
      obtain ⟨a, ha⟩ : ∃ a, a = L.getD k 0 := ⟨_, rfl⟩
      obtain ⟨b, hb⟩ : ∃ b, b = L.getD (n - 1 - k) 0 := ⟨_, rfl⟩
      rw [← ha] at hc1
      rw [← hb] at hc2
      have HA := Lib.hid ha
      have HB := Lib.hid hb
      clear hll hL ha hb
      have hne : k ≠ n - 1 - k := by omega
      go_wp2
      go_region
      all_goals go_wp2
      go_roundw
      case rel =>
        have hs := (((hown.stored k (.int .u8 (b : Nat))).1).stored (n - 1 - k) (.int .u8 (a : Nat))).1
        rw [u8s_set, u8s_set] at hs
        have e : (L.set k b).set (n - 1 - k) a = swaps xs (k + 1) := by
          rw [swaps, ← HLE.out, HL.out, ← HA.out, ← HB.out]
        rw [e] at hs
        refine ⟨k + 1, by omega, by go_num, ?_, hs, ?_⟩
        · exact congrArg (Value.int .i64) (by omega)
        · exact ((hbel.setCell (p := ⟨g, k, none⟩) hg _).setCell (p := ⟨g, n - 1 - k, none⟩) hg _).drew
      case measure => simp [intOf]; omega
    · have HS := Lib.hid (swaps_all xs k (by rw [HL.out]; exact hk) (by rw [HL.out]; omega))
      go_wp2
      go_end0
      exact ⟨rfl, by rw [← HS.out]; exact hown, hbel⟩

end Go.Proofs.YtckkbeknjipddaaDoor
