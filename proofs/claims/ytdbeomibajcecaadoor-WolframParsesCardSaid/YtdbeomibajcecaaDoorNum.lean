/- Numbers as texts: what a numeral is, its value, and how strconv's parse ends at one. Plain mathematics. -/
import Derived.Test.YtdbeomibajcecaaDoorStr
import Derived.Lib.AtoiAllCases
namespace Go.Proofs.YtdbeomibajcecaaDoor

/-- a decimal digit -/
def dgt (c : UInt8) : Bool := decide (48 ≤ c.toNat) && decide (c.toNat ≤ 57)
theorem dgt_iff {c : UInt8} : dgt c = true ↔ 48 ≤ c.toNat ∧ c.toNat ≤ 57 := by unfold dgt; simp
/-- a number without leading zeros -/
def numl (l : List UInt8) : Bool := decide (0 < l.length) && (decide (l.length = 1) || decide (l.head?.map (·.toNat) ≠ some 48)) && l.all dgt
/-- the value of digits behind n -/
def va (n : Nat) : List UInt8 → Nat
  | [] => n
  | c :: l => va (10 * n + (c.toNat - 48)) l
theorem va_le : ∀ (l : List UInt8) (n : Nat), n ≤ va n l
  | [], n => Nat.le_refl _
  | c :: l, n => Nat.le_trans (by omega) (va_le l (10 * n + (c.toNat - 48)))
theorem va_append : ∀ (l m : List UInt8) (n : Nat), va n (l ++ m) = va (va n l) m
  | [], m, n => rfl
  | c :: l, m, n => va_append l m _
theorem va_snoc (l : List UInt8) (c : UInt8) (n : Nat) : va n (l ++ [c]) = 10 * va n l + (c.toNat - 48) := by rw [va_append]; rfl
theorem va_take (l : List UInt8) (n k : Nat) : va n (l.take k) ≤ va n l := by
  have h := va_append (l.take k) (l.drop k) n
  rw [List.take_append_drop] at h
  rw [h]
  exact va_le _ _
/-- the value as an int, if it is one -/
def big : Nat := 9223372036854775807
/-- what wolfram.number answers at a numeral -/
def nv (l : List UInt8) : Int := if va 0 l ≤ big then (va 0 l : Int) else -1

theorem parse_any : ∀ (l : List UInt8) (n : Nat), l.all dgt = true → Lib.parseUint10 n l = .range ∨ ∃ u, Lib.parseUint10 n l = .ok u ∧ n ≤ u
  | [], n, _ => .inr ⟨n, by simp only [Lib.parseUint10], Nat.le_refl _⟩
  | c :: l, n, ha => by
    rw [List.all_cons, Bool.and_eq_true, dgt_iff] at ha
    rw [Lib.parseUint10, if_pos ha.1]
    split
    · exact .inl rfl
    · split
      · exact .inl rfl
      · rcases parse_any l (n * 10 + (c.toNat - 48)) ha.2 with h | ⟨u, h, hu⟩
        · exact .inl h
        · exact .inr ⟨u, h, by omega⟩
theorem parse_va : ∀ (l : List UInt8) (n : Nat), l.all dgt = true → n ≤ big → (va n l ≤ big → Lib.parseUint10 n l = .ok (va n l)) ∧ (¬ va n l ≤ big → Lib.parseUint10 n l = .range ∨ ∃ u, Lib.parseUint10 n l = .ok u ∧ big < u)
  | [], n, _, hn => ⟨fun _ => rfl, fun h => absurd hn h⟩
  | c :: l, n, ha, hn => by
    rw [List.all_cons, Bool.and_eq_true, dgt_iff] at ha
    obtain ⟨⟨h1, h2⟩, ha⟩ := ha
    have hle := va_le l (10 * n + (c.toNat - 48))
    have e : n * 10 + (c.toNat - 48) = 10 * n + (c.toNat - 48) := by omega
    by_cases hs : 10 * n + (c.toNat - 48) ≤ big
    · have ih := parse_va l (10 * n + (c.toNat - 48)) ha hs
      have hp : Lib.parseUint10 n (c :: l) = Lib.parseUint10 (10 * n + (c.toNat - 48)) l := by
        unfold big at hs
        rw [Lib.parseUint10, if_pos ⟨h1, h2⟩, if_neg (by omega), if_neg (by omega), e]
      rw [hp]
      exact ih
    · have hv : ¬ va n (c :: l) ≤ big := by show ¬ va (10 * n + (c.toNat - 48)) l ≤ big; omega
      refine ⟨fun h => absurd h hv, fun _ => ?_⟩
      rw [Lib.parseUint10, if_pos ⟨h1, h2⟩]
      split
      · exact .inl rfl
      · split
        · exact .inl rfl
        · rw [e]
          rcases parse_any l (10 * n + (c.toNat - 48)) ha with h | ⟨u, h, hu⟩
          · exact .inl h
          · exact .inr ⟨u, h, by omega⟩

theorem numl_cons {c : UInt8} {l : List UInt8} (h : numl (c :: l) = true) : dgt c = true ∧ (c :: l).all dgt = true ∧ (c.toNat = 48 → l = []) := by
  unfold numl at h
  simp only [Bool.and_eq_true, Bool.or_eq_true, decide_eq_true_eq, List.length_cons, List.head?_cons, Option.map_some, ne_eq, Option.some.injEq] at h
  obtain ⟨⟨_, h1⟩, h2⟩ := h
  refine ⟨by rw [List.all_cons, Bool.and_eq_true] at h2; exact h2.1, h2, fun h3 => ?_⟩
  rcases h1 with h1 | h1
  · exact List.length_eq_zero_iff.1 (by omega)
  · exact absurd h3 h1
/-- how Atoi ends at a numeral -/
theorem atoi_num {l : List UInt8} (h : numl l = true) : (va 0 l ≤ big → Lib.atoiAll l = .ok (va 0 l : Int)) ∧ (¬ va 0 l ≤ big → Lib.atoiAll l = .range) := by
  cases l with
  | nil => cases h
  | cons c l =>
    obtain ⟨h1, h2, _⟩ := numl_cons h
    rw [dgt_iff] at h1
    have hp : Lib.parseMag (c :: l) = Lib.parseUint10 0 (c :: l) := by unfold Lib.parseMag; rw [if_neg (by simp)]
    rw [Lib.atoiAll_plain c l (by omega) (by omega), hp]
    obtain ⟨a, b⟩ := parse_va (c :: l) 0 h2 (Nat.zero_le _)
    refine ⟨fun hv => ?_, fun hv => ?_⟩
    · rw [a hv]
      unfold big at hv
      simp only [Lib.signless]
      rw [if_neg (by omega)]
    · rcases b hv with b | ⟨u, b, hu⟩
      · rw [b]; rfl
      · rw [b]
        unfold big at hu
        simp only [Lib.signless]
        rw [if_pos (by omega)]
end Go.Proofs.YtdbeomibajcecaaDoor
