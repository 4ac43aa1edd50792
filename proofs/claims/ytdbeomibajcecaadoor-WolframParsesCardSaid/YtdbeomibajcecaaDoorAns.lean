/- Both Parse functions answer the same, on any text of at most 1000 bytes. -/
import Derived.Test.YtdbeomibajcecaaDoorRq
namespace Go.Proofs.YtdbeomibajcecaaDoor
open Go.RowKit

/-- the last slash among the first j bytes -/
def La (l : List UInt8) : Nat → Int
  | 0 => -1
  | j + 1 => if by_ l j = 47 then (j : Int) else La l j
theorem La_yes {l : List UInt8} {j : Nat} (h : by_ l j = 47) : La l (j + 1) = (j : Int) := by unfold La; rw [if_pos h]
theorem La_no {l : List UInt8} {j : Nat} (h : by_ l j ≠ 47) : La l (j + 1) = La l j := by rw [La, if_neg h]
theorem La_bd (l : List UInt8) : ∀ j, -1 ≤ La l j ∧ La l j < j
  | 0 => by unfold La; omega
  | j + 1 => by
    by_cases h : by_ l j = 47
    · rw [La_yes h]; omega
    · rw [La_no h]; have := La_bd l j; omega
theorem La_none {l : List UInt8} (h : 47 ∉ l) : ∀ j, j ≤ l.length → La l j = -1
  | 0, _ => rfl
  | j + 1, hj => by
    have hjl : j < l.length := by omega
    rw [La_no, La_none h j (by omega)]
    intro e
    refine h ?_
    unfold by_ at e
    rw [List.getD_eq_getElem?_getD, List.getElem?_eq_getElem hjl] at e
    have e2 : l[j] = 47 := UInt8.toNat_inj.1 e
    rw [← e2]
    exact List.getElem_mem hjl
theorem by_append (a b : List UInt8) (j : Nat) : by_ (a ++ b) (a.length + j) = by_ b j := by
  unfold by_
  rw [List.getD_eq_getElem?_getD, List.getD_eq_getElem?_getD, List.getElem?_append_right (by omega)]
  congr 3
  omega
theorem La_last (a b : List UInt8) (h : 47 ∉ b) : ∀ j, j ≤ b.length → La (a ++ 47 :: b) (a.length + 1 + j) = (a.length : Int)
  | 0, _ => La_yes (by rw [show a.length = a.length + 0 from rfl, by_append]; rfl)
  | j + 1, hj => by
    have hjl : j < b.length := by omega
    have e : by_ (a ++ 47 :: b) (a.length + 1 + j) = by_ b j := by
      have := by_append (a ++ [47]) b j
      rw [show (a ++ [47]) ++ b = a ++ 47 :: b by simp, List.length_append, List.length_singleton] at this
      exact this
    rw [show a.length + 1 + (j + 1) = (a.length + 1 + j) + 1 by omega, La_no, La_last a b h j (by omega)]
    rw [e]
    intro e
    refine h ?_
    unfold by_ at e
    rw [List.getD_eq_getElem?_getD, List.getElem?_eq_getElem hjl] at e
    have e2 : b[j] = 47 := UInt8.toNat_inj.1 e
    rw [← e2]
    exact List.getElem_mem hjl
theorem split_first : ∀ {r : List UInt8}, 47 ∈ r → ∃ a b, r = a ++ 47 :: b ∧ 47 ∉ a
  | [], h => by cases h
  | c :: r, h => by
    by_cases hc : c = 47
    · exact ⟨[], r, by rw [hc]; rfl, by simp⟩
    · obtain ⟨a, b, h1, h2⟩ := split_first ((List.mem_cons.1 h).resolve_left (fun e => hc e.symm))
      refine ⟨c :: a, b, by rw [h1]; rfl, fun h3 => ?_⟩
      rcases List.mem_cons.1 h3 with h3 | h3
      · exact hc h3.symm
      · exact h2 h3
theorem split_last : ∀ {r : List UInt8}, 47 ∈ r → ∃ a b, r = a ++ 47 :: b ∧ 47 ∉ b
  | [], h => by cases h
  | c :: r, h => by
    by_cases hr : 47 ∈ r
    · obtain ⟨a, b, h1, h2⟩ := split_last hr
      exact ⟨c :: a, b, by rw [h1]; rfl, h2⟩
    · have hc : 47 = c := (List.mem_cons.1 h).resolve_right hr
      exact ⟨[], r, by rw [hc]; rfl, hr⟩
theorem split_one : ∀ {a a' b b' : List UInt8}, a ++ 47 :: b = a' ++ 47 :: b' → 47 ∉ a → 47 ∉ a' → a = a' ∧ b = b'
  | [], [], b, b', h, _, _ => by
    injection h with _ h
    exact ⟨rfl, h⟩
  | [], c :: a', b, b', h, _, h2 => by
    injection h with h _
    exact absurd (by rw [h]; exact List.mem_cons_self) h2
  | c :: a, [], b, b', h, h1, _ => by
    injection h with h _
    exact absurd (by rw [← h]; exact List.mem_cons_self) h1
  | c :: a, c' :: a', b, b', h, h1, h2 => by
    injection h with h3 h4
    obtain ⟨e1, e2⟩ := split_one h4 (fun e => h1 (List.mem_cons_of_mem _ e)) (fun e => h2 (List.mem_cons_of_mem _ e))
    exact ⟨by rw [h3, e1], e2⟩
theorem numl_dgt {l : List UInt8} (h : numl l = true) : l.all dgt = true := by
  unfold numl at h
  rw [Bool.and_eq_true] at h
  exact h.2
theorem numl_slash {l : List UInt8} (h : numl l = true) : 47 ∉ l := fun h2 => by
  have := List.all_eq_true.1 (numl_dgt h) 47 h2
  cases this

/-- what both answer -/
def Both (l : List UInt8) (u : TypeId) (v : Value) : Prop :=
  ∃ a b : Int, ∃ c : Bool, ∃ d : Int, (∀ w, Vr u v w → Calls Tryd.prog 5 #[.string (tx l)] w fun e w' => e = .returned (.tuple #[.int .i64 a, .int .i64 b, .bool c, .int .i64 d]) ∧ Below w.heap.size w w') ∧
    ∀ w, Calls Tryd.prog 6 #[.string (tx l)] w fun e w' => e = .returned (.tuple #[.int .i64 a, .int .i64 b, .bool c, .int .i64 d]) ∧ Below w.heap.size w w'

section
variable (u : TypeId) (v : Value)
/-- the program's Parse behind divide -/
theorem go_syn (l p q : List UInt8) (sm : Bool) (w : World) (hv : Vr u v w) (hp : p.length ≤ 1000) (hq : q.length ≤ 1000) (hpq : (numl p && numl q) = false)
    (D : Calls Tryd.prog 12 #[.string (tx l)] w fun e w' => e = .returned (.tuple #[.string (tx p), .string (tx q), .bool sm]) ∧ Below w.heap.size w w') :
    Calls Tryd.prog 5 #[.string (tx l)] w fun e w' => e = .returned (.tuple #[.int .i64 0, .int .i64 0, .bool false, .int .i64 15]) ∧ Below w.heap.size w w' :=
  parse_syn (tx l) (tx p) (tx q) _ _ u v w sm (numl p) (numl q) hpq hv D (fun w hv => number_any p hp u v w hv) (fun w hv => number_any q hq u v w hv)
theorem number_num {p : List UInt8} (hp : p.length ≤ 1000) (h : numl p = true) (w : World) (hv : Vr u v w) :
    Calls Tryd.prog 13 #[.string (tx p)] w fun e w' => e = .returned (.tuple #[.int .i64 (nv p), .bool true]) ∧ Below w.heap.size w w' := by
  have h2 := number_any p hp u v w hv
  rw [h] at h2
  exact h2
theorem go_w (r : List UInt8) (w : World) (hv : Vr u v w) (hr : r.length ≤ 999) (h : numl r = true) (h2 : 0 ≤ nv r ∧ nv r ≤ 255) :
    Calls Tryd.prog 5 #[.string (tx (87 :: r))] w fun e w' => e = .returned (.tuple #[.int .i64 2, .int .i64 (nv r), .bool false, .int .i64 0]) ∧ Below w.heap.size w w' :=
  parse_elem_ok (tx (87 :: r)) (tx r) (tx [50]) (nv r) 2 u v w h2 hv (divide_w r w hr) (fun w hv => number_num u v (by omega) h w hv) (fun w hv => number_num u v (p := [50]) (by decide) (by decide) w hv)
theorem go_w5 (r : List UInt8) (w : World) (hv : Vr u v w) (hr : r.length ≤ 999) (h : numl r = true) (h2 : ¬ (0 ≤ nv r ∧ nv r ≤ 255)) :
    Calls Tryd.prog 5 #[.string (tx (87 :: r))] w fun e w' => e = .returned (.tuple #[.int .i64 0, .int .i64 0, .bool false, .int .i64 5]) ∧ Below w.heap.size w w' :=
  parse_elem_no (tx (87 :: r)) (tx r) (tx [50]) (nv r) 2 u v w h2 hv (divide_w r w hr) (fun w hv => number_num u v (by omega) h w hv) (fun w hv => number_num u v (p := [50]) (by decide) (by decide) w hv)
theorem go_t (a b : List UInt8) (w : World) (hv : Vr u v w) (hr : a.length + b.length + 1 ≤ 999) (ha : numl a = true) (hb : numl b = true) (h2 : der (nv b) (nv a) = 0) :
    Calls Tryd.prog 5 #[.string (tx (84 :: (a ++ 47 :: b)))] w fun e w' => e = .returned (.tuple #[.int .i64 (nv b), .int .i64 (nv a), .bool true, .int .i64 0]) ∧ Below w.heap.size w w' :=
  parse_total_ok (tx (84 :: (a ++ 47 :: b))) (tx a) (tx b) (nv a) (nv b) u v w (nv_bd a).2 h2 hv (divide_t (a ++ 47 :: b) (tx a) (tx b) true w (by simp; omega) (cut_yes b w (numl_slash ha) (by omega))) (fun w hv => number_num u v (by omega) ha w hv) (fun w hv => number_num u v (by omega) hb w hv)
theorem go_t5 (a b : List UInt8) (w : World) (hv : Vr u v w) (hr : a.length + b.length + 1 ≤ 999) (ha : numl a = true) (hb : numl b = true) (h2 : der (nv b) (nv a) ≠ 0) :
    Calls Tryd.prog 5 #[.string (tx (84 :: (a ++ 47 :: b)))] w fun e w' => e = .returned (.tuple #[.int .i64 0, .int .i64 0, .bool false, .int .i64 5]) ∧ Below w.heap.size w w' :=
  parse_total_no (tx (84 :: (a ++ 47 :: b))) (tx a) (tx b) (nv a) (nv b) u v w (nv_bd a).2 h2 hv (divide_t (a ++ 47 :: b) (tx a) (tx b) true w (by simp; omega) (cut_yes b w (numl_slash ha) (by omega))) (fun w hv => number_num u v (by omega) ha w hv) (fun w hv => number_num u v (by omega) hb w hv)
end

/-- the reference where neither a W nor a T with a slash comes first, or a W with no number behind it -/
theorem ref_syn (c : UInt8) (r : List UInt8) (w : World) (hl : (c :: r).length ≤ 1000) (hg : c.toNat ≠ 87 ∨ (c.toNat = 87 ∧ numl r = false)) (ht : c.toNat ≠ 84 ∨ La (c :: r) (tx (c :: r)).size < 1) :
    Calls Tryd.prog 6 #[.string (tx (c :: r))] w fun e w' => e = .returned (.tuple #[.int .i64 0, .int .i64 0, .bool false, .int .i64 15]) ∧ Below w.heap.size w w' := by
  have hz := tx_size (c :: r)
  have hb := La_bd (c :: r) (tx (c :: r)).size
  have h0 : 0 < (tx (c :: r)).size := by rw [hz]; simp
  rcases hg with hg | ⟨hg, hn⟩
  · by_cases hlow : La (c :: r) (tx (c :: r)).size < 1
    · exact rp1_low (tx (c :: r)) (by_ (c :: r)) (La (c :: r)) w (fun j hj => by_at _ j hj) (by omega) h0 rfl (fun j _ h => La_yes h) (fun j _ h => La_no h) hg hlow
    · obtain ⟨m, hm⟩ := Int.eq_ofNat_of_zero_le (show 0 ≤ La (c :: r) (tx (c :: r)).size by omega)
      exact rp1_ne (tx (c :: r)) (by_ (c :: r)) (La (c :: r)) w (fun j hj => by_at _ j hj) (by omega) h0 rfl (fun j _ h => La_yes h) (fun j _ h => La_no h) hg m hm (by omega) (by omega) (ht.resolve_right hlow)
  · have hx : (tx (c :: r)).extract 1 (tx (c :: r)).size = tx r := tx_right [c] r _ (by rw [hz]; simp; omega)
    have NG : ∀ w : World, Calls Tryd.prog 14 #[.string ((tx (c :: r)).extract 1 (tx (c :: r)).size)] w fun e w' => e = .returned (.bool false) ∧ w = w' := fun w => by
      rw [hx, ← hn]
      exact numeral_any r w (by simp at hl; omega)
    by_cases hlow : La (c :: r) (tx (c :: r)).size < 1
    · exact rp2_low (tx (c :: r)) (by_ (c :: r)) (La (c :: r)) w (fun j hj => by_at _ j hj) (by omega) h0 rfl (fun j _ h => La_yes h) (fun j _ h => La_no h) hg NG hlow
    · obtain ⟨m, hm⟩ := Int.eq_ofNat_of_zero_le (show 0 ≤ La (c :: r) (tx (c :: r)).size by omega)
      exact rp2_ne (tx (c :: r)) (by_ (c :: r)) (La (c :: r)) w (fun j hj => by_at _ j hj) (by omega) h0 rfl (fun j _ h => La_yes h) (fun j _ h => La_no h) hg NG m hm (by omega) (by omega) (show c.toNat ≠ 84 by omega)
end Go.Proofs.YtdbeomibajcecaaDoor
