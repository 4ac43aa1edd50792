/- Both Parse functions answer the same, on any text of at most 1000 bytes: the cases. -/
import Derived.Test.YtdbeomibajcecaaDoorAns
namespace Go.Proofs.YtdbeomibajcecaaDoor
open Go.RowKit

section
variable (u : TypeId) (v : Value)
theorem both_w (r : List UInt8) (hr : r.length ≤ 999) (h : numl r = true) : Both (87 :: r) u v := by
  have hz := tx_size (87 :: r)
  have hl : (87 :: r).length ≤ 1000 := by simp; omega
  have h0 : 0 < (tx (87 :: r)).size := by rw [hz]; simp
  have hx : (tx (87 :: r)).extract 1 (tx (87 :: r)).size = tx r := tx_right [87] r _ (by rw [hz]; simp; omega)
  have NG : ∀ w : World, Calls Tryd.prog 14 #[.string ((tx (87 :: r)).extract 1 (tx (87 :: r)).size)] w fun e w' => e = .returned (.bool true) ∧ w = w' := fun w => by
    rw [hx, ← h]
    exact numeral_any r w (by omega)
  have V := fun w => value_any r w (by omega) (numl_dgt h)
  by_cases hb : va 0 r ≤ big
  · have hn : nv r = (va 0 r : Int) := by unfold nv; rw [if_pos hb]
    have V1 : ∀ w : World, Calls Tryd.prog 15 #[.string ((tx (87 :: r)).extract 1 (tx (87 :: r)).size)] w fun e w' => e = .returned (.tuple #[.int .i64 (nv r), .bool true]) ∧ w = w' := fun w => by
      have h2 := V w
      rw [if_pos hb, decide_eq_true hb, ← hn] at h2
      rw [hx]
      exact h2
    by_cases h5 : nv r ≤ 255
    · exact ⟨2, nv r, false, 0, fun w hv => go_w u v r w hv hr h ⟨by omega, h5⟩, fun w => rpw_ok (tx (87 :: r)) (by_ (87 :: r)) w (fun j hj => by_at _ j hj) (by omega) h0 rfl (nv r) h5 NG V1⟩
    · exact ⟨0, 0, false, 5, fun w hv => go_w5 u v r w hv hr h (fun h2 => h5 h2.2), fun w => rpw_big (tx (87 :: r)) (by_ (87 :: r)) w (fun j hj => by_at _ j hj) (by omega) h0 rfl (nv r) h5 NG V1⟩
  · have hn : nv r = -1 := by unfold nv; rw [if_neg hb]
    have V1 : ∀ w : World, Calls Tryd.prog 15 #[.string ((tx (87 :: r)).extract 1 (tx (87 :: r)).size)] w fun e w' => e = .returned (.tuple #[.int .i64 0, .bool false]) ∧ w = w' := fun w => by
      have h2 := V w
      rw [if_neg hb, decide_eq_false hb] at h2
      rw [hx]
      exact h2
    exact ⟨0, 0, false, 5, fun w hv => go_w5 u v r w hv hr h (fun h2 => by omega), fun w => rpw_none (tx (87 :: r)) (by_ (87 :: r)) w (fun j hj => by_at _ j hj) (by omega) h0 rfl 0 NG V1⟩

/-- what the reference needs of a T with a slash: its pieces -/
theorem pieces (a b : List UInt8) (hb : 47 ∉ b) (hl : a.length + b.length + 1 ≤ 999) :
    (tx (84 :: (a ++ 47 :: b))).size = a.length + b.length + 2 ∧ La (84 :: (a ++ 47 :: b)) (tx (84 :: (a ++ 47 :: b))).size = ((a.length + 1 : Nat) : Int) ∧
    (tx (84 :: (a ++ 47 :: b))).extract 1 (a.length + 1) = tx a ∧ (tx (84 :: (a ++ 47 :: b))).extract (a.length + 1 + 1) (tx (84 :: (a ++ 47 :: b))).size = tx b := by
  have hz : (tx (84 :: (a ++ 47 :: b))).size = a.length + b.length + 2 := by rw [tx_size]; simp; omega
  refine ⟨hz, ?_, ?_, ?_⟩
  · have h := La_last (84 :: a) b hb b.length (Nat.le_refl _)
    rw [hz]
    rw [show (84 :: a).length + 1 + b.length = a.length + b.length + 2 by simp; omega] at h
    exact h
  · have e := tx_left (84 :: a) (47 :: b)
    apply ByteArray.ext
    simp [tx, ByteArray.data_extract]
  · have e := tx_right (84 :: a ++ [47]) b (tx (84 :: (a ++ 47 :: b))).size (by rw [hz]; simp; omega)
    have e1 : (84 :: a ++ [47]) ++ b = 84 :: (a ++ 47 :: b) := by simp
    have e2 : (84 :: a ++ [47]).length = a.length + 1 + 1 := by simp
    rw [e1, e2] at e
    exact e
theorem num_piece {s : ByteArray} {l : List UInt8} (hx : s = tx l) (hl : l.length ≤ 1000) (w : World) :
    Calls Tryd.prog 14 #[.string s] w fun e w' => e = .returned (.bool (numl l)) ∧ w = w' := by
  rw [hx]; exact numeral_any l w hl
theorem val_piece {s : ByteArray} {l : List UInt8} (hx : s = tx l) (hl : l.length ≤ 1000) (h : numl l = true) (w : World) :
    Calls Tryd.prog 15 #[.string s] w fun e w' => e = .returned (.tuple #[.int .i64 (if va 0 l ≤ big then (va 0 l : Int) else 0), .bool (decide (va 0 l ≤ big))]) ∧ w = w' := by
  rw [hx]; exact value_any l w hl (numl_dgt h)
theorem ref_nums (a b : List UInt8) (w : World) (hb : 47 ∉ b) (hl : a.length + b.length + 1 ≤ 999) (hn : (numl a && numl b) = false) :
    Calls Tryd.prog 6 #[.string (tx (84 :: (a ++ 47 :: b)))] w fun e w' => e = .returned (.tuple #[.int .i64 0, .int .i64 0, .bool false, .int .i64 15]) ∧ Below w.heap.size w w' := by
  obtain ⟨hz, hL, hxa, hxb⟩ := pieces a b hb hl
  have NA := num_piece hxa (by omega)
  have NB := num_piece hxb (by omega)
  have g0 : by_ (84 :: (a ++ 47 :: b)) 0 = 84 := rfl
  cases ha : numl a with
  | false =>
    rw [ha] at NA
    exact rp1_na (tx (84 :: (a ++ 47 :: b))) (by_ (84 :: (a ++ 47 :: b))) (La (84 :: (a ++ 47 :: b))) w (fun j hj => by_at _ j hj) (by omega) (by omega) rfl (fun j _ h => La_yes h) (fun j _ h => La_no h) (by omega) (a.length + 1) hL (by omega) (by omega) g0 NA
  | true =>
    rw [ha, Bool.true_and] at hn
    rw [ha] at NA
    rw [hn] at NB
    exact rp1_nb (tx (84 :: (a ++ 47 :: b))) (by_ (84 :: (a ++ 47 :: b))) (La (84 :: (a ++ 47 :: b))) w (fun j hj => by_at _ j hj) (by omega) (by omega) rfl (fun j _ h => La_yes h) (fun j _ h => La_no h) (by omega) (a.length + 1) hL (by omega) (by omega) g0 NA NB
theorem both_t (a b : List UInt8) (hl : a.length + b.length + 1 ≤ 999) (ha : numl a = true) (hb : numl b = true) : Both (84 :: (a ++ 47 :: b)) u v := by
  obtain ⟨hz, hL, hxa, hxb⟩ := pieces a b (numl_slash hb) hl
  have NA := num_piece hxa (by omega)
  have NB := num_piece hxb (by omega)
  rw [ha] at NA
  rw [hb] at NB
  have VA := val_piece hxa (by omega) ha
  have VB := val_piece hxb (by omega) hb
  have g0 : by_ (84 :: (a ++ 47 :: b)) 0 = 84 := rfl
  by_cases h1 : va 0 a ≤ big
  · have n1 : nv a = (va 0 a : Int) := by unfold nv; rw [if_pos h1]
    rw [if_pos h1, decide_eq_true h1, ← n1] at VA
    by_cases h2 : va 0 b ≤ big
    · have n2 : nv b = (va 0 b : Int) := by unfold nv; rw [if_pos h2]
      rw [if_pos h2, decide_eq_true h2, ← n2] at VB
      by_cases hd : der (nv b) (nv a) = 0
      · exact ⟨nv b, nv a, true, 0, fun w hv => go_t u v a b w hv hl ha hb hd, fun w => rp1_ok (tx (84 :: (a ++ 47 :: b))) (by_ (84 :: (a ++ 47 :: b))) (La (84 :: (a ++ 47 :: b))) w (fun j hj => by_at _ j hj) (by omega) (by omega) rfl (fun j _ h => La_yes h) (fun j _ h => La_no h) (by omega) (a.length + 1) hL (by omega) (by omega) g0 (nv a) (nv b) (nv_bd a).2 hd NA NB VA VB⟩
      · exact ⟨0, 0, false, 5, fun w hv => go_t5 u v a b w hv hl ha hb hd, fun w => rp1_no (tx (84 :: (a ++ 47 :: b))) (by_ (84 :: (a ++ 47 :: b))) (La (84 :: (a ++ 47 :: b))) w (fun j hj => by_at _ j hj) (by omega) (by omega) rfl (fun j _ h => La_yes h) (fun j _ h => La_no h) (by omega) (a.length + 1) hL (by omega) (by omega) g0 (nv a) (nv b) (nv_bd a).2 hd NA NB VA VB⟩
    · have n2 : nv b = -1 := by unfold nv; rw [if_neg h2]
      have hd : der (nv b) (nv a) ≠ 0 := by rw [n2]; unfold der; rw [if_pos (by omega)]; omega
      rw [decide_eq_false h2] at VB
      exact ⟨0, 0, false, 5, fun w hv => go_t5 u v a b w hv hl ha hb hd, fun w => rp1_vb (tx (84 :: (a ++ 47 :: b))) (by_ (84 :: (a ++ 47 :: b))) (La (84 :: (a ++ 47 :: b))) w (fun j hj => by_at _ j hj) (by omega) (by omega) rfl (fun j _ h => La_yes h) (fun j _ h => La_no h) (by omega) (a.length + 1) hL (by omega) (by omega) g0 (nv a) _ NA NB VA VB⟩
  · have n1 : nv a = -1 := by unfold nv; rw [if_neg h1]
    have hd : der (nv b) (nv a) ≠ 0 := by
      rw [n1]; unfold der
      by_cases h3 : 2 ≤ nv b ∧ nv b ≤ 8
      · rw [if_neg (fun h => h h3), if_pos (by omega)]; omega
      · rw [if_pos h3]; omega
    rw [decide_eq_false h1] at VA
    exact ⟨0, 0, false, 5, fun w hv => go_t5 u v a b w hv hl ha hb hd, fun w => rp1_va (tx (84 :: (a ++ 47 :: b))) (by_ (84 :: (a ++ 47 :: b))) (La (84 :: (a ++ 47 :: b))) w (fun j hj => by_at _ j hj) (by omega) (by omega) rfl (fun j _ h => La_yes h) (fun j _ h => La_no h) (by omega) (a.length + 1) hL (by omega) (by omega) g0 _ _ _ NA NB VA VB⟩
theorem both_any (l : List UInt8) (hl : l.length ≤ 1000) : Both l u v := by
  match l, hl with
  | [], hl => exact ⟨0, 0, false, 15, fun w hv => go_syn u v [] [] [] false w hv (by decide) (by decide) rfl (divide_no [] w (by decide) (by simp) (by simp)), fun w => rp_empty w⟩
  | c :: r, hl =>
    have hr : r.length ≤ 999 := by simp at hl; omega
    by_cases h87 : c = 87
    · subst h87
      cases hn : numl r with
      | true => exact both_w u v r hr hn
      | false => exact ⟨0, 0, false, 15, fun w hv => go_syn u v (87 :: r) r [50] false w hv (by omega) (by decide) (by rw [hn]; rfl) (divide_w r w hr), fun w => ref_syn 87 r w hl (.inr ⟨rfl, hn⟩) (.inl (by decide))⟩
    · have h87' : c.toNat ≠ 87 := fun e => h87 (UInt8.toNat_inj.1 e)
      by_cases h84 : c = 84
      · subst h84
        by_cases hs : 47 ∈ r
        · obtain ⟨a, b, hab, ha⟩ := split_first hs
          subst hab
          have hlen : a.length + b.length + 1 ≤ 999 := by simp at hr; omega
          cases hn : numl a && numl b with
          | true =>
            rw [Bool.and_eq_true] at hn
            exact both_t u v a b hlen hn.1 hn.2
          | false =>
            refine ⟨0, 0, false, 15, fun w hv => go_syn u v (84 :: (a ++ 47 :: b)) a b true w hv (by omega) (by omega) hn (divide_t (a ++ 47 :: b) (tx a) (tx b) true w hr (cut_yes b w ha (by omega))), fun w => ?_⟩
            obtain ⟨a2, b2, hab2, hb2⟩ := split_last hs
            have hlen2 : a2.length + b2.length + 1 ≤ 999 := by rw [hab2] at hr; simp at hr; omega
            have hn2 : (numl a2 && numl b2) = false := by
              rw [← Bool.not_eq_true, Bool.and_eq_true]
              rintro ⟨x1, x2⟩
              obtain ⟨rfl, rfl⟩ := split_one hab2 ha (numl_slash x1)
              rw [x1, x2] at hn
              cases hn
            rw [hab2]
            exact ref_nums a2 b2 w hb2 hlen2 hn2
        · refine ⟨0, 0, false, 15, fun w hv => go_syn u v (84 :: r) r [] true w hv (by omega) (by decide) (by rw [show numl [] = false from rfl, Bool.and_false]) (divide_t r (tx r) (tx []) false w hr (cut_no w hs)), fun w => ref_syn 84 r w hl (.inl (by decide)) (.inr ?_)⟩
          rw [La_none (l := 84 :: r) (by simpa using hs) _ (by rw [tx_size]; exact Nat.le_refl _)]
          decide
      · have h84' : c.toNat ≠ 84 := fun e => h84 (UInt8.toNat_inj.1 e)
        exact ⟨0, 0, false, 15, fun w hv => go_syn u v (c :: r) [] [] false w hv (by decide) (by decide) rfl (divide_no (c :: r) w hl (fun r' h => by injection h with h _; exact h87 h) (fun r' h => by injection h with h _; exact h84 h)), fun w => ref_syn c r w hl (.inl h87') (.inl h84')⟩
end
end Go.Proofs.YtdbeomibajcecaaDoor
