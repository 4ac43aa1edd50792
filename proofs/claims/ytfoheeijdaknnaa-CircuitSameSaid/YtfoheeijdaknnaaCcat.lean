/- The walks of Grow and of Concat at two lists of gates; that of moved. -/
import Derived.Test.YtfoheeijdaknnaaCir
import Derived.Lib.AppendZeros
namespace Go.Proofs.Ytfoheeijdaknnaa
open Go.RowKit

theorem Try.info_gate : (Try.prog.info? 43).map (fun i => (i.zero, i.size, i.bytes)) = some (some (.agg #[.int .i64 0, .int .i64 0, .int .i64 0]), 3, 24) := by kernel_rfl
theorem cells3_one (f : Nat → C3) (n : Nat) : ∀ u ∈ cells3 f n, u.oneCell' = true := by
  induction n with
  | zero => intro u hu; cases hu
  | succ n ih =>
    intro u hu
    rw [cells3, List.mem_append] at hu
    rcases hu with hu | hu
    · exact ih u hu
    · simp at hu
      rcases hu with rfl | rfl | rfl <;> rfl
theorem cells3_cell {w : World} {g o n : Nat} {f : Nat → C3} (h : ∀ k, k < n → w.cell? ⟨g, o + k * 3, none⟩ = some (.int .i64 (f k).1) ∧ w.cell? ⟨g, o + k * 3 + 1, none⟩ = some (.int .i64 (f k).2.1) ∧ w.cell? ⟨g, o + k * 3 + 2, none⟩ = some (.int .i64 (f k).2.2))
    (j : Nat) (u : Value) (hj : (cells3 f n)[j]? = some u) : w.cell? ((⟨g, o, none⟩ : Addr).add j) = some u := by
  have hl := cells3_len f n
  have hlt : j < n * 3 := by
    rcases Nat.lt_or_ge j (n * 3) with h | h
    · exact h
    · rw [List.getElem?_eq_none (by omega)] at hj; cases hj
  have hq : j / 3 < n := by omega
  obtain ⟨c1, c2, c3⟩ := cells3_at f n (j / 3) hq
  obtain ⟨d1, d2, d3⟩ := h (j / 3) hq
  have hadd : ((⟨g, o, none⟩ : Addr).add j) = ⟨g, o + j, none⟩ := by
    unfold Addr.add
    split
    · next e => subst e; rfl
    · rfl
  rw [hadd]
  have hm : j % 3 = 0 ∨ j % 3 = 1 ∨ j % 3 = 2 := by omega
  rcases hm with hm | hm | hm
  · have e : j / 3 * 3 = j := by omega
    rw [e] at c1 d1
    rw [c1] at hj
    rw [← hj]; exact d1
  · have e : j / 3 * 3 + 1 = j := by omega
    rw [Nat.add_assoc, e] at d2
    rw [e] at c2
    rw [c2] at hj
    rw [← hj]; exact d2
  · have e : j / 3 * 3 + 2 = j := by omega
    rw [Nat.add_assoc, e] at d3
    rw [e] at c3
    rw [c3] at hj
    rw [← hj]; exact d3
/-- two lists of gates, one behind the other -/
def cat (f : Nat → C3) (n : Nat) (g : Nat → C3) (k : Nat) : C3 := if k < n then f k else g (k - n)
theorem cells3_congr {f g : Nat → C3} {n : Nat} (h : ∀ k, k < n → f k = g k) : cells3 f n = cells3 g n := by
  induction n with
  | zero => rfl
  | succ n ih => rw [cells3, cells3, ih (fun k hk => h k (by omega)), h n (by omega)]
theorem cells3_cat (f : Nat → C3) (n : Nat) (g : Nat → C3) (m : Nat) : cells3 f n ++ cells3 g m = cells3 (cat f n g) (n + m) := by
  induction m with
  | zero => rw [cells3, List.append_nil, Nat.add_zero]; exact cells3_congr fun k hk => by simp [cat, hk]
  | succ m ih =>
    rw [cells3, ← List.append_assoc, ih, ← Nat.add_assoc, cells3]
    simp [cat, show ¬ n + m < n by omega]
/-- a list of gates with another one at k -/
def upg (f : Nat → C3) (k : Nat) (v : C3) (i : Nat) : C3 := if i = k then v else f i
theorem cells3_upg (f : Nat → C3) (n k : Nat) (v : C3) (hk : k < n) : (((cells3 f n).set (k * 3) (.int .i64 v.1)).set (k * 3 + 1) (.int .i64 v.2.1)).set (k * 3 + 2) (.int .i64 v.2.2) = cells3 (upg f k v) n := by
  induction n with
  | zero => omega
  | succ n ih =>
    have hl := cells3_len f n
    by_cases h : k < n
    · rw [cells3, cells3, ← ih h, List.set_append_left _ _ (by omega), List.set_append_left _ _ (by simp; omega), List.set_append_left _ _ (by simp; omega)]
      simp only [upg, if_neg (show ¬ n = k by omega)]
    · obtain rfl : k = n := by omega
      rw [cells3, cells3, cells3_congr (f := upg f k v) (g := f) (fun i hi => by simp only [upg]; rw [if_neg (by omega)])]
      rw [List.set_append_right _ _ (by omega), hl, Nat.sub_self, List.set_cons_zero, List.set_append_right _ _ (by omega), hl, List.set_append_right _ _ (by omega), hl]
      simp [upg]

set_option maxRecDepth 100000 in
set_option maxHeartbeats 1000000 in
theorem grow_any (N : Nat) (hN : 0 < N) (hN2 : N ≤ 40000) (w : World) :
    Calls Try.prog 26 #[.slice none 0 0, .int .i64 (N : Int)] w fun e w' => ∃ g cap, e = .returned (.slice (some ⟨g, 0, none⟩) 0 cap) ∧ w'.ownsRow w.heap.size 43 3 (.slice (some ⟨g, 0, none⟩) 0 cap) 0 [] ∧ Below w.heap.size w w' := by
  obtain ⟨i0, hi, hz0, hz1, hz2⟩ := info_parts Try.info_gate
  have hrz := fun ty => Lib.run_append_nil_zeros (P := Try.prog) w 22 3 ty 43 i0 (.agg #[.int .i64 0, .int .i64 0, .int .i64 0]) .i64 .i64 Try.underlying22 Try.underlying3 hi hz0 N hN (by omega) (by omega) (by rw [hz2]; omega)
  have hg := grownCap_ge w N 0 43
  have hm := grownCap_le_maxLen w N 0 43 (by unfold maxLen; omega)
  generalize grownCap w N 0 43 = G at hrz hg hm
  have hsz : (Builtin.zeroCells (Value.agg #[.int .i64 0, .int .i64 0, .int .i64 0]).cells N ++ Builtin.zeroCells (Value.agg #[.int .i64 0, .int .i64 0, .int .i64 0]).cells (G - N)).size = G * 3 := by
    rw [Array.size_append, size_zeroCells, size_zeroCells, show (Value.agg #[.int .i64 0, .int .i64 0, .int .i64 0]).cells.size = 3 by decide]
    omega
  generalize Builtin.zeroCells (Value.agg #[.int .i64 0, .int .i64 0, .int .i64 0]).cells N ++ Builtin.zeroCells (Value.agg #[.int .i64 0, .int .i64 0, .int .i64 0]).cells (G - N) = cur at hrz hsz
  have HOW := Lib.hid (World.ownsRow_made (base := w.heap.size) (e := 43) (size := 3) w.drew cur G (Nat.le_refl _) hm hsz)
  have HM := Lib.hid hm
  have HS := Lib.hid hsz
  unfold maxLen at hm
  have hn0 : (0 : Int) < (N : Int) := by omega
  clear hsz
  go_enter Try.func26, Try.ntmps26
  go_wp2_with (at_builtin; refine Lib.wpList_append_run _ rfl _ _ _ _ rfl _ _ rfl rfl _ _ (hrz _) ?_)
  go_ret
  exact ⟨w.heap.size, G, rfl, HOW.out, (Below.refl _ _).drew.alloc (Nat.le_refl _) _⟩

set_option maxRecDepth 100000 in
set_option maxHeartbeats 1000000 in
theorem concat_any (gL : Nat) (AG BG : Option Addr) (n m cG dG : Nat) (f g : Nat → C3) (w : World) (h : CReads w w.heap.size AG n f) (h' : CReads w w.heap.size BG m g) (hb : Blk w gL 22 #[.slice AG n cG, .slice BG m dG]) (hn : 0 < n) (hm : 0 < m) (hnm : n + m ≤ 40000) :
    Calls Try.prog 18 #[.slice (some ⟨gL, 0, none⟩) 2 2] w fun e w' => ∃ g' c', e = .returned (.slice (some ⟨g', 0, none⟩) (n + m) c') ∧ w'.ownsRow w.heap.size 43 3 (.slice (some ⟨g', 0, none⟩) (n + m) c') (n + m) (cells3 (cat f n g) (n + m)) ∧ Below w.heap.size w w' := by
  obtain ⟨i0, hi, hz0, hz1, hz2⟩ := info_parts Try.info_gate
  have k0 : w.cell? ⟨gL, 0, none⟩ = some (.slice AG n cG) := (hb.cell 0).trans rfl
  have k1 : w.cell? ⟨gL, 1, none⟩ = some (.slice BG m dG) := (hb.cell 1).trans rfl
  have G := Lib.hid (fun w => show Calls Try.prog 26 #[.slice none 0 0, .int .i64 ((n : Int) + (m : Int))] w fun e w' => ∃ g cap, e = .returned (.slice (some ⟨g, 0, none⟩) 0 cap) ∧ w'.ownsRow w.heap.size 43 3 (.slice (some ⟨g, 0, none⟩) 0 cap) 0 [] ∧ Below w.heap.size w w' from by rw [← Int.natCast_add]; exact grow_any (n + m) (by omega) hnm w)
  obtain ⟨g1, o1, rfl, hg1, hc1⟩ := h hn
  obtain ⟨g2, o2, rfl, hg2, hc2⟩ := h' hm
  have L1 := cells3_len f n
  have L2 := cells3_len g m
  have O1 := Lib.hid (cells3_one f n)
  have O2 := Lib.hid (cells3_one g m)
  have N1 := Lib.hid (fun w' (hb : Below w.heap.size w w') j u hj => (hb.cell (p := (⟨g1, o1, none⟩ : Addr).add j) (by rw [block_of_add]; exact hg1)).trans (cells3_cell hc1 j u hj))
  have N2 := Lib.hid (fun w' (hb : Below w.heap.size w w') j u hj => (hb.cell (p := (⟨g2, o2, none⟩ : Addr).add j) (by rw [block_of_add]; exact hg2)).trans (cells3_cell hc2 j u hj))
  have CT := Lib.hid (cells3_cat f n g m)
  rw [← CT.out]
  generalize cells3 f n = xs at L1 O1 N1 ⊢
  generalize cells3 g m = ys at L2 O2 N2 ⊢
  have HB := Lib.hid hb
  have hb0 := hb.lt
  have hnn : ¬ ((n : Int) < 0) := by omega
  have hmm : ¬ ((n : Int) + (m : Int) < 0) := by omega
  clear h h' hb hc1 hc2
  go_enter Try.func18, Try.ntmps18
  go_wp2
  refine wp_loop_rounds 3 ?_
  rw [rounds_succ]
  go_wp2
  rw [rounds_succ]
  go_wp2
  rw [rounds_succ]
  go_wp2_with (go_at_call 26; (with_reducible refine (G.out _).mono ?_); rintro e w1 ⟨g1, cap, rfl, ho, hbl⟩; have B1 := Lib.hid hbl; have HO := Lib.hid ho; clear ho hbl)
  have l0 := (B1.out.cell (p := ⟨gL, 0, none⟩) hb0).trans k0
  have l1 := (B1.out.cell (p := ⟨gL, 1, none⟩) hb0).trans k1
  have l3 := Nat.lt_of_lt_of_le hb0 B1.out.size
  have s1 := B1.out.size
  refine wp_loop_rounds 3 ?_
  rw [rounds_succ]
  go_wp2_with (at_builtin; refine wpList_append_own _ rfl _ _ 22 rfl w.heap.size 43 i0 (.agg #[.int .i64 0, .int .i64 0, .int .i64 0]) 3 24 Try.underlying22 hi hz0 hz1 hz2 rfl (by decide) _ 0 [] rfl HO.out _ n cG xs rfl L1 (N1.out _ B1.out) O1.out (by unfold maxLen; omega) (by omega) s1 ?_; intro v' w2 hown2 hg2 _; obtain ⟨g', c', hv, hg', hs'⟩ := hown2.form (by omega); subst hv; have B2 := Lib.hid (B1.out.grown hg2 s1 (fun k hk => (HO.out.lt k hk).1)); have HO2 := Lib.hid hown2; clear hown2 hg2)
  have m1 := (B2.out.cell (p := ⟨gL, 1, none⟩) hb0).trans k1
  have s2 := B2.out.size
  have HO2 := Lib.hid (show w2.ownsRow w.heap.size 43 3 (.slice (some ⟨g', 0, none⟩) (0 + n) c') (0 + n) xs from HO2.out)
  rw [Nat.zero_add] at HO2
  rw [rounds_succ]
  go_wp2_with (at_builtin; refine wpList_append_own _ rfl _ _ 22 rfl w.heap.size 43 i0 (.agg #[.int .i64 0, .int .i64 0, .int .i64 0]) 3 24 Try.underlying22 hi hz0 hz1 hz2 rfl (by decide) _ n xs rfl HO2.out _ m dG ys rfl L2 (N2.out _ B2.out) O2.out (by unfold maxLen; omega) (by omega) s2 ?_; intro v' w3 hown3 hg3 _; obtain ⟨g'', c'', hv, hg'', hs''⟩ := hown3.form (by omega); subst hv; have B3 := Lib.hid (B2.out.grown hg3 s2 (fun k hk => (HO2.out.lt k hk).1)); have HO3 := Lib.hid hown3; clear hown3 hg3)
  rw [rounds_succ]
  go_wp2
  go_ret
  exact ⟨g'', c'', rfl, HO3.out, B3.out⟩
end Go.Proofs.Ytfoheeijdaknnaa
