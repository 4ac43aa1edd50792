/- The walks of Grow and of Concat at an empty list, nil and one cell. -/
import Derived.Test.YtegednbebmkmhaaFrom
import Derived.Lib.AppendZeros
namespace Go.Proofs.Ytegednbebmkmhaa
open Go.RowKit

set_option maxRecDepth 100000 in
set_option maxHeartbeats 1000000 in
theorem grow_one (w : World) :
    Calls Try.prog 34 #[.slice none 0 0, .int .i64 1] w fun e w' => ∃ g cap, e = .returned (.slice (some ⟨g, 0, none⟩) 0 cap) ∧ w'.ownsRow w.heap.size 34 3 (.slice (some ⟨g, 0, none⟩) 0 cap) 0 [] ∧ 1 ≤ cap ∧ Below w.heap.size w w' := by
  obtain ⟨i0, hi, hz0, hz1, hz2⟩ := info_parts Try.info_cell
  have hrz := fun ty => Lib.run_append_nil_zeros (P := Try.prog) w 23 3 ty 34 i0 (.agg #[.int .i64 0, .int .i64 0, .int .i64 0]) .i64 .i64 Try.underlying23 Try.underlying3 hi hz0 1 (by decide) (by omega) (by decide) (by rw [hz2]; decide)
  have hg := grownCap_ge w 1 0 34
  have hm := grownCap_le_maxLen w 1 0 34 (by unfold maxLen; omega)
  generalize grownCap w 1 0 34 = G at hrz hg hm
  have hsz : (Builtin.zeroCells (Value.agg #[.int .i64 0, .int .i64 0, .int .i64 0]).cells 1 ++ Builtin.zeroCells (Value.agg #[.int .i64 0, .int .i64 0, .int .i64 0]).cells (G - 1)).size = G * 3 := by
    rw [Array.size_append, size_zeroCells, size_zeroCells, show (Value.agg #[.int .i64 0, .int .i64 0, .int .i64 0]).cells.size = 3 by decide]
    omega
  have hw1 : IntKind.i64.wrap 1 = 1 := by decide
  generalize Builtin.zeroCells (Value.agg #[.int .i64 0, .int .i64 0, .int .i64 0]).cells 1 ++ Builtin.zeroCells (Value.agg #[.int .i64 0, .int .i64 0, .int .i64 0]).cells (G - 1) = cur at hrz hsz
  have HOW := Lib.hid (World.ownsRow_made (base := w.heap.size) (e := 34) (size := 3) w.drew cur G (Nat.le_refl _) hm hsz)
  have HM := Lib.hid hm
  have HS := Lib.hid hsz
  unfold maxLen at hm
  clear hsz
  go_enter Try.func34, Try.ntmps34
  go_wp2_with (at_builtin; refine Lib.wpList_append_run _ rfl _ _ _ _ rfl _ _ rfl rfl _ _ (hrz _) ?_)
  go_ret
  exact ⟨w.heap.size, G, rfl, HOW.out, hg, (Below.refl _ _).drew.alloc (Nat.le_refl _) _⟩

set_option maxRecDepth 100000 in
set_option maxHeartbeats 1000000 in
theorem concat_ex (g b c c1 : Nat) (a : C3) (w : World) (h : Row2 w g (0, 0, 2) a) (hb : Blk w b 23 #[.slice (some ⟨g, 0, none⟩) 0 c, .slice none 0 0, .slice (some ⟨g, 3, none⟩) 1 c1]) :
    Calls Try.prog 26 #[.slice (some ⟨b, 0, none⟩) 3 3] w fun e w' => ∃ g' c', e = .returned (.slice (some ⟨g', 0, none⟩) 1 c') ∧ CReads w' w'.heap.size (some ⟨g', 0, none⟩) 1 (fun _ => a) ∧ Below w.heap.size w w' := by
  obtain ⟨i0, hi, hz0, hz1, hz2⟩ := info_parts Try.info_cell
  have k0 : w.cell? ⟨b, 0, none⟩ = some (.slice (some ⟨g, 0, none⟩) 0 c) := (hb.cell 0).trans rfl
  have k1 : w.cell? ⟨b, 1, none⟩ = some (.slice none 0 0) := (hb.cell 1).trans rfl
  have k2 : w.cell? ⟨b, 2, none⟩ = some (.slice (some ⟨g, 3, none⟩) 1 c1) := (hb.cell 2).trans rfl
  have G := Lib.hid grow_one
  have H := Lib.hid h
  have HB := Lib.hid hb
  have hb0 := hb.lt
  clear h hb
  go_enter Try.func26, Try.ntmps26
  go_wp2
  refine wp_loop_rounds 4 ?_
  rw [rounds_succ]
  go_wp2
  rw [rounds_succ]
  go_wp2
  rw [rounds_succ]
  go_wp2
  rw [rounds_succ]
  go_wp2_with (go_at_call 34; (with_reducible refine (G.out _).mono ?_); rintro e w1 ⟨g1, cap, rfl, ho, hc, hbl⟩; have B1 := Lib.hid hbl; have HO := Lib.hid ho; have HC := Lib.hid hc; clear ho hc hbl)
  have l0 := (B1.out.cell (p := ⟨b, 0, none⟩) hb0).trans k0
  have l1 := (B1.out.cell (p := ⟨b, 1, none⟩) hb0).trans k1
  have l2 := (B1.out.cell (p := ⟨b, 2, none⟩) hb0).trans k2
  have l3 := Nat.lt_of_lt_of_le hb0 B1.out.size
  refine wp_loop_rounds 4 ?_
  rw [rounds_succ]
  go_wp2
  rw [rounds_succ]
  go_wp2
  rw [rounds_succ]
  have R1 := H.out.below (B1.out.mono (Nat.le_refl _)) H.out.1
  have hn : ∀ (j : Nat) (u : Value), [Value.int .i64 a.1, .int .i64 a.2.1, .int .i64 a.2.2][j]? = some u → w1.cell? ((⟨g, 3, none⟩ : Addr).add j) = some u := by
    intro j u hj
    match j, hj with
    | 0, hj => simp at hj; subst hj; simpa [Addr.add] using R1.2.2.2.2.2.1
    | 1, hj => simp at hj; subst hj; simpa [Addr.add] using R1.2.2.2.2.2.2.1
    | 2, hj => simp at hj; subst hj; simpa [Addr.add] using R1.2.2.2.2.2.2.2
  have HN := Lib.hid hn
  have s1 := B1.out.size
  clear R1 hn
  go_wp2_with (at_builtin; refine wpList_append_own _ rfl _ _ 23 rfl w.heap.size 34 i0 (.agg #[.int .i64 0, .int .i64 0, .int .i64 0]) 3 24 Try.underlying23 hi hz0 hz1 hz2 rfl (by decide) _ 0 [] rfl HO.out ⟨g, 3, none⟩ 1 c1 [.int .i64 a.1, .int .i64 a.2.1, .int .i64 a.2.2] rfl rfl HN.out (by intro y hy; simp at hy; rcases hy with rfl | rfl | rfl <;> rfl) (by unfold maxLen; omega) (by omega) s1 ?_; intro v' w2 hown2 hg2 _; obtain ⟨g', c', hv, hg', hs'⟩ := hown2.form (by omega); subst hv; have B2 := Lib.hid (B1.out.grown hg2 s1 (fun k hk => (HO.out.lt k hk).1)); have HO2 := Lib.hid hown2; clear hown2 hg2)
  rw [rounds_succ]
  go_wp2
  go_ret
  exact ⟨g', c', rfl, CReads.of_own (f := fun _ => a) HO2.out, B2.out⟩
end Go.Proofs.Ytegednbebmkmhaa
