/- The walks of Sort at the chapter's list of three positions. -/
import Derived.Test.YtpcpelfjhpdndaaIns
import Derived.Test.YtpcpelfjhpdndaaPts
import Derived.Lib.SliceRun
namespace Go.Proofs.Ytpcpelfjhpdndaa
open Go.RowKit

theorem pdq_ex (g c : Nat) (l : Int) (w : World) (h : Row6 w g 2 1 5 0 2 1) :
    Calls Try.prog 29 #[.slice (some ⟨g, 0, none⟩) 3 c, .int .i64 0, .int .i64 3, .int .i64 l, .func (.func 14) #[] #[]] w fun e w' => e = .returned (.tuple #[]) ∧ Row6 w' g 5 0 2 1 2 1 ∧ Below g w w' := by
  have hi := Lib.hid (ins_ex g c w h)
  clear h
  go_enter Try.func29, Try.ntmps29
  go_wp2
  refine wp_loop_rounds 1 ?_
  rw [rounds_succ]
  go_wp2_with (go_at_call 32; (with_reducible refine hi.out.mono ?_); rintro e w' ⟨rfl, h1, h2⟩; have H1 := Lib.hid h1; have H2 := Lib.hid h2; clear h1 h2)
  (try simp only [Exit.inBlock, Exit.then])
  refine bodyPost_ret (results_none rfl _ _ _) rfl ?_
  exact ⟨rfl, H1.out, H2.out⟩

theorem sortf_ex (g c : Nat) (w : World) (h : Row6 w g 2 1 5 0 2 1) :
    Calls Try.prog 24 #[.slice (some ⟨g, 0, none⟩) 3 c, .func (.func 14) #[] #[]] w fun e w' => e = .returned (.tuple #[]) ∧ Row6 w' g 5 0 2 1 2 1 ∧ Below g w w' := by
  have hp := Lib.hid (fun l => pdq_ex g c l w h)
  clear h
  go_enter Try.func24, Try.ntmps24
  go_wp2_with (first | (go_at_call 30; refine (len_three _).mono ?_; rintro e w' ⟨l, rfl, rfl⟩) | (go_at_call 29; (with_reducible refine (hp.out _).mono ?_); rintro e w' ⟨rfl, h1, h2⟩; have H1 := Lib.hid h1; have H2 := Lib.hid h2; clear h1 h2))
  go_end0
  exact ⟨rfl, H1.out, H2.out⟩

theorem nil_eq (g n c : Nat) (w : World) : Sem.run Try.prog (binOp BinOp.eql 26 (.slice (some ⟨g, 0, none⟩) n c) (.slice none 0 0)) w = .ok (.bool false) w := by kernel_rfl

theorem own_le2 {w : World} {base : Nat} {e : TypeId} {A : Option Addr} {n c : Nat} {xs : List Value} (h : w.ownsRow base e 2 (.slice A n c) n xs) : n ≤ c := by
  rcases h.2 with ⟨h1, h2⟩ | ⟨g, cap, cur, h1, _, _, h2, _⟩
  · omega
  · injection h1 with _ _ h3; omega
theorem Row6.alloc {w : World} {g : Nat} {a b c d e f : Int} (h : Row6 w g a b c d e f) (o : Obj) : Row6 (w.alloc o) g a b c d e f :=
  h.below ((Below.refl w.heap.size w).alloc (Nat.le_refl _) o) h.1

set_option maxRecDepth 100000 in
set_option maxHeartbeats 1000000 in
/-- a copy of three positions: a row of the call's own -/
theorem clone_ex (g c : Nat) (a b d e f i : Int) (w : World) (h : Row6 w g a b d e f i) :
    Calls Try.prog 23 #[.slice (some ⟨g, 0, none⟩) 3 c] w fun e' w' => ∃ g' c', e' = .returned (.slice (some ⟨g', 0, none⟩) 3 c') ∧ w.heap.size ≤ g' ∧ 3 ≤ c' ∧ Row6 w' g' a b d e f i ∧ Below w.heap.size w w' := by
  obtain ⟨i0, hi, hz0, hz1, hz2⟩ := info_parts Try.info_point
  have hg := h.1
  obtain ⟨l0, l1, l2, l3, l4, l5, l6, l7⟩ := h.alloc (.cells #[] 36)
  have hown := World.ownsRow_lit (e := 36) (size := 2) (base := w.heap.size) w #[] 0 (Nat.le_refl _) (by decide) rfl
  have HO := Lib.hid hown
  have L := Lib.hid (show ∀ (j : Nat) (u : Value), [Value.int .i64 a, .int .i64 b, .int .i64 d, .int .i64 e, .int .i64 f, .int .i64 i][j]? = some u → (w.alloc (.cells #[] 36)).cell? ((⟨g, 0, none⟩ : Addr).add j) = some u by
    intro j u hj
    match j, hj with
    | 0, hj => simp at hj; subst hj; simpa [Addr.add] using l2
    | 1, hj => simp at hj; subst hj; simpa [Addr.add] using l3
    | 2, hj => simp at hj; subst hj; simpa [Addr.add] using l4
    | 3, hj => simp at hj; subst hj; simpa [Addr.add] using l5
    | 4, hj => simp at hj; subst hj; simpa [Addr.add] using l6
    | 5, hj => simp at hj; subst hj; simpa [Addr.add] using l7)
  have hn := nil_eq g 3 c
  clear h hown l0 l1 l2 l3 l4 l5 l6 l7
  go_enter Try.func23, Try.ntmps23
  go_wp2_with (at_builtin; (refine wpList_append_own _ rfl _ _ 26 rfl w.heap.size 36 i0 (.agg #[.int .i64 0, .int .i64 0]) 2 16 Try.underlying26 hi hz0 hz1 hz2 rfl (by decide) _ 0 [] rfl HO.out ⟨g, 0, none⟩ 3 c [.int .i64 a, .int .i64 b, .int .i64 d, .int .i64 e, .int .i64 f, .int .i64 i] rfl rfl L.out (by simp [Value.oneCell']) (by unfold maxLen; omega) (by omega) (by simp) ?_; intro v' w' hown' hgrow hnil; obtain ⟨g', c', rfl, hg', hs'⟩ := hown'.form (by omega)))
  go_ret
  have hle := own_le2 hown'
  refine ⟨g', c', rfl, hg', hle, ⟨hs', fun j => hown'.frozenAt j, ?_, ?_, ?_, ?_, ?_, ?_⟩, ?_⟩
  · rw [hown'.cellAt 0 (by omega)]; rfl
  · rw [hown'.cellAt 1 (by omega)]; rfl
  · rw [hown'.cellAt 2 (by omega)]; rfl
  · rw [hown'.cellAt 3 (by omega)]; rfl
  · rw [hown'.cellAt 4 (by omega)]; rfl
  · rw [hown'.cellAt 5 (by omega)]; rfl
  · exact ((Below.refl w.heap.size w).alloc (Nat.le_refl _) _).grown hgrow (by simp) (fun k hk => by obtain rfl := Option.some.inj hk; exact Nat.le_refl _)

theorem zero_point (w : World) : (zeroValue 36).run Try.prog w = .ok (.agg #[.int .i64 0, .int .i64 0]) w := by kernel_rfl
/-- clear of one position -/
theorem clear_one (g o c : Nat) (ty : TypeId) (w : World) (h0 : (w.cell? ⟨g, o, none⟩).isSome = true) (h1 : (w.cell? ⟨g, o + 1, none⟩).isSome = true) (hf : ∀ j, w.frozen? ⟨g, j, none⟩ = false) :
    (Builtin.clear_ #[26] ty #[.slice (some ⟨g, o, none⟩) 1 c]).run Try.prog w = .ok (.tuple #[]) ((w.setCell ⟨g, o, none⟩ (.int .i64 0)).setCell ⟨g, o + 1, none⟩ (.int .i64 0)) := by
  have hz : (Builtin.zeroCells (Value.agg #[.int .i64 0, .int .i64 0]).cells 1).toList = [.int .i64 0, .int .i64 0] := by kernel_rfl
  have hst := run_storeCells_cells (P := Try.prog) g o [.int .i64 0, .int .i64 0] 0 w (by intro j hj; match j, hj with | 0, _ => exact h0 | 1, _ => exact h1) (by intro j _; exact hf _) (by intro v hv; simp at hv; subst hv; rfl)
  simp only [Nat.add_zero] at hst
  simp [Builtin.clear_, run_underlying Try.underlying26, zero_point, hz, hst, World.setCells]
theorem Row6.tail {w : World} {g : Nat} {a b c d e f : Int} (h : Row6 w g a b c d e f) : Row6 ((w.setCell ⟨g, 4, none⟩ (.int .i64 0)).setCell ⟨g, 5, none⟩ (.int .i64 0)) g a b c d 0 0 := by
  obtain ⟨l0, l1, l2, l3, l4, l5, l6, l7⟩ := h
  refine ⟨by simpa [World.setCell] using l0, fun j => ?_, ?_, ?_, ?_, ?_, ?_, ?_⟩
  · simpa using l1 j
  all_goals simp [go_sem, l0, l1, l2, l3, l4, l5, l6, l7]

set_option maxRecDepth 100000 in
set_option maxHeartbeats 1000000 in
/-- the last of the three positions is struck: it is the one before it -/
theorem compact_ex (g c : Nat) (w : World) (h : Row6 w g 5 0 2 1 2 1) (hc : 3 ≤ c) :
    Calls Try.prog 25 #[.slice (some ⟨g, 0, none⟩) 3 c] w fun e' w' => e' = .returned (.slice (some ⟨g, 0, none⟩) 2 c) ∧ Row6 w' g 5 0 2 1 0 0 ∧ Below g w w' := by
  obtain ⟨l0, l1, l2, l3, l4, l5, l6, l7⟩ := h
  have hw0 : IntKind.i64.wrap 0 = 0 := by decide
  have hw1 : IntKind.i64.wrap 1 = 1 := by decide
  have hcl : ∀ k ty, (Builtin.clear_ #[26] ty #[.slice (some ⟨g, 4, none⟩) 1 k]).run Try.prog w.drew.drew = .ok (.tuple #[]) ((w.drew.drew.setCell ⟨g, 4, none⟩ (.int .i64 0)).setCell ⟨g, 5, none⟩ (.int .i64 0)) :=
    fun k ty => clear_one g 4 k ty w.drew.drew (by simpa using congrArg Option.isSome l6) (by simpa using congrArg Option.isSome l7) (fun j => l1 j)
  go_enter Try.func25, Try.ntmps25
  go_wp2
  refine wp_loop_rounds 2 ?_
  rw [rounds_succ]
  go_wp2_with fail
  go_region
  all_goals go_wp2
  rw [rounds_succ]
  go_wp2_with fail
  go_region
  all_goals go_wp2
  refine wp_loop_rounds 1 ?_
  rw [rounds_succ]
  go_wp2
  go_ret
  have hE := Row6.tail ⟨l0, l1, l2, l3, l4, l5, l6, l7⟩
  exact ⟨rfl, hE.drew.drew, (((Below.refl g w).setCell (p := ⟨g, 4, none⟩) (Nat.le_refl _) _).setCell (p := ⟨g, 5, none⟩) (Nat.le_refl _) _).drew.drew⟩

theorem sort_ex (g c : Nat) (w : World) (h : Row6 w g 2 1 5 0 2 1) :
    Calls Try.prog 11 #[.slice (some ⟨g, 0, none⟩) 3 c] w fun e' w' => ∃ g' c', e' = .returned (.slice (some ⟨g', 0, none⟩) 2 c') ∧ Row6 w' g' 5 0 2 1 0 0 ∧ Below w.heap.size w w' := by
  have h1 := Lib.hid (clone_ex g c 2 1 5 0 2 1 w h)
  clear h
  go_enter Try.func11, Try.ntmps11
  go_wp2_with (first
    | (go_at_call 23; (with_reducible refine h1.out.mono ?_); rintro e w1 ⟨g', c', rfl, a1, a2, a3, a4⟩; have A1 := Lib.hid a1; have A2 := Lib.hid a2; have A3 := Lib.hid a3; have A4 := Lib.hid a4; clear a1 a2 a3 a4)
    | (go_at_call 24; (with_reducible refine (sortf_ex g' c' w1 A3.out).mono ?_); rintro e w2 ⟨rfl, a1, a2⟩; have B1 := Lib.hid a1; have B2 := Lib.hid (A4.out.trans (a2.mono A1.out)); clear a1 a2)
    | (go_at_call 25; (with_reducible refine (compact_ex g' c' w2 B1.out A2.out).mono ?_); rintro e w3 ⟨rfl, a1, a2⟩; have C1 := Lib.hid a1; have C2 := Lib.hid (B2.out.trans (a2.mono A1.out)); clear a1 a2))
  go_ret
  exact ⟨g', c', rfl, C1.out, C2.out⟩
end Go.Proofs.Ytpcpelfjhpdndaa
