/- The walks of From at the chapter's examples. -/
import Derived.Test.YtegednbebmkmhaaIns
import Derived.Test.YtegednbebmkmhaaEx
import Derived.Test.YtegednbebmkmhaaShift
namespace Go.Proofs.Ytegednbebmkmhaa
open Go.RowKit

/-- append of one cell onto a row of the call's own -/
theorem wpList_append3 {P : Program} {w : World} {ops : Array Oper} {rest : List Oper} {o : Oper} {a : Act} {Q : Exit → Act → World → Prop} (hgd : o.guard = none) (s x : Operand) (t : TypeId)
    (ho : o.op = .call { callee := .builtin .append, args := #[s, x], argTypes := #[t, t] })
    (base : Nat) (e : TypeId) (i : TypeInfo) (z : Value) (bytes : Nat) (ht : P.underlying t = some (.slice e)) (hi : P.info? e = some i) (hz : i.zero = some z)
    (hsize : i.size = 3) (hby : i.bytes = bytes) (hzs : z.cells.size = 3)
    (A : Option Addr) (n c : Nat) (xs : List Value) (hs : a.eval s = .slice A n c) (hown : w.ownsRow base e 3 (.slice A n c) n xs) (u v r : Value)
    (hx : a.eval x = .slice (some ⟨w.heap.size, 0, none⟩) 1 1) (h1 : u.oneCell' = true) (h2 : v.oneCell' = true) (h3 : r.oneCell' = true) (h63 : n + 1 ≤ maxLen) (hbytes : (n + 1) * bytes ≤ 140737488355328) (hbase : base ≤ w.heap.size)
    (h : ∀ g' c' w', w'.ownsRow base e 3 (.slice (some ⟨g', 0, none⟩) (n + 1) c') (n + 1) (xs ++ [u, v, r]) → Below base w w' → wpList P ops Q rest (a.put o.dst (.slice (some ⟨g', 0, none⟩) (n + 1) c')) w') :
    wpList P ops Q (o :: rest) a (w.alloc (.cells #[u, v, r] e)) := by
  refine wpList_append_own _ hgd s x t ho base e i z 3 bytes ht hi hz hsize hby hzs (by decide) _ n xs hs (hown.alloc _) ⟨w.heap.size, 0, none⟩ 1 1 [u, v, r] hx rfl ?_ ?_ h63 hbytes (by simp; omega) ?_
  · intro j y hj
    match j, hj with
    | 0, hj => simp at hj; subst hj; simp [Addr.add]
    | 1, hj => simp at hj; subst hj; simp [Addr.add]
    | 2, hj => simp at hj; subst hj; simp [Addr.add]
  · intro y hy; simp at hy; rcases hy with rfl | rfl | rfl <;> assumption
  · intro v' w' hown' hg _
    obtain ⟨g', c', hv, hg', hs'⟩ := hown'.form (by omega)
    subst hv
    refine h g' c' w' hown' (Below.grown ((Below.refl base w).alloc hbase _) hg (by simp; omega) ?_)
    intro k hk
    exact (hown.lt k hk).1

theorem own_le3 {w : World} {base : Nat} {e : TypeId} {A : Option Addr} {n c : Nat} {xs : List Value} (h : w.ownsRow base e 3 (.slice A n c) n xs) : n ≤ c := by
  rcases h.2 with ⟨h1, h2⟩ | ⟨g, cap, cur, h1, _, _, h2, _⟩
  · omega
  · injection h1 with _ _ h3; omega
theorem Row2.of_own {w : World} {base g c : Nat} {e : TypeId} {a b : C3} (h : w.ownsRow base e 3 (.slice (some ⟨g, 0, none⟩) 2 c) 2 [.int .i64 a.1, .int .i64 a.2.1, .int .i64 a.2.2, .int .i64 b.1, .int .i64 b.2.1, .int .i64 b.2.2]) : Row2 w g a b := by
  refine ⟨(h.lt g rfl).2, fun j => h.frozenAt j, ?_, ?_, ?_, ?_, ?_, ?_⟩
  · rw [h.cellAt 0 (by omega)]; rfl
  · rw [h.cellAt 1 (by omega)]; rfl
  · rw [h.cellAt 2 (by omega)]; rfl
  · rw [h.cellAt 3 (by omega)]; rfl
  · rw [h.cellAt 4 (by omega)]; rfl
  · rw [h.cellAt 5 (by omega)]; rfl
theorem Row2.reads {w : World} {g : Nat} {a b : C3} (h : Row2 w g a b) : CReads w w.heap.size (some ⟨g, 0, none⟩) 2 (two a b) := fun _ =>
  ⟨g, 0, rfl, h.1, fun k hk => match k, hk with
    | 0, _ => ⟨h.2.2.1, h.2.2.2.1, h.2.2.2.2.1⟩
    | 1, _ => ⟨h.2.2.2.2.2.1, h.2.2.2.2.2.2.1, h.2.2.2.2.2.2.2⟩⟩

set_option maxRecDepth 100000 in
set_option maxHeartbeats 1000000 in
theorem from_state (g : Nat) (w : World) (h : Blk w g 34 #[.int .i64 0, .int .i64 0, .int .i64 8]) :
    Calls Try.prog 9 #[.slice (some ⟨g, 0, none⟩) 1 1] w fun e w' => e = .returned (.tuple #[.slice none 0 0, .int .i64 10]) ∧ Below w.heap.size w w' := by
  obtain ⟨k0, k1, k2, k3⟩ := h.three
  have E := Lib.hid (fun w => by have := examine_any (0, 0, 8) w; rwa [show ex (0, 0, 8) = 10 by decide] at this)
  have B7 := Lib.hid ((Below.refl w.heap.size w).alloc (Nat.le_refl _) (.cells #[.int .i64 0, .int .i64 0, .int .i64 8] 34))
  clear h
  go_enter Try.func9, Try.ntmps9
  go_wp2
  refine wp_loop_rounds 1 ?_
  rw [rounds_succ]
  go_wp2_with (go_at_call 22; (with_reducible refine (E.out _).mono ?_); rintro e w1 ⟨rfl, hb⟩; have B1 := Lib.hid (B7.out.trans (hb.mono B7.out.size)); clear hb)
  go_ret2
  exact ⟨rfl, B1.out⟩

set_option maxRecDepth 100000 in
set_option maxHeartbeats 1000000 in
theorem from_ex (g : Nat) (w : World) (h : Blk w g 34 #[.int .i64 1, .int .i64 1, .int .i64 1, .int .i64 0, .int .i64 0, .int .i64 2]) :
    Calls Try.prog 9 #[.slice (some ⟨g, 0, none⟩) 2 2] w fun e w' => ∃ g' c', e = .returned (.tuple #[.slice (some ⟨g', 0, none⟩) 2 c', .int .i64 0]) ∧ 2 ≤ c' ∧ Row2 w' g' (0, 0, 2) (1, 1, 1) ∧ Below w.heap.size w w' := by
  obtain ⟨i0, hi, hz0, hz1, hz2⟩ := info_parts Try.info_cell
  have hg := h.lt
  have k0 : w.cell? ⟨g, 0, none⟩ = some (.int .i64 1) := (h.cell 0).trans rfl
  have k1 : w.cell? ⟨g, 1, none⟩ = some (.int .i64 1) := (h.cell 1).trans rfl
  have k2 : w.cell? ⟨g, 2, none⟩ = some (.int .i64 1) := (h.cell 2).trans rfl
  have E := Lib.hid (fun w => by have := examine_any (1, 1, 1) w; rwa [show ex (1, 1, 1) = 0 by decide] at this)
  have E2 := Lib.hid (fun w => by have := examine_any (0, 0, 2) w; rwa [show ex (0, 0, 2) = 0 by decide] at this)
  have B7 := Lib.hid ((Below.refl w.heap.size w).alloc (Nat.le_refl _) (.cells #[.int .i64 1, .int .i64 1, .int .i64 1] 34))
  have K7 := Lib.hid (Blk.new w 34 #[.int .i64 1, .int .i64 1, .int .i64 1])
  have H := Lib.hid h
  clear h
  go_enter Try.func9, Try.ntmps9
  go_wp2
  refine wp_loop_rounds 3 ?_
  rw [rounds_succ]
  go_wp2_with (first
    | (go_at_call 22; (with_reducible refine (E.out _).mono ?_); rintro e w1 ⟨rfl, hb⟩; obtain ⟨l0, l1, l2, l3⟩ := (K7.out.below hb K7.out.lt).three; have B1 := Lib.hid (B7.out.trans (hb.mono B7.out.size)); have s1 := B1.out.size; clear hb)
    | (at_builtin; refine wpList_append3 rfl _ _ 23 rfl w.heap.size 34 i0 (.agg #[.int .i64 0, .int .i64 0, .int .i64 0]) 24 Try.underlying23 hi hz0 hz1 hz2 rfl none 0 0 [] rfl (World.ownsRow_nil _ _ _ _) (.int .i64 1) (.int .i64 1) (.int .i64 1) rfl rfl rfl rfl (by unfold maxLen; omega) (by omega) s1 ?_; intro g1 c1 w2 hown2 hbel2; have B2 := Lib.hid (B1.out.trans hbel2); have HO := Lib.hid hown2; clear hown2 hbel2))
  have k0 : w2.cell? ⟨g, 3, none⟩ = some (.int .i64 0) := (B2.out.cell hg).trans ((H.out.cell 3).trans rfl)
  have k1 : w2.cell? ⟨g, 4, none⟩ = some (.int .i64 0) := (B2.out.cell hg).trans ((H.out.cell 4).trans rfl)
  have k2 : w2.cell? ⟨g, 5, none⟩ = some (.int .i64 2) := (B2.out.cell hg).trans ((H.out.cell 5).trans rfl)
  have k3 := Nat.lt_of_lt_of_le hg B2.out.size
  have B7 := Lib.hid ((Below.refl w2.heap.size w2).alloc (Nat.le_refl _) (.cells #[.int .i64 0, .int .i64 0, .int .i64 2] 34))
  have K7 := Lib.hid (Blk.new w2 34 #[.int .i64 0, .int .i64 0, .int .i64 2])
  clear l0 l1 l2 l3
  rw [rounds_succ]
  go_wp2_with (first
    | (go_at_call 22; (with_reducible refine (E2.out _).mono ?_); rintro e w3 ⟨rfl, hb⟩; obtain ⟨l0, l1, l2, l3⟩ := (K7.out.below hb K7.out.lt).three; have B3 := Lib.hid (B7.out.trans (hb.mono B7.out.size)); have s3 := Nat.le_trans B2.out.size B3.out.size; have W3 := own_below3 HO.out B3.out; clear hb)
    | (at_builtin; refine wpList_append3 rfl _ _ 23 rfl w.heap.size 34 i0 (.agg #[.int .i64 0, .int .i64 0, .int .i64 0]) 24 Try.underlying23 hi hz0 hz1 hz2 rfl _ 1 _ _ rfl W3 (.int .i64 0) (.int .i64 0) (.int .i64 2) rfl rfl rfl rfl (by unfold maxLen; omega) (by omega) s3 ?_; intro g2 c2 w4 hown4 hbel4; have B4 := Lib.hid ((B2.out.trans (B3.out.mono B2.out.size)).trans hbel4); have HO4 := Lib.hid hown4; clear hown4 hbel4))
  rw [rounds_succ]
  have hr := Row2.of_own (a := (1, 1, 1)) (b := (0, 0, 2)) HO4.out
  have hg2 := (HO4.out.lt g2 rfl).1
  have S := Lib.hid (sortf_swap g2 c2 (1, 1, 1) (0, 0, 2) w4 hr (by decide))
  go_wp2_with (go_at_call 23; (with_reducible refine S.out.mono ?_); rintro e w5 ⟨rfl, h1, h2⟩; have R5 := Lib.hid h1; have B5 := Lib.hid (B4.out.trans (h2.mono hg2)); clear h1 h2)
  refine wp_loop_rounds 2 ?_
  rw [rounds_succ]
  have P := Lib.hid place_any
  have k0 := fun p : LowW w5.heap.size w5 => (R5.out.below p.below R5.out.1).2.2.1
  have k1 := fun p : LowW w5.heap.size w5 => (R5.out.below p.below R5.out.1).2.2.2.1
  have k2 := fun p : LowW w5.heap.size w5 => (R5.out.below p.below R5.out.1).2.2.2.2.1
  have k3 := fun p : LowW w5.heap.size w5 => (R5.out.below p.below R5.out.1).2.2.2.2.2.1
  have k4 := fun p : LowW w5.heap.size w5 => (R5.out.below p.below R5.out.1).2.2.2.2.2.2.1
  have k5 := fun p : LowW w5.heap.size w5 => (R5.out.below p.below R5.out.1).2.2.2.2.2.2.2
  have hw0 : IntKind.i64.wrap 0 = 0 := by decide
  simp only at k0 k1 k2 k3 k4 k5
  go_wp2_with fail
  refine wp_region_low w5.heap.size w5 (by kernel_rfl) (by kernel_rfl) (Below.refl _ _) ?_
  repeat (quiet_step (first | (go_at_call 24; with_reducible exact LowW.of_call _ (Nat.le_refl _) (P.out _ _ _ _))))
  refine wpQuiet_nil ?_
  rintro w6 ⟨p, rfl⟩
  have R6 := Lib.hid (R5.out.below p.below R5.out.1)
  have B6 := Lib.hid (B5.out.trans (p.below.mono B5.out.size))
  clear k0 k1 k2 k3 k4 k5
  generalize p.w = w6 at R6 B6 ⊢
  go_wp2
  rw [rounds_succ]
  go_wp2
  go_ret2
  exact ⟨g2, c2, rfl, own_le3 HO4.out, R6.out, B6.out⟩
set_option maxRecDepth 100000 in
set_option maxHeartbeats 1000000 in
theorem from_tw (g : Nat) (w : World) (h : Blk w g 34 #[.int .i64 0, .int .i64 0, .int .i64 1, .int .i64 0, .int .i64 0, .int .i64 2]) :
    Calls Try.prog 9 #[.slice (some ⟨g, 0, none⟩) 2 2] w fun e w' => e = .returned (.tuple #[.slice none 0 0, .int .i64 8]) ∧ Below w.heap.size w w' := by
  obtain ⟨i0, hi, hz0, hz1, hz2⟩ := info_parts Try.info_cell
  have hg := h.lt
  have k0 : w.cell? ⟨g, 0, none⟩ = some (.int .i64 0) := (h.cell 0).trans rfl
  have k1 : w.cell? ⟨g, 1, none⟩ = some (.int .i64 0) := (h.cell 1).trans rfl
  have k2 : w.cell? ⟨g, 2, none⟩ = some (.int .i64 1) := (h.cell 2).trans rfl
  have E := Lib.hid (fun w => by have := examine_any (0, 0, 1) w; rwa [show ex (0, 0, 1) = 0 by decide] at this)
  have E2 := Lib.hid (fun w => by have := examine_any (0, 0, 2) w; rwa [show ex (0, 0, 2) = 0 by decide] at this)
  have B7 := Lib.hid ((Below.refl w.heap.size w).alloc (Nat.le_refl _) (.cells #[.int .i64 0, .int .i64 0, .int .i64 1] 34))
  have K7 := Lib.hid (Blk.new w 34 #[.int .i64 0, .int .i64 0, .int .i64 1])
  have H := Lib.hid h
  clear h
  go_enter Try.func9, Try.ntmps9
  go_wp2
  refine wp_loop_rounds 3 ?_
  rw [rounds_succ]
  go_wp2_with (first
    | (go_at_call 22; (with_reducible refine (E.out _).mono ?_); rintro e w1 ⟨rfl, hb⟩; obtain ⟨l0, l1, l2, l3⟩ := (K7.out.below hb K7.out.lt).three; have B1 := Lib.hid (B7.out.trans (hb.mono B7.out.size)); have s1 := B1.out.size; clear hb)
    | (at_builtin; refine wpList_append3 rfl _ _ 23 rfl w.heap.size 34 i0 (.agg #[.int .i64 0, .int .i64 0, .int .i64 0]) 24 Try.underlying23 hi hz0 hz1 hz2 rfl none 0 0 [] rfl (World.ownsRow_nil _ _ _ _) (.int .i64 0) (.int .i64 0) (.int .i64 1) rfl rfl rfl rfl (by unfold maxLen; omega) (by omega) s1 ?_; intro g1 c1 w2 hown2 hbel2; have B2 := Lib.hid (B1.out.trans hbel2); have HO := Lib.hid hown2; clear hown2 hbel2))
  have k0 : w2.cell? ⟨g, 3, none⟩ = some (.int .i64 0) := (B2.out.cell hg).trans ((H.out.cell 3).trans rfl)
  have k1 : w2.cell? ⟨g, 4, none⟩ = some (.int .i64 0) := (B2.out.cell hg).trans ((H.out.cell 4).trans rfl)
  have k2 : w2.cell? ⟨g, 5, none⟩ = some (.int .i64 2) := (B2.out.cell hg).trans ((H.out.cell 5).trans rfl)
  have k3 := Nat.lt_of_lt_of_le hg B2.out.size
  have B7 := Lib.hid ((Below.refl w2.heap.size w2).alloc (Nat.le_refl _) (.cells #[.int .i64 0, .int .i64 0, .int .i64 2] 34))
  have K7 := Lib.hid (Blk.new w2 34 #[.int .i64 0, .int .i64 0, .int .i64 2])
  clear l0 l1 l2 l3
  rw [rounds_succ]
  go_wp2_with (first
    | (go_at_call 22; (with_reducible refine (E2.out _).mono ?_); rintro e w3 ⟨rfl, hb⟩; obtain ⟨l0, l1, l2, l3⟩ := (K7.out.below hb K7.out.lt).three; have B3 := Lib.hid (B7.out.trans (hb.mono B7.out.size)); have s3 := Nat.le_trans B2.out.size B3.out.size; have W3 := own_below3 HO.out B3.out; clear hb)
    | (at_builtin; refine wpList_append3 rfl _ _ 23 rfl w.heap.size 34 i0 (.agg #[.int .i64 0, .int .i64 0, .int .i64 0]) 24 Try.underlying23 hi hz0 hz1 hz2 rfl _ 1 _ _ rfl W3 (.int .i64 0) (.int .i64 0) (.int .i64 2) rfl rfl rfl rfl (by unfold maxLen; omega) (by omega) s3 ?_; intro g2 c2 w4 hown4 hbel4; have B4 := Lib.hid ((B2.out.trans (B3.out.mono B2.out.size)).trans hbel4); have HO4 := Lib.hid hown4; clear hown4 hbel4))
  rw [rounds_succ]
  have hr := Row2.of_own (a := (0, 0, 1)) (b := (0, 0, 2)) HO4.out
  have hg2 := (HO4.out.lt g2 rfl).1
  have S := Lib.hid (sortf_stay g2 c2 (0, 0, 1) (0, 0, 2) w4 hr (by decide))
  go_wp2_with (go_at_call 23; (with_reducible refine S.out.mono ?_); rintro e w5 ⟨rfl, h1, h2⟩; have R5 := Lib.hid h1; have B5 := Lib.hid (B4.out.trans (h2.mono hg2)); clear h1 h2)
  refine wp_loop_rounds 2 ?_
  rw [rounds_succ]
  have P := Lib.hid place_any
  have k0 := fun p : LowW w5.heap.size w5 => (R5.out.below p.below R5.out.1).2.2.1
  have k1 := fun p : LowW w5.heap.size w5 => (R5.out.below p.below R5.out.1).2.2.2.1
  have k2 := fun p : LowW w5.heap.size w5 => (R5.out.below p.below R5.out.1).2.2.2.2.1
  have k3 := fun p : LowW w5.heap.size w5 => (R5.out.below p.below R5.out.1).2.2.2.2.2.1
  have k4 := fun p : LowW w5.heap.size w5 => (R5.out.below p.below R5.out.1).2.2.2.2.2.2.1
  have k5 := fun p : LowW w5.heap.size w5 => (R5.out.below p.below R5.out.1).2.2.2.2.2.2.2
  have hw0 : IntKind.i64.wrap 0 = 0 := by decide
  simp only at k0 k1 k2 k3 k4 k5
  go_wp2_with fail
  refine wp_region_low w5.heap.size w5 (by kernel_rfl) (by kernel_rfl) (Below.refl _ _) ?_
  repeat (quiet_step (first | (go_at_call 24; with_reducible exact LowW.of_call _ (Nat.le_refl _) (P.out _ _ _ _))))
  refine wpQuiet_nil ?_
  rintro w6 ⟨p, rfl⟩
  have R6 := Lib.hid (R5.out.below p.below R5.out.1)
  have B6 := Lib.hid (B5.out.trans (p.below.mono B5.out.size))
  clear k0 k1 k2 k3 k4 k5
  generalize p.w = w6 at R6 B6 ⊢
  go_wp2
  go_ret2
  exact ⟨rfl, B6.out⟩
end Go.Proofs.Ytegednbebmkmhaa
