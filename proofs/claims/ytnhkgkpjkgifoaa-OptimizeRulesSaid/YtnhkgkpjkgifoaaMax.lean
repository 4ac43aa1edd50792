/- The circuit that is optimized in place: the walks that only read it. -/
import Derived.Test.YtnhkgkpjkgifoaaMau
import Derived.Test.YtnhkgkpjkgifoaaMaw
import Derived.Deep.RegionHeldLaw
namespace Go.Proofs.Ytnhkgkpjkgifoaa
open Go.RowKit

/-- what is read of the structure -/
structure RK (wk N : Nat) (A : Option Addr) (cA : Nat) (O : Value) (V : Option Addr) (nv cV : Nat) (M : Value) (gs : List C3) (w : World) : Prop where
  blk : Blk w wk 73 #[.int .i64 (N : Int), .slice A gs.length cA, O, .slice V nv cV, M]
  rd : CReads w w.heap.size A gs.length (fun k => gs.getD k (0, 0, 0))
theorem RK.later {wk N cA nv cV : Nat} {A V : Option Addr} {O M : Value} {gs : List C3} {w w' : World} (h : RK wk N A cA O V nv cV M gs w) (hb : Below w.heap.size w w') : RK wk N A cA O V nv cV M gs w' :=
  ⟨h.blk.below hb h.blk.lt, CReads.later h.rd hb⟩
theorem Blk.five {w : World} {g : Nat} {t : TypeId} {a b c d e : Value} (h : Blk w g t #[a, b, c, d, e]) : w.cell? ⟨g, 0, none⟩ = some a ∧ w.cell? ⟨g, 1, none⟩ = some b ∧ w.cell? ⟨g, 2, none⟩ = some c ∧ w.cell? ⟨g, 3, none⟩ = some d ∧ w.cell? ⟨g, 4, none⟩ = some e ∧ g < w.heap.size :=
  ⟨(h.cell 0).trans rfl, (h.cell 1).trans rfl, (h.cell 2).trans rfl, (h.cell 3).trans rfl, (h.cell 4).trans rfl, h.lt⟩
theorem fld0 (o a b : Int) (w : World) : (Instr.field 57 (.agg #[.int .i64 o, .int .i64 a, .int .i64 b]) 0).run Try.prog w = .ok (.int .i64 o) w := by kernel_rfl
theorem fld1 (o a b : Int) (w : World) : (Instr.field 57 (.agg #[.int .i64 o, .int .i64 a, .int .i64 b]) 1).run Try.prog w = .ok (.int .i64 a) w := by kernel_rfl
/-- a gate as a value -/
def gV (g : C3) : Value := .agg #[.int .i64 g.1, .int .i64 g.2.1, .int .i64 g.2.2]
section
variable {wk N cA nv cV : Nat} {A V : Option Addr} {O M : Value} {gs : List C3} {w : World}
set_option maxRecDepth 100000 in
set_option maxHeartbeats 4000000 in
theorem gateOf_any (h : RK wk N A cA O V nv cV M gs w) (k : Nat) (hk : k < gs.length) (hN : N ≤ 1000) (hl : gs.length ≤ 20000) :
    Calls Try.prog 115 #[.pointer (some ⟨wk, 0, none⟩), .int .i64 ((N : Int) + (k : Int))] w fun e w' => e = .returned (gV (gs.getD k (0, 0, 0))) ∧ Below w.heap.size w w' := by
  obtain ⟨g, o, rfl, hg, hc⟩ := h.rd (by omega)
  obtain ⟨x0, x1, x2⟩ := hc k hk
  obtain ⟨c0, c1, _, _, _, c5⟩ := h.blk.five
  obtain ⟨n, hn⟩ : ∃ n, gs.length = n := ⟨_, rfl⟩
  rw [hn] at c1 hk hl
  obtain ⟨⟨op, a, b⟩, hx⟩ : ∃ x, gs.getD k (0, 0, 0) = x := ⟨_, rfl⟩
  simp only at x0 x1 x2
  rw [hx] at x0 x1 x2
  rw [hx]
  simp only [gV] at x0 x1 x2 ⊢
  have e1 : IntKind.i64.wrap ((N : Int) + (k : Int) - (N : Int)) = (k : Int) := by rw [show (N : Int) + (k : Int) - (N : Int) = (k : Int) by omega]; exact IntWalk.i64_in _ ⟨by omega, by omega⟩
  have kI : (k : Int) < (n : Int) := by omega
  have K0 := Blk.new w 57 #[.int .i64 0, .int .i64 0, .int .i64 0]
  have B0 : Below w.heap.size w (w.alloc (.cells #[.int .i64 0, .int .i64 0, .int .i64 0] 57)) := (Below.refl _ _).alloc (Nat.le_refl _) _
  have y0 : (w.alloc (.cells #[.int .i64 0, .int .i64 0, .int .i64 0] 57)).cell? ⟨g, o + k * 3, none⟩ = some (.int .i64 op) := (B0.cell (p := ⟨g, _, none⟩) hg).trans x0
  have y1 : (w.alloc (.cells #[.int .i64 0, .int .i64 0, .int .i64 0] 57)).cell? ⟨g, o + k * 3 + 1, none⟩ = some (.int .i64 a) := (B0.cell (p := ⟨g, _, none⟩) hg).trans x1
  have y2 : (w.alloc (.cells #[.int .i64 0, .int .i64 0, .int .i64 0] 57)).cell? ⟨g, o + k * 3 + 2, none⟩ = some (.int .i64 b) := (B0.cell (p := ⟨g, _, none⟩) hg).trans x2
  have z0 : (w.alloc (.cells #[.int .i64 0, .int .i64 0, .int .i64 0] 57)).cell? ⟨wk, 0, none⟩ = some (.int .i64 (N : Int)) := (B0.cell (p := ⟨wk, _, none⟩) c5).trans c0
  have z1 : (w.alloc (.cells #[.int .i64 0, .int .i64 0, .int .i64 0] 57)).cell? ⟨wk, 1, none⟩ = some (.slice (some ⟨g, o, none⟩) n cA) := (B0.cell (p := ⟨wk, _, none⟩) c5).trans c1
  clear x0 x1 x2 c0 c1 c5 hx hc hn h
  go_enter Try.func115, Try.ntmps115
  go_upto_region 1 with (fail)
  generalize w.alloc (.cells #[.int .i64 0, .int .i64 0, .int .i64 0] 57) = w1 at *
  obtain ⟨d0, d1, d2, d3, d4, d5, d6⟩ := K0.three6
  go_region
  all_goals
    go_wp2_with fail
    have K9 := Blk.drew (K0.tri (.int .i64 op) (.int .i64 a) (.int .i64 b))
    obtain ⟨e0, e1', e2, _, _, _, _⟩ := K9.three6
    exact bodyPost_ret (v := .agg #[.int .i64 op, .int .i64 a, .int .i64 b]) (by simp [results, Try.results115, go_sem, e0, e1', e2]) rfl ⟨rfl, (((B0.setCell (p := ⟨w.heap.size, 0, none⟩) (Nat.le_refl _) _).setCell (p := ⟨w.heap.size, 1, none⟩) (Nat.le_refl _) _).setCell (p := ⟨w.heap.size, 2, none⟩) (Nat.le_refl _) _).drew⟩
theorem gtF_at {N k : Nat} {gs : List C3} : gtF (N : Int) gs ((N : Int) + (k : Int)) = gs.getD k (0, 0, 0) := by
  unfold gtF
  rw [show ((N : Int) + (k : Int) - (N : Int)).toNat = k by omega]
set_option maxRecDepth 100000 in
set_option maxHeartbeats 4000000 in
theorem is_any (h : RK wk N A cA O V nv cV M gs w) (x op : Int) (h0 : 0 ≤ x) (hx : x < (N : Int) + (gs.length : Int)) (hN : N ≤ 1000) (hl : gs.length ≤ 20000) :
    Calls Try.prog 114 #[.pointer (some ⟨wk, 0, none⟩), .int .i64 x, .int .i64 op] w fun e w' => e = .returned (.bool (isF (N : Int) gs x op)) ∧ Below w.heap.size w w' := by
  obtain ⟨c0, _, _, _, _, c5⟩ := h.blk.five
  by_cases hlt : (N : Int) ≤ x
  · obtain ⟨k, rfl⟩ : ∃ k : Nat, x = (N : Int) + (k : Int) := ⟨(x - (N : Int)).toNat, by omega⟩
    have GO := Lib.hid (gateOf_any h k (by omega) hN hl)
    rw [isF, gtF_at, decide_eq_true hlt, Bool.true_and]
    obtain ⟨⟨o, a, b⟩, hg⟩ : ∃ x, gs.getD k (0, 0, 0) = x := ⟨_, rfl⟩
    rw [hg] at GO ⊢
    simp only [gV] at GO ⊢
    have f0 := fld0 o a b
    clear h hg
    go_enter Try.func114, Try.ntmps114
    go_wp2_with (go_at_call 115; (with_reducible refine (GO.out).mono ?_); rintro e w1 ⟨rfl, hb⟩; have B1 := Lib.hid hb; clear hb)
    go_ret
    exact ⟨ret_bool (by rfl), B1.out⟩
  · rw [isF, decide_eq_false hlt, Bool.false_and]
    clear h
    go_enter Try.func114, Try.ntmps114
    go_wp2
    go_ret
    exact ⟨rfl, Below.refl _ _⟩
set_option maxRecDepth 100000 in
set_option maxHeartbeats 4000000 in
theorem negates_any (h : RK wk N A cA O V nv cV M gs w) (x y : Int) (h0 : 0 ≤ x) (hx : x < (N : Int) + (gs.length : Int)) (hN : N ≤ 1000) (hl : gs.length ≤ 20000) :
    Calls Try.prog 123 #[.pointer (some ⟨wk, 0, none⟩), .int .i64 x, .int .i64 y] w fun e w' => e = .returned (.bool (ngF (N : Int) gs x y)) ∧ Below w.heap.size w w' := by
  have IS := Lib.hid (is_any h x 2 h0 hx hN hl)
  have GO := Lib.hid (fun w' (hb : Below w.heap.size w w') k hk => gateOf_any (h.later hb) k hk hN hl)
  unfold ngF
  obtain ⟨q, hq⟩ : ∃ q, isF (N : Int) gs x 2 = q := ⟨_, rfl⟩
  rw [hq] at IS ⊢
  cases q with
  | false =>
    rw [Bool.false_and]
    clear h hq GO
    go_enter Try.func123, Try.ntmps123
    go_wp2_with (go_at_call 114; (with_reducible refine (IS.out).mono ?_); rintro e w1 ⟨rfl, hb⟩; have B1 := Lib.hid hb; clear hb)
    go_ret
    exact ⟨rfl, B1.out⟩
  | true =>
    have hle : (N : Int) ≤ x := by simp [isF] at hq; exact hq.1
    obtain ⟨k, rfl⟩ : ∃ k : Nat, x = (N : Int) + (k : Int) := ⟨(x - (N : Int)).toNat, by omega⟩
    have GO := Lib.hid (fun w' (hb : Below w.heap.size w w') => GO.out w' hb k (by omega))
    rw [gtF_at, Bool.true_and]
    obtain ⟨⟨o, a, b⟩, hg⟩ : ∃ x, gs.getD k (0, 0, 0) = x := ⟨_, rfl⟩
    rw [hg] at GO ⊢
    simp only [gV] at GO ⊢
    have f1 := fld1 o a b
    clear h hg hq
    go_enter Try.func123, Try.ntmps123
    go_wp2_with (first
      | (go_at_call 115; (with_reducible refine (GO.out _ B1.out).mono ?_); rintro e w2 ⟨rfl, hb⟩; have B2 := Lib.hid (B1.out.trans (hb.mono B1.out.size)); clear hb)
      | (go_at_call 114; (with_reducible refine (IS.out).mono ?_); rintro e w1 ⟨rfl, hb⟩; have B1 := Lib.hid hb; clear hb))
    go_ret
    exact ⟨ret_bool (by rfl), B2.out⟩
set_option maxRecDepth 100000 in
set_option maxHeartbeats 4000000 in
theorem opp_any (h : RK wk N A cA O V nv cV M gs w) (x y : Int) (h0 : 0 ≤ x) (hx : x < (N : Int) + (gs.length : Int)) (h1 : 0 ≤ y) (hy : y < (N : Int) + (gs.length : Int)) (hN : N ≤ 1000) (hl : gs.length ≤ 20000) :
    Calls Try.prog 116 #[.pointer (some ⟨wk, 0, none⟩), .int .i64 x, .int .i64 y] w fun e w' => e = .returned (.bool (opF (N : Int) gs x y)) ∧ Below w.heap.size w w' := by
  have N1 := Lib.hid (negates_any h x y h0 hx hN hl)
  have N2 := Lib.hid (fun w' (hb : Below w.heap.size w w') => negates_any (h.later hb) y x h1 hy hN hl)
  unfold opF
  obtain ⟨p, hp⟩ : ∃ p, ngF (N : Int) gs x y = p := ⟨_, rfl⟩
  obtain ⟨q, hq⟩ : ∃ q, ngF (N : Int) gs y x = q := ⟨_, rfl⟩
  rw [hp] at N1
  rw [hq] at N2
  rw [hp, hq]
  clear h hp hq
  cases p with
  | true =>
    go_enter Try.func116, Try.ntmps116
    go_wp2_with (go_at_call 123; (with_reducible refine (N1.out).mono ?_); rintro e w1 ⟨rfl, hb⟩; have B1 := Lib.hid hb; clear hb)
    go_ret
    exact ⟨rfl, B1.out⟩
  | false =>
    go_enter Try.func116, Try.ntmps116
    go_wp2_with (first
      | (go_at_call 123; (with_reducible refine (N2.out _ B1.out).mono ?_); rintro e w2 ⟨rfl, hb⟩; have B2 := Lib.hid (B1.out.trans (hb.mono B1.out.size)); clear hb)
      | (go_at_call 123; (with_reducible refine (N1.out).mono ?_); rintro e w1 ⟨rfl, hb⟩; have B1 := Lib.hid hb; clear hb))
    go_ret
    exact ⟨ret_bool (by simp), B2.out⟩
set_option maxRecDepth 100000 in
set_option maxHeartbeats 4000000 in
theorem kept_any (h : RK wk N A cA O V nv cV M gs w) (o a b : Int) :
    Calls Try.prog 88 #[.pointer (some ⟨wk, 0, none⟩), .agg #[.int .i64 o, .int .i64 a, .int .i64 b]] w fun e w' => e = .returned (.tuple #[.agg #[.int .i64 o, .int .i64 a, .int .i64 b], .int .i64 (nv : Int)]) ∧ Below w.heap.size w w' := by
  obtain ⟨_, _, _, c3, _, c5⟩ := h.blk.five
  have K0 := (Blk.new w 57 #[.int .i64 o, .int .i64 a, .int .i64 b]).alloc (.cells #[.int .i64 0, .int .i64 0, .int .i64 0] 57)
  have K1 := Blk.new (w.alloc (.cells #[.int .i64 o, .int .i64 a, .int .i64 b] 57)) 57 #[.int .i64 0, .int .i64 0, .int .i64 0]
  rw [World.size_alloc] at K1
  have B0 : Below w.heap.size w ((w.alloc (.cells #[.int .i64 o, .int .i64 a, .int .i64 b] 57)).alloc (.cells #[.int .i64 0, .int .i64 0, .int .i64 0] 57)) := ((Below.refl _ w).alloc (Nat.le_refl _) _).alloc (by simp) _
  have z3 : ((w.alloc (.cells #[.int .i64 o, .int .i64 a, .int .i64 b] 57)).alloc (.cells #[.int .i64 0, .int .i64 0, .int .i64 0] 57)).cell? ⟨wk, 3, none⟩ = some (.slice V nv cV) := (B0.cell (p := ⟨wk, _, none⟩) c5).trans c3
  clear h c3 c5
  go_enter Try.func88, Try.ntmps88
  go_upto_region 1 with (fail)
  generalize (w.alloc (.cells #[.int .i64 o, .int .i64 a, .int .i64 b] 57)).alloc (.cells #[.int .i64 0, .int .i64 0, .int .i64 0] 57) = w1 at *
  obtain ⟨a0, a1, a2, _, _, _, _⟩ := K0.three6
  obtain ⟨d0, d1, d2, d3, d4, d5, d6⟩ := K1.three6
  go_region
  all_goals
    go_wp2_with fail
    have K9 := Blk.drew (K1.tri (.int .i64 o) (.int .i64 a) (.int .i64 b))
    obtain ⟨e0, e1', e2, _, _, _, _⟩ := K9.three6
    exact bodyPost_ret (v := .tuple #[.agg #[.int .i64 o, .int .i64 a, .int .i64 b], .int .i64 (nv : Int)]) (by simp [results, Try.results88, go_sem, e0, e1', e2]) rfl ⟨rfl, (((B0.setCell (p := ⟨w.heap.size + 1, 0, none⟩) (Nat.le_succ _) _).setCell (p := ⟨w.heap.size + 1, 1, none⟩) (Nat.le_succ _) _).setCell (p := ⟨w.heap.size + 1, 2, none⟩) (Nat.le_succ _) _).drew⟩
end
end Go.Proofs.Ytnhkgkpjkgifoaa
