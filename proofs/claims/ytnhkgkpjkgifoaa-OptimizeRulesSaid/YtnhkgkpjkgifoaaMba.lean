/- The walk of the closure that folds a gate. -/
import Derived.Test.YtnhkgkpjkgifoaaMaz
namespace Go.Proofs.Ytnhkgkpjkgifoaa
open Go.RowKit

/-- one step of folding, with the gate's own wire -/
def fStepG (I : Int) (gs : List C3) (own : Int) (g : C3) : C3 × Int :=
  if g.1 = 2 then fNotG I gs own g.2.1 else if g.1 = 3 then fPairG I gs own g 0 1 else if g.1 = 4 then fPairG I gs own g 1 0 else if g.1 = 5 then fXorG I gs own g else (g, own)
section
variable {wk N cA nv cV : Nat} {A V : Option Addr} {O M : Value} {gs : List C3} {w : World}
set_option maxRecDepth 100000 in
set_option maxHeartbeats 4000000 in
theorem fst_2 (h : RK wk N A cA O V nv cV M gs w) (gl : Nat) (hc : w.cell? ⟨gl, 0, none⟩ = some (.pointer (some ⟨wk, 0, none⟩))) (a b x y z u : Int) (ha0 : 0 ≤ a) (ha : a < (N : Int) + (gs.length : Int)) (hN : N ≤ 1000) (hl : gs.length ≤ 20000) (hx : fNotG (N : Int) gs (nv : Int) a = ((x, y, z), u)) :
    Calls Try.prog 84 #[.agg #[.int .i64 2, .int .i64 a, .int .i64 b], .pointer (some ⟨gl, 0, none⟩)] w fun e w' => e = .returned (.tuple #[.agg #[.int .i64 x, .int .i64 y, .int .i64 z], .int .i64 u]) ∧ Below w.heap.size w w' := by
  have CC := Lib.hid (fun w' (hb' : Below w.heap.size w w') => show Calls Try.prog 85 #[.pointer (some ⟨wk, 0, none⟩), .int .i64 a] w' fun e w'' => e = .returned (.tuple #[.agg #[.int .i64 x, .int .i64 y, .int .i64 z], .int .i64 u]) ∧ Below w'.heap.size w' w'' from by have q := foldNot_any (h.later hb') a ha0 ha hN hl; rw [hx] at q; exact q)
  have K5 := (Blk.new w 57 #[.int .i64 2, .int .i64 a, .int .i64 b]).alloc (.cells #[.int .i64 0, .int .i64 0, .int .i64 0] 57)
  have K8 := Blk.new (w.alloc (.cells #[.int .i64 2, .int .i64 a, .int .i64 b] 57)) 57 #[.int .i64 0, .int .i64 0, .int .i64 0]
  rw [World.size_alloc] at K8
  have B0 : Below w.heap.size w ((w.alloc (.cells #[.int .i64 2, .int .i64 a, .int .i64 b] 57)).alloc (.cells #[.int .i64 0, .int .i64 0, .int .i64 0] 57)) := ((Below.refl _ w).alloc (Nat.le_refl _) _).alloc (by simp) _
  have c1 : ((w.alloc (.cells #[.int .i64 2, .int .i64 a, .int .i64 b] 57)).alloc (.cells #[.int .i64 0, .int .i64 0, .int .i64 0] 57)).cell? ⟨gl, 0, none⟩ = some (.pointer (some ⟨wk, 0, none⟩)) := (B0.cell (p := ⟨gl, 0, none⟩) (World.block_lt_of_cell? w _ hc)).trans hc
  clear h hc hx
  go_enter Try.func84, Try.ntmps84
  go_upto_region 1 with (fail)
  generalize (w.alloc (.cells #[.int .i64 2, .int .i64 a, .int .i64 b] 57)).alloc (.cells #[.int .i64 0, .int .i64 0, .int .i64 0] 57) = v0 at *
  have Bv0 := Lib.hid B0
  have K8v0 := Lib.hid K8
  obtain ⟨a0, a1, a2, _, _, _, _⟩ := K5.three6
  clear B0 K5 K8
  go_wp2_with (go_at_call 85; (with_reducible refine (CC.out _ Bv0.out).mono ?_); rintro e v1 ⟨rfl, hb⟩; have Bv1 := Lib.hid (Bv0.out.trans (hb.mono Bv0.out.size)); have K8v1 := Lib.hid (K8v0.out.below hb K8v0.out.lt); obtain ⟨r0, r1, r2, r3, r4, r5, r6⟩ := K8v1.out.three6; clear hb)
  have KZ := K8v1.out.tri (.int .i64 x) (.int .i64 y) (.int .i64 z)
  obtain ⟨e0, e1', e2, _, _, _, _⟩ := KZ.three6
  exact bodyPost_ret (v := .tuple #[.agg #[.int .i64 x, .int .i64 y, .int .i64 z], .int .i64 u]) (by simp [results, Try.results84, go_sem, e0, e1', e2]) rfl ⟨rfl, ((Bv1.out.setCell (p := ⟨w.heap.size + 1, 0, none⟩) (Nat.le_succ _) _).setCell (p := ⟨w.heap.size + 1, 1, none⟩) (Nat.le_succ _) _).setCell (p := ⟨w.heap.size + 1, 2, none⟩) (Nat.le_succ _) _⟩
set_option maxRecDepth 100000 in
set_option maxHeartbeats 4000000 in
theorem fst_3 (h : RK wk N A cA O V nv cV M gs w) (gl : Nat) (hc : w.cell? ⟨gl, 0, none⟩ = some (.pointer (some ⟨wk, 0, none⟩))) (a b x y z u : Int) (ha0 : 0 ≤ a) (ha : a < (N : Int) + (gs.length : Int)) (hb0 : 0 ≤ b) (hb : b < (N : Int) + (gs.length : Int)) (hN : N ≤ 1000) (hl : gs.length ≤ 20000) (hx : fPairG (N : Int) gs (nv : Int) (3, a, b) 0 1 = ((x, y, z), u)) :
    Calls Try.prog 84 #[.agg #[.int .i64 3, .int .i64 a, .int .i64 b], .pointer (some ⟨gl, 0, none⟩)] w fun e w' => e = .returned (.tuple #[.agg #[.int .i64 x, .int .i64 y, .int .i64 z], .int .i64 u]) ∧ Below w.heap.size w w' := by
  have CC := Lib.hid (fun w' (hb' : Below w.heap.size w w') => show Calls Try.prog 86 #[.pointer (some ⟨wk, 0, none⟩), .agg #[.int .i64 3, .int .i64 a, .int .i64 b], .int .i64 0, .int .i64 1] w' fun e w'' => e = .returned (.tuple #[.agg #[.int .i64 x, .int .i64 y, .int .i64 z], .int .i64 u]) ∧ Below w'.heap.size w' w'' from by have q := foldPair_any (h.later hb') 3 a b 0 1 ha0 ha hb0 hb hN hl; rw [hx] at q; exact q)
  have K5 := (Blk.new w 57 #[.int .i64 3, .int .i64 a, .int .i64 b]).alloc (.cells #[.int .i64 0, .int .i64 0, .int .i64 0] 57)
  have K8 := Blk.new (w.alloc (.cells #[.int .i64 3, .int .i64 a, .int .i64 b] 57)) 57 #[.int .i64 0, .int .i64 0, .int .i64 0]
  rw [World.size_alloc] at K8
  have B0 : Below w.heap.size w ((w.alloc (.cells #[.int .i64 3, .int .i64 a, .int .i64 b] 57)).alloc (.cells #[.int .i64 0, .int .i64 0, .int .i64 0] 57)) := ((Below.refl _ w).alloc (Nat.le_refl _) _).alloc (by simp) _
  have c1 : ((w.alloc (.cells #[.int .i64 3, .int .i64 a, .int .i64 b] 57)).alloc (.cells #[.int .i64 0, .int .i64 0, .int .i64 0] 57)).cell? ⟨gl, 0, none⟩ = some (.pointer (some ⟨wk, 0, none⟩)) := (B0.cell (p := ⟨gl, 0, none⟩) (World.block_lt_of_cell? w _ hc)).trans hc
  clear h hc hx
  go_enter Try.func84, Try.ntmps84
  go_upto_region 1 with (fail)
  generalize (w.alloc (.cells #[.int .i64 3, .int .i64 a, .int .i64 b] 57)).alloc (.cells #[.int .i64 0, .int .i64 0, .int .i64 0] 57) = v0 at *
  have Bv0 := Lib.hid B0
  have K8v0 := Lib.hid K8
  obtain ⟨a0, a1, a2, _, _, _, _⟩ := K5.three6
  clear B0 K5 K8
  go_wp2_with (go_at_call 86; (with_reducible refine (CC.out _ Bv0.out).mono ?_); rintro e v1 ⟨rfl, hb⟩; have Bv1 := Lib.hid (Bv0.out.trans (hb.mono Bv0.out.size)); have K8v1 := Lib.hid (K8v0.out.below hb K8v0.out.lt); obtain ⟨r0, r1, r2, r3, r4, r5, r6⟩ := K8v1.out.three6; clear hb)
  have KZ := K8v1.out.tri (.int .i64 x) (.int .i64 y) (.int .i64 z)
  obtain ⟨e0, e1', e2, _, _, _, _⟩ := KZ.three6
  exact bodyPost_ret (v := .tuple #[.agg #[.int .i64 x, .int .i64 y, .int .i64 z], .int .i64 u]) (by simp [results, Try.results84, go_sem, e0, e1', e2]) rfl ⟨rfl, ((Bv1.out.setCell (p := ⟨w.heap.size + 1, 0, none⟩) (Nat.le_succ _) _).setCell (p := ⟨w.heap.size + 1, 1, none⟩) (Nat.le_succ _) _).setCell (p := ⟨w.heap.size + 1, 2, none⟩) (Nat.le_succ _) _⟩
set_option maxRecDepth 100000 in
set_option maxHeartbeats 4000000 in
theorem fst_4 (h : RK wk N A cA O V nv cV M gs w) (gl : Nat) (hc : w.cell? ⟨gl, 0, none⟩ = some (.pointer (some ⟨wk, 0, none⟩))) (a b x y z u : Int) (ha0 : 0 ≤ a) (ha : a < (N : Int) + (gs.length : Int)) (hb0 : 0 ≤ b) (hb : b < (N : Int) + (gs.length : Int)) (hN : N ≤ 1000) (hl : gs.length ≤ 20000) (hx : fPairG (N : Int) gs (nv : Int) (4, a, b) 1 0 = ((x, y, z), u)) :
    Calls Try.prog 84 #[.agg #[.int .i64 4, .int .i64 a, .int .i64 b], .pointer (some ⟨gl, 0, none⟩)] w fun e w' => e = .returned (.tuple #[.agg #[.int .i64 x, .int .i64 y, .int .i64 z], .int .i64 u]) ∧ Below w.heap.size w w' := by
  have CC := Lib.hid (fun w' (hb' : Below w.heap.size w w') => show Calls Try.prog 86 #[.pointer (some ⟨wk, 0, none⟩), .agg #[.int .i64 4, .int .i64 a, .int .i64 b], .int .i64 1, .int .i64 0] w' fun e w'' => e = .returned (.tuple #[.agg #[.int .i64 x, .int .i64 y, .int .i64 z], .int .i64 u]) ∧ Below w'.heap.size w' w'' from by have q := foldPair_any (h.later hb') 4 a b 1 0 ha0 ha hb0 hb hN hl; rw [hx] at q; exact q)
  have K5 := (Blk.new w 57 #[.int .i64 4, .int .i64 a, .int .i64 b]).alloc (.cells #[.int .i64 0, .int .i64 0, .int .i64 0] 57)
  have K8 := Blk.new (w.alloc (.cells #[.int .i64 4, .int .i64 a, .int .i64 b] 57)) 57 #[.int .i64 0, .int .i64 0, .int .i64 0]
  rw [World.size_alloc] at K8
  have B0 : Below w.heap.size w ((w.alloc (.cells #[.int .i64 4, .int .i64 a, .int .i64 b] 57)).alloc (.cells #[.int .i64 0, .int .i64 0, .int .i64 0] 57)) := ((Below.refl _ w).alloc (Nat.le_refl _) _).alloc (by simp) _
  have c1 : ((w.alloc (.cells #[.int .i64 4, .int .i64 a, .int .i64 b] 57)).alloc (.cells #[.int .i64 0, .int .i64 0, .int .i64 0] 57)).cell? ⟨gl, 0, none⟩ = some (.pointer (some ⟨wk, 0, none⟩)) := (B0.cell (p := ⟨gl, 0, none⟩) (World.block_lt_of_cell? w _ hc)).trans hc
  clear h hc hx
  go_enter Try.func84, Try.ntmps84
  go_upto_region 1 with (fail)
  generalize (w.alloc (.cells #[.int .i64 4, .int .i64 a, .int .i64 b] 57)).alloc (.cells #[.int .i64 0, .int .i64 0, .int .i64 0] 57) = v0 at *
  have Bv0 := Lib.hid B0
  have K8v0 := Lib.hid K8
  obtain ⟨a0, a1, a2, _, _, _, _⟩ := K5.three6
  clear B0 K5 K8
  go_wp2_with (go_at_call 86; (with_reducible refine (CC.out _ Bv0.out).mono ?_); rintro e v1 ⟨rfl, hb⟩; have Bv1 := Lib.hid (Bv0.out.trans (hb.mono Bv0.out.size)); have K8v1 := Lib.hid (K8v0.out.below hb K8v0.out.lt); obtain ⟨r0, r1, r2, r3, r4, r5, r6⟩ := K8v1.out.three6; clear hb)
  have KZ := K8v1.out.tri (.int .i64 x) (.int .i64 y) (.int .i64 z)
  obtain ⟨e0, e1', e2, _, _, _, _⟩ := KZ.three6
  exact bodyPost_ret (v := .tuple #[.agg #[.int .i64 x, .int .i64 y, .int .i64 z], .int .i64 u]) (by simp [results, Try.results84, go_sem, e0, e1', e2]) rfl ⟨rfl, ((Bv1.out.setCell (p := ⟨w.heap.size + 1, 0, none⟩) (Nat.le_succ _) _).setCell (p := ⟨w.heap.size + 1, 1, none⟩) (Nat.le_succ _) _).setCell (p := ⟨w.heap.size + 1, 2, none⟩) (Nat.le_succ _) _⟩
set_option maxRecDepth 100000 in
set_option maxHeartbeats 4000000 in
theorem fst_5 (h : RK wk N A cA O V nv cV M gs w) (gl : Nat) (hc : w.cell? ⟨gl, 0, none⟩ = some (.pointer (some ⟨wk, 0, none⟩))) (a b x y z u : Int) (ha0 : 0 ≤ a) (ha : a < (N : Int) + (gs.length : Int)) (hb0 : 0 ≤ b) (hb : b < (N : Int) + (gs.length : Int)) (hN : N ≤ 1000) (hl : gs.length ≤ 20000) (hx : fXorG (N : Int) gs (nv : Int) (5, a, b) = ((x, y, z), u)) :
    Calls Try.prog 84 #[.agg #[.int .i64 5, .int .i64 a, .int .i64 b], .pointer (some ⟨gl, 0, none⟩)] w fun e w' => e = .returned (.tuple #[.agg #[.int .i64 x, .int .i64 y, .int .i64 z], .int .i64 u]) ∧ Below w.heap.size w w' := by
  have CC := Lib.hid (fun w' (hb' : Below w.heap.size w w') => show Calls Try.prog 87 #[.pointer (some ⟨wk, 0, none⟩), .agg #[.int .i64 5, .int .i64 a, .int .i64 b]] w' fun e w'' => e = .returned (.tuple #[.agg #[.int .i64 x, .int .i64 y, .int .i64 z], .int .i64 u]) ∧ Below w'.heap.size w' w'' from by have q := foldXor_any (h.later hb') 5 a b ha0 ha hb0 hb hN hl; rw [hx] at q; exact q)
  have K5 := (Blk.new w 57 #[.int .i64 5, .int .i64 a, .int .i64 b]).alloc (.cells #[.int .i64 0, .int .i64 0, .int .i64 0] 57)
  have K8 := Blk.new (w.alloc (.cells #[.int .i64 5, .int .i64 a, .int .i64 b] 57)) 57 #[.int .i64 0, .int .i64 0, .int .i64 0]
  rw [World.size_alloc] at K8
  have B0 : Below w.heap.size w ((w.alloc (.cells #[.int .i64 5, .int .i64 a, .int .i64 b] 57)).alloc (.cells #[.int .i64 0, .int .i64 0, .int .i64 0] 57)) := ((Below.refl _ w).alloc (Nat.le_refl _) _).alloc (by simp) _
  have c1 : ((w.alloc (.cells #[.int .i64 5, .int .i64 a, .int .i64 b] 57)).alloc (.cells #[.int .i64 0, .int .i64 0, .int .i64 0] 57)).cell? ⟨gl, 0, none⟩ = some (.pointer (some ⟨wk, 0, none⟩)) := (B0.cell (p := ⟨gl, 0, none⟩) (World.block_lt_of_cell? w _ hc)).trans hc
  clear h hc hx
  go_enter Try.func84, Try.ntmps84
  go_upto_region 1 with (fail)
  generalize (w.alloc (.cells #[.int .i64 5, .int .i64 a, .int .i64 b] 57)).alloc (.cells #[.int .i64 0, .int .i64 0, .int .i64 0] 57) = v0 at *
  have Bv0 := Lib.hid B0
  have K8v0 := Lib.hid K8
  obtain ⟨a0, a1, a2, _, _, _, _⟩ := K5.three6
  clear B0 K5 K8
  go_wp2_with (go_at_call 87; (with_reducible refine (CC.out _ Bv0.out).mono ?_); rintro e v1 ⟨rfl, hb⟩; have Bv1 := Lib.hid (Bv0.out.trans (hb.mono Bv0.out.size)); have K8v1 := Lib.hid (K8v0.out.below hb K8v0.out.lt); obtain ⟨r0, r1, r2, r3, r4, r5, r6⟩ := K8v1.out.three6; clear hb)
  have KZ := K8v1.out.tri (.int .i64 x) (.int .i64 y) (.int .i64 z)
  obtain ⟨e0, e1', e2, _, _, _, _⟩ := KZ.three6
  exact bodyPost_ret (v := .tuple #[.agg #[.int .i64 x, .int .i64 y, .int .i64 z], .int .i64 u]) (by simp [results, Try.results84, go_sem, e0, e1', e2]) rfl ⟨rfl, ((Bv1.out.setCell (p := ⟨w.heap.size + 1, 0, none⟩) (Nat.le_succ _) _).setCell (p := ⟨w.heap.size + 1, 1, none⟩) (Nat.le_succ _) _).setCell (p := ⟨w.heap.size + 1, 2, none⟩) (Nat.le_succ _) _⟩
set_option maxRecDepth 100000 in
set_option maxHeartbeats 4000000 in
theorem fst_0 (h : RK wk N A cA O V nv cV M gs w) (gl : Nat) (hc : w.cell? ⟨gl, 0, none⟩ = some (.pointer (some ⟨wk, 0, none⟩))) (a b x y z u : Int) (hN : N ≤ 1000) (hl : gs.length ≤ 20000) (hx1 : x = 0) (hx2 : y = a) (hx3 : z = b) (hx4 : u = (nv : Int)) :
    Calls Try.prog 84 #[.agg #[.int .i64 0, .int .i64 a, .int .i64 b], .pointer (some ⟨gl, 0, none⟩)] w fun e w' => e = .returned (.tuple #[.agg #[.int .i64 x, .int .i64 y, .int .i64 z], .int .i64 u]) ∧ Below w.heap.size w w' := by
  have CC := Lib.hid (fun w' (hb' : Below w.heap.size w w') => show Calls Try.prog 88 #[.pointer (some ⟨wk, 0, none⟩), .agg #[.int .i64 0, .int .i64 a, .int .i64 b]] w' fun e w'' => e = .returned (.tuple #[.agg #[.int .i64 x, .int .i64 y, .int .i64 z], .int .i64 u]) ∧ Below w'.heap.size w' w'' from by have q := kept_any (h.later hb') 0 a b; rw [hx1, hx2, hx3, hx4]; exact q)
  have K5 := (Blk.new w 57 #[.int .i64 0, .int .i64 a, .int .i64 b]).alloc (.cells #[.int .i64 0, .int .i64 0, .int .i64 0] 57)
  have K8 := Blk.new (w.alloc (.cells #[.int .i64 0, .int .i64 a, .int .i64 b] 57)) 57 #[.int .i64 0, .int .i64 0, .int .i64 0]
  rw [World.size_alloc] at K8
  have B0 : Below w.heap.size w ((w.alloc (.cells #[.int .i64 0, .int .i64 a, .int .i64 b] 57)).alloc (.cells #[.int .i64 0, .int .i64 0, .int .i64 0] 57)) := ((Below.refl _ w).alloc (Nat.le_refl _) _).alloc (by simp) _
  have c1 : ((w.alloc (.cells #[.int .i64 0, .int .i64 a, .int .i64 b] 57)).alloc (.cells #[.int .i64 0, .int .i64 0, .int .i64 0] 57)).cell? ⟨gl, 0, none⟩ = some (.pointer (some ⟨wk, 0, none⟩)) := (B0.cell (p := ⟨gl, 0, none⟩) (World.block_lt_of_cell? w _ hc)).trans hc
  clear h hc hx1 hx2 hx3 hx4
  go_enter Try.func84, Try.ntmps84
  go_upto_region 1 with (fail)
  generalize (w.alloc (.cells #[.int .i64 0, .int .i64 a, .int .i64 b] 57)).alloc (.cells #[.int .i64 0, .int .i64 0, .int .i64 0] 57) = v0 at *
  have Bv0 := Lib.hid B0
  have K8v0 := Lib.hid K8
  obtain ⟨a0, a1, a2, _, _, _, _⟩ := K5.three6
  clear B0 K5 K8
  go_wp2_with (go_at_call 88; (with_reducible refine (CC.out _ Bv0.out).mono ?_); rintro e v1 ⟨rfl, hb⟩; have Bv1 := Lib.hid (Bv0.out.trans (hb.mono Bv0.out.size)); have K8v1 := Lib.hid (K8v0.out.below hb K8v0.out.lt); obtain ⟨r0, r1, r2, r3, r4, r5, r6⟩ := K8v1.out.three6; clear hb)
  have KZ := K8v1.out.tri (.int .i64 x) (.int .i64 y) (.int .i64 z)
  obtain ⟨e0, e1', e2, _, _, _, _⟩ := KZ.three6
  exact bodyPost_ret (v := .tuple #[.agg #[.int .i64 x, .int .i64 y, .int .i64 z], .int .i64 u]) (by simp [results, Try.results84, go_sem, e0, e1', e2]) rfl ⟨rfl, ((Bv1.out.setCell (p := ⟨w.heap.size + 1, 0, none⟩) (Nat.le_succ _) _).setCell (p := ⟨w.heap.size + 1, 1, none⟩) (Nat.le_succ _) _).setCell (p := ⟨w.heap.size + 1, 2, none⟩) (Nat.le_succ _) _⟩
set_option maxRecDepth 100000 in
set_option maxHeartbeats 4000000 in
theorem fst_1 (h : RK wk N A cA O V nv cV M gs w) (gl : Nat) (hc : w.cell? ⟨gl, 0, none⟩ = some (.pointer (some ⟨wk, 0, none⟩))) (a b x y z u : Int) (hN : N ≤ 1000) (hl : gs.length ≤ 20000) (hx1 : x = 1) (hx2 : y = a) (hx3 : z = b) (hx4 : u = (nv : Int)) :
    Calls Try.prog 84 #[.agg #[.int .i64 1, .int .i64 a, .int .i64 b], .pointer (some ⟨gl, 0, none⟩)] w fun e w' => e = .returned (.tuple #[.agg #[.int .i64 x, .int .i64 y, .int .i64 z], .int .i64 u]) ∧ Below w.heap.size w w' := by
  have CC := Lib.hid (fun w' (hb' : Below w.heap.size w w') => show Calls Try.prog 88 #[.pointer (some ⟨wk, 0, none⟩), .agg #[.int .i64 1, .int .i64 a, .int .i64 b]] w' fun e w'' => e = .returned (.tuple #[.agg #[.int .i64 x, .int .i64 y, .int .i64 z], .int .i64 u]) ∧ Below w'.heap.size w' w'' from by have q := kept_any (h.later hb') 1 a b; rw [hx1, hx2, hx3, hx4]; exact q)
  have K5 := (Blk.new w 57 #[.int .i64 1, .int .i64 a, .int .i64 b]).alloc (.cells #[.int .i64 0, .int .i64 0, .int .i64 0] 57)
  have K8 := Blk.new (w.alloc (.cells #[.int .i64 1, .int .i64 a, .int .i64 b] 57)) 57 #[.int .i64 0, .int .i64 0, .int .i64 0]
  rw [World.size_alloc] at K8
  have B0 : Below w.heap.size w ((w.alloc (.cells #[.int .i64 1, .int .i64 a, .int .i64 b] 57)).alloc (.cells #[.int .i64 0, .int .i64 0, .int .i64 0] 57)) := ((Below.refl _ w).alloc (Nat.le_refl _) _).alloc (by simp) _
  have c1 : ((w.alloc (.cells #[.int .i64 1, .int .i64 a, .int .i64 b] 57)).alloc (.cells #[.int .i64 0, .int .i64 0, .int .i64 0] 57)).cell? ⟨gl, 0, none⟩ = some (.pointer (some ⟨wk, 0, none⟩)) := (B0.cell (p := ⟨gl, 0, none⟩) (World.block_lt_of_cell? w _ hc)).trans hc
  clear h hc hx1 hx2 hx3 hx4
  go_enter Try.func84, Try.ntmps84
  go_upto_region 1 with (fail)
  generalize (w.alloc (.cells #[.int .i64 1, .int .i64 a, .int .i64 b] 57)).alloc (.cells #[.int .i64 0, .int .i64 0, .int .i64 0] 57) = v0 at *
  have Bv0 := Lib.hid B0
  have K8v0 := Lib.hid K8
  obtain ⟨a0, a1, a2, _, _, _, _⟩ := K5.three6
  clear B0 K5 K8
  go_wp2_with (go_at_call 88; (with_reducible refine (CC.out _ Bv0.out).mono ?_); rintro e v1 ⟨rfl, hb⟩; have Bv1 := Lib.hid (Bv0.out.trans (hb.mono Bv0.out.size)); have K8v1 := Lib.hid (K8v0.out.below hb K8v0.out.lt); obtain ⟨r0, r1, r2, r3, r4, r5, r6⟩ := K8v1.out.three6; clear hb)
  have KZ := K8v1.out.tri (.int .i64 x) (.int .i64 y) (.int .i64 z)
  obtain ⟨e0, e1', e2, _, _, _, _⟩ := KZ.three6
  exact bodyPost_ret (v := .tuple #[.agg #[.int .i64 x, .int .i64 y, .int .i64 z], .int .i64 u]) (by simp [results, Try.results84, go_sem, e0, e1', e2]) rfl ⟨rfl, ((Bv1.out.setCell (p := ⟨w.heap.size + 1, 0, none⟩) (Nat.le_succ _) _).setCell (p := ⟨w.heap.size + 1, 1, none⟩) (Nat.le_succ _) _).setCell (p := ⟨w.heap.size + 1, 2, none⟩) (Nat.le_succ _) _⟩
theorem fold1_any (h : RK wk N A cA O V nv cV M gs w) (gl : Nat) (hc : w.cell? ⟨gl, 0, none⟩ = some (.pointer (some ⟨wk, 0, none⟩))) (op a b : Int) (hg : rg (op, a, b) ((N : Int) + (gs.length : Int)) = true) (hN : N ≤ 1000) (hl : gs.length ≤ 20000) :
    Calls Try.prog 84 #[gV (op, a, b), .pointer (some ⟨gl, 0, none⟩)] w fun e w' => e = .returned (aV (fStepG (N : Int) gs (nv : Int) (op, a, b))) ∧ Below w.heap.size w w' := by
  obtain ⟨⟨⟨x, y, z⟩, u⟩, hx⟩ : ∃ r, fStepG (N : Int) gs (nv : Int) (op, a, b) = r := ⟨_, rfl⟩
  rw [hx]
  rcases rg_cases hg with ⟨ho, rfl, rfl⟩ | ⟨rfl, h0, ha, rfl⟩ | ⟨ho, h0, ha, h1, hb⟩
  · rcases ho with rfl | rfl
    · have e : fStepG (N : Int) gs (nv : Int) (0, 0, 0) = ((0, 0, 0), (nv : Int)) := rfl
      rw [e] at hx
      injection hx with hx hu
      injection hx with hx1 hx
      injection hx with hx2 hx3
      exact fst_0 h gl hc 0 0 x y z u hN hl hx1.symm hx2.symm hx3.symm hu.symm
    · have e : fStepG (N : Int) gs (nv : Int) (1, 0, 0) = ((1, 0, 0), (nv : Int)) := rfl
      rw [e] at hx
      injection hx with hx hu
      injection hx with hx1 hx
      injection hx with hx2 hx3
      exact fst_1 h gl hc 0 0 x y z u hN hl hx1.symm hx2.symm hx3.symm hu.symm
  · exact fst_2 h gl hc a 0 x y z u h0 ha hN hl hx
  · rcases ho with rfl | rfl | rfl
    · exact fst_3 h gl hc a b x y z u h0 ha h1 hb hN hl hx
    · exact fst_4 h gl hc a b x y z u h0 ha h1 hb hN hl hx
    · exact fst_5 h gl hc a b x y z u h0 ha h1 hb hN hl hx
end
end Go.Proofs.Ytnhkgkpjkgifoaa
