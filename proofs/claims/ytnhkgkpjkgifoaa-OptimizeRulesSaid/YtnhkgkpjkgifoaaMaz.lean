/- The walks of foldPair and foldXor, way by way. -/
import Derived.Test.YtnhkgkpjkgifoaaMay
namespace Go.Proofs.Ytnhkgkpjkgifoaa
open Go.RowKit

section
variable {wk N cA nv cV : Nat} {A V : Option Addr} {O M : Value} {gs : List C3} {w : World}
set_option maxRecDepth 100000 in
set_option maxHeartbeats 4000000 in
theorem pair_1 (h : RK wk N A cA O V nv cV M gs w) (op a b dec lea : Int) (ha0 : 0 ≤ a) (ha : a < (N : Int) + (gs.length : Int)) (hb0 : 0 ≤ b) (hb : b < (N : Int) + (gs.length : Int)) (hN : N ≤ 1000) (hl : gs.length ≤ 20000) (p1 : isF (N : Int) gs a dec = true) :
    Calls Try.prog 86 #[.pointer (some ⟨wk, 0, none⟩), .agg #[.int .i64 op, .int .i64 a, .int .i64 b], .int .i64 dec, .int .i64 lea] w fun e w' => e = .returned (.tuple #[.agg #[.int .i64 dec, .int .i64 0, .int .i64 0], .int .i64 (nv : Int)]) ∧ Below w.heap.size w w' := by
  have I1 := Lib.hid (fun w' (hb' : Below w.heap.size w w') => (by have q := is_any (h.later hb') a dec ha0 ha hN hl; rwa [p1] at q))
  have IK := Lib.hid (fun w' (hb' : Below w.heap.size w w') => kept_any (h.later hb') dec 0 0)
  have K5 := (Blk.new w 57 #[.int .i64 op, .int .i64 a, .int .i64 b]).alloc (.cells #[.int .i64 0, .int .i64 0, .int .i64 0] 57)
  have K8 := Blk.new (w.alloc (.cells #[.int .i64 op, .int .i64 a, .int .i64 b] 57)) 57 #[.int .i64 0, .int .i64 0, .int .i64 0]
  rw [World.size_alloc] at K8
  have B0 : Below w.heap.size w ((w.alloc (.cells #[.int .i64 op, .int .i64 a, .int .i64 b] 57)).alloc (.cells #[.int .i64 0, .int .i64 0, .int .i64 0] 57)) := ((Below.refl _ w).alloc (Nat.le_refl _) _).alloc (by simp) _
  clear h p1
  go_enter Try.func86, Try.ntmps86
  go_upto_region 1 with (fail)
  generalize (w.alloc (.cells #[.int .i64 op, .int .i64 a, .int .i64 b] 57)).alloc (.cells #[.int .i64 0, .int .i64 0, .int .i64 0] 57) = w1 at *
  obtain ⟨a0, a1, a2, _, _, _, _⟩ := K5.three6
  go_quiet (fail)
  have Bv0 := Lib.hid (below_drewN B0 nq)
  have K5v0 := Lib.hid (K5.drewN nq)
  have K8v0 := Lib.hid (K8.drewN nq)
  generalize w1.drewN nq = v0 at *
  clear a0 a1 a2 K5 K8 B0
  obtain ⟨a0, a1, a2, _, _, _, _⟩ := K5v0.out.three6
  obtain ⟨r0, r1, r2, r3, r4, r5, r6⟩ := K8v0.out.three6
  go_wp2_with (first
    | (go_at_call 88; (with_reducible refine (IK.out _ Bv1.out).mono ?_); rintro e v2 ⟨rfl, hb⟩; have Bv2 := Lib.hid (Bv1.out.trans (hb.mono Bv1.out.size)); have K5v2 := Lib.hid (K5v1.out.below hb K5v1.out.lt); have K8v2 := Lib.hid (K8v1.out.below hb K8v1.out.lt); obtain ⟨x10, x11, x12, _, _, _, _⟩ := K5v2.out.three6; obtain ⟨y10, y11, y12, y13, y14, y15, y16⟩ := K8v2.out.three6; clear hb)
    | (go_at_call 114; (with_reducible refine (I1.out _ Bv0.out).mono ?_); rintro e v1 ⟨rfl, hb⟩; have Bv1 := Lib.hid (Bv0.out.trans (hb.mono Bv0.out.size)); have K5v1 := Lib.hid (K5v0.out.below hb K5v0.out.lt); have K8v1 := Lib.hid (K8v0.out.below hb K8v0.out.lt); obtain ⟨x00, x01, x02, _, _, _, _⟩ := K5v1.out.three6; obtain ⟨y00, y01, y02, y03, y04, y05, y06⟩ := K8v1.out.three6; clear hb))
  have KZ := K8v2.out.tri (.int .i64 dec) (.int .i64 0) (.int .i64 0)
  obtain ⟨e0, e1', e2, _, _, _, _⟩ := KZ.three6
  exact bodyPost_ret (v := .tuple #[.agg #[.int .i64 dec, .int .i64 0, .int .i64 0], .int .i64 (nv : Int)]) (by simp [results, Try.results86, go_sem, e0, e1', e2]) rfl ⟨rfl, ((Bv2.out.setCell (p := ⟨w.heap.size + 1, 0, none⟩) (by first | exact Nat.le_refl _ | exact Nat.le_succ _) _).setCell (p := ⟨w.heap.size + 1, 1, none⟩) (by first | exact Nat.le_refl _ | exact Nat.le_succ _) _).setCell (p := ⟨w.heap.size + 1, 2, none⟩) (by first | exact Nat.le_refl _ | exact Nat.le_succ _) _⟩
set_option maxRecDepth 100000 in
set_option maxHeartbeats 4000000 in
theorem pair_2 (h : RK wk N A cA O V nv cV M gs w) (op a b dec lea : Int) (ha0 : 0 ≤ a) (ha : a < (N : Int) + (gs.length : Int)) (hb0 : 0 ≤ b) (hb : b < (N : Int) + (gs.length : Int)) (hN : N ≤ 1000) (hl : gs.length ≤ 20000) (p1 : isF (N : Int) gs a dec = false) (p2 : isF (N : Int) gs b dec = true) :
    Calls Try.prog 86 #[.pointer (some ⟨wk, 0, none⟩), .agg #[.int .i64 op, .int .i64 a, .int .i64 b], .int .i64 dec, .int .i64 lea] w fun e w' => e = .returned (.tuple #[.agg #[.int .i64 dec, .int .i64 0, .int .i64 0], .int .i64 (nv : Int)]) ∧ Below w.heap.size w w' := by
  have I1 := Lib.hid (fun w' (hb' : Below w.heap.size w w') => (by have q := is_any (h.later hb') a dec ha0 ha hN hl; rwa [p1] at q))
  have I2 := Lib.hid (fun w' (hb' : Below w.heap.size w w') => (by have q := is_any (h.later hb') b dec hb0 hb hN hl; rwa [p2] at q))
  have IK := Lib.hid (fun w' (hb' : Below w.heap.size w w') => kept_any (h.later hb') dec 0 0)
  have K5 := (Blk.new w 57 #[.int .i64 op, .int .i64 a, .int .i64 b]).alloc (.cells #[.int .i64 0, .int .i64 0, .int .i64 0] 57)
  have K8 := Blk.new (w.alloc (.cells #[.int .i64 op, .int .i64 a, .int .i64 b] 57)) 57 #[.int .i64 0, .int .i64 0, .int .i64 0]
  rw [World.size_alloc] at K8
  have B0 : Below w.heap.size w ((w.alloc (.cells #[.int .i64 op, .int .i64 a, .int .i64 b] 57)).alloc (.cells #[.int .i64 0, .int .i64 0, .int .i64 0] 57)) := ((Below.refl _ w).alloc (Nat.le_refl _) _).alloc (by simp) _
  clear h p1 p2
  go_enter Try.func86, Try.ntmps86
  go_upto_region 1 with (fail)
  generalize (w.alloc (.cells #[.int .i64 op, .int .i64 a, .int .i64 b] 57)).alloc (.cells #[.int .i64 0, .int .i64 0, .int .i64 0] 57) = w1 at *
  obtain ⟨a0, a1, a2, _, _, _, _⟩ := K5.three6
  go_quiet (fail)
  have Bv0 := Lib.hid (below_drewN B0 nq)
  have K5v0 := Lib.hid (K5.drewN nq)
  have K8v0 := Lib.hid (K8.drewN nq)
  generalize w1.drewN nq = v0 at *
  clear a0 a1 a2 K5 K8 B0
  obtain ⟨a0, a1, a2, _, _, _, _⟩ := K5v0.out.three6
  obtain ⟨r0, r1, r2, r3, r4, r5, r6⟩ := K8v0.out.three6
  go_wp2_with (first
    | (go_at_call 88; (with_reducible refine (IK.out _ Bv2.out).mono ?_); rintro e v3 ⟨rfl, hb⟩; have Bv3 := Lib.hid (Bv2.out.trans (hb.mono Bv2.out.size)); have K5v3 := Lib.hid (K5v2.out.below hb K5v2.out.lt); have K8v3 := Lib.hid (K8v2.out.below hb K8v2.out.lt); obtain ⟨x20, x21, x22, _, _, _, _⟩ := K5v3.out.three6; obtain ⟨y20, y21, y22, y23, y24, y25, y26⟩ := K8v3.out.three6; clear hb)
    | (go_at_call 114; (with_reducible refine (I2.out _ Bv1.out).mono ?_); rintro e v2 ⟨rfl, hb⟩; have Bv2 := Lib.hid (Bv1.out.trans (hb.mono Bv1.out.size)); have K5v2 := Lib.hid (K5v1.out.below hb K5v1.out.lt); have K8v2 := Lib.hid (K8v1.out.below hb K8v1.out.lt); obtain ⟨x10, x11, x12, _, _, _, _⟩ := K5v2.out.three6; obtain ⟨y10, y11, y12, y13, y14, y15, y16⟩ := K8v2.out.three6; clear hb)
    | (go_at_call 114; (with_reducible refine (I1.out _ Bv0.out).mono ?_); rintro e v1 ⟨rfl, hb⟩; have Bv1 := Lib.hid (Bv0.out.trans (hb.mono Bv0.out.size)); have K5v1 := Lib.hid (K5v0.out.below hb K5v0.out.lt); have K8v1 := Lib.hid (K8v0.out.below hb K8v0.out.lt); obtain ⟨x00, x01, x02, _, _, _, _⟩ := K5v1.out.three6; obtain ⟨y00, y01, y02, y03, y04, y05, y06⟩ := K8v1.out.three6; clear hb))
  have KZ := K8v3.out.tri (.int .i64 dec) (.int .i64 0) (.int .i64 0)
  obtain ⟨e0, e1', e2, _, _, _, _⟩ := KZ.three6
  exact bodyPost_ret (v := .tuple #[.agg #[.int .i64 dec, .int .i64 0, .int .i64 0], .int .i64 (nv : Int)]) (by simp [results, Try.results86, go_sem, e0, e1', e2]) rfl ⟨rfl, ((Bv3.out.setCell (p := ⟨w.heap.size + 1, 0, none⟩) (by first | exact Nat.le_refl _ | exact Nat.le_succ _) _).setCell (p := ⟨w.heap.size + 1, 1, none⟩) (by first | exact Nat.le_refl _ | exact Nat.le_succ _) _).setCell (p := ⟨w.heap.size + 1, 2, none⟩) (by first | exact Nat.le_refl _ | exact Nat.le_succ _) _⟩
set_option maxRecDepth 100000 in
set_option maxHeartbeats 4000000 in
theorem pair_3 (h : RK wk N A cA O V nv cV M gs w) (op a b dec lea : Int) (ha0 : 0 ≤ a) (ha : a < (N : Int) + (gs.length : Int)) (hb0 : 0 ≤ b) (hb : b < (N : Int) + (gs.length : Int)) (hN : N ≤ 1000) (hl : gs.length ≤ 20000) (p1 : isF (N : Int) gs a dec = false) (p2 : isF (N : Int) gs b dec = false) (p3 : isF (N : Int) gs a lea = true) :
    Calls Try.prog 86 #[.pointer (some ⟨wk, 0, none⟩), .agg #[.int .i64 op, .int .i64 a, .int .i64 b], .int .i64 dec, .int .i64 lea] w fun e w' => e = .returned (.tuple #[.agg #[.int .i64 op, .int .i64 a, .int .i64 b], .int .i64 b]) ∧ Below w.heap.size w w' := by
  have I1 := Lib.hid (fun w' (hb' : Below w.heap.size w w') => (by have q := is_any (h.later hb') a dec ha0 ha hN hl; rwa [p1] at q))
  have I2 := Lib.hid (fun w' (hb' : Below w.heap.size w w') => (by have q := is_any (h.later hb') b dec hb0 hb hN hl; rwa [p2] at q))
  have I3 := Lib.hid (fun w' (hb' : Below w.heap.size w w') => (by have q := is_any (h.later hb') a lea ha0 ha hN hl; rwa [p3] at q))
  have K5 := (Blk.new w 57 #[.int .i64 op, .int .i64 a, .int .i64 b]).alloc (.cells #[.int .i64 0, .int .i64 0, .int .i64 0] 57)
  have K8 := Blk.new (w.alloc (.cells #[.int .i64 op, .int .i64 a, .int .i64 b] 57)) 57 #[.int .i64 0, .int .i64 0, .int .i64 0]
  rw [World.size_alloc] at K8
  have B0 : Below w.heap.size w ((w.alloc (.cells #[.int .i64 op, .int .i64 a, .int .i64 b] 57)).alloc (.cells #[.int .i64 0, .int .i64 0, .int .i64 0] 57)) := ((Below.refl _ w).alloc (Nat.le_refl _) _).alloc (by simp) _
  clear h p1 p2 p3
  go_enter Try.func86, Try.ntmps86
  go_upto_region 1 with (fail)
  generalize (w.alloc (.cells #[.int .i64 op, .int .i64 a, .int .i64 b] 57)).alloc (.cells #[.int .i64 0, .int .i64 0, .int .i64 0] 57) = w1 at *
  obtain ⟨a0, a1, a2, _, _, _, _⟩ := K5.three6
  go_quiet (fail)
  have Bv0 := Lib.hid (below_drewN B0 nq)
  have K5v0 := Lib.hid (K5.drewN nq)
  have K8v0 := Lib.hid (K8.drewN nq)
  generalize w1.drewN nq = v0 at *
  clear a0 a1 a2 K5 K8 B0
  obtain ⟨a0, a1, a2, _, _, _, _⟩ := K5v0.out.three6
  obtain ⟨r0, r1, r2, r3, r4, r5, r6⟩ := K8v0.out.three6
  go_wp2_with (first
    | (go_at_call 114; (with_reducible refine (I3.out _ Bv2.out).mono ?_); rintro e v3 ⟨rfl, hb⟩; have Bv3 := Lib.hid (Bv2.out.trans (hb.mono Bv2.out.size)); have K5v3 := Lib.hid (K5v2.out.below hb K5v2.out.lt); have K8v3 := Lib.hid (K8v2.out.below hb K8v2.out.lt); obtain ⟨x20, x21, x22, _, _, _, _⟩ := K5v3.out.three6; obtain ⟨y20, y21, y22, y23, y24, y25, y26⟩ := K8v3.out.three6; clear hb)
    | (go_at_call 114; (with_reducible refine (I2.out _ Bv1.out).mono ?_); rintro e v2 ⟨rfl, hb⟩; have Bv2 := Lib.hid (Bv1.out.trans (hb.mono Bv1.out.size)); have K5v2 := Lib.hid (K5v1.out.below hb K5v1.out.lt); have K8v2 := Lib.hid (K8v1.out.below hb K8v1.out.lt); obtain ⟨x10, x11, x12, _, _, _, _⟩ := K5v2.out.three6; obtain ⟨y10, y11, y12, y13, y14, y15, y16⟩ := K8v2.out.three6; clear hb)
    | (go_at_call 114; (with_reducible refine (I1.out _ Bv0.out).mono ?_); rintro e v1 ⟨rfl, hb⟩; have Bv1 := Lib.hid (Bv0.out.trans (hb.mono Bv0.out.size)); have K5v1 := Lib.hid (K5v0.out.below hb K5v0.out.lt); have K8v1 := Lib.hid (K8v0.out.below hb K8v0.out.lt); obtain ⟨x00, x01, x02, _, _, _, _⟩ := K5v1.out.three6; obtain ⟨y00, y01, y02, y03, y04, y05, y06⟩ := K8v1.out.three6; clear hb))
  have KZ := K8v3.out.tri (.int .i64 op) (.int .i64 a) (.int .i64 b)
  obtain ⟨e0, e1', e2, _, _, _, _⟩ := KZ.three6
  exact bodyPost_ret (v := .tuple #[.agg #[.int .i64 op, .int .i64 a, .int .i64 b], .int .i64 b]) (by simp [results, Try.results86, go_sem, e0, e1', e2]) rfl ⟨rfl, ((Bv3.out.setCell (p := ⟨w.heap.size + 1, 0, none⟩) (by first | exact Nat.le_refl _ | exact Nat.le_succ _) _).setCell (p := ⟨w.heap.size + 1, 1, none⟩) (by first | exact Nat.le_refl _ | exact Nat.le_succ _) _).setCell (p := ⟨w.heap.size + 1, 2, none⟩) (by first | exact Nat.le_refl _ | exact Nat.le_succ _) _⟩
set_option maxRecDepth 100000 in
set_option maxHeartbeats 4000000 in
theorem pair_4 (h : RK wk N A cA O V nv cV M gs w) (op a b dec lea : Int) (ha0 : 0 ≤ a) (ha : a < (N : Int) + (gs.length : Int)) (hb0 : 0 ≤ b) (hb : b < (N : Int) + (gs.length : Int)) (hN : N ≤ 1000) (hl : gs.length ≤ 20000) (p1 : isF (N : Int) gs a dec = false) (p2 : isF (N : Int) gs b dec = false) (p3 : isF (N : Int) gs a lea = false) (p4 : isF (N : Int) gs b lea = true) :
    Calls Try.prog 86 #[.pointer (some ⟨wk, 0, none⟩), .agg #[.int .i64 op, .int .i64 a, .int .i64 b], .int .i64 dec, .int .i64 lea] w fun e w' => e = .returned (.tuple #[.agg #[.int .i64 op, .int .i64 a, .int .i64 b], .int .i64 a]) ∧ Below w.heap.size w w' := by
  have I1 := Lib.hid (fun w' (hb' : Below w.heap.size w w') => (by have q := is_any (h.later hb') a dec ha0 ha hN hl; rwa [p1] at q))
  have I2 := Lib.hid (fun w' (hb' : Below w.heap.size w w') => (by have q := is_any (h.later hb') b dec hb0 hb hN hl; rwa [p2] at q))
  have I3 := Lib.hid (fun w' (hb' : Below w.heap.size w w') => (by have q := is_any (h.later hb') a lea ha0 ha hN hl; rwa [p3] at q))
  have I4 := Lib.hid (fun w' (hb' : Below w.heap.size w w') => (by have q := is_any (h.later hb') b lea hb0 hb hN hl; rwa [p4] at q))
  have K5 := (Blk.new w 57 #[.int .i64 op, .int .i64 a, .int .i64 b]).alloc (.cells #[.int .i64 0, .int .i64 0, .int .i64 0] 57)
  have K8 := Blk.new (w.alloc (.cells #[.int .i64 op, .int .i64 a, .int .i64 b] 57)) 57 #[.int .i64 0, .int .i64 0, .int .i64 0]
  rw [World.size_alloc] at K8
  have B0 : Below w.heap.size w ((w.alloc (.cells #[.int .i64 op, .int .i64 a, .int .i64 b] 57)).alloc (.cells #[.int .i64 0, .int .i64 0, .int .i64 0] 57)) := ((Below.refl _ w).alloc (Nat.le_refl _) _).alloc (by simp) _
  clear h p1 p2 p3 p4
  go_enter Try.func86, Try.ntmps86
  go_upto_region 1 with (fail)
  generalize (w.alloc (.cells #[.int .i64 op, .int .i64 a, .int .i64 b] 57)).alloc (.cells #[.int .i64 0, .int .i64 0, .int .i64 0] 57) = w1 at *
  obtain ⟨a0, a1, a2, _, _, _, _⟩ := K5.three6
  go_quiet (fail)
  have Bv0 := Lib.hid (below_drewN B0 nq)
  have K5v0 := Lib.hid (K5.drewN nq)
  have K8v0 := Lib.hid (K8.drewN nq)
  generalize w1.drewN nq = v0 at *
  clear a0 a1 a2 K5 K8 B0
  obtain ⟨a0, a1, a2, _, _, _, _⟩ := K5v0.out.three6
  obtain ⟨r0, r1, r2, r3, r4, r5, r6⟩ := K8v0.out.three6
  go_wp2_with (first
    | (go_at_call 114; (with_reducible refine (I4.out _ Bv3.out).mono ?_); rintro e v4 ⟨rfl, hb⟩; have Bv4 := Lib.hid (Bv3.out.trans (hb.mono Bv3.out.size)); have K5v4 := Lib.hid (K5v3.out.below hb K5v3.out.lt); have K8v4 := Lib.hid (K8v3.out.below hb K8v3.out.lt); obtain ⟨x30, x31, x32, _, _, _, _⟩ := K5v4.out.three6; obtain ⟨y30, y31, y32, y33, y34, y35, y36⟩ := K8v4.out.three6; clear hb)
    | (go_at_call 114; (with_reducible refine (I3.out _ Bv2.out).mono ?_); rintro e v3 ⟨rfl, hb⟩; have Bv3 := Lib.hid (Bv2.out.trans (hb.mono Bv2.out.size)); have K5v3 := Lib.hid (K5v2.out.below hb K5v2.out.lt); have K8v3 := Lib.hid (K8v2.out.below hb K8v2.out.lt); obtain ⟨x20, x21, x22, _, _, _, _⟩ := K5v3.out.three6; obtain ⟨y20, y21, y22, y23, y24, y25, y26⟩ := K8v3.out.three6; clear hb)
    | (go_at_call 114; (with_reducible refine (I2.out _ Bv1.out).mono ?_); rintro e v2 ⟨rfl, hb⟩; have Bv2 := Lib.hid (Bv1.out.trans (hb.mono Bv1.out.size)); have K5v2 := Lib.hid (K5v1.out.below hb K5v1.out.lt); have K8v2 := Lib.hid (K8v1.out.below hb K8v1.out.lt); obtain ⟨x10, x11, x12, _, _, _, _⟩ := K5v2.out.three6; obtain ⟨y10, y11, y12, y13, y14, y15, y16⟩ := K8v2.out.three6; clear hb)
    | (go_at_call 114; (with_reducible refine (I1.out _ Bv0.out).mono ?_); rintro e v1 ⟨rfl, hb⟩; have Bv1 := Lib.hid (Bv0.out.trans (hb.mono Bv0.out.size)); have K5v1 := Lib.hid (K5v0.out.below hb K5v0.out.lt); have K8v1 := Lib.hid (K8v0.out.below hb K8v0.out.lt); obtain ⟨x00, x01, x02, _, _, _, _⟩ := K5v1.out.three6; obtain ⟨y00, y01, y02, y03, y04, y05, y06⟩ := K8v1.out.three6; clear hb))
  have KZ := K8v4.out.tri (.int .i64 op) (.int .i64 a) (.int .i64 b)
  obtain ⟨e0, e1', e2, _, _, _, _⟩ := KZ.three6
  exact bodyPost_ret (v := .tuple #[.agg #[.int .i64 op, .int .i64 a, .int .i64 b], .int .i64 a]) (by simp [results, Try.results86, go_sem, e0, e1', e2]) rfl ⟨rfl, ((Bv4.out.setCell (p := ⟨w.heap.size + 1, 0, none⟩) (by first | exact Nat.le_refl _ | exact Nat.le_succ _) _).setCell (p := ⟨w.heap.size + 1, 1, none⟩) (by first | exact Nat.le_refl _ | exact Nat.le_succ _) _).setCell (p := ⟨w.heap.size + 1, 2, none⟩) (by first | exact Nat.le_refl _ | exact Nat.le_succ _) _⟩
set_option maxRecDepth 100000 in
set_option maxHeartbeats 4000000 in
theorem pair_5 (h : RK wk N A cA O V nv cV M gs w) (op a b dec lea : Int) (ha0 : 0 ≤ a) (ha : a < (N : Int) + (gs.length : Int)) (hb0 : 0 ≤ b) (hb : b < (N : Int) + (gs.length : Int)) (hN : N ≤ 1000) (hl : gs.length ≤ 20000) (p1 : isF (N : Int) gs a dec = false) (p2 : isF (N : Int) gs b dec = false) (p3 : isF (N : Int) gs a lea = false) (p4 : isF (N : Int) gs b lea = false) (p6 : (a == b) = true) :
    Calls Try.prog 86 #[.pointer (some ⟨wk, 0, none⟩), .agg #[.int .i64 op, .int .i64 a, .int .i64 b], .int .i64 dec, .int .i64 lea] w fun e w' => e = .returned (.tuple #[.agg #[.int .i64 op, .int .i64 a, .int .i64 b], .int .i64 a]) ∧ Below w.heap.size w w' := by
  have I1 := Lib.hid (fun w' (hb' : Below w.heap.size w w') => (by have q := is_any (h.later hb') a dec ha0 ha hN hl; rwa [p1] at q))
  have I2 := Lib.hid (fun w' (hb' : Below w.heap.size w w') => (by have q := is_any (h.later hb') b dec hb0 hb hN hl; rwa [p2] at q))
  have I3 := Lib.hid (fun w' (hb' : Below w.heap.size w w') => (by have q := is_any (h.later hb') a lea ha0 ha hN hl; rwa [p3] at q))
  have I4 := Lib.hid (fun w' (hb' : Below w.heap.size w w') => (by have q := is_any (h.later hb') b lea hb0 hb hN hl; rwa [p4] at q))
  have K5 := (Blk.new w 57 #[.int .i64 op, .int .i64 a, .int .i64 b]).alloc (.cells #[.int .i64 0, .int .i64 0, .int .i64 0] 57)
  have K8 := Blk.new (w.alloc (.cells #[.int .i64 op, .int .i64 a, .int .i64 b] 57)) 57 #[.int .i64 0, .int .i64 0, .int .i64 0]
  rw [World.size_alloc] at K8
  have B0 : Below w.heap.size w ((w.alloc (.cells #[.int .i64 op, .int .i64 a, .int .i64 b] 57)).alloc (.cells #[.int .i64 0, .int .i64 0, .int .i64 0] 57)) := ((Below.refl _ w).alloc (Nat.le_refl _) _).alloc (by simp) _
  clear h p1 p2 p3 p4
  go_enter Try.func86, Try.ntmps86
  go_upto_region 1 with (fail)
  generalize (w.alloc (.cells #[.int .i64 op, .int .i64 a, .int .i64 b] 57)).alloc (.cells #[.int .i64 0, .int .i64 0, .int .i64 0] 57) = w1 at *
  obtain ⟨a0, a1, a2, _, _, _, _⟩ := K5.three6
  go_quiet (fail)
  have Bv0 := Lib.hid (below_drewN B0 nq)
  have K5v0 := Lib.hid (K5.drewN nq)
  have K8v0 := Lib.hid (K8.drewN nq)
  generalize w1.drewN nq = v0 at *
  clear a0 a1 a2 K5 K8 B0
  obtain ⟨a0, a1, a2, _, _, _, _⟩ := K5v0.out.three6
  obtain ⟨r0, r1, r2, r3, r4, r5, r6⟩ := K8v0.out.three6
  go_wp2_with (first
    | (go_at_call 114; (with_reducible refine (I4.out _ Bv3.out).mono ?_); rintro e v4 ⟨rfl, hb⟩; have Bv4 := Lib.hid (Bv3.out.trans (hb.mono Bv3.out.size)); have K5v4 := Lib.hid (K5v3.out.below hb K5v3.out.lt); have K8v4 := Lib.hid (K8v3.out.below hb K8v3.out.lt); obtain ⟨x30, x31, x32, _, _, _, _⟩ := K5v4.out.three6; obtain ⟨y30, y31, y32, y33, y34, y35, y36⟩ := K8v4.out.three6; clear hb)
    | (go_at_call 114; (with_reducible refine (I3.out _ Bv2.out).mono ?_); rintro e v3 ⟨rfl, hb⟩; have Bv3 := Lib.hid (Bv2.out.trans (hb.mono Bv2.out.size)); have K5v3 := Lib.hid (K5v2.out.below hb K5v2.out.lt); have K8v3 := Lib.hid (K8v2.out.below hb K8v2.out.lt); obtain ⟨x20, x21, x22, _, _, _, _⟩ := K5v3.out.three6; obtain ⟨y20, y21, y22, y23, y24, y25, y26⟩ := K8v3.out.three6; clear hb)
    | (go_at_call 114; (with_reducible refine (I2.out _ Bv1.out).mono ?_); rintro e v2 ⟨rfl, hb⟩; have Bv2 := Lib.hid (Bv1.out.trans (hb.mono Bv1.out.size)); have K5v2 := Lib.hid (K5v1.out.below hb K5v1.out.lt); have K8v2 := Lib.hid (K8v1.out.below hb K8v1.out.lt); obtain ⟨x10, x11, x12, _, _, _, _⟩ := K5v2.out.three6; obtain ⟨y10, y11, y12, y13, y14, y15, y16⟩ := K8v2.out.three6; clear hb)
    | (go_at_call 114; (with_reducible refine (I1.out _ Bv0.out).mono ?_); rintro e v1 ⟨rfl, hb⟩; have Bv1 := Lib.hid (Bv0.out.trans (hb.mono Bv0.out.size)); have K5v1 := Lib.hid (K5v0.out.below hb K5v0.out.lt); have K8v1 := Lib.hid (K8v0.out.below hb K8v0.out.lt); obtain ⟨x00, x01, x02, _, _, _, _⟩ := K5v1.out.three6; obtain ⟨y00, y01, y02, y03, y04, y05, y06⟩ := K8v1.out.three6; clear hb))
  have KZ := K8v4.out.tri (.int .i64 op) (.int .i64 a) (.int .i64 b)
  obtain ⟨e0, e1', e2, _, _, _, _⟩ := KZ.three6
  exact bodyPost_ret (v := .tuple #[.agg #[.int .i64 op, .int .i64 a, .int .i64 b], .int .i64 a]) (by simp [results, Try.results86, go_sem, e0, e1', e2]) rfl ⟨rfl, ((Bv4.out.setCell (p := ⟨w.heap.size + 1, 0, none⟩) (by first | exact Nat.le_refl _ | exact Nat.le_succ _) _).setCell (p := ⟨w.heap.size + 1, 1, none⟩) (by first | exact Nat.le_refl _ | exact Nat.le_succ _) _).setCell (p := ⟨w.heap.size + 1, 2, none⟩) (by first | exact Nat.le_refl _ | exact Nat.le_succ _) _⟩
set_option maxRecDepth 100000 in
set_option maxHeartbeats 4000000 in
theorem pair_6 (h : RK wk N A cA O V nv cV M gs w) (op a b dec lea : Int) (ha0 : 0 ≤ a) (ha : a < (N : Int) + (gs.length : Int)) (hb0 : 0 ≤ b) (hb : b < (N : Int) + (gs.length : Int)) (hN : N ≤ 1000) (hl : gs.length ≤ 20000) (p1 : isF (N : Int) gs a dec = false) (p2 : isF (N : Int) gs b dec = false) (p3 : isF (N : Int) gs a lea = false) (p4 : isF (N : Int) gs b lea = false) (p6 : (a == b) = false) (p5 : opF (N : Int) gs a b = true) :
    Calls Try.prog 86 #[.pointer (some ⟨wk, 0, none⟩), .agg #[.int .i64 op, .int .i64 a, .int .i64 b], .int .i64 dec, .int .i64 lea] w fun e w' => e = .returned (.tuple #[.agg #[.int .i64 dec, .int .i64 0, .int .i64 0], .int .i64 (nv : Int)]) ∧ Below w.heap.size w w' := by
  have I1 := Lib.hid (fun w' (hb' : Below w.heap.size w w') => (by have q := is_any (h.later hb') a dec ha0 ha hN hl; rwa [p1] at q))
  have I2 := Lib.hid (fun w' (hb' : Below w.heap.size w w') => (by have q := is_any (h.later hb') b dec hb0 hb hN hl; rwa [p2] at q))
  have I3 := Lib.hid (fun w' (hb' : Below w.heap.size w w') => (by have q := is_any (h.later hb') a lea ha0 ha hN hl; rwa [p3] at q))
  have I4 := Lib.hid (fun w' (hb' : Below w.heap.size w w') => (by have q := is_any (h.later hb') b lea hb0 hb hN hl; rwa [p4] at q))
  have I5 := Lib.hid (fun w' (hb' : Below w.heap.size w w') => (by have q := opp_any (h.later hb') a b ha0 ha hb0 hb hN hl; rwa [p5] at q))
  have IK := Lib.hid (fun w' (hb' : Below w.heap.size w w') => kept_any (h.later hb') dec 0 0)
  have K5 := (Blk.new w 57 #[.int .i64 op, .int .i64 a, .int .i64 b]).alloc (.cells #[.int .i64 0, .int .i64 0, .int .i64 0] 57)
  have K8 := Blk.new (w.alloc (.cells #[.int .i64 op, .int .i64 a, .int .i64 b] 57)) 57 #[.int .i64 0, .int .i64 0, .int .i64 0]
  rw [World.size_alloc] at K8
  have B0 : Below w.heap.size w ((w.alloc (.cells #[.int .i64 op, .int .i64 a, .int .i64 b] 57)).alloc (.cells #[.int .i64 0, .int .i64 0, .int .i64 0] 57)) := ((Below.refl _ w).alloc (Nat.le_refl _) _).alloc (by simp) _
  clear h p1 p2 p3 p4 p5
  go_enter Try.func86, Try.ntmps86
  go_upto_region 1 with (fail)
  generalize (w.alloc (.cells #[.int .i64 op, .int .i64 a, .int .i64 b] 57)).alloc (.cells #[.int .i64 0, .int .i64 0, .int .i64 0] 57) = w1 at *
  obtain ⟨a0, a1, a2, _, _, _, _⟩ := K5.three6
  go_quiet (fail)
  have Bv0 := Lib.hid (below_drewN B0 nq)
  have K5v0 := Lib.hid (K5.drewN nq)
  have K8v0 := Lib.hid (K8.drewN nq)
  generalize w1.drewN nq = v0 at *
  clear a0 a1 a2 K5 K8 B0
  obtain ⟨a0, a1, a2, _, _, _, _⟩ := K5v0.out.three6
  obtain ⟨r0, r1, r2, r3, r4, r5, r6⟩ := K8v0.out.three6
  go_wp2_with (first
    | (go_at_call 88; (with_reducible refine (IK.out _ Bv5.out).mono ?_); rintro e v6 ⟨rfl, hb⟩; have Bv6 := Lib.hid (Bv5.out.trans (hb.mono Bv5.out.size)); have K5v6 := Lib.hid (K5v5.out.below hb K5v5.out.lt); have K8v6 := Lib.hid (K8v5.out.below hb K8v5.out.lt); obtain ⟨x50, x51, x52, _, _, _, _⟩ := K5v6.out.three6; obtain ⟨y50, y51, y52, y53, y54, y55, y56⟩ := K8v6.out.three6; clear hb)
    | (go_at_call 116; (with_reducible refine (I5.out _ Bv4.out).mono ?_); rintro e v5 ⟨rfl, hb⟩; have Bv5 := Lib.hid (Bv4.out.trans (hb.mono Bv4.out.size)); have K5v5 := Lib.hid (K5v4.out.below hb K5v4.out.lt); have K8v5 := Lib.hid (K8v4.out.below hb K8v4.out.lt); obtain ⟨x40, x41, x42, _, _, _, _⟩ := K5v5.out.three6; obtain ⟨y40, y41, y42, y43, y44, y45, y46⟩ := K8v5.out.three6; clear hb)
    | (go_at_call 114; (with_reducible refine (I4.out _ Bv3.out).mono ?_); rintro e v4 ⟨rfl, hb⟩; have Bv4 := Lib.hid (Bv3.out.trans (hb.mono Bv3.out.size)); have K5v4 := Lib.hid (K5v3.out.below hb K5v3.out.lt); have K8v4 := Lib.hid (K8v3.out.below hb K8v3.out.lt); obtain ⟨x30, x31, x32, _, _, _, _⟩ := K5v4.out.three6; obtain ⟨y30, y31, y32, y33, y34, y35, y36⟩ := K8v4.out.three6; clear hb)
    | (go_at_call 114; (with_reducible refine (I3.out _ Bv2.out).mono ?_); rintro e v3 ⟨rfl, hb⟩; have Bv3 := Lib.hid (Bv2.out.trans (hb.mono Bv2.out.size)); have K5v3 := Lib.hid (K5v2.out.below hb K5v2.out.lt); have K8v3 := Lib.hid (K8v2.out.below hb K8v2.out.lt); obtain ⟨x20, x21, x22, _, _, _, _⟩ := K5v3.out.three6; obtain ⟨y20, y21, y22, y23, y24, y25, y26⟩ := K8v3.out.three6; clear hb)
    | (go_at_call 114; (with_reducible refine (I2.out _ Bv1.out).mono ?_); rintro e v2 ⟨rfl, hb⟩; have Bv2 := Lib.hid (Bv1.out.trans (hb.mono Bv1.out.size)); have K5v2 := Lib.hid (K5v1.out.below hb K5v1.out.lt); have K8v2 := Lib.hid (K8v1.out.below hb K8v1.out.lt); obtain ⟨x10, x11, x12, _, _, _, _⟩ := K5v2.out.three6; obtain ⟨y10, y11, y12, y13, y14, y15, y16⟩ := K8v2.out.three6; clear hb)
    | (go_at_call 114; (with_reducible refine (I1.out _ Bv0.out).mono ?_); rintro e v1 ⟨rfl, hb⟩; have Bv1 := Lib.hid (Bv0.out.trans (hb.mono Bv0.out.size)); have K5v1 := Lib.hid (K5v0.out.below hb K5v0.out.lt); have K8v1 := Lib.hid (K8v0.out.below hb K8v0.out.lt); obtain ⟨x00, x01, x02, _, _, _, _⟩ := K5v1.out.three6; obtain ⟨y00, y01, y02, y03, y04, y05, y06⟩ := K8v1.out.three6; clear hb))
  have KZ := K8v6.out.tri (.int .i64 dec) (.int .i64 0) (.int .i64 0)
  obtain ⟨e0, e1', e2, _, _, _, _⟩ := KZ.three6
  exact bodyPost_ret (v := .tuple #[.agg #[.int .i64 dec, .int .i64 0, .int .i64 0], .int .i64 (nv : Int)]) (by simp [results, Try.results86, go_sem, e0, e1', e2]) rfl ⟨rfl, ((Bv6.out.setCell (p := ⟨w.heap.size + 1, 0, none⟩) (by first | exact Nat.le_refl _ | exact Nat.le_succ _) _).setCell (p := ⟨w.heap.size + 1, 1, none⟩) (by first | exact Nat.le_refl _ | exact Nat.le_succ _) _).setCell (p := ⟨w.heap.size + 1, 2, none⟩) (by first | exact Nat.le_refl _ | exact Nat.le_succ _) _⟩
set_option maxRecDepth 100000 in
set_option maxHeartbeats 4000000 in
theorem pair_7 (h : RK wk N A cA O V nv cV M gs w) (op a b dec lea : Int) (ha0 : 0 ≤ a) (ha : a < (N : Int) + (gs.length : Int)) (hb0 : 0 ≤ b) (hb : b < (N : Int) + (gs.length : Int)) (hN : N ≤ 1000) (hl : gs.length ≤ 20000) (p1 : isF (N : Int) gs a dec = false) (p2 : isF (N : Int) gs b dec = false) (p3 : isF (N : Int) gs a lea = false) (p4 : isF (N : Int) gs b lea = false) (p6 : (a == b) = false) (p5 : opF (N : Int) gs a b = false) :
    Calls Try.prog 86 #[.pointer (some ⟨wk, 0, none⟩), .agg #[.int .i64 op, .int .i64 a, .int .i64 b], .int .i64 dec, .int .i64 lea] w fun e w' => e = .returned (.tuple #[.agg #[.int .i64 op, .int .i64 a, .int .i64 b], .int .i64 (nv : Int)]) ∧ Below w.heap.size w w' := by
  have I1 := Lib.hid (fun w' (hb' : Below w.heap.size w w') => (by have q := is_any (h.later hb') a dec ha0 ha hN hl; rwa [p1] at q))
  have I2 := Lib.hid (fun w' (hb' : Below w.heap.size w w') => (by have q := is_any (h.later hb') b dec hb0 hb hN hl; rwa [p2] at q))
  have I3 := Lib.hid (fun w' (hb' : Below w.heap.size w w') => (by have q := is_any (h.later hb') a lea ha0 ha hN hl; rwa [p3] at q))
  have I4 := Lib.hid (fun w' (hb' : Below w.heap.size w w') => (by have q := is_any (h.later hb') b lea hb0 hb hN hl; rwa [p4] at q))
  have I5 := Lib.hid (fun w' (hb' : Below w.heap.size w w') => (by have q := opp_any (h.later hb') a b ha0 ha hb0 hb hN hl; rwa [p5] at q))
  have IK := Lib.hid (fun w' (hb' : Below w.heap.size w w') => kept_any (h.later hb') op a b)
  have K5 := (Blk.new w 57 #[.int .i64 op, .int .i64 a, .int .i64 b]).alloc (.cells #[.int .i64 0, .int .i64 0, .int .i64 0] 57)
  have K8 := Blk.new (w.alloc (.cells #[.int .i64 op, .int .i64 a, .int .i64 b] 57)) 57 #[.int .i64 0, .int .i64 0, .int .i64 0]
  rw [World.size_alloc] at K8
  have B0 : Below w.heap.size w ((w.alloc (.cells #[.int .i64 op, .int .i64 a, .int .i64 b] 57)).alloc (.cells #[.int .i64 0, .int .i64 0, .int .i64 0] 57)) := ((Below.refl _ w).alloc (Nat.le_refl _) _).alloc (by simp) _
  clear h p1 p2 p3 p4 p5
  go_enter Try.func86, Try.ntmps86
  go_upto_region 1 with (fail)
  generalize (w.alloc (.cells #[.int .i64 op, .int .i64 a, .int .i64 b] 57)).alloc (.cells #[.int .i64 0, .int .i64 0, .int .i64 0] 57) = w1 at *
  obtain ⟨a0, a1, a2, _, _, _, _⟩ := K5.three6
  go_quiet (fail)
  have Bv0 := Lib.hid (below_drewN B0 nq)
  have K5v0 := Lib.hid (K5.drewN nq)
  have K8v0 := Lib.hid (K8.drewN nq)
  generalize w1.drewN nq = v0 at *
  clear a0 a1 a2 K5 K8 B0
  obtain ⟨a0, a1, a2, _, _, _, _⟩ := K5v0.out.three6
  obtain ⟨r0, r1, r2, r3, r4, r5, r6⟩ := K8v0.out.three6
  go_wp2_with (first
    | (go_at_call 88; (with_reducible refine (IK.out _ Bv5.out).mono ?_); rintro e v6 ⟨rfl, hb⟩; have Bv6 := Lib.hid (Bv5.out.trans (hb.mono Bv5.out.size)); have K5v6 := Lib.hid (K5v5.out.below hb K5v5.out.lt); have K8v6 := Lib.hid (K8v5.out.below hb K8v5.out.lt); obtain ⟨x50, x51, x52, _, _, _, _⟩ := K5v6.out.three6; obtain ⟨y50, y51, y52, y53, y54, y55, y56⟩ := K8v6.out.three6; clear hb)
    | (go_at_call 116; (with_reducible refine (I5.out _ Bv4.out).mono ?_); rintro e v5 ⟨rfl, hb⟩; have Bv5 := Lib.hid (Bv4.out.trans (hb.mono Bv4.out.size)); have K5v5 := Lib.hid (K5v4.out.below hb K5v4.out.lt); have K8v5 := Lib.hid (K8v4.out.below hb K8v4.out.lt); obtain ⟨x40, x41, x42, _, _, _, _⟩ := K5v5.out.three6; obtain ⟨y40, y41, y42, y43, y44, y45, y46⟩ := K8v5.out.three6; clear hb)
    | (go_at_call 114; (with_reducible refine (I4.out _ Bv3.out).mono ?_); rintro e v4 ⟨rfl, hb⟩; have Bv4 := Lib.hid (Bv3.out.trans (hb.mono Bv3.out.size)); have K5v4 := Lib.hid (K5v3.out.below hb K5v3.out.lt); have K8v4 := Lib.hid (K8v3.out.below hb K8v3.out.lt); obtain ⟨x30, x31, x32, _, _, _, _⟩ := K5v4.out.three6; obtain ⟨y30, y31, y32, y33, y34, y35, y36⟩ := K8v4.out.three6; clear hb)
    | (go_at_call 114; (with_reducible refine (I3.out _ Bv2.out).mono ?_); rintro e v3 ⟨rfl, hb⟩; have Bv3 := Lib.hid (Bv2.out.trans (hb.mono Bv2.out.size)); have K5v3 := Lib.hid (K5v2.out.below hb K5v2.out.lt); have K8v3 := Lib.hid (K8v2.out.below hb K8v2.out.lt); obtain ⟨x20, x21, x22, _, _, _, _⟩ := K5v3.out.three6; obtain ⟨y20, y21, y22, y23, y24, y25, y26⟩ := K8v3.out.three6; clear hb)
    | (go_at_call 114; (with_reducible refine (I2.out _ Bv1.out).mono ?_); rintro e v2 ⟨rfl, hb⟩; have Bv2 := Lib.hid (Bv1.out.trans (hb.mono Bv1.out.size)); have K5v2 := Lib.hid (K5v1.out.below hb K5v1.out.lt); have K8v2 := Lib.hid (K8v1.out.below hb K8v1.out.lt); obtain ⟨x10, x11, x12, _, _, _, _⟩ := K5v2.out.three6; obtain ⟨y10, y11, y12, y13, y14, y15, y16⟩ := K8v2.out.three6; clear hb)
    | (go_at_call 114; (with_reducible refine (I1.out _ Bv0.out).mono ?_); rintro e v1 ⟨rfl, hb⟩; have Bv1 := Lib.hid (Bv0.out.trans (hb.mono Bv0.out.size)); have K5v1 := Lib.hid (K5v0.out.below hb K5v0.out.lt); have K8v1 := Lib.hid (K8v0.out.below hb K8v0.out.lt); obtain ⟨x00, x01, x02, _, _, _, _⟩ := K5v1.out.three6; obtain ⟨y00, y01, y02, y03, y04, y05, y06⟩ := K8v1.out.three6; clear hb))
  have KZ := K8v6.out.tri (.int .i64 op) (.int .i64 a) (.int .i64 b)
  obtain ⟨e0, e1', e2, _, _, _, _⟩ := KZ.three6
  exact bodyPost_ret (v := .tuple #[.agg #[.int .i64 op, .int .i64 a, .int .i64 b], .int .i64 (nv : Int)]) (by simp [results, Try.results86, go_sem, e0, e1', e2]) rfl ⟨rfl, ((Bv6.out.setCell (p := ⟨w.heap.size + 1, 0, none⟩) (by first | exact Nat.le_refl _ | exact Nat.le_succ _) _).setCell (p := ⟨w.heap.size + 1, 1, none⟩) (by first | exact Nat.le_refl _ | exact Nat.le_succ _) _).setCell (p := ⟨w.heap.size + 1, 2, none⟩) (by first | exact Nat.le_refl _ | exact Nat.le_succ _) _⟩
set_option maxRecDepth 100000 in
set_option maxHeartbeats 4000000 in
theorem xor_1 (h : RK wk N A cA O V nv cV M gs w) (op a b : Int) (ha0 : 0 ≤ a) (ha : a < (N : Int) + (gs.length : Int)) (hb0 : 0 ≤ b) (hb : b < (N : Int) + (gs.length : Int)) (hN : N ≤ 1000) (hl : gs.length ≤ 20000) (p1 : isF (N : Int) gs a 0 = true) :
    Calls Try.prog 87 #[.pointer (some ⟨wk, 0, none⟩), .agg #[.int .i64 op, .int .i64 a, .int .i64 b]] w fun e w' => e = .returned (.tuple #[.agg #[.int .i64 op, .int .i64 a, .int .i64 b], .int .i64 b]) ∧ Below w.heap.size w w' := by
  have I1 := Lib.hid (fun w' (hb' : Below w.heap.size w w') => (by have q := is_any (h.later hb') a 0 ha0 ha hN hl; rwa [p1] at q))
  have K5 := (Blk.new w 57 #[.int .i64 op, .int .i64 a, .int .i64 b]).alloc (.cells #[.int .i64 0, .int .i64 0, .int .i64 0] 57)
  have K8 := Blk.new (w.alloc (.cells #[.int .i64 op, .int .i64 a, .int .i64 b] 57)) 57 #[.int .i64 0, .int .i64 0, .int .i64 0]
  rw [World.size_alloc] at K8
  have B0 : Below w.heap.size w ((w.alloc (.cells #[.int .i64 op, .int .i64 a, .int .i64 b] 57)).alloc (.cells #[.int .i64 0, .int .i64 0, .int .i64 0] 57)) := ((Below.refl _ w).alloc (Nat.le_refl _) _).alloc (by simp) _
  clear h p1
  go_enter Try.func87, Try.ntmps87
  go_upto_region 1 with (fail)
  generalize (w.alloc (.cells #[.int .i64 op, .int .i64 a, .int .i64 b] 57)).alloc (.cells #[.int .i64 0, .int .i64 0, .int .i64 0] 57) = w1 at *
  obtain ⟨a0, a1, a2, _, _, _, _⟩ := K5.three6
  go_quiet (fail)
  have Bv0 := Lib.hid (below_drewN B0 nq)
  have K5v0 := Lib.hid (K5.drewN nq)
  have K8v0 := Lib.hid (K8.drewN nq)
  generalize w1.drewN nq = v0 at *
  clear a0 a1 a2 K5 K8 B0
  obtain ⟨a0, a1, a2, _, _, _, _⟩ := K5v0.out.three6
  obtain ⟨r0, r1, r2, r3, r4, r5, r6⟩ := K8v0.out.three6
  go_wp2_with (first
    | (go_at_call 114; (with_reducible refine (I1.out _ Bv0.out).mono ?_); rintro e v1 ⟨rfl, hb⟩; have Bv1 := Lib.hid (Bv0.out.trans (hb.mono Bv0.out.size)); have K5v1 := Lib.hid (K5v0.out.below hb K5v0.out.lt); have K8v1 := Lib.hid (K8v0.out.below hb K8v0.out.lt); obtain ⟨x00, x01, x02, _, _, _, _⟩ := K5v1.out.three6; obtain ⟨y00, y01, y02, y03, y04, y05, y06⟩ := K8v1.out.three6; clear hb))
  have KZ := K8v1.out.tri (.int .i64 op) (.int .i64 a) (.int .i64 b)
  obtain ⟨e0, e1', e2, _, _, _, _⟩ := KZ.three6
  exact bodyPost_ret (v := .tuple #[.agg #[.int .i64 op, .int .i64 a, .int .i64 b], .int .i64 b]) (by simp [results, Try.results87, go_sem, e0, e1', e2]) rfl ⟨rfl, ((Bv1.out.setCell (p := ⟨w.heap.size + 1, 0, none⟩) (by first | exact Nat.le_refl _ | exact Nat.le_succ _) _).setCell (p := ⟨w.heap.size + 1, 1, none⟩) (by first | exact Nat.le_refl _ | exact Nat.le_succ _) _).setCell (p := ⟨w.heap.size + 1, 2, none⟩) (by first | exact Nat.le_refl _ | exact Nat.le_succ _) _⟩
set_option maxRecDepth 100000 in
set_option maxHeartbeats 4000000 in
theorem xor_2 (h : RK wk N A cA O V nv cV M gs w) (op a b : Int) (ha0 : 0 ≤ a) (ha : a < (N : Int) + (gs.length : Int)) (hb0 : 0 ≤ b) (hb : b < (N : Int) + (gs.length : Int)) (hN : N ≤ 1000) (hl : gs.length ≤ 20000) (p1 : isF (N : Int) gs a 0 = false) (p2 : isF (N : Int) gs b 0 = true) :
    Calls Try.prog 87 #[.pointer (some ⟨wk, 0, none⟩), .agg #[.int .i64 op, .int .i64 a, .int .i64 b]] w fun e w' => e = .returned (.tuple #[.agg #[.int .i64 op, .int .i64 a, .int .i64 b], .int .i64 a]) ∧ Below w.heap.size w w' := by
  have I1 := Lib.hid (fun w' (hb' : Below w.heap.size w w') => (by have q := is_any (h.later hb') a 0 ha0 ha hN hl; rwa [p1] at q))
  have I2 := Lib.hid (fun w' (hb' : Below w.heap.size w w') => (by have q := is_any (h.later hb') b 0 hb0 hb hN hl; rwa [p2] at q))
  have K5 := (Blk.new w 57 #[.int .i64 op, .int .i64 a, .int .i64 b]).alloc (.cells #[.int .i64 0, .int .i64 0, .int .i64 0] 57)
  have K8 := Blk.new (w.alloc (.cells #[.int .i64 op, .int .i64 a, .int .i64 b] 57)) 57 #[.int .i64 0, .int .i64 0, .int .i64 0]
  rw [World.size_alloc] at K8
  have B0 : Below w.heap.size w ((w.alloc (.cells #[.int .i64 op, .int .i64 a, .int .i64 b] 57)).alloc (.cells #[.int .i64 0, .int .i64 0, .int .i64 0] 57)) := ((Below.refl _ w).alloc (Nat.le_refl _) _).alloc (by simp) _
  clear h p1 p2
  go_enter Try.func87, Try.ntmps87
  go_upto_region 1 with (fail)
  generalize (w.alloc (.cells #[.int .i64 op, .int .i64 a, .int .i64 b] 57)).alloc (.cells #[.int .i64 0, .int .i64 0, .int .i64 0] 57) = w1 at *
  obtain ⟨a0, a1, a2, _, _, _, _⟩ := K5.three6
  go_quiet (fail)
  have Bv0 := Lib.hid (below_drewN B0 nq)
  have K5v0 := Lib.hid (K5.drewN nq)
  have K8v0 := Lib.hid (K8.drewN nq)
  generalize w1.drewN nq = v0 at *
  clear a0 a1 a2 K5 K8 B0
  obtain ⟨a0, a1, a2, _, _, _, _⟩ := K5v0.out.three6
  obtain ⟨r0, r1, r2, r3, r4, r5, r6⟩ := K8v0.out.three6
  go_wp2_with (first
    | (go_at_call 114; (with_reducible refine (I2.out _ Bv1.out).mono ?_); rintro e v2 ⟨rfl, hb⟩; have Bv2 := Lib.hid (Bv1.out.trans (hb.mono Bv1.out.size)); have K5v2 := Lib.hid (K5v1.out.below hb K5v1.out.lt); have K8v2 := Lib.hid (K8v1.out.below hb K8v1.out.lt); obtain ⟨x10, x11, x12, _, _, _, _⟩ := K5v2.out.three6; obtain ⟨y10, y11, y12, y13, y14, y15, y16⟩ := K8v2.out.three6; clear hb)
    | (go_at_call 114; (with_reducible refine (I1.out _ Bv0.out).mono ?_); rintro e v1 ⟨rfl, hb⟩; have Bv1 := Lib.hid (Bv0.out.trans (hb.mono Bv0.out.size)); have K5v1 := Lib.hid (K5v0.out.below hb K5v0.out.lt); have K8v1 := Lib.hid (K8v0.out.below hb K8v0.out.lt); obtain ⟨x00, x01, x02, _, _, _, _⟩ := K5v1.out.three6; obtain ⟨y00, y01, y02, y03, y04, y05, y06⟩ := K8v1.out.three6; clear hb))
  have KZ := K8v2.out.tri (.int .i64 op) (.int .i64 a) (.int .i64 b)
  obtain ⟨e0, e1', e2, _, _, _, _⟩ := KZ.three6
  exact bodyPost_ret (v := .tuple #[.agg #[.int .i64 op, .int .i64 a, .int .i64 b], .int .i64 a]) (by simp [results, Try.results87, go_sem, e0, e1', e2]) rfl ⟨rfl, ((Bv2.out.setCell (p := ⟨w.heap.size + 1, 0, none⟩) (by first | exact Nat.le_refl _ | exact Nat.le_succ _) _).setCell (p := ⟨w.heap.size + 1, 1, none⟩) (by first | exact Nat.le_refl _ | exact Nat.le_succ _) _).setCell (p := ⟨w.heap.size + 1, 2, none⟩) (by first | exact Nat.le_refl _ | exact Nat.le_succ _) _⟩
set_option maxRecDepth 100000 in
set_option maxHeartbeats 4000000 in
theorem xor_3 (h : RK wk N A cA O V nv cV M gs w) (op a b : Int) (ha0 : 0 ≤ a) (ha : a < (N : Int) + (gs.length : Int)) (hb0 : 0 ≤ b) (hb : b < (N : Int) + (gs.length : Int)) (hN : N ≤ 1000) (hl : gs.length ≤ 20000) (p1 : isF (N : Int) gs a 0 = false) (p2 : isF (N : Int) gs b 0 = false) (p6 : (a == b) = true) :
    Calls Try.prog 87 #[.pointer (some ⟨wk, 0, none⟩), .agg #[.int .i64 op, .int .i64 a, .int .i64 b]] w fun e w' => e = .returned (.tuple #[.agg #[.int .i64 0, .int .i64 0, .int .i64 0], .int .i64 (nv : Int)]) ∧ Below w.heap.size w w' := by
  have I1 := Lib.hid (fun w' (hb' : Below w.heap.size w w') => (by have q := is_any (h.later hb') a 0 ha0 ha hN hl; rwa [p1] at q))
  have I2 := Lib.hid (fun w' (hb' : Below w.heap.size w w') => (by have q := is_any (h.later hb') b 0 hb0 hb hN hl; rwa [p2] at q))
  have IK := Lib.hid (fun w' (hb' : Below w.heap.size w w') => kept_any (h.later hb') 0 0 0)
  have K5 := (Blk.new w 57 #[.int .i64 op, .int .i64 a, .int .i64 b]).alloc (.cells #[.int .i64 0, .int .i64 0, .int .i64 0] 57)
  have K8 := Blk.new (w.alloc (.cells #[.int .i64 op, .int .i64 a, .int .i64 b] 57)) 57 #[.int .i64 0, .int .i64 0, .int .i64 0]
  rw [World.size_alloc] at K8
  have B0 : Below w.heap.size w ((w.alloc (.cells #[.int .i64 op, .int .i64 a, .int .i64 b] 57)).alloc (.cells #[.int .i64 0, .int .i64 0, .int .i64 0] 57)) := ((Below.refl _ w).alloc (Nat.le_refl _) _).alloc (by simp) _
  clear h p1 p2
  go_enter Try.func87, Try.ntmps87
  go_upto_region 1 with (fail)
  generalize (w.alloc (.cells #[.int .i64 op, .int .i64 a, .int .i64 b] 57)).alloc (.cells #[.int .i64 0, .int .i64 0, .int .i64 0] 57) = w1 at *
  obtain ⟨a0, a1, a2, _, _, _, _⟩ := K5.three6
  go_quiet (fail)
  have Bv0 := Lib.hid (below_drewN B0 nq)
  have K5v0 := Lib.hid (K5.drewN nq)
  have K8v0 := Lib.hid (K8.drewN nq)
  generalize w1.drewN nq = v0 at *
  clear a0 a1 a2 K5 K8 B0
  obtain ⟨a0, a1, a2, _, _, _, _⟩ := K5v0.out.three6
  obtain ⟨r0, r1, r2, r3, r4, r5, r6⟩ := K8v0.out.three6
  go_wp2_with (first
    | (go_at_call 88; (with_reducible refine (IK.out _ Bv2.out).mono ?_); rintro e v3 ⟨rfl, hb⟩; have Bv3 := Lib.hid (Bv2.out.trans (hb.mono Bv2.out.size)); have K5v3 := Lib.hid (K5v2.out.below hb K5v2.out.lt); have K8v3 := Lib.hid (K8v2.out.below hb K8v2.out.lt); obtain ⟨x20, x21, x22, _, _, _, _⟩ := K5v3.out.three6; obtain ⟨y20, y21, y22, y23, y24, y25, y26⟩ := K8v3.out.three6; clear hb)
    | (go_at_call 114; (with_reducible refine (I2.out _ Bv1.out).mono ?_); rintro e v2 ⟨rfl, hb⟩; have Bv2 := Lib.hid (Bv1.out.trans (hb.mono Bv1.out.size)); have K5v2 := Lib.hid (K5v1.out.below hb K5v1.out.lt); have K8v2 := Lib.hid (K8v1.out.below hb K8v1.out.lt); obtain ⟨x10, x11, x12, _, _, _, _⟩ := K5v2.out.three6; obtain ⟨y10, y11, y12, y13, y14, y15, y16⟩ := K8v2.out.three6; clear hb)
    | (go_at_call 114; (with_reducible refine (I1.out _ Bv0.out).mono ?_); rintro e v1 ⟨rfl, hb⟩; have Bv1 := Lib.hid (Bv0.out.trans (hb.mono Bv0.out.size)); have K5v1 := Lib.hid (K5v0.out.below hb K5v0.out.lt); have K8v1 := Lib.hid (K8v0.out.below hb K8v0.out.lt); obtain ⟨x00, x01, x02, _, _, _, _⟩ := K5v1.out.three6; obtain ⟨y00, y01, y02, y03, y04, y05, y06⟩ := K8v1.out.three6; clear hb))
  have KZ := K8v3.out.tri (.int .i64 0) (.int .i64 0) (.int .i64 0)
  obtain ⟨e0, e1', e2, _, _, _, _⟩ := KZ.three6
  exact bodyPost_ret (v := .tuple #[.agg #[.int .i64 0, .int .i64 0, .int .i64 0], .int .i64 (nv : Int)]) (by simp [results, Try.results87, go_sem, e0, e1', e2]) rfl ⟨rfl, ((Bv3.out.setCell (p := ⟨w.heap.size + 1, 0, none⟩) (by first | exact Nat.le_refl _ | exact Nat.le_succ _) _).setCell (p := ⟨w.heap.size + 1, 1, none⟩) (by first | exact Nat.le_refl _ | exact Nat.le_succ _) _).setCell (p := ⟨w.heap.size + 1, 2, none⟩) (by first | exact Nat.le_refl _ | exact Nat.le_succ _) _⟩
set_option maxRecDepth 100000 in
set_option maxHeartbeats 4000000 in
theorem xor_4 (h : RK wk N A cA O V nv cV M gs w) (op a b : Int) (ha0 : 0 ≤ a) (ha : a < (N : Int) + (gs.length : Int)) (hb0 : 0 ≤ b) (hb : b < (N : Int) + (gs.length : Int)) (hN : N ≤ 1000) (hl : gs.length ≤ 20000) (p1 : isF (N : Int) gs a 0 = false) (p2 : isF (N : Int) gs b 0 = false) (p6 : (a == b) = false) (p5 : opF (N : Int) gs a b = true) :
    Calls Try.prog 87 #[.pointer (some ⟨wk, 0, none⟩), .agg #[.int .i64 op, .int .i64 a, .int .i64 b]] w fun e w' => e = .returned (.tuple #[.agg #[.int .i64 1, .int .i64 0, .int .i64 0], .int .i64 (nv : Int)]) ∧ Below w.heap.size w w' := by
  have I1 := Lib.hid (fun w' (hb' : Below w.heap.size w w') => (by have q := is_any (h.later hb') a 0 ha0 ha hN hl; rwa [p1] at q))
  have I2 := Lib.hid (fun w' (hb' : Below w.heap.size w w') => (by have q := is_any (h.later hb') b 0 hb0 hb hN hl; rwa [p2] at q))
  have I5 := Lib.hid (fun w' (hb' : Below w.heap.size w w') => (by have q := opp_any (h.later hb') a b ha0 ha hb0 hb hN hl; rwa [p5] at q))
  have IK := Lib.hid (fun w' (hb' : Below w.heap.size w w') => kept_any (h.later hb') 1 0 0)
  have K5 := (Blk.new w 57 #[.int .i64 op, .int .i64 a, .int .i64 b]).alloc (.cells #[.int .i64 0, .int .i64 0, .int .i64 0] 57)
  have K8 := Blk.new (w.alloc (.cells #[.int .i64 op, .int .i64 a, .int .i64 b] 57)) 57 #[.int .i64 0, .int .i64 0, .int .i64 0]
  rw [World.size_alloc] at K8
  have B0 : Below w.heap.size w ((w.alloc (.cells #[.int .i64 op, .int .i64 a, .int .i64 b] 57)).alloc (.cells #[.int .i64 0, .int .i64 0, .int .i64 0] 57)) := ((Below.refl _ w).alloc (Nat.le_refl _) _).alloc (by simp) _
  clear h p1 p2 p5
  go_enter Try.func87, Try.ntmps87
  go_upto_region 1 with (fail)
  generalize (w.alloc (.cells #[.int .i64 op, .int .i64 a, .int .i64 b] 57)).alloc (.cells #[.int .i64 0, .int .i64 0, .int .i64 0] 57) = w1 at *
  obtain ⟨a0, a1, a2, _, _, _, _⟩ := K5.three6
  go_quiet (fail)
  have Bv0 := Lib.hid (below_drewN B0 nq)
  have K5v0 := Lib.hid (K5.drewN nq)
  have K8v0 := Lib.hid (K8.drewN nq)
  generalize w1.drewN nq = v0 at *
  clear a0 a1 a2 K5 K8 B0
  obtain ⟨a0, a1, a2, _, _, _, _⟩ := K5v0.out.three6
  obtain ⟨r0, r1, r2, r3, r4, r5, r6⟩ := K8v0.out.three6
  go_wp2_with (first
    | (go_at_call 88; (with_reducible refine (IK.out _ Bv3.out).mono ?_); rintro e v4 ⟨rfl, hb⟩; have Bv4 := Lib.hid (Bv3.out.trans (hb.mono Bv3.out.size)); have K5v4 := Lib.hid (K5v3.out.below hb K5v3.out.lt); have K8v4 := Lib.hid (K8v3.out.below hb K8v3.out.lt); obtain ⟨x30, x31, x32, _, _, _, _⟩ := K5v4.out.three6; obtain ⟨y30, y31, y32, y33, y34, y35, y36⟩ := K8v4.out.three6; clear hb)
    | (go_at_call 116; (with_reducible refine (I5.out _ Bv2.out).mono ?_); rintro e v3 ⟨rfl, hb⟩; have Bv3 := Lib.hid (Bv2.out.trans (hb.mono Bv2.out.size)); have K5v3 := Lib.hid (K5v2.out.below hb K5v2.out.lt); have K8v3 := Lib.hid (K8v2.out.below hb K8v2.out.lt); obtain ⟨x20, x21, x22, _, _, _, _⟩ := K5v3.out.three6; obtain ⟨y20, y21, y22, y23, y24, y25, y26⟩ := K8v3.out.three6; clear hb)
    | (go_at_call 114; (with_reducible refine (I2.out _ Bv1.out).mono ?_); rintro e v2 ⟨rfl, hb⟩; have Bv2 := Lib.hid (Bv1.out.trans (hb.mono Bv1.out.size)); have K5v2 := Lib.hid (K5v1.out.below hb K5v1.out.lt); have K8v2 := Lib.hid (K8v1.out.below hb K8v1.out.lt); obtain ⟨x10, x11, x12, _, _, _, _⟩ := K5v2.out.three6; obtain ⟨y10, y11, y12, y13, y14, y15, y16⟩ := K8v2.out.three6; clear hb)
    | (go_at_call 114; (with_reducible refine (I1.out _ Bv0.out).mono ?_); rintro e v1 ⟨rfl, hb⟩; have Bv1 := Lib.hid (Bv0.out.trans (hb.mono Bv0.out.size)); have K5v1 := Lib.hid (K5v0.out.below hb K5v0.out.lt); have K8v1 := Lib.hid (K8v0.out.below hb K8v0.out.lt); obtain ⟨x00, x01, x02, _, _, _, _⟩ := K5v1.out.three6; obtain ⟨y00, y01, y02, y03, y04, y05, y06⟩ := K8v1.out.three6; clear hb))
  have KZ := K8v4.out.tri (.int .i64 1) (.int .i64 0) (.int .i64 0)
  obtain ⟨e0, e1', e2, _, _, _, _⟩ := KZ.three6
  exact bodyPost_ret (v := .tuple #[.agg #[.int .i64 1, .int .i64 0, .int .i64 0], .int .i64 (nv : Int)]) (by simp [results, Try.results87, go_sem, e0, e1', e2]) rfl ⟨rfl, ((Bv4.out.setCell (p := ⟨w.heap.size + 1, 0, none⟩) (by first | exact Nat.le_refl _ | exact Nat.le_succ _) _).setCell (p := ⟨w.heap.size + 1, 1, none⟩) (by first | exact Nat.le_refl _ | exact Nat.le_succ _) _).setCell (p := ⟨w.heap.size + 1, 2, none⟩) (by first | exact Nat.le_refl _ | exact Nat.le_succ _) _⟩
set_option maxRecDepth 100000 in
set_option maxHeartbeats 4000000 in
theorem xor_5 (h : RK wk N A cA O V nv cV M gs w) (op a b : Int) (x y z u : Int) (ha0 : 0 ≤ a) (ha : a < (N : Int) + (gs.length : Int)) (hb0 : 0 ≤ b) (hb : b < (N : Int) + (gs.length : Int)) (hN : N ≤ 1000) (hl : gs.length ≤ 20000) (p1 : isF (N : Int) gs a 0 = false) (p2 : isF (N : Int) gs b 0 = false) (p6 : (a == b) = false) (p5 : opF (N : Int) gs a b = false) (p3 : isF (N : Int) gs a 1 = true) (p7 : fNotG (N : Int) gs (nv : Int) b = ((x, y, z), u)) :
    Calls Try.prog 87 #[.pointer (some ⟨wk, 0, none⟩), .agg #[.int .i64 op, .int .i64 a, .int .i64 b]] w fun e w' => e = .returned (.tuple #[.agg #[.int .i64 x, .int .i64 y, .int .i64 z], .int .i64 u]) ∧ Below w.heap.size w w' := by
  have I1 := Lib.hid (fun w' (hb' : Below w.heap.size w w') => (by have q := is_any (h.later hb') a 0 ha0 ha hN hl; rwa [p1] at q))
  have I2 := Lib.hid (fun w' (hb' : Below w.heap.size w w') => (by have q := is_any (h.later hb') b 0 hb0 hb hN hl; rwa [p2] at q))
  have I5 := Lib.hid (fun w' (hb' : Below w.heap.size w w') => (by have q := opp_any (h.later hb') a b ha0 ha hb0 hb hN hl; rwa [p5] at q))
  have I3 := Lib.hid (fun w' (hb' : Below w.heap.size w w') => (by have q := is_any (h.later hb') a 1 ha0 ha hN hl; rwa [p3] at q))
  have I7 := Lib.hid (fun w' (hb' : Below w.heap.size w w') => (show Calls Try.prog 85 #[.pointer (some ⟨wk, 0, none⟩), .int .i64 b] w' fun e w'' => e = .returned (.tuple #[.agg #[.int .i64 x, .int .i64 y, .int .i64 z], .int .i64 u]) ∧ Below w'.heap.size w' w'' from by have q := foldNot_any (h.later hb') b hb0 hb hN hl; rw [p7] at q; exact q))
  have K5 := (Blk.new w 57 #[.int .i64 op, .int .i64 a, .int .i64 b]).alloc (.cells #[.int .i64 0, .int .i64 0, .int .i64 0] 57)
  have K8 := Blk.new (w.alloc (.cells #[.int .i64 op, .int .i64 a, .int .i64 b] 57)) 57 #[.int .i64 0, .int .i64 0, .int .i64 0]
  rw [World.size_alloc] at K8
  have B0 : Below w.heap.size w ((w.alloc (.cells #[.int .i64 op, .int .i64 a, .int .i64 b] 57)).alloc (.cells #[.int .i64 0, .int .i64 0, .int .i64 0] 57)) := ((Below.refl _ w).alloc (Nat.le_refl _) _).alloc (by simp) _
  clear h p1 p2 p3 p5 p7
  go_enter Try.func87, Try.ntmps87
  go_upto_region 1 with (fail)
  generalize (w.alloc (.cells #[.int .i64 op, .int .i64 a, .int .i64 b] 57)).alloc (.cells #[.int .i64 0, .int .i64 0, .int .i64 0] 57) = w1 at *
  obtain ⟨a0, a1, a2, _, _, _, _⟩ := K5.three6
  go_quiet (fail)
  have Bv0 := Lib.hid (below_drewN B0 nq)
  have K5v0 := Lib.hid (K5.drewN nq)
  have K8v0 := Lib.hid (K8.drewN nq)
  generalize w1.drewN nq = v0 at *
  clear a0 a1 a2 K5 K8 B0
  obtain ⟨a0, a1, a2, _, _, _, _⟩ := K5v0.out.three6
  obtain ⟨r0, r1, r2, r3, r4, r5, r6⟩ := K8v0.out.three6
  go_wp2_with (first
    | (go_at_call 85; (with_reducible refine (I7.out _ Bv4.out).mono ?_); rintro e v5 ⟨rfl, hb⟩; have Bv5 := Lib.hid (Bv4.out.trans (hb.mono Bv4.out.size)); have K5v5 := Lib.hid (K5v4.out.below hb K5v4.out.lt); have K8v5 := Lib.hid (K8v4.out.below hb K8v4.out.lt); obtain ⟨x40, x41, x42, _, _, _, _⟩ := K5v5.out.three6; obtain ⟨y40, y41, y42, y43, y44, y45, y46⟩ := K8v5.out.three6; clear hb)
    | (go_at_call 114; (with_reducible refine (I3.out _ Bv3.out).mono ?_); rintro e v4 ⟨rfl, hb⟩; have Bv4 := Lib.hid (Bv3.out.trans (hb.mono Bv3.out.size)); have K5v4 := Lib.hid (K5v3.out.below hb K5v3.out.lt); have K8v4 := Lib.hid (K8v3.out.below hb K8v3.out.lt); obtain ⟨x30, x31, x32, _, _, _, _⟩ := K5v4.out.three6; obtain ⟨y30, y31, y32, y33, y34, y35, y36⟩ := K8v4.out.three6; clear hb)
    | (go_at_call 116; (with_reducible refine (I5.out _ Bv2.out).mono ?_); rintro e v3 ⟨rfl, hb⟩; have Bv3 := Lib.hid (Bv2.out.trans (hb.mono Bv2.out.size)); have K5v3 := Lib.hid (K5v2.out.below hb K5v2.out.lt); have K8v3 := Lib.hid (K8v2.out.below hb K8v2.out.lt); obtain ⟨x20, x21, x22, _, _, _, _⟩ := K5v3.out.three6; obtain ⟨y20, y21, y22, y23, y24, y25, y26⟩ := K8v3.out.three6; clear hb)
    | (go_at_call 114; (with_reducible refine (I2.out _ Bv1.out).mono ?_); rintro e v2 ⟨rfl, hb⟩; have Bv2 := Lib.hid (Bv1.out.trans (hb.mono Bv1.out.size)); have K5v2 := Lib.hid (K5v1.out.below hb K5v1.out.lt); have K8v2 := Lib.hid (K8v1.out.below hb K8v1.out.lt); obtain ⟨x10, x11, x12, _, _, _, _⟩ := K5v2.out.three6; obtain ⟨y10, y11, y12, y13, y14, y15, y16⟩ := K8v2.out.three6; clear hb)
    | (go_at_call 114; (with_reducible refine (I1.out _ Bv0.out).mono ?_); rintro e v1 ⟨rfl, hb⟩; have Bv1 := Lib.hid (Bv0.out.trans (hb.mono Bv0.out.size)); have K5v1 := Lib.hid (K5v0.out.below hb K5v0.out.lt); have K8v1 := Lib.hid (K8v0.out.below hb K8v0.out.lt); obtain ⟨x00, x01, x02, _, _, _, _⟩ := K5v1.out.three6; obtain ⟨y00, y01, y02, y03, y04, y05, y06⟩ := K8v1.out.three6; clear hb))
  have KZ := K8v5.out.tri (.int .i64 x) (.int .i64 y) (.int .i64 z)
  obtain ⟨e0, e1', e2, _, _, _, _⟩ := KZ.three6
  exact bodyPost_ret (v := .tuple #[.agg #[.int .i64 x, .int .i64 y, .int .i64 z], .int .i64 u]) (by simp [results, Try.results87, go_sem, e0, e1', e2]) rfl ⟨rfl, ((Bv5.out.setCell (p := ⟨w.heap.size + 1, 0, none⟩) (by first | exact Nat.le_refl _ | exact Nat.le_succ _) _).setCell (p := ⟨w.heap.size + 1, 1, none⟩) (by first | exact Nat.le_refl _ | exact Nat.le_succ _) _).setCell (p := ⟨w.heap.size + 1, 2, none⟩) (by first | exact Nat.le_refl _ | exact Nat.le_succ _) _⟩
set_option maxRecDepth 100000 in
set_option maxHeartbeats 4000000 in
theorem xor_6 (h : RK wk N A cA O V nv cV M gs w) (op a b : Int) (x y z u : Int) (ha0 : 0 ≤ a) (ha : a < (N : Int) + (gs.length : Int)) (hb0 : 0 ≤ b) (hb : b < (N : Int) + (gs.length : Int)) (hN : N ≤ 1000) (hl : gs.length ≤ 20000) (p1 : isF (N : Int) gs a 0 = false) (p2 : isF (N : Int) gs b 0 = false) (p6 : (a == b) = false) (p5 : opF (N : Int) gs a b = false) (p3 : isF (N : Int) gs a 1 = false) (p4 : isF (N : Int) gs b 1 = true) (p7 : fNotG (N : Int) gs (nv : Int) a = ((x, y, z), u)) :
    Calls Try.prog 87 #[.pointer (some ⟨wk, 0, none⟩), .agg #[.int .i64 op, .int .i64 a, .int .i64 b]] w fun e w' => e = .returned (.tuple #[.agg #[.int .i64 x, .int .i64 y, .int .i64 z], .int .i64 u]) ∧ Below w.heap.size w w' := by
  have I1 := Lib.hid (fun w' (hb' : Below w.heap.size w w') => (by have q := is_any (h.later hb') a 0 ha0 ha hN hl; rwa [p1] at q))
  have I2 := Lib.hid (fun w' (hb' : Below w.heap.size w w') => (by have q := is_any (h.later hb') b 0 hb0 hb hN hl; rwa [p2] at q))
  have I5 := Lib.hid (fun w' (hb' : Below w.heap.size w w') => (by have q := opp_any (h.later hb') a b ha0 ha hb0 hb hN hl; rwa [p5] at q))
  have I3 := Lib.hid (fun w' (hb' : Below w.heap.size w w') => (by have q := is_any (h.later hb') a 1 ha0 ha hN hl; rwa [p3] at q))
  have I4 := Lib.hid (fun w' (hb' : Below w.heap.size w w') => (by have q := is_any (h.later hb') b 1 hb0 hb hN hl; rwa [p4] at q))
  have I7 := Lib.hid (fun w' (hb' : Below w.heap.size w w') => (show Calls Try.prog 85 #[.pointer (some ⟨wk, 0, none⟩), .int .i64 a] w' fun e w'' => e = .returned (.tuple #[.agg #[.int .i64 x, .int .i64 y, .int .i64 z], .int .i64 u]) ∧ Below w'.heap.size w' w'' from by have q := foldNot_any (h.later hb') a ha0 ha hN hl; rw [p7] at q; exact q))
  have K5 := (Blk.new w 57 #[.int .i64 op, .int .i64 a, .int .i64 b]).alloc (.cells #[.int .i64 0, .int .i64 0, .int .i64 0] 57)
  have K8 := Blk.new (w.alloc (.cells #[.int .i64 op, .int .i64 a, .int .i64 b] 57)) 57 #[.int .i64 0, .int .i64 0, .int .i64 0]
  rw [World.size_alloc] at K8
  have B0 : Below w.heap.size w ((w.alloc (.cells #[.int .i64 op, .int .i64 a, .int .i64 b] 57)).alloc (.cells #[.int .i64 0, .int .i64 0, .int .i64 0] 57)) := ((Below.refl _ w).alloc (Nat.le_refl _) _).alloc (by simp) _
  clear h p1 p2 p3 p4 p5 p7
  go_enter Try.func87, Try.ntmps87
  go_upto_region 1 with (fail)
  generalize (w.alloc (.cells #[.int .i64 op, .int .i64 a, .int .i64 b] 57)).alloc (.cells #[.int .i64 0, .int .i64 0, .int .i64 0] 57) = w1 at *
  obtain ⟨a0, a1, a2, _, _, _, _⟩ := K5.three6
  go_quiet (fail)
  have Bv0 := Lib.hid (below_drewN B0 nq)
  have K5v0 := Lib.hid (K5.drewN nq)
  have K8v0 := Lib.hid (K8.drewN nq)
  generalize w1.drewN nq = v0 at *
  clear a0 a1 a2 K5 K8 B0
  obtain ⟨a0, a1, a2, _, _, _, _⟩ := K5v0.out.three6
  obtain ⟨r0, r1, r2, r3, r4, r5, r6⟩ := K8v0.out.three6
  go_wp2_with (first
    | (go_at_call 85; (with_reducible refine (I7.out _ Bv5.out).mono ?_); rintro e v6 ⟨rfl, hb⟩; have Bv6 := Lib.hid (Bv5.out.trans (hb.mono Bv5.out.size)); have K5v6 := Lib.hid (K5v5.out.below hb K5v5.out.lt); have K8v6 := Lib.hid (K8v5.out.below hb K8v5.out.lt); obtain ⟨x50, x51, x52, _, _, _, _⟩ := K5v6.out.three6; obtain ⟨y50, y51, y52, y53, y54, y55, y56⟩ := K8v6.out.three6; clear hb)
    | (go_at_call 114; (with_reducible refine (I4.out _ Bv4.out).mono ?_); rintro e v5 ⟨rfl, hb⟩; have Bv5 := Lib.hid (Bv4.out.trans (hb.mono Bv4.out.size)); have K5v5 := Lib.hid (K5v4.out.below hb K5v4.out.lt); have K8v5 := Lib.hid (K8v4.out.below hb K8v4.out.lt); obtain ⟨x40, x41, x42, _, _, _, _⟩ := K5v5.out.three6; obtain ⟨y40, y41, y42, y43, y44, y45, y46⟩ := K8v5.out.three6; clear hb)
    | (go_at_call 114; (with_reducible refine (I3.out _ Bv3.out).mono ?_); rintro e v4 ⟨rfl, hb⟩; have Bv4 := Lib.hid (Bv3.out.trans (hb.mono Bv3.out.size)); have K5v4 := Lib.hid (K5v3.out.below hb K5v3.out.lt); have K8v4 := Lib.hid (K8v3.out.below hb K8v3.out.lt); obtain ⟨x30, x31, x32, _, _, _, _⟩ := K5v4.out.three6; obtain ⟨y30, y31, y32, y33, y34, y35, y36⟩ := K8v4.out.three6; clear hb)
    | (go_at_call 116; (with_reducible refine (I5.out _ Bv2.out).mono ?_); rintro e v3 ⟨rfl, hb⟩; have Bv3 := Lib.hid (Bv2.out.trans (hb.mono Bv2.out.size)); have K5v3 := Lib.hid (K5v2.out.below hb K5v2.out.lt); have K8v3 := Lib.hid (K8v2.out.below hb K8v2.out.lt); obtain ⟨x20, x21, x22, _, _, _, _⟩ := K5v3.out.three6; obtain ⟨y20, y21, y22, y23, y24, y25, y26⟩ := K8v3.out.three6; clear hb)
    | (go_at_call 114; (with_reducible refine (I2.out _ Bv1.out).mono ?_); rintro e v2 ⟨rfl, hb⟩; have Bv2 := Lib.hid (Bv1.out.trans (hb.mono Bv1.out.size)); have K5v2 := Lib.hid (K5v1.out.below hb K5v1.out.lt); have K8v2 := Lib.hid (K8v1.out.below hb K8v1.out.lt); obtain ⟨x10, x11, x12, _, _, _, _⟩ := K5v2.out.three6; obtain ⟨y10, y11, y12, y13, y14, y15, y16⟩ := K8v2.out.three6; clear hb)
    | (go_at_call 114; (with_reducible refine (I1.out _ Bv0.out).mono ?_); rintro e v1 ⟨rfl, hb⟩; have Bv1 := Lib.hid (Bv0.out.trans (hb.mono Bv0.out.size)); have K5v1 := Lib.hid (K5v0.out.below hb K5v0.out.lt); have K8v1 := Lib.hid (K8v0.out.below hb K8v0.out.lt); obtain ⟨x00, x01, x02, _, _, _, _⟩ := K5v1.out.three6; obtain ⟨y00, y01, y02, y03, y04, y05, y06⟩ := K8v1.out.three6; clear hb))
  have KZ := K8v6.out.tri (.int .i64 x) (.int .i64 y) (.int .i64 z)
  obtain ⟨e0, e1', e2, _, _, _, _⟩ := KZ.three6
  exact bodyPost_ret (v := .tuple #[.agg #[.int .i64 x, .int .i64 y, .int .i64 z], .int .i64 u]) (by simp [results, Try.results87, go_sem, e0, e1', e2]) rfl ⟨rfl, ((Bv6.out.setCell (p := ⟨w.heap.size + 1, 0, none⟩) (by first | exact Nat.le_refl _ | exact Nat.le_succ _) _).setCell (p := ⟨w.heap.size + 1, 1, none⟩) (by first | exact Nat.le_refl _ | exact Nat.le_succ _) _).setCell (p := ⟨w.heap.size + 1, 2, none⟩) (by first | exact Nat.le_refl _ | exact Nat.le_succ _) _⟩
set_option maxRecDepth 100000 in
set_option maxHeartbeats 4000000 in
theorem xor_7 (h : RK wk N A cA O V nv cV M gs w) (op a b : Int) (ha0 : 0 ≤ a) (ha : a < (N : Int) + (gs.length : Int)) (hb0 : 0 ≤ b) (hb : b < (N : Int) + (gs.length : Int)) (hN : N ≤ 1000) (hl : gs.length ≤ 20000) (p1 : isF (N : Int) gs a 0 = false) (p2 : isF (N : Int) gs b 0 = false) (p6 : (a == b) = false) (p5 : opF (N : Int) gs a b = false) (p3 : isF (N : Int) gs a 1 = false) (p4 : isF (N : Int) gs b 1 = false) :
    Calls Try.prog 87 #[.pointer (some ⟨wk, 0, none⟩), .agg #[.int .i64 op, .int .i64 a, .int .i64 b]] w fun e w' => e = .returned (.tuple #[.agg #[.int .i64 op, .int .i64 a, .int .i64 b], .int .i64 (nv : Int)]) ∧ Below w.heap.size w w' := by
  have I1 := Lib.hid (fun w' (hb' : Below w.heap.size w w') => (by have q := is_any (h.later hb') a 0 ha0 ha hN hl; rwa [p1] at q))
  have I2 := Lib.hid (fun w' (hb' : Below w.heap.size w w') => (by have q := is_any (h.later hb') b 0 hb0 hb hN hl; rwa [p2] at q))
  have I5 := Lib.hid (fun w' (hb' : Below w.heap.size w w') => (by have q := opp_any (h.later hb') a b ha0 ha hb0 hb hN hl; rwa [p5] at q))
  have I3 := Lib.hid (fun w' (hb' : Below w.heap.size w w') => (by have q := is_any (h.later hb') a 1 ha0 ha hN hl; rwa [p3] at q))
  have I4 := Lib.hid (fun w' (hb' : Below w.heap.size w w') => (by have q := is_any (h.later hb') b 1 hb0 hb hN hl; rwa [p4] at q))
  have IK := Lib.hid (fun w' (hb' : Below w.heap.size w w') => kept_any (h.later hb') op a b)
  have K5 := (Blk.new w 57 #[.int .i64 op, .int .i64 a, .int .i64 b]).alloc (.cells #[.int .i64 0, .int .i64 0, .int .i64 0] 57)
  have K8 := Blk.new (w.alloc (.cells #[.int .i64 op, .int .i64 a, .int .i64 b] 57)) 57 #[.int .i64 0, .int .i64 0, .int .i64 0]
  rw [World.size_alloc] at K8
  have B0 : Below w.heap.size w ((w.alloc (.cells #[.int .i64 op, .int .i64 a, .int .i64 b] 57)).alloc (.cells #[.int .i64 0, .int .i64 0, .int .i64 0] 57)) := ((Below.refl _ w).alloc (Nat.le_refl _) _).alloc (by simp) _
  clear h p1 p2 p3 p4 p5
  go_enter Try.func87, Try.ntmps87
  go_upto_region 1 with (fail)
  generalize (w.alloc (.cells #[.int .i64 op, .int .i64 a, .int .i64 b] 57)).alloc (.cells #[.int .i64 0, .int .i64 0, .int .i64 0] 57) = w1 at *
  obtain ⟨a0, a1, a2, _, _, _, _⟩ := K5.three6
  go_quiet (fail)
  have Bv0 := Lib.hid (below_drewN B0 nq)
  have K5v0 := Lib.hid (K5.drewN nq)
  have K8v0 := Lib.hid (K8.drewN nq)
  generalize w1.drewN nq = v0 at *
  clear a0 a1 a2 K5 K8 B0
  obtain ⟨a0, a1, a2, _, _, _, _⟩ := K5v0.out.three6
  obtain ⟨r0, r1, r2, r3, r4, r5, r6⟩ := K8v0.out.three6
  go_wp2_with (first
    | (go_at_call 88; (with_reducible refine (IK.out _ Bv5.out).mono ?_); rintro e v6 ⟨rfl, hb⟩; have Bv6 := Lib.hid (Bv5.out.trans (hb.mono Bv5.out.size)); have K5v6 := Lib.hid (K5v5.out.below hb K5v5.out.lt); have K8v6 := Lib.hid (K8v5.out.below hb K8v5.out.lt); obtain ⟨x50, x51, x52, _, _, _, _⟩ := K5v6.out.three6; obtain ⟨y50, y51, y52, y53, y54, y55, y56⟩ := K8v6.out.three6; clear hb)
    | (go_at_call 114; (with_reducible refine (I4.out _ Bv4.out).mono ?_); rintro e v5 ⟨rfl, hb⟩; have Bv5 := Lib.hid (Bv4.out.trans (hb.mono Bv4.out.size)); have K5v5 := Lib.hid (K5v4.out.below hb K5v4.out.lt); have K8v5 := Lib.hid (K8v4.out.below hb K8v4.out.lt); obtain ⟨x40, x41, x42, _, _, _, _⟩ := K5v5.out.three6; obtain ⟨y40, y41, y42, y43, y44, y45, y46⟩ := K8v5.out.three6; clear hb)
    | (go_at_call 114; (with_reducible refine (I3.out _ Bv3.out).mono ?_); rintro e v4 ⟨rfl, hb⟩; have Bv4 := Lib.hid (Bv3.out.trans (hb.mono Bv3.out.size)); have K5v4 := Lib.hid (K5v3.out.below hb K5v3.out.lt); have K8v4 := Lib.hid (K8v3.out.below hb K8v3.out.lt); obtain ⟨x30, x31, x32, _, _, _, _⟩ := K5v4.out.three6; obtain ⟨y30, y31, y32, y33, y34, y35, y36⟩ := K8v4.out.three6; clear hb)
    | (go_at_call 116; (with_reducible refine (I5.out _ Bv2.out).mono ?_); rintro e v3 ⟨rfl, hb⟩; have Bv3 := Lib.hid (Bv2.out.trans (hb.mono Bv2.out.size)); have K5v3 := Lib.hid (K5v2.out.below hb K5v2.out.lt); have K8v3 := Lib.hid (K8v2.out.below hb K8v2.out.lt); obtain ⟨x20, x21, x22, _, _, _, _⟩ := K5v3.out.three6; obtain ⟨y20, y21, y22, y23, y24, y25, y26⟩ := K8v3.out.three6; clear hb)
    | (go_at_call 114; (with_reducible refine (I2.out _ Bv1.out).mono ?_); rintro e v2 ⟨rfl, hb⟩; have Bv2 := Lib.hid (Bv1.out.trans (hb.mono Bv1.out.size)); have K5v2 := Lib.hid (K5v1.out.below hb K5v1.out.lt); have K8v2 := Lib.hid (K8v1.out.below hb K8v1.out.lt); obtain ⟨x10, x11, x12, _, _, _, _⟩ := K5v2.out.three6; obtain ⟨y10, y11, y12, y13, y14, y15, y16⟩ := K8v2.out.three6; clear hb)
    | (go_at_call 114; (with_reducible refine (I1.out _ Bv0.out).mono ?_); rintro e v1 ⟨rfl, hb⟩; have Bv1 := Lib.hid (Bv0.out.trans (hb.mono Bv0.out.size)); have K5v1 := Lib.hid (K5v0.out.below hb K5v0.out.lt); have K8v1 := Lib.hid (K8v0.out.below hb K8v0.out.lt); obtain ⟨x00, x01, x02, _, _, _, _⟩ := K5v1.out.three6; obtain ⟨y00, y01, y02, y03, y04, y05, y06⟩ := K8v1.out.three6; clear hb))
  have KZ := K8v6.out.tri (.int .i64 op) (.int .i64 a) (.int .i64 b)
  obtain ⟨e0, e1', e2, _, _, _, _⟩ := KZ.three6
  exact bodyPost_ret (v := .tuple #[.agg #[.int .i64 op, .int .i64 a, .int .i64 b], .int .i64 (nv : Int)]) (by simp [results, Try.results87, go_sem, e0, e1', e2]) rfl ⟨rfl, ((Bv6.out.setCell (p := ⟨w.heap.size + 1, 0, none⟩) (by first | exact Nat.le_refl _ | exact Nat.le_succ _) _).setCell (p := ⟨w.heap.size + 1, 1, none⟩) (by first | exact Nat.le_refl _ | exact Nat.le_succ _) _).setCell (p := ⟨w.heap.size + 1, 2, none⟩) (by first | exact Nat.le_refl _ | exact Nat.le_succ _) _⟩
theorem foldPair_any (h : RK wk N A cA O V nv cV M gs w) (op a b dec lea : Int) (ha0 : 0 ≤ a) (ha : a < (N : Int) + (gs.length : Int)) (hb0 : 0 ≤ b) (hb : b < (N : Int) + (gs.length : Int)) (hN : N ≤ 1000) (hl : gs.length ≤ 20000) :
    Calls Try.prog 86 #[.pointer (some ⟨wk, 0, none⟩), .agg #[.int .i64 op, .int .i64 a, .int .i64 b], .int .i64 dec, .int .i64 lea] w fun e w' => e = .returned (aV (fPairG (N : Int) gs (nv : Int) (op, a, b) dec lea)) ∧ Below w.heap.size w w' := by
  unfold fPairG
  simp only
  rcases p1 : isF (N : Int) gs a dec with _ | _
  · rcases p2 : isF (N : Int) gs b dec with _ | _
    · rw [if_neg (by decide)]
      rcases p3 : isF (N : Int) gs a lea with _ | _
      · rw [if_neg (by decide)]
        rcases p4 : isF (N : Int) gs b lea with _ | _
        · by_cases e : a = b
          · rw [decide_eq_true e, show (false || true) = true from rfl, if_pos rfl]
            exact pair_5 h op a b dec lea ha0 ha hb0 hb hN hl p1 p2 p3 p4 (by rw [beq_iff_eq]; exact e)
          · rw [decide_eq_false e, if_neg (by decide)]
            have p6 : (a == b) = false := by rw [beq_eq_false_iff_ne]; exact e
            rcases p5 : opF (N : Int) gs a b with _ | _
            · rw [if_neg (by decide)]
              exact pair_7 h op a b dec lea ha0 ha hb0 hb hN hl p1 p2 p3 p4 p6 p5
            · rw [if_pos rfl]
              exact pair_6 h op a b dec lea ha0 ha hb0 hb hN hl p1 p2 p3 p4 p6 p5
        · rw [if_pos (Bool.true_or _)]
          exact pair_4 h op a b dec lea ha0 ha hb0 hb hN hl p1 p2 p3 p4
      · rw [if_pos rfl]
        exact pair_3 h op a b dec lea ha0 ha hb0 hb hN hl p1 p2 p3
    · rw [show (false || true) = true from rfl, if_pos rfl]
      exact pair_2 h op a b dec lea ha0 ha hb0 hb hN hl p1 p2
  · rw [if_pos (Bool.true_or _)]
    exact pair_1 h op a b dec lea ha0 ha hb0 hb hN hl p1
theorem foldXor_any (h : RK wk N A cA O V nv cV M gs w) (op a b : Int) (ha0 : 0 ≤ a) (ha : a < (N : Int) + (gs.length : Int)) (hb0 : 0 ≤ b) (hb : b < (N : Int) + (gs.length : Int)) (hN : N ≤ 1000) (hl : gs.length ≤ 20000) :
    Calls Try.prog 87 #[.pointer (some ⟨wk, 0, none⟩), .agg #[.int .i64 op, .int .i64 a, .int .i64 b]] w fun e w' => e = .returned (aV (fXorG (N : Int) gs (nv : Int) (op, a, b))) ∧ Below w.heap.size w w' := by
  unfold fXorG
  simp only
  rcases p1 : isF (N : Int) gs a 0 with _ | _
  · rw [if_neg (by decide)]
    rcases p2 : isF (N : Int) gs b 0 with _ | _
    · rw [if_neg (by decide)]
      by_cases e : a = b
      · rw [if_pos e]
        exact xor_3 h op a b ha0 ha hb0 hb hN hl p1 p2 (by rw [beq_iff_eq]; exact e)
      · rw [if_neg e]
        have p6 : (a == b) = false := by rw [beq_eq_false_iff_ne]; exact e
        rcases p5 : opF (N : Int) gs a b with _ | _
        · rw [if_neg (by decide)]
          rcases p3 : isF (N : Int) gs a 1 with _ | _
          · rw [if_neg (by decide)]
            rcases p4 : isF (N : Int) gs b 1 with _ | _
            · rw [if_neg (by decide)]
              exact xor_7 h op a b ha0 ha hb0 hb hN hl p1 p2 p6 p5 p3 p4
            · rw [if_pos rfl]
              obtain ⟨⟨⟨x, y, z⟩, u⟩, hx⟩ : ∃ r, fNotG (N : Int) gs (nv : Int) a = r := ⟨_, rfl⟩
              rw [hx]
              exact xor_6 h op a b x y z u ha0 ha hb0 hb hN hl p1 p2 p6 p5 p3 p4 hx
          · rw [if_pos rfl]
            obtain ⟨⟨⟨x, y, z⟩, u⟩, hx⟩ : ∃ r, fNotG (N : Int) gs (nv : Int) b = r := ⟨_, rfl⟩
            rw [hx]
            exact xor_5 h op a b x y z u ha0 ha hb0 hb hN hl p1 p2 p6 p5 p3 hx
        · rw [if_pos rfl]
          exact xor_4 h op a b ha0 ha hb0 hb hN hl p1 p2 p6 p5
    · rw [if_pos rfl]
      exact xor_2 h op a b ha0 ha hb0 hb hN hl p1 p2
  · rw [if_pos rfl]
    exact xor_1 h op a b ha0 ha hb0 hb hN hl p1
end
end Go.Proofs.Ytnhkgkpjkgifoaa
