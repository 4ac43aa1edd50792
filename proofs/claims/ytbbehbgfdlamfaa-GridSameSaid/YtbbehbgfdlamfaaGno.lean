/- The walks of Roll at a grid that is no torus and of From at a cell beside the grid. -/
import Derived.Test.YtbbehbgfdlamfaaGnw
import Derived.Test.YtbbehbgfdlamfaaARight
namespace Go.Proofs.Ytbbehbgfdlamfaa
open Go.RowKit

set_option maxRecDepth 100000 in
set_option maxHeartbeats 1000000 in
theorem groll_no (A : Option Addr) (W H E : Int) (n c : Nat) (l : List Int) (w : World) (dx dy : Int) (h : Reads w w.heap.size A n (il l)) (hn : n ≤ 5000) (hr : grt W H E l = true) (hE : E ≠ 1) :
    Calls Try.prog 8 #[.agg #[.int .i64 W, .int .i64 H, .int .i64 E, .slice A n c], .int .i64 dx, .int .i64 dy] w fun e w' => e = .returned (.tuple #[.agg #[.int .i64 0, .int .i64 0, .int .i64 0, .slice none 0 0], .int .i64 2]) ∧ Below w.heap.size w w' := by
  obtain ⟨K1, K2, B0, S0⟩ := two_blks w #[.int .i64 W, .int .i64 H, .int .i64 E, .slice A n c] #[.int .i64 0, .int .i64 0, .int .i64 0, .slice none 0 0] 24 24
  generalize hw0 : (w.alloc (.cells #[.int .i64 W, .int .i64 H, .int .i64 E, .slice A n c] 24)).alloc (.cells #[.int .i64 0, .int .i64 0, .int .i64 0, .slice none 0 0] 24) = w0 at K1 K2 B0 S0
  have R := Lib.hid (by have := gright_any A W H E n c l w0 (h.later B0) (by omega); rwa [hr] at this)
  have hE1 : (E != 1) = true := by rw [bne_iff_ne]; exact hE
  have K1 := Lib.hid K1
  have K2 := Lib.hid K2
  have B0 := Lib.hid B0
  clear h hr hE
  obtain ⟨k0, k1, k2, k3, k4⟩ := K1.out.four
  go_enter Try.func8, Try.ntmps8
  go_upto_region 1 with (fail)
  clear hw0
  go_upto_region 2 with (go_at_call 14; (with_reducible refine R.out.mono ?_); rintro e w3 ⟨rfl, hb⟩; have C3 := Lib.hid (K2.out.below hb K2.out.lt); have B3 := Lib.hid (B0.out.trans (hb.mono B0.out.size)); clear k0 k1 k2 k3 k4; obtain ⟨j0, j1, j2, j3, j4⟩ := (K1.out.below hb K1.out.lt).four; clear hb)
  clear j0 j1 j2 j3 j4
  obtain ⟨k0, k1, k2, k3, k4, k5, k6, k7, k8⟩ := C3.out.four8
  go_wp2
  have E1 := Blk.put4 (a := .int .i64 0) (b := .int .i64 0) (c := .int .i64 0) (d := .slice none 0 0) C3.out
  have HZ := Below.put4 (a := .int .i64 0) (b := .int .i64 0) (c := .int .i64 0) (d := .slice none 0 0) B3.out (Nat.le_succ _)
  change bodyPost _ _ _ _ _ (put4 w3 (w.heap.size + 1) (.int .i64 0) (.int .i64 0) (.int .i64 0) (.slice none 0 0))
  generalize put4 w3 (w.heap.size + 1) (.int .i64 0) (.int .i64 0) (.int .i64 0) (.slice none 0 0) = wz at E1 HZ ⊢
  obtain ⟨z0, z1, z2, z3, z4⟩ := E1.four
  refine bodyPost_ret (v := .tuple #[.agg #[.int .i64 0, .int .i64 0, .int .i64 0, .slice none 0 0], .int .i64 2]) (by simp [results, Try.results8, go_sem, z0, z1, z2, z3, z4]) rfl ⟨rfl, HZ⟩
set_option maxRecDepth 100000 in
set_option maxHeartbeats 2000000 in
theorem gfrom_no (gp : Nat) (w : World) (hp : Blk w gp 33 #[.int .i64 3, .int .i64 0, .int .i64 1]) :
    Calls Try.prog 9 #[.slice (some ⟨gp, 0, none⟩) 1 1, .int .i64 3, .int .i64 1, .int .i64 0] w fun e w' => e = .returned (.tuple #[.agg #[.int .i64 0, .int .i64 0, .int .i64 0, .slice none 0 0], .int .i64 5]) ∧ Below w.heap.size w w' := by
  have CR : ∀ w', Blk w' gp 33 #[.int .i64 3, .int .i64 0, .int .i64 1] → CReads w' w'.heap.size (some ⟨gp, 0, none⟩) 1 (fun _ => (3, 0, 1)) := fun w' h _ => ⟨gp, 0, rfl, h.lt, fun k hk => by
    obtain rfl : k = 0 := by omega
    obtain ⟨a, b, c, _⟩ := h.three
    exact ⟨a, b, c⟩⟩
  have PR := Lib.hid (fun w' (h : Blk w' gp 33 #[.int .i64 3, .int .i64 0, .int .i64 1]) => by have := pright_any (some ⟨gp, 0, none⟩) 1 1 (fun _ => (3, 0, 1)) w' (CR w' h) (by omega); rwa [show decide (OkL (fun _ => ((3, 0, 1) : C3)) 1) = true by decide +kernel] at this)
  have NW := Lib.hid (fun w => show Calls Try.prog 10 #[.int .i64 3, .int .i64 1, .int .i64 0] w fun e w' => ∃ g, e = .returned (.tuple #[.agg #[.int .i64 3, .int .i64 1, .int .i64 0, .slice (some ⟨g, 0, none⟩) 3 3], .int .i64 0]) ∧ w'.ownsRow (w.heap.size + 1) 3 1 (.slice (some ⟨g, 0, none⟩) 3 3) 3 (il (List.replicate 3 0)) ∧ Below w.heap.size w w' from gnew_any 3 1 3 0 w rfl (by decide +kernel))
  have IC := Lib.hid (fun g w => gcell_any (some ⟨g, 0, none⟩) 3 1 0 3 3 w 3 0 (by decide) (by decide) (by decide) (by decide))
  simp only [show wi 3 1 0 3 0 = 0 by decide +kernel, show (wf 0 3 3 && wf 0 1 0) = false by decide +kernel] at IC
  have CR := Lib.hid CR
  have K := Lib.hid (Blk.new w 24 #[.int .i64 0, .int .i64 0, .int .i64 0, .slice none 0 0])
  have B := Lib.hid ((Below.refl w.heap.size w).alloc (Nat.le_refl _) (.cells #[.int .i64 0, .int .i64 0, .int .i64 0, .slice none 0 0] 24))
  have P := Lib.hid (hp.alloc (.cells #[.int .i64 0, .int .i64 0, .int .i64 0, .slice none 0 0] 24))
  have s0 : w.heap.size < (w.alloc (.cells #[.int .i64 0, .int .i64 0, .int .i64 0, .slice none 0 0] 24)).heap.size := by simp
  have hg := hp.lt
  clear hp
  generalize hw0 : w.alloc (.cells #[.int .i64 0, .int .i64 0, .int .i64 0, .slice none 0 0] 24) = w0 at K B P s0
  go_enter Try.func9, Try.ntmps9
  go_upto_region 1 with (fail)
  clear hw0
  go_upto_region 2 with (go_at_call 10; (with_reducible refine (NW.out _).mono ?_); rintro e w1 ⟨g1, rfl, ho, hb⟩; have K1 := Lib.hid (K.out.below hb K.out.lt); have B1 := Lib.hid (B.out.trans (hb.mono B.out.size)); have P1 := Lib.hid (P.out.below hb P.out.lt); have s1 : w.heap.size < w1.heap.size := Nat.lt_of_lt_of_le s0 hb.size; clear ho hb)
  have G2 := Lib.hid (Blk.new w1 24 #[.int .i64 3, .int .i64 1, .int .i64 0, .slice (some ⟨g1, 0, none⟩) 3 3])
  have K2 := Lib.hid (K1.out.alloc (.cells #[.int .i64 3, .int .i64 1, .int .i64 0, .slice (some ⟨g1, 0, none⟩) 3 3] 24))
  have P2 := Lib.hid (P1.out.alloc (.cells #[.int .i64 3, .int .i64 1, .int .i64 0, .slice (some ⟨g1, 0, none⟩) 3 3] 24))
  have B2 := Lib.hid (B1.out.alloc B1.out.size (.cells #[.int .i64 3, .int .i64 1, .int .i64 0, .slice (some ⟨g1, 0, none⟩) 3 3] 24))
  have s2 : w1.heap.size < (w1.alloc (.cells #[.int .i64 3, .int .i64 1, .int .i64 0, .slice (some ⟨g1, 0, none⟩) 3 3] 24)).heap.size := by simp
  generalize w1.alloc (.cells #[.int .i64 3, .int .i64 1, .int .i64 0, .slice (some ⟨g1, 0, none⟩) 3 3] 24) = w2 at *
  generalize w1.heap.size = g2 at *
  clear K1 P1 B1
  go_upto_region 5 with (go_at_call 18; (with_reducible refine (PR.out _ P2.out).mono ?_); rintro e w3 ⟨rfl, hb⟩; have G3 := Lib.hid (G2.out.below hb G2.out.lt); have K3 := Lib.hid (K2.out.below hb K2.out.lt); have P3 := Lib.hid (P2.out.below hb P2.out.lt); have B3 := Lib.hid (B2.out.trans (hb.mono B2.out.size)); clear hb)
  obtain ⟨p0, p1, p2, p3⟩ := P3.out.three
  refine wp_loop_rounds 1 ?_
  rw [rounds_succ]
  go_upto_region 7 with (fail)
  have V4 := Blk.new w3 33 #[.int .i64 3, .int .i64 0, .int .i64 1]
  have G4 := (G3.out.alloc (.cells #[.int .i64 3, .int .i64 0, .int .i64 1] 33))
  have K4 := Lib.hid (K3.out.alloc (.cells #[.int .i64 3, .int .i64 0, .int .i64 1] 33))
  have B4 := Lib.hid (B3.out.alloc B3.out.size (.cells #[.int .i64 3, .int .i64 0, .int .i64 1] 33))
  clear p0 p1 p2 p3 P3 K3 B3 G3
  generalize w3.alloc (.cells #[.int .i64 3, .int .i64 0, .int .i64 1] 33) = w4 at *
  generalize w3.heap.size = g3 at *
  obtain ⟨p0, p1, p2, p3⟩ := V4.three
  obtain ⟨q0, q1, q2, q3, q4⟩ := G4.four
  go_upto_region 9 with (go_at_call 19; (with_reducible refine (IC.out _ _).mono ?_); rintro e w5 ⟨rfl, hb⟩; have K5 := Lib.hid (K4.out.below hb K4.out.lt); have B5 := Lib.hid (B4.out.trans (hb.mono B4.out.size)); clear hb)
  clear p0 p1 p2 p3 q0 q1 q2 q3 q4
  obtain ⟨k0, k1, k2, k3, k4, k5, k6, k7, k8⟩ := K5.out.four8
  go_wp2
  have E1 := Blk.put4 (a := .int .i64 0) (b := .int .i64 0) (c := .int .i64 0) (d := .slice none 0 0) K5.out
  have HZ := Below.put4 (a := .int .i64 0) (b := .int .i64 0) (c := .int .i64 0) (d := .slice none 0 0) B5.out (Nat.le_refl _)
  change bodyPost _ _ _ _ _ (put4 w5 w.heap.size (.int .i64 0) (.int .i64 0) (.int .i64 0) (.slice none 0 0))
  generalize put4 w5 w.heap.size (.int .i64 0) (.int .i64 0) (.int .i64 0) (.slice none 0 0) = wz at E1 HZ ⊢
  obtain ⟨z0, z1, z2, z3, z4⟩ := E1.four
  refine bodyPost_ret (v := .tuple #[.agg #[.int .i64 0, .int .i64 0, .int .i64 0, .slice none 0 0], .int .i64 5]) (by simp [results, Try.results9, go_sem, z0, z1, z2, z3, z4]) rfl ⟨rfl, HZ⟩
end Go.Proofs.Ytbbehbgfdlamfaa
