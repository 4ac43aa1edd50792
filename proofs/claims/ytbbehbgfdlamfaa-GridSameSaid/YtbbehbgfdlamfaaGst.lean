/- The walk of Set at any cell of a valid grid. -/
import Derived.Test.YtbbehbgfdlamfaaGnw
namespace Go.Proofs.Ytbbehbgfdlamfaa
open Go.RowKit

theorem il_set (l : List Int) (k : Nat) (s : Int) : (il l).set k (.int .i64 s) = il (l.set k s) := by simp [il, List.map_set]
set_option maxRecDepth 100000 in
set_option maxHeartbeats 2000000 in
theorem gset_any (A : Option Addr) (W H E : Int) (n c : Nat) (l : List Int) (w : World) (x y s : Int) (h : Reads w w.heap.size A n (il l)) (hr : grt W H E l = true) (hx0 : 0 ≤ x) (hx : x < W) (hy0 : 0 ≤ y) (hy : y < H) (hs0 : 0 ≤ s) (hs : s < 8) :
    Calls Try.prog 11 #[.agg #[.int .i64 W, .int .i64 H, .int .i64 E, .slice A n c], .int .i64 x, .int .i64 y, .int .i64 s] w fun e w' => ∃ A' c', e = .returned (.tuple #[.agg #[.int .i64 W, .int .i64 H, .int .i64 E, .slice A' n c'], .int .i64 0]) ∧ Reads w' w'.heap.size A' n (il (l.set (y * W + x).toNat s)) ∧ Below w.heap.size w w' := by
  have L := reads_len h
  have hr' := hr
  simp only [grt, Bool.and_eq_true, decide_eq_true_eq] at hr'
  obtain ⟨hsh, hl, hc⟩ := hr'
  obtain ⟨⟨w1, w2⟩, ⟨h1, h2⟩, p1, e0, e2⟩ := (vsh_iff W H E).1 hsh
  have hn : n ≤ 4096 := by omega
  obtain ⟨K1, K2, B0, S0⟩ := two_blks w #[.int .i64 W, .int .i64 H, .int .i64 E, .slice A n c] #[.int .i64 0, .int .i64 0, .int .i64 0, .slice none 0 0] 24 24
  generalize hw0 : (w.alloc (.cells #[.int .i64 W, .int .i64 H, .int .i64 E, .slice A n c] 24)).alloc (.cells #[.int .i64 0, .int .i64 0, .int .i64 0, .slice none 0 0] 24) = w0 at K1 K2 B0 S0
  have R := Lib.hid (by have := gright_any A W H E n c l w0 (h.later B0) (by omega); rwa [hr] at this)
  have fx : wf 0 W x = true := by simp [wf, hx0, hx]
  have fy : wf 0 H y = true := by simp [wf, hy0, hy]
  have iv : wi W H 0 x y = y * W + x := by simp [wi, fx, fy, wn]
  have IB := wi_bd (e := 0) (x := x) (y := y) w1 h1 (by decide) (by decide) (by rw [fx, fy]; rfl)
  have I := Lib.hid (fun w => by have := gcell_any A W H E n c w x y w1 w2 h1 h2; rwa [fx, fy] at this)
  have NS := Lib.hid (fun w => by have := gstate_any s w; rwa [show nst s = false by simp [nst]; omega] at this)
  rw [← iv]
  generalize wi W H 0 x y = v at *
  obtain ⟨b1, b2⟩ := IB
  obtain ⟨v, rfl⟩ : ∃ k : Nat, v = (k : Int) := ⟨v.toNat, by omega⟩
  have b3 : v < n := by omega
  rw [Int.toNat_natCast]
  have C := Lib.hid (fun w' (hb : Below w.heap.size w w') => iclone_any A n c l w' (h.later hb) (by omega))
  have K1 := Lib.hid K1
  have K2 := Lib.hid K2
  have B0 := Lib.hid B0
  clear h hr hsh hl hc b1 b2 iv fx fy p1 L hx0 hx hy0 hy hs0 hs w1 w2 h1 h2 e0 e2
  go_enter Try.func11, Try.ntmps11
  go_upto_region 1 with (fail)
  clear hw0
  obtain ⟨k0, k1, k2, k3, k4⟩ := K1.out.four
  go_upto_region 8 with (first
    | (go_at_call 14; (with_reducible refine R.out.mono ?_); rintro e w3 ⟨rfl, hb⟩; have B3 := Lib.hid hb; clear k0 k1 k2 k3 k4; obtain ⟨j0, j1, j2, j3, j4⟩ := (K1.out.below hb K1.out.lt).four; clear hb)
    | (go_at_call 19; (with_reducible refine (I.out _).mono ?_); rintro e w4 ⟨rfl, hb⟩; have B4 := Lib.hid (B3.out.trans (hb.mono B3.out.size)); clear hb)
    | (go_at_call 21; (with_reducible refine (NS.out _).mono ?_); rintro e w' ⟨rfl, rfl⟩))
  have K5 := Lib.hid (K1.out.below B4.out K1.out.lt)
  have C5 := Lib.hid (K2.out.below B4.out K2.out.lt)
  have B5 := Lib.hid (B0.out.trans (B4.out.mono B0.out.size))
  clear j0 j1 j2 j3 j4 K1 K2 B0 B3 B4
  obtain ⟨k0, k1, k2, k3, k4, k5, k6, k7, k8⟩ := K5.out.four8
  go_upto_region 9 with (go_at_call 22; (with_reducible refine (C.out _ B5.out).mono ?_); rintro e w6 ⟨A6, c6, rfl, ho, hb⟩; have s4 := C5.out.lt; have O6 := Lib.hid ho; have B6 := Lib.hid (B5.out.trans (hb.mono B5.out.size)); have K6 := Lib.hid (K5.out.below hb K5.out.lt); have C6 := Lib.hid (C5.out.below hb C5.out.lt); clear k0 k1 k2 k3 k4 k5 k6 k7 k8; obtain ⟨k0, k1, k2, k3, k4, k5, k6, k7, k8⟩ := K6.out.four8; clear ho hb)
  clear k0 k1 k2 k3 k4 k5 k6 k7 k8
  obtain ⟨g6, cap6, hv, hg6, hg7⟩ := O6.out.form (by omega)
  injection hv with hv1 _ hv3
  subst hv1 hv3
  have K7 : Blk (w6.setCell ⟨w.heap.size, 3, none⟩ (.slice (some ⟨g6, 0, none⟩) n c6)) w.heap.size 24 #[.int .i64 W, .int .i64 H, .int .i64 E, .slice (some ⟨g6, 0, none⟩) n c6] := by simpa using K6.out.set_ 3 (.slice (some ⟨g6, 0, none⟩) n c6)
  have C7 := Lib.hid (C6.out.far (p := ⟨w.heap.size, 3, none⟩) (show w.heap.size + 1 ≠ w.heap.size by omega) (.slice (some ⟨g6, 0, none⟩) n c6))
  have B7 := Lib.hid (B6.out.setCell (p := ⟨w.heap.size, 3, none⟩) (Nat.le_refl _) (.slice (some ⟨g6, 0, none⟩) n c6))
  have n1 : g6 ≠ w.heap.size := by have := C5.out.lt; omega
  have n2 : g6 ≠ w.heap.size + 1 := by have := C5.out.lt; omega
  have O7 := Lib.hid (own_set (p := ⟨w.heap.size, 3, none⟩) O6.out (by simp [Value.ownBlock]; omega) (.slice (some ⟨g6, 0, none⟩) n c6))
  clear K6 C6 B6 O6
  generalize w6.setCell ⟨w.heap.size, 3, none⟩ (.slice (some ⟨g6, 0, none⟩) n c6) = w7 at *
  obtain ⟨k0, k1, k2, k3, k4⟩ := K7.four
  have z1 : w7.cell? ⟨g6, v, none⟩ = some (.int .i64 (ig l v)) := by
    rw [O7.out.cellAt v (by omega)]
    have := O7.out.1
    simp only [il, List.length_map] at this
    simp [il, ig, List.getD, List.getElem?_eq_getElem (show v < l.length by omega)]
  have z2 := O7.out.frozenAt v
  generalize ig l v = z at z1
  go_upto_region 10 with (fail)
  have O8 := Lib.hid (by have := (O7.out.stored v (.int .i64 s)).1; rwa [il_set] at this)
  have B8 := Lib.hid (B7.out.setCell (p := ⟨g6, v, none⟩) (show w.heap.size ≤ g6 by have := C5.out.lt; omega) (.int .i64 s))
  have K8 := K7.far (p := ⟨g6, v, none⟩) (show w.heap.size ≠ g6 by omega) (.int .i64 s)
  have C8 := Lib.hid (C7.out.far (p := ⟨g6, v, none⟩) (show w.heap.size + 1 ≠ g6 by omega) (.int .i64 s))
  clear z1 z2 k0 k1 k2 k3 k4 O7 B7 K7 C7
  generalize w7.setCell ⟨g6, v, none⟩ (.int .i64 s) = w8 at *
  obtain ⟨k0, k1, k2, k3, k4⟩ := K8.four
  obtain ⟨j0, j1, j2, j3, j4, j5, j6, j7, j8⟩ := C8.out.four8
  go_wp2
  have E1 := Blk.put4 (a := .int .i64 W) (b := .int .i64 H) (c := .int .i64 E) (d := .slice (some ⟨g6, 0, none⟩) n c6) C8.out
  have HZ := Below.put4 (a := .int .i64 W) (b := .int .i64 H) (c := .int .i64 E) (d := .slice (some ⟨g6, 0, none⟩) n c6) B8.out (Nat.le_succ _)
  have hf : ∀ i, (Value.slice (some ⟨g6, 0, none⟩) n c6).ownBlock ≠ some (⟨w.heap.size + 1, i, none⟩ : Addr).block := fun i e => by
    have e : g6 = w.heap.size + 1 := by simpa [Value.ownBlock] using e
    omega
  have OZ := own_set (own_set (own_set (own_set O8.out (hf 0) (.int .i64 W)) (hf 1) (.int .i64 H)) (hf 2) (.int .i64 E)) (hf 3) (.slice (some ⟨g6, 0, none⟩) n c6)
  change (put4 w8 (w.heap.size + 1) (.int .i64 W) (.int .i64 H) (.int .i64 E) (.slice (some ⟨g6, 0, none⟩) n c6)).ownsRow _ _ _ _ _ _ at OZ
  change bodyPost _ _ _ _ _ (put4 w8 (w.heap.size + 1) (.int .i64 W) (.int .i64 H) (.int .i64 E) (.slice (some ⟨g6, 0, none⟩) n c6))
  generalize put4 w8 (w.heap.size + 1) (.int .i64 W) (.int .i64 H) (.int .i64 E) (.slice (some ⟨g6, 0, none⟩) n c6) = wz at E1 HZ OZ ⊢
  obtain ⟨z0, z1, z2, z3, z4⟩ := E1.four
  refine bodyPost_ret (v := .tuple #[.agg #[.int .i64 W, .int .i64 H, .int .i64 E, .slice (some ⟨g6, 0, none⟩) n c6], .int .i64 0]) (by simp [results, Try.results11, go_sem, z0, z1, z2, z3, z4]) rfl ⟨_, ⟨_, rfl⟩, Reads.of_own OZ, HZ⟩
end Go.Proofs.Ytbbehbgfdlamfaa
