/- The walk of Depth at valid circuits. -/
import Derived.Test.YtfoheeijdaknnaaDeep
import Derived.Test.YtfoheeijdaknnaaCir
namespace Go.Proofs.Ytfoheeijdaknnaa
open Go.RowKit

/-- the depths of the inputs and of the first j gates -/
def dv (g : Nat → C3) (m : Nat) : Nat → List Int
  | 0 => List.replicate m 0
  | j + 1 => dv g m j ++ [1 + dm (dv g m j) (opn (g j)) (opn (g j)).length]
theorem dv_len (g : Nat → C3) (m j : Nat) : (dv g m j).length = m + j := by
  induction j with
  | zero => simp [dv]
  | succ j ih => rw [dv, List.length_append, ih, List.length_singleton]; omega
/-- the depth of a circuit -/
def dp (C : Cr) : Int := dm (dv C.g C.ins.toNat C.n) C.o C.o.length
theorem opn_len (g : C3) : (opn g).length ≤ 2 := by unfold opn; split <;> (try split) <;> simp
theorem opn_lt {g : C3} {n : Int} (h : rg g n = true) : ∀ j, j < (opn g).length → 0 ≤ ig (opn g) j ∧ ig (opn g) j < n := by
  obtain ⟨op, a, b⟩ := g
  by_cases h01 : op = 0 ∨ op = 1
  · intro j hj
    simp [opn, h01] at hj
  by_cases h2 : op = 2
  · subst h2
    simp [rg, isw] at h
    intro j hj
    simp [opn] at hj
    subst hj
    simp [opn, ig]
    omega
  by_cases h3 : op = 3 ∨ op = 4 ∨ op = 5
  · simp [rg, h01, h2, h3, isw] at h
    intro j hj
    simp [opn, h01, h2] at hj
    match j, hj with
    | 0, _ => simp [opn, h01, h2, ig]; omega
    | 1, _ => simp [opn, h01, h2, ig]; omega
  · simp [rg, h01, h2, h3] at h
theorem dm_bd {l x : List Int} {b : Int} (hb : 0 ≤ b) (h : ∀ k, 0 ≤ ig l k ∧ ig l k ≤ b) (s : Nat) : 0 ≤ dm l x s ∧ dm l x s ≤ b := by
  induction s with
  | zero => simp [dm, hb]
  | succ s ih => have := h (ig x s).toNat; rw [dm]; omega
theorem ig_app (l : List Int) (v : Int) (k : Nat) : ig (l ++ [v]) k = if k < l.length then ig l k else if k = l.length then v else 0 := by
  unfold ig
  rw [List.getD_eq_getElem?_getD, List.getD_eq_getElem?_getD, List.getElem?_append]
  split
  · rfl
  · next h =>
    split
    · next e => subst e; simp
    · next e => rw [List.getElem?_eq_none (by simp; omega)]; rfl
theorem dv_bd (g : Nat → C3) (m j : Nat) : ∀ k, 0 ≤ ig (dv g m j) k ∧ ig (dv g m j) k ≤ (j : Int) := by
  induction j with
  | zero =>
    intro k
    have : ig (dv g m 0) k = 0 := by
      simp only [dv, ig, List.getD, List.getElem?_replicate]
      split <;> rfl
    omega
  | succ j ih =>
    intro k
    have hd := dm_bd (x := opn (g j)) (by omega) ih (opn (g j)).length
    have hk := ih k
    rw [dv, ig_app]
    split
    · omega
    · split <;> omega
theorem Try.info_int1 : (Try.prog.info? 3).map (fun i => (i.zero, i.size, i.bytes)) = some (some (.int .i64 0), 1, 8) := by kernel_rfl
set_option maxRecDepth 100000 in
set_option maxHeartbeats 2000000 in
theorem depth_any (AG AO : Option Addr) (cG cO : Nat) (C : Cr) (w : World) (h : CS w AG AO C) (hr : rt C = true) :
    Calls Try.prog 12 #[.agg #[.int .i64 C.ins, .slice AG C.n cG, .slice AO C.o.length cO]] w fun e w' => e = .returned (.int .i64 (dp C)) ∧ Below w.heap.size w w' := by
  obtain ⟨i0, hi, hz0, hz1, hz2⟩ := info_parts Try.info_int1
  have hr' := hr
  rw [rt_iff] at hr'
  obtain ⟨⟨h0, h1, h2, h3⟩, hg, ho⟩ := hr'
  have B1 := (Below.refl w.heap.size w).alloc (Nat.le_refl _) (.cells #[.int .i64 C.ins, .slice AG C.n cG, .slice AO C.o.length cO] 25)
  have K1 := Blk.new w 25 #[.int .i64 C.ins, .slice AG C.n cG, .slice AO C.o.length cO]
  have F := Lib.hid (right_any AG AO cG cO C _ (h.later B1) (by omega) (by omega))
  rw [hr] at F
  have HD := Lib.hid (show dp C = dm (dv C.g C.ins.toNat C.n) C.o C.o.length from rfl)
  have GH := Lib.hid hg
  have OH := Lib.hid ho
  obtain ⟨HG, HO⟩ := h
  have HG := Lib.hid HG
  have HO := Lib.hid HO
  generalize dp C = D at HD ⊢
  clear hg ho hr
  obtain ⟨I, n, g, o⟩ := C
  simp only at *
  obtain ⟨q, hq⟩ : ∃ q, q = o.length := ⟨_, rfl⟩
  rw [← hq] at OH HO F K1 B1 HD h3 ⊢
  clear hq
  obtain ⟨m, rfl⟩ : ∃ m : Nat, I = (m : Int) := ⟨I.toNat, by omega⟩
  rw [Int.toNat_natCast] at HD
  have mk : ∀ w : World, (Instr.makeSlice 23 (.int .i64 (m : Int)) (.int .i64 ((m : Int) + (n : Int)))).run Try.prog w = .ok (.slice (some ⟨w.heap.size, 0, none⟩) m (m + n)) (w.alloc (.cells (il (List.replicate (m + n) 0)).toArray 3)) := fun w => mk_ints2 m n (by omega) w
  go_enter Try.func12, Try.ntmps12
  go_upto_region 1 with (fail)
  generalize w.alloc (.cells #[.int .i64 (m : Int), .slice AG n cG, .slice AO q cO] 25) = w1 at *
  obtain ⟨a0, a1, a2, _, _, _, a6⟩ := K1.three6
  go_upto_region 3 with (go_at_call 13; (with_reducible refine F.out.mono ?_); rintro e w2 ⟨rfl, hb⟩; have B2 := B1.trans (hb.mono B1.size); have K2 := K1.below hb a6; have s2 := hb.size; clear hb)
  clear a0 a1 a2
  obtain ⟨a0, a1, a2, _, _, _, _⟩ := K2.three6
  have BW := (Below.refl w2.heap.size w2).alloc (Nat.le_refl _) (.cells (il (List.replicate (m + n) 0)).toArray 3)
  have RW := own_of_blk (base := w2.heap.size) (Blk.new w2 3 (il (List.replicate (m + n) 0)).toArray) (Nat.le_refl _) (by unfold maxLen; omega)
  have K3 := K2.below BW (by omega)
  have B3 := B2.trans (BW.mono (by omega))
  go_upto_region 4 with (fail)
  generalize w2.alloc (.cells (il (List.replicate (m + n) 0)).toArray 3) = w3 at *
  obtain ⟨G2, hG2⟩ : ∃ G2, G2 = w2.heap.size := ⟨_, rfl⟩
  rw [← hG2] at RW s2 ⊢
  have hg1 : w.heap.size < G2 := by omega
  have RW := Lib.hid (show w3.ownsRow G2 3 1 (.slice (some ⟨G2, 0, none⟩) m (m + n)) m (il (dv g m 0)) from RW)
  have K3 := Lib.hid K3
  have B3 := Lib.hid B3
  clear hG2 BW K2 B2 K1 B1 F s2 a0 a1 a2 a6 mk
  obtain ⟨a0, a1, a2, _, _, _, a6⟩ := K3.out.three6
  go_wp2
  go_loopw [3, 21] (fun lv iv wr => ∃ (j : Nat) (A : Option Addr) (c : Nat), j ≤ n ∧ lv = .slice A (m + j) c ∧ iv = .int .i64 (j : Int) ∧ Hid (Blk wr w.heap.size 25 #[.int .i64 (m : Int), .slice AG n cG, .slice AO q cO]) ∧ Hid (wr.ownsRow G2 3 1 (.slice A (m + j) c) (m + j) (il (dv g m j))) ∧ Hid (Below w.heap.size w wr) ∧ Hid (G2 ≤ wr.heap.size)) (fun _ iv _ => n - (intOf iv).toNat)
  case atStart => exact ⟨0, _, _, Nat.zero_le _, rfl, rfl, K3, RW, B3, Lib.hid (by have := (RW.out.lt _ rfl); omega)⟩
  case round =>
    obtain ⟨j, A, c, hj, rfl, rfl, KJ, OJ, BJ, GJ⟩ := hrel
    have hgj := GJ.out
    clear a0 a1 a2 a6
    obtain ⟨a0, a1, a2, _, _, _, a6⟩ := KJ.out.three6
    by_cases hk : j < n
    · obtain ⟨gg, o1, rfl, hb1, hc1⟩ := HG.out.below BJ.out (by omega)
      obtain ⟨c0, c1, c2⟩ := hc1 j hk
      have hop := opn_lt (GH.out j hk)
      have hol := opn_len (g j)
      have hdb := dm_bd (x := opn (g j)) (by omega) (dv_bd g m j) (opn (g j)).length
      have HST := Lib.hid (show dv g m (j + 1) = dv g m j ++ [1 + dm (dv g m j) (opn (g j)) (opn (g j)).length] from rfl)
      obtain ⟨⟨op, a, b⟩, hx⟩ : ∃ x, x = g j := ⟨_, rfl⟩
      rw [← hx] at c0 c1 c2 hop hol hdb HST
      clear hx hc1
      simp only at c0 c1 c2
      have hgw : gg < wr.heap.size := Nat.lt_of_lt_of_le hb1 BJ.out.size
      have BY := (Below.refl wr.heap.size wr).alloc (Nat.le_refl _) (.cells #[.int .i64 op, .int .i64 a, .int .i64 b] 43)
      have KG := Blk.new wr 43 #[.int .i64 op, .int .i64 a, .int .i64 b]
      have K4 := KJ.out.below BY a6
      have O4 := own_below OJ.out BY
      have B4 := BJ.out.trans (BY.mono (by omega))
      have hs4 : G2 ≤ (wr.alloc (.cells #[.int .i64 op, .int .i64 a, .int .i64 b] 43)).heap.size := by simp; omega
      go_upto_region 7 with (fail)
      generalize wr.alloc (.cells #[.int .i64 op, .int .i64 a, .int .i64 b] 43) = w4 at *
      obtain ⟨e0, e1, e2, _, _, _, e6⟩ := KG.three6
      have OPN := Lib.hid (fun w => operands_any a b w op)
      have hrd := dv_len g m j
      have HOP := Lib.hid hop
      have DEEP := Lib.hid (fun (A' : Option Addr) (c' : Nat) (w' : World) (h : Reads w' w'.heap.size A (m + j) (il (dv g m j))) (h' : Reads w' w'.heap.size A' (opn (op, a, b)).length (il (opn (op, a, b)))) => deepest_any A A' (m + j) c (opn (op, a, b)).length c' (dv g m j) (opn (op, a, b)) w' h h' (by omega) (by omega) (fun s hs => by have := HOP.out s hs; omega))
      generalize opn (op, a, b) = P at HOP DEEP hop hol hdb HST OPN
      generalize dm (dv g m j) P P.length = d at DEEP hdb HST
      obtain ⟨L, hL⟩ : ∃ L, L = dv g m j := ⟨_, rfl⟩
      rw [← hL] at O4 DEEP HST
      clear hL
      generalize P.length = pl at OPN DEEP hol
      obtain ⟨d0, d1⟩ := hdb
      have hd2 : d ≤ 20000 := by omega
      have K4 := Lib.hid K4
      have O4 := Lib.hid O4
      have B4 := Lib.hid B4
      clear hop BY KG c0 c1 c2 a0 a1 a2 hrd d1 hol
      go_wp2_with (first
        | (go_at_call 22; (with_reducible refine (OPN.out _).mono ?_); rintro e w5 ⟨A5, c5, rfl, hr5, hb⟩; have B5 := Lib.hid (B4.out.trans (hb.mono B4.out.size)); have K5 := Lib.hid (K4.out.below hb K4.out.lt); have O5 := Lib.hid (own_below O4.out hb); have S5 := Nat.le_trans hs4 hb.size; have R5 := Lib.hid hr5; clear hb hr5)
        | (go_at_call 21; (with_reducible refine (DEEP.out _ _ _ (Reads.of_own O5.out) R5.out).mono ?_); rintro e w6 ⟨rfl, rfl⟩)
        | (at_builtin; refine wpList_append1 rfl _ _ 23 rfl G2 3 i0 (.int .i64 0) 8 Try.underlying23 hi hz0 hz1 hz2 rfl _ (m + j) c _ rfl O5.out (.int .i64 (1 + d)) rfl rfl (by unfold maxLen; omega) (by omega) S5 ?_; intro g' c6 w6 hown6 hbel6; have K6 := Lib.hid (K5.out.below hbel6 hg1); have O6 := Lib.hid hown6; have B6 := Lib.hid (B5.out.trans (hbel6.mono (Nat.le_of_lt hg1))); have S6 := hbel6.size; clear hown6 hbel6))
      go_roundw
      case rel => exact ⟨j + 1, _, _, by omega, rfl, by go_num, K6, Lib.hid (by have hz := O6.out; rw [← il_add, ← HST.out] at hz; exact hz), B6, Lib.hid (by omega)⟩
      case measure => simp [intOf]; omega
    · obtain rfl : j = n := by omega
      have HR := (Reads.of_own OJ.out)
      have hrd := dv_len g m j
      have DEEP := Lib.hid (deepest_any A AO (m + j) c q cO (dv g m j) o wr HR (HO.out.later BJ.out) (by omega) (by omega) (fun s hs => by have := (isw_iff _ _).1 (OH.out s hs); omega))
      rw [← HD.out] at DEEP
      clear HR hrd
      go_wp2_with (go_at_call 21; (with_reducible refine DEEP.out.mono ?_); rintro e w6 ⟨rfl, rfl⟩)
      go_ret
      exact ⟨rfl, BJ.out⟩
end Go.Proofs.Ytfoheeijdaknnaa
