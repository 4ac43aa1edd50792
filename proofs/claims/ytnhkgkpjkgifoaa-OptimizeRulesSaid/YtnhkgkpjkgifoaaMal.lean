/- The walk of evaluate: the words of all wires, then those of the outputs. -/
import Derived.Test.YtnhkgkpjkgifoaaMai
import Derived.Test.YtnhkgkpjkgifoaaMag
import Derived.Test.YtnhkgkpjkgifoaaMaa
import Derived.Test.YtnhkgkpjkgifoaaMac
import Derived.Test.YtnhkgkpjkgifoaaMab
import Derived.Below
import Derived.BigQuiet
import Derived.Deep.AppendLies
import Derived.Deep.CutRange
import Derived.Deep.Draws
import Derived.Deep.OwnRows
import Derived.Deep.QuietTactic
import Derived.IntWalk
import Derived.Laws.CopyOwn
import Derived.Laws.OwnMore
import Derived.Laws.Rows
import Derived.Lib.Hide
import Derived.Lib.SliceRun
import Derived.LoopN
import Derived.OwnWalk
import Derived.StillTail
import Derived.StillTailTactics
import Derived.Test.YtnhkgkpjkgifoaaRows
import Derived.WalkKit
namespace Go.Proofs.Ytnhkgkpjkgifoaa
open Go.RowKit
/-- the words of the inputs and of the first j gates -/
def wv (g : Nat → C3) (l : List Int) : Nat → List Int
  | 0 => l
  | j + 1 => wv g l j ++ [rs (g j).1 (ig (wv g l j) (g j).2.1.toNat) (ig (wv g l j) (g j).2.2.toNat)]
theorem wv_len (g : Nat → C3) (l : List Int) (j : Nat) : (wv g l j).length = l.length + j := by
  induction j with
  | zero => rfl
  | succ j ih => rw [wv, List.length_append, ih, List.length_singleton]; omega
/-- the words of some wires -/
def ow (v o : List Int) : List Int := o.map fun k => ig v k.toNat
theorem ig_zeros (l : List Int) (k a : Nat) : ig (l ++ List.replicate k 0) a = ig l a := by
  rcases Nat.lt_or_ge a l.length with h | h
  · simp [ig, List.getD, List.getElem?_append_left h]
  · simp only [ig, List.getD, List.getElem?_append_right h, List.getElem?_eq_none h, List.getElem?_replicate]
    split <;> rfl
theorem set_zeros (l : List Int) (k : Nat) (v : Int) (n : Nat) (hn : n = l.length) : (l ++ List.replicate (k + 1) 0).set n v = l ++ [v] ++ List.replicate k 0 := by
  subst hn
  rw [List.replicate_succ, List.set_append_right _ _ (Nat.le_refl _), Nat.sub_self, List.set_cons_zero, List.append_assoc]; rfl
theorem rg_lt {g : C3} {n N : Int} (h : rg g n = true) (hn : n < N) (h0 : 0 ≤ n) : (0 ≤ g.2.1 ∧ g.2.1 < N) ∧ 0 ≤ g.2.2 ∧ g.2.2 < N := by
  unfold rg at h
  split at h
  · simp at h; omega
  · split at h
    · simp [isw] at h; omega
    · split at h
      · simp [isw] at h; omega
      · cases h
set_option maxRecDepth 100000 in
/-- the inputs' words are copied to the row's beginning -/
theorem ucopy_in (w : World) (g B : Nat) (ad : Addr) (m N cI : Nat) (l : List Int) (hg : Blk w g 67 (ul (List.replicate N 0)).toArray) (hr : Reads w B (some ad) m (ul l)) (hm : m ≤ N) :
    ∃ w2, (Builtin.copy_ #[66, 66] 3 #[.slice (some ⟨g, 0, none⟩) N N, .slice (some ad) m cI]).run Try.prog w = .ok (.int .i64 (m : Int)) w2 ∧ Blk w2 g 67 (ul (l ++ List.replicate (N - m) 0)).toArray ∧ Below g w w2 := by
  obtain ⟨i0, hi, hz0, hz1, hz2⟩ := info_parts Try.info_u64
  have hsz1 : (Try.prog.info? 67).map (·.size) = some 1 := by rw [hi]; simp [hz1]
  have hl : (ul l).length = m := hr.1
  have h := run_copy_row (P := Try.prog) w 66 66 3 67 g 0 N N ad m cI (ul (List.replicate N 0)).toArray 67 (ul l) Try.underlying66 hsz1 hg (by rw [hl]; exact (Nat.min_eq_left hm).symm)
    (fun j v hj => by
      have hjm : j < m := by rw [← hl]; exact (List.getElem?_eq_some_iff.1 hj).1
      obtain ⟨ad', ha, _, hc⟩ := hr.2 (by omega)
      injection ha with ha
      subst ha
      exact hc j v hj) (by simp [ul_len] at hl ⊢; omega) (fun v hv => by
        simp only [ul, List.mem_map] at hv
        obtain ⟨x, _, rfl⟩ := hv
        rfl)
  have hl' : l.length = m := by rw [← hl, ul_len]
  refine ⟨_, by rw [h, hl]; rfl, (show _ = _ from ?_), below_setRow (Below.refl _ _) (Nat.le_refl _) _⟩
  rw [setRow_heap w g _ _ _ _ hg]
  simp [ul, hl']
/-- a copy of one word -/
theorem ucopy_at (w : World) (g gs off so dLen dCap sLen sCap : Nat) (cur : List Value) (k : Int) (hg : Blk w g 67 cur.toArray) (hn : Nat.min sLen dLen = 1) (hc : w.cell? ⟨gs, so, none⟩ = some (.int .u64 k)) (hf : off + 1 ≤ cur.length) :
    ∃ w2, (Builtin.copy_ #[66, 66] 3 #[.slice (some ⟨g, off, none⟩) dLen dCap, .slice (some ⟨gs, so, none⟩) sLen sCap]).run Try.prog w = .ok (.int .i64 1) w2 ∧ Blk w2 g 67 (cur.take off ++ [Value.int .u64 k] ++ cur.drop (off + 1)).toArray ∧ Below g w w2 := by
  obtain ⟨i0, hi, hz0, hz1, hz2⟩ := info_parts Try.info_u64
  have hsz1 : (Try.prog.info? 67).map (·.size) = some 1 := by rw [hi]; simp [hz1]
  have h := run_copy_row (P := Try.prog) w 66 66 3 67 g off dLen dCap ⟨gs, so, none⟩ sLen sCap cur.toArray 67 [.int .u64 k] Try.underlying66 hsz1 hg (by rw [hn]; rfl)
    (fun j v hj => by match j, hj with | 0, hj => simp at hj; subst hj; simpa [Addr.add] using hc) (by simpa using hf) (fun v hv => by simp at hv; subst hv; rfl)
  exact ⟨_, h, (show _ = _ from by simpa using setRow_heap w g _ _ _ _ hg), below_setRow (Below.refl _ _) (Nat.le_refl _) _⟩

set_option maxRecDepth 100000 in
set_option maxHeartbeats 2000000 in
theorem evaluate_any (AG AO : Option Addr) (ai : Addr) (cG cO cI : Nat) (C : Cr) (l : List Int) (w : World) (h : CS w AG AO C) (hi : Reads w w.heap.size (some ai) l.length (ul l)) (hr : rt C = true) (hl : C.ins = (l.length : Int)) :
    Calls Try.prog 36 #[.agg #[.int .i64 C.ins, .slice AG C.n cG, .slice AO C.o.length cO], .slice (some ai) l.length cI] w fun e w' => ∃ A c, e = .returned (.slice A C.o.length c) ∧ Reads w' w'.heap.size A C.o.length (ul (ow (wv C.g l C.n) C.o)) ∧ (∀ ad, A = some ad → w.heap.size ≤ ad.block) ∧ (∃ g, A = some ⟨g, 0, none⟩) ∧ Below w.heap.size w w' := by
  rw [rt_iff] at hr
  obtain ⟨⟨h0, h1, h2, h3⟩, hg, ho⟩ := hr
  obtain ⟨HG, HO⟩ := h
  obtain ⟨I, n, g, o⟩ := C
  simp only at *
  subst hl
  obtain ⟨m, hm⟩ : ∃ m, m = l.length := ⟨_, rfl⟩
  obtain ⟨q, hq⟩ : ∃ q, q = o.length := ⟨_, rfl⟩
  rw [← hm] at h0 h1 hg ho hi ⊢
  rw [← hq] at h3 ho HO ⊢
  have HM := Lib.hid hm
  have HQ := Lib.hid hq
  clear hm hq
  obtain ⟨N, hN⟩ : ∃ N, N = m + n := ⟨_, rfl⟩
  have mk : ∀ w : World, (Instr.makeSlice 66 (.int .i64 ((m : Int) + (n : Int))) (.int .i64 ((m : Int) + (n : Int)))).run Try.prog w = .ok (.slice (some ⟨w.heap.size, 0, none⟩) N N) (w.alloc (.cells (ul (List.replicate N 0)).toArray 67)) := fun w => by rw [hN]; exact mk_u64s m n (by omega) w
  have mq := mk_u64 q (by omega)
  have GH := Lib.hid hg
  have OH := Lib.hid ho
  clear hg ho
  have HNN := Lib.hid hN
  have B1 := ((Below.refl w.heap.size w).alloc (Nat.le_refl _) (.cells #[.int .i64 (m : Int), .slice AG n cG, .slice AO q cO] 34)).alloc (by simp) (.cells (ul (List.replicate N 0)).toArray 67)
  have K1 := (Blk.new w 34 #[.int .i64 (m : Int), .slice AG n cG, .slice AO q cO]).alloc (.cells (ul (List.replicate N 0)).toArray 67)
  have R1 := Blk.new (w.alloc (.cells #[.int .i64 (m : Int), .slice AG n cG, .slice AO q cO] 34)) 67 (ul (List.replicate N 0)).toArray
  rw [World.size_alloc] at R1
  have I1 := hi.later B1
  have HG := Lib.hid HG
  have HO := Lib.hid HO
  clear hN hi
  go_enter Try.func36, Try.ntmps36
  go_upto_region 2 with (fail)
  have hsz : ((w.alloc (.cells #[.int .i64 (m : Int), .slice AG n cG, .slice AO q cO] 34)).alloc (.cells (ul (List.replicate N 0)).toArray 67)).heap.size = w.heap.size + 1 + 1 := by simp
  generalize (w.alloc (.cells #[.int .i64 (m : Int), .slice AG n cG, .slice AO q cO] 34)).alloc (.cells (ul (List.replicate N 0)).toArray 67) = w1 at *
  obtain ⟨w2, run2, R2, B2⟩ := ucopy_in w1 (w.heap.size + 1) _ ai m N cI l R1 I1 (by rw [HNN.out]; omega)
  have K2 := K1.below B2 (Nat.lt_succ_self _)
  have B2 := B1.trans (B2.mono (Nat.le_succ _))
  have hs2 : w.heap.size + 1 + 1 ≤ w2.heap.size := R2.lt
  rw [show N - m = n by rw [HNN.out]; omega] at R2
  have R2 := Lib.hid R2
  have K2 := Lib.hid K2
  have B2 := Lib.hid B2
  obtain ⟨a0, a1, a2, _, _, _, a6⟩ := K2.out.three6
  clear B1 K1 R1 I1 mk hsz
  go_wp2
  go_loopw [24] (fun iv wr => ∃ j : Nat, j ≤ n ∧ iv = .int .i64 (j : Int) ∧ Hid (Blk wr w.heap.size 34 #[.int .i64 (m : Int), .slice AG n cG, .slice AO q cO]) ∧ Hid (Blk wr (w.heap.size + 1) 67 (ul (wv g l j ++ List.replicate (n - j) 0)).toArray) ∧ Hid (Below w.heap.size w wr)) (fun iv _ => n - (intOf iv).toNat)
  case atStart => exact ⟨0, Nat.zero_le _, rfl, K2, R2, B2⟩
  case round =>
    obtain ⟨j, hj, rfl, KJ, RJ, BJ⟩ := hrel
    have hsj : w.heap.size + 1 + 1 ≤ wr.heap.size := RJ.out.lt
    clear a0 a1 a2 a6 run2
    obtain ⟨a0, a1, a2, _, _, _, a6⟩ := KJ.out.three6
    by_cases hk : j < n
    · obtain ⟨gg, o1, rfl, hb1, hc1⟩ := HG.out.below BJ.out (by omega)
      obtain ⟨c0, c1, c2⟩ := hc1 j hk
      have hgj := rg_lt (N := (N : Int)) (GH.out j hk) (by rw [HNN.out]; omega) (by omega)
      have HST := Lib.hid (set_zeros (wv g l j) (n - j - 1) (rs (g j).1 (ig (wv g l j) (g j).2.1.toNat) (ig (wv g l j) (g j).2.2.toNat)) (m + j) (by rw [wv_len, ← HM.out]))
      have HVS := Lib.hid (show wv g l (j + 1) = wv g l j ++ [rs (g j).1 (ig (wv g l j) (g j).2.1.toNat) (ig (wv g l j) (g j).2.2.toNat)] from rfl)
      obtain ⟨V, hV⟩ : ∃ V, V = wv g l j := ⟨_, rfl⟩
      obtain ⟨V', hV'⟩ : ∃ V', V' = wv g l (j + 1) := ⟨_, rfl⟩
      have HVL := Lib.hid (show V.length = m + j by rw [hV, wv_len, ← HM.out])
      rw [← hV] at RJ HST HVS
      rw [← hV'] at HVS
      have HVQ := Lib.hid hV'
      clear hV hV'
      have hgw : gg < wr.heap.size := Nat.lt_of_lt_of_le hb1 BJ.out.size
      clear hc1
      obtain ⟨⟨op, a, b⟩, hx⟩ : ∃ x, x = g j := ⟨_, rfl⟩
      rw [← hx] at c0 c1 c2 hgj HST HVS
      clear hx
      simp only at c0 c1 c2 hgj
      obtain ⟨⟨p0, p1⟩, p2, p3⟩ := hgj
      obtain ⟨ka, rfl⟩ : ∃ k : Nat, a = (k : Int) := ⟨a.toNat, by omega⟩
      obtain ⟨kb, rfl⟩ : ∃ k : Nat, b = (k : Int) := ⟨b.toNat, by omega⟩
      have hNl : ((V ++ List.replicate (n - j) 0).length) = N := by rw [List.length_append, HVL.out, List.length_replicate, HNN.out]; omega
      have d0 : wr.cell? ⟨w.heap.size + 1, ka, none⟩ = some (.int .u64 (ig V ka)) := by rw [RJ.out.cell, ul_get (by rw [hNl]; omega), ig_zeros]
      have d1 : wr.cell? ⟨w.heap.size + 1, kb, none⟩ = some (.int .u64 (ig V kb)) := by rw [RJ.out.cell, ul_get (by rw [hNl]; omega), ig_zeros]
      simp only [Int.toNat_natCast] at HST HVS
      have CALL := Lib.hid (fun w => result_any (ig V ka) (ig V kb) w op)
      generalize ig V ka = x at d0 CALL HST HVS
      generalize ig V kb = y at d1 CALL HST HVS
      generalize rs op x y = v at CALL HST HVS
      have BY := (Below.refl wr.heap.size wr).alloc (Nat.le_refl _) (.cells #[.int .i64 op, .int .i64 (ka : Int), .int .i64 (kb : Int)] 57)
      have KG := Blk.new wr 57 #[.int .i64 op, .int .i64 (ka : Int), .int .i64 (kb : Int)]
      have K3 := KJ.out.below BY a6
      have R3 := RJ.out.below BY (by omega)
      have B3 := BJ.out.trans (BY.mono (by omega))
      have hNm : (m : Int) + (j : Int) < (N : Int) := by rw [HNN.out]; omega
      have hN0 : 0 ≤ (m : Int) + (j : Int) := by omega
      clear hNl
      go_upto_region 6 with (fail)
      generalize wr.alloc (.cells #[.int .i64 op, .int .i64 (ka : Int), .int .i64 (kb : Int)] 57) = w3 at *
      obtain ⟨b0, b1, b2, _, _, _, b6⟩ := K3.three6
      obtain ⟨e0, e1, e2, _, _, _, e6⟩ := KG.three6
      have f0 := (BY.cell (p := ⟨w.heap.size + 1, ka, none⟩) (by show w.heap.size + 1 < _; omega)).trans d0
      have f1 := (BY.cell (p := ⟨w.heap.size + 1, kb, none⟩) (by show w.heap.size + 1 < _; omega)).trans d1
      refine wp_region_still_tail 18 (by kernel_rfl) (by kernel_rfl) ?_
      simp only [List.take_succ_cons, List.take_zero, List.drop_succ_cons, List.drop_zero]
      repeat still_step
      still_call ((CALL.out _).mono fun _ _ h => ⟨h.1, h.2.symm⟩)
      repeat still_step
      try refine wpStill_nil ?_
      change wpList _ _ _ _ _ w3.drew
      have K4 := K3.drew
      have R4 := R3.drew
      have B4 := B3.drew
      have hs4 : w.heap.size + 1 + 1 ≤ w3.drew.heap.size := R4.lt
      clear K3 R3 B3 BY KG b0 b1 b2 b6 e0 e1 e2 e6 f0 f1 d0 d1 a0 a1 a2 a6 c0 c1 c2
      generalize w3.drew = w4 at *
      have hf := R4.frozen (m + j)
      have hc : w4.cell? ⟨w.heap.size + 1, m + j, none⟩ = some (.int .u64 (ig V (m + j))) := by
        rw [R4.cell, ul_get (by rw [List.length_append, HVL.out, List.length_replicate]; omega), ig_zeros]
      go_wp2
      go_roundw
      case rel =>
        refine ⟨j + 1, by omega, by go_num, Lib.hid (K4.far (p := ⟨w.heap.size + 1, m + j, none⟩) (by show w.heap.size ≠ w.heap.size + 1; omega) _), Lib.hid ?_, Lib.hid (B4.setCell (p := ⟨w.heap.size + 1, m + j, none⟩) (Nat.le_succ _) _)⟩
        have hz := R4.set_ (m + j) (.int .u64 v)
        rw [ul_set, show n - j = n - j - 1 + 1 by omega, HST.out] at hz
        rw [← HVQ.out, HVS.out, show n - (j + 1) = n - j - 1 by omega]
        exact hz
      case measure => simp [intOf]; omega
    · obtain rfl : j = n := by omega
      clear hk R2 K2 B2 hs2 hj
      rw [Nat.sub_self, List.replicate_zero, List.append_nil] at RJ
      obtain ⟨V, hV⟩ : ∃ V, V = wv g l j := ⟨_, rfl⟩
      have HVL := Lib.hid (show V.length = N by rw [hV, wv_len, ← HM.out, HNN.out])
      rw [← hV] at RJ
      have HVE := Lib.hid hV
      clear hV
      have BQ := (Below.refl wr.heap.size wr).alloc (Nat.le_refl _) (.cells (ul (List.replicate q 0)).toArray 67)
      have RQ := Blk.new wr 67 (ul (List.replicate q 0)).toArray
      have R3 := RJ.out.below BQ (by omega)
      have K3 := KJ.out.below BQ a6
      have B3 := BJ.out.trans (BQ.mono (by omega))
      have hnn : N ≤ 30000 := by rw [HNN.out]; omega
      go_upto_region 9 with (fail)
      generalize wr.alloc (.cells (ul (List.replicate q 0)).toArray 67) = w3 at *
      obtain ⟨gO, hgO⟩ : ∃ gO, gO = wr.heap.size := ⟨_, rfl⟩
      have hgs : w.heap.size + 1 + 1 ≤ gO := by omega
      rw [← hgO] at RQ ⊢
      clear hgO
      clear a0 a1 a2 a6 mq
      obtain ⟨a0, a1, a2, _, _, _, a6⟩ := K3.three6
      go_wp2
      go_loopw [56] (fun iv wr => ∃ s : Nat, s ≤ q ∧ iv = .int .i64 (s : Int) ∧ Hid (Blk wr w.heap.size 34 #[.int .i64 (m : Int), .slice AG j cG, .slice AO q cO]) ∧ Hid (Blk wr (w.heap.size + 1) 67 (ul V).toArray) ∧ Hid (Blk wr gO 67 (ul (ow V (o.take s) ++ List.replicate (q - s) 0)).toArray) ∧ Hid (Below w.heap.size w wr)) (fun iv _ => q - (intOf iv).toNat)
      case atStart => exact ⟨0, Nat.zero_le _, rfl, Lib.hid K3, Lib.hid R3, Lib.hid RQ, Lib.hid B3⟩
      case round =>
        obtain ⟨s, hs, rfl, KS, RS, OS, BS⟩ := hrel
        clear a0 a1 a2 a6
        obtain ⟨a0, a1, a2, _, _, _, a6⟩ := KS.out.three6
        by_cases hsq : s < q
        · obtain ⟨ad, rfl, hbo, hc⟩ := il_at (HO.out.below BS.out) hsq
          obtain ⟨x0, x1⟩ := (isw_iff _ _).1 (OH.out s hsq)
          have HTS := Lib.hid (show ow V (o.take (s + 1)) = ow V (o.take s) ++ [ig V (ig o s).toNat] by
            rw [ow, ow, List.take_succ_eq_append_getElem (by rw [← HQ.out]; exact hsq), List.map_append]
            simp [ig, List.getD, List.getElem?_eq_getElem (show s < o.length by rw [← HQ.out]; exact hsq)])
          obtain ⟨k, hkk⟩ : ∃ k : Nat, ig o s = (k : Int) := ⟨(ig o s).toNat, by omega⟩
          rw [hkk] at hc x0 x1 HTS
          rw [Int.toNat_natCast] at HTS
          have HNI : (N : Int) = (m : Int) + (j : Int) := by rw [HNN.out]; omega
          have k1 : k < N := by omega
          have k2 : (k : Int) < (N : Int) := by omega
          have k3 : (k : Int) + 1 ≤ (N : Int) := by omega
          clear hkk x0 x1 HNI
          have hlo : (ow V (o.take s) ++ List.replicate (q - s) 0).length = q := by
            rw [List.length_append, List.length_replicate, ow, List.length_map, List.length_take, ← HQ.out]; omega
          have dk : wr.drew.cell? ⟨w.heap.size + 1, k, none⟩ = some (.int .u64 (ig V k)) := by rw [RS.out.drew.cell, ul_get (by rw [HVL.out]; exact k1)]
          obtain ⟨w5, run5, O5, B5⟩ := ucopy_at wr.drew gO (w.heap.size + 1) s k (q - s) (q - s) 1 (N - k) _ (ig V k) OS.out.drew (Nat.min_eq_left (by omega)) dk (by rw [ul_len, hlo]; omega)
          have K5 := KS.out.drew.below B5 (by omega)
          have R5 := RS.out.drew.below B5 (by omega)
          have BB5 := BS.out.trans ((Below.refl wr.heap.size wr).drew.mono BS.out.size)
          have BB5 := BB5.trans (B5.mono (by omega))
          have e : (ul (ow V (o.take s) ++ List.replicate (q - s) 0)).take s ++ [Value.int .u64 (ig V k)] ++ (ul (ow V (o.take s) ++ List.replicate (q - s) 0)).drop (s + 1) = ul (ow V (o.take (s + 1)) ++ List.replicate (q - (s + 1)) 0) := by
            have hls : (ow V (o.take s)).length = s := by rw [ow, List.length_map, List.length_take, ← HQ.out]; omega
            rw [HTS.out]
            obtain ⟨t, ht⟩ : ∃ t, q - s = t + 1 := ⟨q - s - 1, by omega⟩
            rw [show q - (s + 1) = t by omega, ht]
            simp only [ul, List.map_append, List.map_replicate, List.replicate_succ]
            rw [List.take_append_of_le_length (by simp [hls]), List.take_of_length_le (by simp [hls]), List.drop_append, List.drop_of_length_le (by simp [hls])]
            simp [hls]
          rw [e] at O5
          have K5 := Lib.hid K5
          have R5 := Lib.hid R5
          have O5 := Lib.hid O5
          have B6 := Lib.hid BB5
          clear e B5 BB5 hlo
          go_upto_region 12 with (fail)
          go_region
          go_wp2
          go_roundw
          case rel => exact ⟨s + 1, by omega, by go_num, K5, R5, O5, B6⟩
          case measure => simp [intOf]; omega
        · obtain rfl : s = q := by omega
          have HZ := Reads.of_blk OS.out
          rw [Nat.sub_self, List.replicate_zero, List.append_nil, List.take_of_length_le (by rw [← HQ.out]; exact Nat.le_refl _), ul_len, ow, List.length_map, ← ow, ← HQ.out, HVE.out] at HZ
          have HZ := Lib.hid HZ
          go_wp2
          go_ret
          exact ⟨_, _, rfl, HZ.out, fun ad e => by injection e with e; subst e; show w.heap.size ≤ gO; omega, ⟨_, rfl⟩, BS.out⟩
end Go.Proofs.Ytnhkgkpjkgifoaa
