/- The walk of the law where positions are exchanged. -/
/- The walk of the law where a symmetry turns the states. -/
import Derived.Test.YtbcihgimflljoaaGreatDoorLawA
namespace Go.Proofs.YtbcihgimflljoaaGreatDoor
open Go.RowKit

theorem il_set (l : List Int) (s : Nat) (v : Int) : (il l).toArray.setIfInBounds s (.int .i64 v) = (il (l.set s v)).toArray := by
  simp [il, List.map_set]
theorem il_one (l : List Int) : ∀ v ∈ il l, v.oneCell' = true := fun v hv => by
  simp only [il, List.mem_map] at hv
  obtain ⟨x, _, rfl⟩ := hv
  rfl
theorem il_get {l : List Int} {s : Nat} (hs : s < l.length) : (il l).toArray[s]? = some (.int .i64 (ig l s)) := by
  simp [il, ig, hs]
/-- a row that a make has laid: its block -/
theorem blk_of_make {w : World} {base g n : Nat} {e : TypeId} {xs : List Value} (h : w.ownsRow base e 1 (.slice (some ⟨g, 0, none⟩) n n) n xs) : Blk w g e xs.toArray := by
  rcases h.2 with ⟨hv, _⟩ | ⟨g', cap, cur, hv, _, hg, _, _, hsz, ht⟩
  · cases hv
  · injection hv with h1 h2 h3
    injection h1 with h1
    injection h1 with h4
    subst h4 h3
    have hc : cur.toList = xs := by rw [← ht, List.take_of_length_le (by simp; omega)]
    unfold Blk
    rw [hg, ← hc]
theorem splice_all {α : Type} {L cs : List α} (h : L.length = cs.length) : splice L 0 cs = cs := by
  simp [splice, h]
theorem swp_als {s : Int} {l : List Int} {i j : Nat} (hi : i < l.length) (hj : j < l.length) (h : als s l = true) : als s (swp l i j) = true := by
  rw [als_iff, swp_len] at *
  intro t ht
  rw [swp_at hi hj]
  split
  · exact h i hi
  · split
    · exact h j hj
    · exact h t ht

section
variable (AH : Option Addr) (cH : Nat) (AV : Option Addr) (cV : Nat) (AR : Option Addr) (cR : Nat) (T : Tab) (AI : Option Addr) (cI : Nat) (l : List Int) (kv : Int) (w : World)
set_option maxRecDepth 100000 in
set_option maxHeartbeats 4000000 in
theorem law_perm (hM : Mat w) (h : TR w AH AV AR T) (hI : Reads w w.heap.size AI T.n (il l)) (hcI : T.n ≤ cI) (hf : Fits T) (hAw : Aw w) (hs : Sm T) (ht : Rt T) (h3 : T.sy = 3) (ha : als T.st l = true) (hk1 : 0 ≤ kv) (hk2 : kv < 256) :
    Calls Tryz.prog 3 #[.agg #[.int .i64 T.st, .int .i64 T.sy, .slice AH T.n cH, .slice AV T.nv cV, .slice AR T.nr cR], .slice AI T.n cI, .int .u8 kv] w fun e w' => e = .returned (.bool true) ∧ Below w.heap.size w w' := by
  obtain ⟨i0, hi, hz0, hz1, hz2⟩ := info_parts Tryz.info_int
  have hsz1 : (Tryz.prog.info? 3).map (·.size) = some 1 := by rw [hi]; simp [hz1]
  have FW := Lib.hid (fun w' (hb : Below w.heap.size w w') => few_any AH cH AV cV AR cR T w' (h.later hb) hf.1 hf.2.1 hf.2.2.1 hf.2.2.2.1 hf.2.2.2.2)
  have RT := Lib.hid (fun w' (hb : Below w.heap.size w w') => by have := rt_any AH cH AV cV AR cR T w' (hM.below hb hM.1) (h.later hb) hs.bd; rwa [(rt_iff T).2 ht] at this)
  have NX := Lib.hid (fun w' A c m (hb : Below w.heap.size w w') (hr : Reads w' w'.heap.size A T.n (il m)) (hc : T.n ≤ c) (ha : als T.st m = true) => next_ok AH cH AV cV AR cR T A c m w' (hM.below hb hM.1) (h.later hb) hs.bd ht hr hc ha)
  have CE := Lib.hid (fun w' (hb : Below w.heap.size w w') => rcentre_any AH T.n cH T.f w' (h.1.later hb) ht.hd)
  have AW := Lib.hid (fun w' hb => hAw w' hb)
  have HI := Lib.hid (fun w' (hb : Below w.heap.size w w') => (show Reads w' w'.heap.size AI T.n (il l) from (hI.below hb).more hb.size))
  have HLN := Lib.hid (reads_len hI)
  have NB := Lib.hid (nx_bd ht (reads_len hI) ha)
  have HA := Lib.hid ha
  have NS := Lib.hid (fun i j (hi : i < T.n) (hj : j < T.n) (hic : (i : Int) ≠ px T.f T.n (0, 0)) (hjc : (j : Int) ≠ px T.f T.n (0, 0)) => nx_swp (T := T) h3 (l := l) (reads_len hI) hi hj hic hjc)
  have hn0 : 0 < T.n := ht.hd.1.1
  have hn25 : T.n ≤ 25 := ht.hd.1.2
  have K0 := Blk.new w 26 #[.int .i64 T.st, .int .i64 T.sy, .slice AH T.n cH, .slice AV T.nv cV, .slice AR T.nr cR]
  have B0 := (Below.refl w.heap.size w).alloc (Nat.le_refl _) (.cells #[.int .i64 T.st, .int .i64 T.sy, .slice AH T.n cH, .slice AV T.nv cV, .slice AR T.nr cR] 26)
  have HSm := Lib.hid hs
  have e2 : (T.sy == 0) = false := by rw [h3]; rfl
  have e3 : (T.sy == 3) = true := by rw [h3]; rfl
  have hnn : ((T.n : Int) != (T.n : Int)) = false := by rw [bne_eq_false_iff_eq]
  clear h hI hM hAw hs ht ha h3 hf
  go_enter Tryz.func3, Tryz.ntmps3
  go_upto_region 1 with (fail)
  generalize w.alloc (.cells #[.int .i64 T.st, .int .i64 T.sy, .slice AH T.n cH, .slice AV T.nv cV, .slice AR T.nr cR] 26) = w0 at K0 B0 ⊢
  obtain ⟨t0, t1, t2, t3, t4, t5⟩ := K0.five
  have K0 := Lib.hid K0
  have B0 := Lib.hid B0
  go_wp2_with fail
  go_at_call 4
  refine (FW.out _ B0.out).mono ?_
  rintro e w1 ⟨q, rfl, -, hb⟩
  have B1 := Lib.hid (B0.out.trans (hb.mono B0.out.size))
  have K1 := Lib.hid (K0.out.below hb K0.out.lt)
  clear hb t0 t1 t2 t3 t4 t5
  obtain ⟨t0, t1, t2, t3, t4, t5⟩ := K1.out.five
  cases q with
  | false =>
    go_wp2_with (go_at_call 6; (with_reducible refine (AW.out _ B1.out).mono ?_); rintro e w2 ⟨rfl, hb⟩; have B2 := Lib.hid (B1.out.trans (hb.mono B1.out.size)); clear hb)
    go_ret
    exact ⟨rfl, B2.out⟩
  | true =>
    have ILC := Lib.hid (show ∀ L : List Value, L.length = T.n → splice L 0 (il l) = il l from fun L h => splice_all (by rw [h, il_len, HLN.out]))
    go_upto_region 8 with (first
      | (go_at_call 5; (with_reducible refine (RT.out _ B1.out).mono ?_); rintro e w2 ⟨rfl, hb⟩; have B2 := Lib.hid (B1.out.trans (hb.mono B1.out.size)); have K2 := Lib.hid (K1.out.below hb K1.out.lt); obtain ⟨u0, u1, u2, u3, u4, u5⟩ := K2.out.five; clear hb)
      | (go_at_call 7; (with_reducible refine (NX.out _ AI cI l B2.out (HI.out _ B2.out) hcI HA.out).mono ?_); rintro e w3 ⟨rfl, hb⟩; have B3 := Lib.hid (B2.out.trans (hb.mono B2.out.size)); have K3 := Lib.hid (K2.out.below hb K2.out.lt); obtain ⟨v0, v1, v2, v3, v4, v5⟩ := K3.out.five; clear hb)
      | (go_at_call 8; (with_reducible refine (CE.out _ B3.out).mono ?_); rintro e w4 ⟨rfl, hb⟩; have B4 := Lib.hid (B3.out.trans (hb.mono B3.out.size)); have K4 := Lib.hid (K3.out.below hb K3.out.lt); have hs4 := B4.out.size; clear hb)
      | (at_make; refine wpList_make_full _ rfl _ _ 27 rfl w4.heap.size 3 i0 (.int .i64 0) 1 Tryz.underlying27 hi hz0 hz1 .i64 .i64 _ _ T.n rfl rfl rfl rfl (by rw [hz2]; omega) (by unfold maxLen; omega) (Nat.le_refl _) ?_; intro w5 hown5 hgrow5; have BG := Lib.hid ((Below.refl w4.heap.size w4).grown hgrow5 (Nat.le_refl _) (fun k hk => by cases hk)); have G5 := Lib.hid (show w5.heap[w4.heap.size]? = some (.cells (madeCells (Value.int .i64 0).cells (T.n * 1)).toList.toArray 3 (0, 0)) from blk_of_make hown5); have L5 := Lib.hid (show (madeCells (Value.int .i64 0).cells (T.n * 1)).toList.length = T.n by have := hown5.1; omega); have B5 := Lib.hid (B4.out.trans (BG.out.mono hs4)); have R5 := Lib.hid (show ∃ ad, AI = some ad ∧ ∀ j u, (il l)[j]? = some u → w5.cell? (ad.add j) = some u from by obtain ⟨ad, e, _, hc⟩ := (HI.out _ B5.out).2 hn0; exact ⟨ad, e, hc⟩); clear hown5 hgrow5))
    go_wp2_with ((with_reducible refine wpList_copy_splice rfl (.tmp 57) (.tmp 58) 27 27 rfl 3 Tryz.underlying27 hsz1 _ _ T.n T.n T.n cI rfl rfl w4.heap.size 0 _ 3 G5.out (il l) (by rw [il_len, HLN.out]; simp) (fun _ => ⟨rfl, R5.out⟩) (by rw [L5.out, il_len, HLN.out]; omega) (il_one l) w4.heap.size w4 BG.out (Nat.le_refl _) ?_); intro w6 hrow6 hb6; have KT := Lib.hid (show Blk w6 w4.heap.size 3 (il l).toArray by have := hrow6.out; rw [ILC.out _ L5.out] at this; exact this); have B6 := Lib.hid (B4.out.trans (hb6.mono hs4)); have K6 := Lib.hid (K4.out.below hb6 K4.out.lt); obtain ⟨x0, x1, x2, x3, x4, x5⟩ := K6.out.five; clear hrow6 hb6)
    have hkn : (T.n : Int) ≠ 0 := by omega
    have hi0 : 0 ≤ kv % (T.n : Int) := Int.emod_nonneg _ hkn
    have hi1 : kv % (T.n : Int) < T.n := Int.emod_lt_of_pos _ (by omega)
    have hj0 : 0 ≤ kv / 16 % (T.n : Int) := Int.emod_nonneg _ hkn
    have hj1 : kv / 16 % (T.n : Int) < T.n := Int.emod_lt_of_pos _ (by omega)
    obtain ⟨i, ei⟩ : ∃ i : Nat, kv % (T.n : Int) = (i : Int) := ⟨(kv % (T.n : Int)).toNat, by omega⟩
    obtain ⟨j, ej⟩ : ∃ j : Nat, kv / 16 % (T.n : Int) = (j : Int) := ⟨(kv / 16 % (T.n : Int)).toNat, by omega⟩
    have hin : i < T.n := by omega
    have hjn : j < T.n := by omega
    clear hi0 hi1 hj0 hj1
    go_quiet (fail)
    rw [ei, ej]
    have hs4s := K4.out.lt
    have KT7 := KT.out.drewN nq
    have B7 := below_drewN B6.out nq
    have K7 := K6.out.drewN nq
    clear x0 x1 x2 x3 x4 x5 t0 t1 t2 t3 t4 t5 u0 u1 u2 u3 u4 u5 v0 v1 v2 v3 v4 v5 ei ej
    generalize w6.drewN nq = w7 at KT7 B7 K7 ⊢
    clear K0 K1 K2 K3 K4 K6 KT G5 L5 R5 BG B5 B6
    generalize hgT : w4.heap.size = gT at KT7 hs4 hs4s ⊢
    clear hgT
    generalize hce : px T.f T.n (0, 0) = ce at NS ⊢
    have KT7 := Lib.hid KT7
    have K7 := Lib.hid K7
    have B7 := Lib.hid B7
    by_cases hic : (i : Int) = ce
    · have e4 : ((i : Int) == ce) = true := by rw [beq_iff_eq]; exact hic
      clear hic hce
      go_wp2_with (go_at_call 6; (with_reducible refine (AW.out _ B7.out).mono ?_); rintro e w8 ⟨rfl, hb⟩; have B8 := Lib.hid (B7.out.trans (hb.mono B7.out.size)); clear hb)
      go_ret
      exact ⟨rfl, B8.out⟩
    · have e4 : ((i : Int) == ce) = false := by rw [beq_eq_false_iff_ne]; exact hic
      by_cases hjc : (j : Int) = ce
      · have e5 : ((j : Int) == ce) = true := by rw [beq_iff_eq]; exact hjc
        clear hic hce hjc
        go_wp2_with (go_at_call 6; (with_reducible refine (AW.out _ B7.out).mono ?_); rintro e w8 ⟨rfl, hb⟩; have B8 := Lib.hid (B7.out.trans (hb.mono B7.out.size)); clear hb)
        go_ret
        exact ⟨rfl, B8.out⟩
      · have e5 : ((j : Int) == ce) = false := by rw [beq_eq_false_iff_ne]; exact hjc
        have HNS := Lib.hid (NS.out i j hin hjn hic hjc)
        clear hic hce hjc
        obtain ⟨ad, hAI, hb1, c1⟩ := il_at (HI.out _ B7.out) hin
        obtain ⟨ad2, hAI2, hb2, c2⟩ := il_at (HI.out _ B7.out) hjn
        obtain ⟨ad3, hAI3, hb3, c3⟩ := il_at (HI.out _ (Below.refl _ _)) hin
        rw [hAI] at hAI2 hAI3
        obtain rfl : ad = ad2 := by injection hAI2
        obtain rfl : ad = ad3 := by injection hAI3
        subst hAI
        have hll := HLN.out
        have m1 : w7.cell? ⟨gT, i, none⟩ = some (.int .i64 (ig l i)) := by rw [KT7.out.cell, il_get (by omega)]
        have f1 := KT7.out.frozen i
        have KT8 := Lib.hid (show Blk (w7.setCell ⟨gT, i, none⟩ (.int .i64 (ig l j))) gT 3 (il (l.set i (ig l j))).toArray by rw [← il_set]; exact KT7.out.set_ i _)
        have K8 := Lib.hid (K7.out.far (p := ⟨gT, i, none⟩) (by simp only [ne_eq]; omega) (.int .i64 (ig l j)))
        have B8 := Lib.hid (B7.out.setCell (p := ⟨gT, i, none⟩) hs4 (.int .i64 (ig l j)))
        have SW := Lib.hid (show (l.set i (ig l j)).set j (ig l i) = swp l i j from rfl)
        have hset : (l.set i (ig l j)).length = T.n := by rw [List.length_set]; exact hll
        have hC := Lib.hid (show w.cell? (ad.add i) = some (.int .i64 (ig l i)) from c3)
        have SA := Lib.hid (swp_als (s := T.st) (l := l) (i := i) (j := j) (by omega) (by omega) HA.out)
        have SL := Lib.hid (show (swp l i j).length = T.n by rw [swp_len]; exact hll)
        clear hAI2 hAI3 c3 hll
        generalize hxi : ig l i = xi at c1 m1 SW hC
        generalize hxj : ig l j = xj at c2 KT8 K8 B8 SW hset
        clear hxi hxj
        generalize l.set i xj = l8 at KT8 SW hset
        go_upto_region 14 with (fail)
        generalize w7.setCell ⟨gT, i, none⟩ (.int .i64 xj) = w8 at KT8 K8 B8 ⊢
        have c4 : w8.cell? (ad.add i) = some (.int .i64 xi) := (B8.out.cell (by rw [block_of_add]; exact hb3)).trans hC.out
        have m2 : w8.cell? ⟨gT, j, none⟩ = some (.int .i64 (ig l8 j)) := by rw [KT8.out.cell, il_get (by omega)]
        have f2 := KT8.out.frozen j
        have KT9 := Lib.hid (show Blk (w8.setCell ⟨gT, j, none⟩ (.int .i64 xi)) gT 3 (il (swp l i j)).toArray by rw [← SW.out, ← il_set]; exact KT8.out.set_ j _)
        have K9 := Lib.hid (K8.out.far (p := ⟨gT, j, none⟩) (by simp only [ne_eq]; omega) (.int .i64 xi))
        have B9 := Lib.hid (B8.out.setCell (p := ⟨gT, j, none⟩) hs4 (.int .i64 xi))
        clear c1 c2 m1 f1
        go_upto_region 31 with (fail)
        generalize w8.setCell ⟨gT, j, none⟩ (.int .i64 xi) = w9 at KT9 K9 B9 ⊢
        obtain ⟨x0, x1, x2, x3, x4, x5⟩ := K9.out.five
        have NX2 := NX.out w9 (some ⟨gT, 0, none⟩) T.n (swp l i j) B9.out (by have := Reads.of_blk KT9.out; rw [il_len, SL.out] at this; exact this) (Nat.le_refl _) SA.out
        rw [HNS.out] at NX2
        have NX2 := Lib.hid NX2
        have NBB := NB.out
        have NBH := Lib.hid NBB
        obtain ⟨r, hr⟩ : ∃ r, r = nx T l := ⟨_, rfl⟩
        rw [← hr] at NX2 NBB ⊢
        clear hr
        have hmem : r ∈ [(0 : Int), 1, 2, 3, 4, 5, 6, 7] := by
          simp only [List.mem_cons, List.not_mem_nil, or_false]
          omega
        have HS := Lib.hid (fun w' (hb : Below w.heap.size w w') => by
          have := rhas_any (some ⟨w'.heap.size, 0, none⟩) 8 8 (w'.alloc (.cells #[.int .i64 0, .int .i64 1, .int .i64 2, .int .i64 3, .int .i64 4, .int .i64 5, .int .i64 6, .int .i64 7] 3)).heap.size [0, 1, 2, 3, 4, 5, 6, 7] r (w'.alloc (.cells #[.int .i64 0, .int .i64 1, .int .i64 2, .int .i64 3, .int .i64 4, .int .i64 5, .int .i64 6, .int .i64 7] 3)) (Reads.of_blk (xs := il [0, 1, 2, 3, 4, 5, 6, 7]) (Blk.new w' 3 _)) (by decide)
          rwa [decide_eq_true hmem] at this)
        have err : (r == r) = true := by rw [beq_iff_eq]
        clear hmem NBB
        go_wp2_with (first
          | (go_at_call 7; (with_reducible refine NX2.out.mono ?_); rintro e wa ⟨rfl, hb⟩; have BA := Lib.hid (B9.out.trans (hb.mono B9.out.size)); have BB := Lib.hid (BA.out.alloc BA.out.size (.cells #[.int .i64 0, .int .i64 1, .int .i64 2, .int .i64 3, .int .i64 4, .int .i64 5, .int .i64 6, .int .i64 7] 3)); clear hb)
          | (go_at_call 10; (with_reducible refine (HS.out _ BA.out).mono ?_); rintro e wb ⟨rfl, rfl⟩)
          | (go_at_call 6; (with_reducible refine (AW.out _ BB.out).mono ?_); rintro e wc ⟨rfl, hb⟩; have BC := Lib.hid (BB.out.trans (hb.mono BB.out.size)); clear hb))
        go_ret
        exact ⟨rfl, BC.out⟩
end
end Go.Proofs.YtbcihgimflljoaaGreatDoor
namespace Go.Proofs.YtbcihgimflljoaaGreatDoor
open Go.RowKit

/-- the numbers of a list are among those of another one -/
def Frm (l m : List Int) (n : Nat) : Prop := ∀ i, i < n → ∃ j, j < n ∧ ig m i = ig l j
theorem Frm.als {s : Int} {l m : List Int} {n : Nat} (h : Frm l m n) (hl : l.length = n) (hm : m.length = n) (ha : als s l = true) : als s m = true := by
  rw [als_iff] at *
  intro i hi
  obtain ⟨j, hj, e⟩ := h i (by omega)
  rw [e]
  exact ha j (by omega)
theorem Frm.set {l m : List Int} {n s i : Nat} (h : Frm l m n) (hm : m.length = n) (hs : s < n) (hi : i < n) : Frm l (m.set s (ig l i)) n := fun t ht => by
  rw [ig_set (by omega)]
  split
  · exact ⟨i, hi, rfl⟩
  · exact h t ht
theorem vi_inj {f : Nat → P2} {n t i j : Nat} (hu : Up f n) (ht : t < 8) (hk : Keeps f n t) (hi : i < n) (hj : j < n) (h : vi f n t i = vi f n t j) : i = j := by
  have h1 := (keeps_at hk hi).2
  have h2 := (keeps_at hk hj).2
  rw [h, h2] at h1
  have h3 := tn_inj t ht f j i h1
  rcases Nat.lt_trichotomy i j with e | e | e
  · exact absurd h3.symm (hu.ne i j e hj)
  · exact e
  · exact absurd h3 (hu.ne j i e hi)

section
variable (AH : Option Addr) (cH : Nat) (AV : Option Addr) (cV : Nat) (AR : Option Addr) (cR : Nat) (T : Tab) (AI : Option Addr) (cI : Nat) (l : List Int) (kv : Int) (w : World)
set_option maxRecDepth 100000 in
set_option maxHeartbeats 4000000 in
theorem law_turn (N : Nat) (hM : Mat w) (h : TR w AH AV AR T) (hI : Reads w w.heap.size AI T.n (il l)) (hcI : T.n ≤ cI) (hf : Fits T) (hAw : Aw w) (hs : Sm T) (ht : Rt T) (h12 : T.sy = 1 ∧ N = 4 ∨ T.sy = 2 ∧ N = 8) (ha : als T.st l = true) (hk1 : 0 ≤ kv) (hk2 : kv < 256) :
    Calls Tryz.prog 3 #[.agg #[.int .i64 T.st, .int .i64 T.sy, .slice AH T.n cH, .slice AV T.nv cV, .slice AR T.nr cR], .slice AI T.n cI, .int .u8 kv] w fun e w' => e = .returned (.bool true) ∧ Below w.heap.size w w' := by
  obtain ⟨i0, hi, hz0, hz1, hz2⟩ := info_parts Tryz.info_int
  have hsz1 : (Tryz.prog.info? 3).map (·.size) = some 1 := by rw [hi]; simp [hz1]
  have FW := Lib.hid (fun w' (hb : Below w.heap.size w w') => few_any AH cH AV cV AR cR T w' (h.later hb) hf.1 hf.2.1 hf.2.2.1 hf.2.2.2.1 hf.2.2.2.2)
  have RT := Lib.hid (fun w' (hb : Below w.heap.size w w') => by have := rt_any AH cH AV cV AR cR T w' (hM.below hb hM.1) (h.later hb) hs.bd; rwa [(rt_iff T).2 ht] at this)
  have NX := Lib.hid (fun w' A c m (hb : Below w.heap.size w w') (hr : Reads w' w'.heap.size A T.n (il m)) (hc : T.n ≤ c) (ha : als T.st m = true) => next_ok AH cH AV cV AR cR T A c m w' (hM.below hb hM.1) (h.later hb) hs.bd ht hr hc ha)
  have CE := Lib.hid (fun w' (hb : Below w.heap.size w w') => rcentre_any AH T.n cH T.f w' (h.1.later hb) ht.hd)
  have AW := Lib.hid (fun w' hb => hAw w' hb)
  have HI := Lib.hid (fun w' (hb : Below w.heap.size w w') => (show Reads w' w'.heap.size AI T.n (il l) from (hI.below hb).more hb.size))
  have HLN := Lib.hid (reads_len hI)
  have NB := Lib.hid (nx_bd ht (reads_len hI) ha)
  have HA := Lib.hid ha
  have NS := Lib.hid (fun t m (htN : t < N) (h : Turned T.f T.n t l m) => nx_turned (T := T) ht (t := t) (by rcases h12 with ⟨e, h⟩ | ⟨e, h⟩ <;> omega) (l := l) (m := m) h)
  have KPS := Lib.hid (fun t (htN : t < N) => ht.keeps t (by rcases h12 with ⟨e, h⟩ | ⟨e, h⟩ <;> (rw [e]; unfold nwv ns; simp; omega)))
  have HUP := Lib.hid ht.hd.up
  have HOF := Lib.hid ht.hd.2.1
  have HHD := Lib.hid (fun w' (hb : Below w.heap.size w w') => h.1.later hb)
  have HMM := Lib.hid (fun w' (hb : Below w.heap.size w w') => hM.below hb hM.1)
  have hn0 : 0 < T.n := ht.hd.1.1
  have hn25 : T.n ≤ 25 := ht.hd.1.2
  have K0 := Blk.new w 26 #[.int .i64 T.st, .int .i64 T.sy, .slice AH T.n cH, .slice AV T.nv cV, .slice AR T.nr cR]
  have B0 := (Below.refl w.heap.size w).alloc (Nat.le_refl _) (.cells #[.int .i64 T.st, .int .i64 T.sy, .slice AH T.n cH, .slice AV T.nv cV, .slice AR T.nr cR] 26)
  have HSm := Lib.hid hs
  have e2 : (T.sy == 0) = false := by rw [beq_eq_false_iff_ne]; omega
  have e3 : (T.sy == 3) = false := by rw [beq_eq_false_iff_ne]; omega
  have hsy1 : 1 ≤ T.sy := by omega
  have hsy2 : T.sy ≤ 2 := by omega
  have hN8 : N ≤ 8 := by omega
  have hN0 : 4 ≤ N := by omega
  have e4 : 4 * T.sy = (N : Int) := by omega
  have hnn : ((T.n : Int) != (T.n : Int)) = false := by rw [bne_eq_false_iff_eq]
  clear h hI hM hAw hs ht ha h12 hf
  go_enter Tryz.func3, Tryz.ntmps3
  go_upto_region 1 with (fail)
  generalize w.alloc (.cells #[.int .i64 T.st, .int .i64 T.sy, .slice AH T.n cH, .slice AV T.nv cV, .slice AR T.nr cR] 26) = w0 at K0 B0 ⊢
  obtain ⟨t0, t1, t2, t3, t4, t5⟩ := K0.five
  have K0 := Lib.hid K0
  have B0 := Lib.hid B0
  go_wp2_with fail
  go_at_call 4
  refine (FW.out _ B0.out).mono ?_
  rintro e w1 ⟨q, rfl, -, hb⟩
  have B1 := Lib.hid (B0.out.trans (hb.mono B0.out.size))
  have K1 := Lib.hid (K0.out.below hb K0.out.lt)
  clear hb t0 t1 t2 t3 t4 t5
  obtain ⟨t0, t1, t2, t3, t4, t5⟩ := K1.out.five
  cases q with
  | false =>
    go_wp2_with (go_at_call 6; (with_reducible refine (AW.out _ B1.out).mono ?_); rintro e w2 ⟨rfl, hb⟩; have B2 := Lib.hid (B1.out.trans (hb.mono B1.out.size)); clear hb)
    go_ret
    exact ⟨rfl, B2.out⟩
  | true =>
    have ILC := Lib.hid (show ∀ L : List Value, L.length = T.n → splice L 0 (il l) = il l from fun L h => splice_all (by rw [h, il_len, HLN.out]))
    go_upto_region 8 with (first
      | (go_at_call 5; (with_reducible refine (RT.out _ B1.out).mono ?_); rintro e w2 ⟨rfl, hb⟩; have B2 := Lib.hid (B1.out.trans (hb.mono B1.out.size)); have K2 := Lib.hid (K1.out.below hb K1.out.lt); obtain ⟨u0, u1, u2, u3, u4, u5⟩ := K2.out.five; clear hb)
      | (go_at_call 7; (with_reducible refine (NX.out _ AI cI l B2.out (HI.out _ B2.out) hcI HA.out).mono ?_); rintro e w3 ⟨rfl, hb⟩; have B3 := Lib.hid (B2.out.trans (hb.mono B2.out.size)); have K3 := Lib.hid (K2.out.below hb K2.out.lt); obtain ⟨v0, v1, v2, v3, v4, v5⟩ := K3.out.five; clear hb)
      | (go_at_call 8; (with_reducible refine (CE.out _ B3.out).mono ?_); rintro e w4 ⟨rfl, hb⟩; have B4 := Lib.hid (B3.out.trans (hb.mono B3.out.size)); have K4 := Lib.hid (K3.out.below hb K3.out.lt); have hs4 := B4.out.size; clear hb)
      | (at_make; refine wpList_make_full _ rfl _ _ 27 rfl w4.heap.size 3 i0 (.int .i64 0) 1 Tryz.underlying27 hi hz0 hz1 .i64 .i64 _ _ T.n rfl rfl rfl rfl (by rw [hz2]; omega) (by unfold maxLen; omega) (Nat.le_refl _) ?_; intro w5 hown5 hgrow5; have BG := Lib.hid ((Below.refl w4.heap.size w4).grown hgrow5 (Nat.le_refl _) (fun k hk => by cases hk)); have G5 := Lib.hid (show w5.heap[w4.heap.size]? = some (.cells (madeCells (Value.int .i64 0).cells (T.n * 1)).toList.toArray 3 (0, 0)) from blk_of_make hown5); have L5 := Lib.hid (show (madeCells (Value.int .i64 0).cells (T.n * 1)).toList.length = T.n by have := hown5.1; omega); have B5 := Lib.hid (B4.out.trans (BG.out.mono hs4)); have R5 := Lib.hid (show ∃ ad, AI = some ad ∧ ∀ j u, (il l)[j]? = some u → w5.cell? (ad.add j) = some u from by obtain ⟨ad, e, _, hc⟩ := (HI.out _ B5.out).2 hn0; exact ⟨ad, e, hc⟩); clear hown5 hgrow5))
    go_wp2_with ((with_reducible refine wpList_copy_splice rfl (.tmp 57) (.tmp 58) 27 27 rfl 3 Tryz.underlying27 hsz1 _ _ T.n T.n T.n cI rfl rfl w4.heap.size 0 _ 3 G5.out (il l) (by rw [il_len, HLN.out]; simp) (fun _ => ⟨rfl, R5.out⟩) (by rw [L5.out, il_len, HLN.out]; omega) (il_one l) w4.heap.size w4 BG.out (Nat.le_refl _) ?_); intro w6 hrow6 hb6; have KT := Lib.hid (show Blk w6 w4.heap.size 3 (il l).toArray by have := hrow6.out; rw [ILC.out _ L5.out] at this; exact this); have B6 := Lib.hid (B4.out.trans (hb6.mono hs4)); have K6 := Lib.hid (K4.out.below hb6 K4.out.lt); obtain ⟨x0, x1, x2, x3, x4, x5⟩ := K6.out.five; clear hrow6 hb6)
    have hkn : (N : Int) ≠ 0 := by omega
    have ht0 : 0 ≤ kv % (N : Int) := Int.emod_nonneg _ hkn
    have ht1 : kv % (N : Int) < N := Int.emod_lt_of_pos _ (by omega)
    obtain ⟨t, et⟩ : ∃ t : Nat, kv % (N : Int) = (t : Int) := ⟨(kv % (N : Int)).toNat, by omega⟩
    have htN : t < N := by omega
    have hs4s := K4.out.lt
    clear t0 t1 t2 t3 t4 t5 u0 u1 u2 u3 u4 u5 v0 v1 v2 v3 v4 v5
    go_upto_region 16 with (fail)
    rw [et]
    clear ht0 ht1 hkn et
    clear K0 K1 K2 K3 K4 G5 L5 R5 BG B5
    generalize hgT : w4.heap.size = gT at KT hs4 hs4s ⊢
    clear hgT
    have HNT := Lib.hid (fun m h => NS.out t m htN h)
    have HKP := Lib.hid (fun i (hi : i < T.n) => keeps_at (KPS.out t htN) hi)
    have HVI := Lib.hid (fun i j (hi : i < T.n) (hj : j < T.n) h => vi_inj HUP.out (by omega) (KPS.out t htN) hi hj h)
    have ht8 : t < 8 := by omega
    have FR0 := Lib.hid (show Frm l l T.n from fun i hi => ⟨i, hi, rfl⟩)
    clear x0 x1 x2 x3 x4 x5 e4
    go_loopw [105] (fun iv wr => ∃ (i : Nat) (m : List Int), i ≤ T.n ∧ iv = .int .i64 (i : Int) ∧ (m.length = T.n ∧ Frm l m T.n ∧ ∀ i', i' < i → ig m (vi T.f T.n t i') = ig l i') ∧ (Blk wr gT 3 (il m).toArray ∧ Blk wr w.heap.size 26 #[.int .i64 T.st, .int .i64 T.sy, .slice AH T.n cH, .slice AV T.nv cV, .slice AR T.nr cR]) ∧ Below w.heap.size w wr) (fun iv _ => T.n - (intOf iv).toNat)
    case atStart => exact ⟨0, l, Nat.zero_le _, rfl, ⟨HLN.out, FR0.out, fun i hi => absurd hi (by omega)⟩, ⟨KT.out, K6.out⟩, B6.out⟩
    case round =>
      obtain ⟨i, m, hin, rfl, ⟨hml, hfr, hno⟩, ⟨hkt, hk6⟩, hbel⟩ := hrel
      have HML := Lib.hid hml
      have HFR := Lib.hid hfr
      have HNO := Lib.hid hno
      have KT2 := Lib.hid hkt
      have K62 := Lib.hid hk6
      have HB := Lib.hid hbel
      have hsz := hbel.size
      clear hml hfr hno hkt hbel KT K6 B6
      obtain ⟨x0, x1, x2, x3, x4, x5⟩ := hk6.five
      clear hk6
      by_cases hi : i < T.n
      · obtain ⟨hsn, hse⟩ := HKP.out i hi
        obtain ⟨g1, o1, rfl, hg1, hc1⟩ := HHD.out _ HB.out (by omega)
        obtain ⟨c10, c11⟩ := hc1 i hi
        have hx4 := HOF.out i hi
        obtain ⟨s, hs⟩ : ∃ s, s = vi T.f T.n t i := ⟨_, rfl⟩
        rw [← hs] at hsn hse
        have HS := Lib.hid hs
        have hse2 : T.f s = (turnX t (T.f i).1 (T.f i).2, turnY t (T.f i).1 (T.f i).2) := hse
        clear hse hs hc1
        generalize T.f i = p at c10 c11 hx4 hse2
        obtain ⟨p1, p2⟩ := p
        simp only at c10 c11 hx4 hse2
        have AP := Lib.hid (fun w' (hb : Below w.heap.size w w') => by
          have := apply_any (t : Int) p1 p2 w' (HMM.out _ hb) (by omega) (by omega) (by omega) (by omega)
          rwa [md_nat t ht8] at this)
        generalize turnX t p1 p2 = tx at AP hse2
        generalize turnY t p1 p2 = ty at AP hse2
        have HSE := Lib.hid hse2
        clear hse2 hx4
        go_upto_region 20 with (go_at_call 9; (with_reducible refine (AP.out _ HB.out).mono ?_); rintro e wa ⟨rfl, hb⟩; have BA := Lib.hid (HB.out.trans (hb.mono hsz)); have KTA := Lib.hid ((KT2.out.below hb KT2.out.lt).alloc (.cells #[.int .i64 tx, .int .i64 ty] 35)); have K6A := Lib.hid ((K62.out.below hb K62.out.lt).alloc (.cells #[.int .i64 tx, .int .i64 ty] 35)); have KQA := Lib.hid (Blk.new wa 35 #[.int .i64 tx, .int .i64 ty]); have BB := Lib.hid (BA.out.alloc BA.out.size (.cells #[.int .i64 tx, .int .i64 ty] 35)); have ltA := KT2.out.lt; have szA := hb.size; clear hb)
        obtain ⟨gq, hgq⟩ : ∃ gq, gq = wa.heap.size := ⟨_, rfl⟩
        rw [← hgq] at KQA ⊢
        have hgq1 : gT < gq := by omega
        have hgq2 : w.heap.size < gq := by omega
        clear hgq szA ltA
        generalize wa.alloc (.cells #[.int .i64 tx, .int .i64 ty] 35) = wb at KTA K6A KQA BB ⊢
        clear x0 x1 x2 x3 x4 x5 c10 c11 BA
        obtain ⟨x0, x1, x2, x3, x4, x5⟩ := K6A.out.five
        go_wp2
        have M0 := Lib.hid (show m = if s < 0 then m.set s (ig l i) else m by rw [if_neg (by omega)])
        have d0 : decide (s < 0) = false := decide_eq_false (by omega)
        go_loopw [16, 118] (fun fv jv wr => ∃ (j : Nat) (m2 : List Int) (q : Bool), j ≤ T.n ∧ jv = .int .i64 (j : Int) ∧ fv = .bool q ∧ q = decide (s < j) ∧ (m2 = if s < j then m.set s (ig l i) else m) ∧ (Blk wr gT 3 (il m2).toArray ∧ Blk wr w.heap.size 26 #[.int .i64 T.st, .int .i64 T.sy, .slice (some ⟨g1, o1, none⟩) T.n cH, .slice AV T.nv cV, .slice AR T.nr cR] ∧ Blk wr gq 35 #[.int .i64 tx, .int .i64 ty]) ∧ Below w.heap.size w wr) (fun _ jv _ => T.n - (intOf jv).toNat)
        case atStart => exact ⟨0, m, false, Nat.zero_le _, rfl, rfl, d0.symm, M0.out, ⟨KTA.out, K6A.out, KQA.out⟩, BB.out⟩
        case round =>
          obtain ⟨j, m2, q, hj, rfl, rfl, hq, hm2, ⟨hkt, hk6, hkq⟩, hbel2⟩ := hrel
          have HQ := Lib.hid hq
          have HM2 := Lib.hid hm2
          have KT3 := Lib.hid hkt
          have K63 := Lib.hid hk6
          have KQ3 := Lib.hid hkq
          have HB2 := Lib.hid hbel2
          clear hq hm2 hkt hkq hbel2 x0 x1 x2 x3 x4 x5 KTA K6A KQA BB
          obtain ⟨x0, x1, x2, x3, x4, x5⟩ := hk6.five
          obtain ⟨y0, y1, y2, y3, y4⟩ := KQ3.out.two
          clear hk6
          by_cases hjn : j < T.n
          · obtain ⟨g2, o2, hA, -, hc2⟩ := HHD.out _ HB2.out (by omega)
            obtain ⟨rfl, rfl⟩ : g1 = g2 ∧ o1 = o2 := by injection hA with hA; injection hA with h1 h2; exact ⟨h1, h2⟩
            obtain ⟨c20, c21⟩ := hc2 j hjn
            clear hA hc2
            by_cases hjs : j = s
            · rw [hjs, HSE.out] at c20 c21
              simp only at c20 c21
              rw [← hjs] at c20 c21
              obtain ⟨ad, hAI, hbd, c1⟩ := il_at (HI.out _ HB2.out) hi
              subst hAI
              have hml2 : m2.length = T.n := by
                have := HM2.out
                rw [if_neg (by omega)] at this
                rw [this]; exact HML.out
              have HML2 := Lib.hid hml2
              have MX := Lib.hid (show m2.set j (ig l i) = if s < j + 1 then m.set s (ig l i) else m by
                have := HM2.out
                rw [if_neg (by omega)] at this
                rw [if_pos (by omega), this, hjs])
              have QX := Lib.hid (show true = decide (s < j + 1) from (decide_eq_true (by omega)).symm)
              have C1 := Lib.hid c1
              clear hml2 c1 hjs
              go_wp2_with fail
              go_quiet (fail)
              have KT4 := KT3.out.drewN nq
              have K64 := K63.out.drewN nq
              have KQ4 := KQ3.out.drewN nq
              have B4 := below_drewN HB2.out nq
              have c4 : (wr.drewN nq).cell? (ad.add i) = some (.int .i64 (ig l i)) := C1.out
              clear x0 x1 x2 x3 x4 x5 y0 y1 y2 y3 y4 c20 c21
              generalize wr.drewN nq = w7 at KT4 K64 KQ4 B4 c4 ⊢
              have m1 : w7.cell? ⟨gT, j, none⟩ = some (.int .i64 (ig m2 j)) := by rw [KT4.cell, il_get (by rw [HML2.out]; exact hjn)]
              have f1 := KT4.frozen j
              have KT5 := Lib.hid (show Blk (w7.setCell ⟨gT, j, none⟩ (.int .i64 (ig l i))) gT 3 (il (m2.set j (ig l i))).toArray by rw [← il_set]; exact KT4.set_ j _)
              have K65 := Lib.hid (K64.far (p := ⟨gT, j, none⟩) (by simp only [ne_eq]; omega) (.int .i64 (ig l i)))
              have KQ5 := Lib.hid (KQ4.far (p := ⟨gT, j, none⟩) (by simp only [ne_eq]; omega) (.int .i64 (ig l i)))
              have B5 := Lib.hid (B4.setCell (p := ⟨gT, j, none⟩) hs4 (.int .i64 (ig l i)))
              clear KT4 K64 KQ4 B4
              go_wp2
              go_roundw
              case rel => exact ⟨j + 1, m2.set j (ig l i), true, by omega, by go_num, rfl, QX.out, MX.out, ⟨KT5.out, K65.out, KQ5.out⟩, B5.out⟩
              case measure => simp [intOf]; omega
            · have hne : T.f j ≠ (tx, ty) := by
                rw [← HSE.out]
                rcases Nat.lt_or_gt_of_ne hjs with h | h
                · exact HUP.out.ne j s h hsn
                · exact fun e => HUP.out.ne s j h hjn e.symm
              have MX := Lib.hid (show m2 = if s < j + 1 then m.set s (ig l i) else m by
                rw [HM2.out]
                by_cases h : s < j
                · rw [if_pos h, if_pos (by omega)]
                · rw [if_neg h, if_neg (by omega)])
              have QX := Lib.hid (show q = decide (s < j + 1) by
                rw [HQ.out, decide_eq_decide]; omega)
              obtain ⟨⟨z1, z2⟩, hz⟩ : ∃ z, z = T.f j := ⟨_, rfl⟩
              rw [← hz] at c20 c21 hne
              simp only at c20 c21
              clear hz
              by_cases e1 : z1 = tx
              · subst e1
                have e5 : (z2 == ty) = false := by rw [beq_eq_false_iff_ne]; intro e; exact hne (by rw [e])
                clear hne
                go_wp2_with fail
                go_quiet (fail)
                go_wp2
                go_roundw
                case rel => exact ⟨j + 1, m2, q, by omega, by go_num, rfl, QX.out, MX.out, ⟨KT3.out.drewN _, K63.out.drewN _, KQ3.out.drewN _⟩, below_drewN HB2.out _⟩
                case measure => simp [intOf]; omega
              · have e5 : (z1 == tx) = false := by rw [beq_eq_false_iff_ne]; exact e1
                clear hne e1
                go_wp2_with fail
                go_quiet (fail)
                go_wp2
                go_roundw
                case rel => exact ⟨j + 1, m2, q, by omega, by go_num, rfl, QX.out, MX.out, ⟨KT3.out.drewN _, K63.out.drewN _, KQ3.out.drewN _⟩, below_drewN HB2.out _⟩
                case measure => simp [intOf]; omega
          · obtain rfl : j = T.n := by omega
            have hq := HQ.out
            rw [decide_eq_true hsn] at hq
            have hm2 := HM2.out
            rw [if_pos hsn] at hm2
            have HM3 := Lib.hid hm2
            subst hq
            clear hm2
            go_wp2
            go_roundw
            case rel => exact ⟨i + 1, m2, by omega, by go_num, ⟨by rw [HM3.out, List.length_set]; exact HML.out, by rw [HM3.out]; exact HFR.out.set HML.out hsn hi, fun i' hi' => by
              rw [HM3.out, ig_set (by rw [HML.out]; exact hsn)]
              by_cases e : i' < i
              · rw [if_neg (fun h => by have := HVI.out i' i (by omega) hi (by rw [h, HS.out]); omega)]
                exact HNO.out i' e
              · obtain rfl : i' = i := by omega
                rw [if_pos HS.out.symm]⟩, ⟨KT3.out, K63.out⟩, HB2.out⟩
            case measure => simp [intOf]; omega
      · obtain rfl : i = T.n := by omega
        have NX2 := NX.out wr (some ⟨gT, 0, none⟩) T.n m HB.out (by have := Reads.of_blk KT2.out; rw [il_len, HML.out] at this; exact this) (Nat.le_refl _) (HFR.out.als HLN.out HML.out HA.out)
        rw [HNT.out m HNO.out] at NX2
        have NX2 := Lib.hid NX2
        have NBB := NB.out
        have NBH := Lib.hid NBB
        obtain ⟨r, hr⟩ : ∃ r, r = nx T l := ⟨_, rfl⟩
        rw [← hr] at NX2 NBB ⊢
        clear hr
        have hmem : r ∈ [(0 : Int), 1, 2, 3, 4, 5, 6, 7] := by
          simp only [List.mem_cons, List.not_mem_nil, or_false]
          omega
        have HS := Lib.hid (fun w' (hb : Below w.heap.size w w') => by
          have := rhas_any (some ⟨w'.heap.size, 0, none⟩) 8 8 (w'.alloc (.cells #[.int .i64 0, .int .i64 1, .int .i64 2, .int .i64 3, .int .i64 4, .int .i64 5, .int .i64 6, .int .i64 7] 3)).heap.size [0, 1, 2, 3, 4, 5, 6, 7] r (w'.alloc (.cells #[.int .i64 0, .int .i64 1, .int .i64 2, .int .i64 3, .int .i64 4, .int .i64 5, .int .i64 6, .int .i64 7] 3)) (Reads.of_blk (xs := il [0, 1, 2, 3, 4, 5, 6, 7]) (Blk.new w' 3 _)) (by decide)
          rwa [decide_eq_true hmem] at this)
        have err : (r == r) = true := by rw [beq_iff_eq]
        clear hmem NBB
        go_wp2_with (first
          | (go_at_call 7; (with_reducible refine NX2.out.mono ?_); rintro e wa ⟨rfl, hb⟩; have BA := Lib.hid (HB.out.trans (hb.mono HB.out.size)); have BB := Lib.hid (BA.out.alloc BA.out.size (.cells #[.int .i64 0, .int .i64 1, .int .i64 2, .int .i64 3, .int .i64 4, .int .i64 5, .int .i64 6, .int .i64 7] 3)); clear hb)
          | (go_at_call 10; (with_reducible refine (HS.out _ BA.out).mono ?_); rintro e wb ⟨rfl, rfl⟩)
          | (go_at_call 6; (with_reducible refine (AW.out _ BB.out).mono ?_); rintro e wc ⟨rfl, hb⟩; have BC := Lib.hid (BB.out.trans (hb.mono BB.out.size)); clear hb))
        go_ret
        exact ⟨rfl, BC.out⟩
end
end Go.Proofs.YtbcihgimflljoaaGreatDoor
