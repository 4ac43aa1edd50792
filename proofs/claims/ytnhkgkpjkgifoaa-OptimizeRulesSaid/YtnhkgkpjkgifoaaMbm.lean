/- The walk of trim. -/
import Derived.Test.YtnhkgkpjkgifoaaMbl
namespace Go.Proofs.Ytnhkgkpjkgifoaa
open Go.RowKit

theorem rg_mono {g : C3} {n n' : Int} (h : rg g n = true) (hn : n ≤ n') : rg g n' = true := by
  obtain ⟨op, a, b⟩ := g
  rcases rg_cases h with ⟨ho, rfl, rfl⟩ | ⟨rfl, h0, ha, rfl⟩ | ⟨ho, h0, ha, h1, hb⟩
  · exact rg_of (.inl ⟨ho, rfl, rfl⟩)
  · exact rg_of (.inr (.inl ⟨rfl, h0, by omega, rfl⟩))
  · exact rg_of (.inr (.inr ⟨ho, h0, by omega, h1, by omega⟩))
theorem trF_snoc (N : Nat) (nd : List Bool) : ∀ (r : List C3) (g : C3) (i : Nat) (ks : List C3) (ws : List Int), trF N nd (r ++ [g]) i ks ws = (if bg nd (N + (i + r.length)) = true then ((trF N nd r i ks ws).1 ++ [mvd ((trF N nd r i ks ws).2 ++ [(N : Int) + ((trF N nd r i ks ws).1.length : Int)]) g], (trF N nd r i ks ws).2 ++ [(N : Int) + ((trF N nd r i ks ws).1.length : Int)]) else ((trF N nd r i ks ws).1, (trF N nd r i ks ws).2 ++ [(N : Int) + ((trF N nd r i ks ws).1.length : Int)]))
  | [], g, i, ks, ws => by simp [trF]
  | x :: r, g, i, ks, ws => by
    rw [List.cons_append, trF]
    have e : i + (x :: r).length = (i + 1) + r.length := by simp; omega
    rw [e]
    by_cases h : bg nd (N + i) = true
    · rw [if_pos h, trF_snoc N nd r, trF, if_pos h]
    · rw [if_neg h, trF_snoc N nd r, trF, if_neg h]
theorem trF_len (N : Nat) (nd : List Bool) : ∀ (r : List C3) (i : Nat) (ks : List C3) (ws : List Int), (trF N nd r i ks ws).1.length ≤ ks.length + r.length ∧ (trF N nd r i ks ws).2.length = ws.length + r.length
  | [], _, _, _ => ⟨Nat.le_refl _, rfl⟩
  | x :: r, i, ks, ws => by
    rw [trF]
    split
    · obtain ⟨h1, h2⟩ := trF_len N nd r (i + 1) (ks ++ [mvd (ws ++ [(N : Int) + (ks.length : Int)]) x]) (ws ++ [(N : Int) + (ks.length : Int)])
      simp at h1 h2 ⊢
      omega
    · obtain ⟨h1, h2⟩ := trF_len N nd r (i + 1) ks (ws ++ [(N : Int) + (ks.length : Int)])
      simp at h1 h2 ⊢
      omega
theorem own_belowk {w w' : World} {base k : Nat} {e : TypeId} {v : Value} {n : Nat} {xs : List Value} (h : w.ownsRow base e k v n xs) (hb : Below w.heap.size w w') : w'.ownsRow base e k v n xs := (Fr.of_below (G := fun _ => False) hb).row h (fun _ _ h => h)
theorem grown_drew {w w' : World} {v : Option Nat} (h : w.drew.grownBy w' v) : w.grownBy w' v := ⟨h.os, h.tape, h.output, h.size, h.block⟩
section
variable {wk b0 N : Nat} {gs : List C3} {os ws : List Int} {A O V : Option Addr} {cA cO cV mb : Nat} {w : World}
/-- the first gates alone -/
theorem WK.less {ks rest : List C3} (h : WK wk b0 N (ks ++ rest) os ws A O V cA cO cV mb w) : WK wk b0 N ks os ws A O V cA cO cV mb (w.setCell ⟨wk, 1, none⟩ (.slice A ks.length cA)) ∧ Fr (TS4 wk A O V) w (TS4 wk A O V) (w.setCell ⟨wk, 1, none⟩ (.slice A ks.length cA)) := by
  have hb := h.wb
  have far : ∀ {e : TypeId} {s n c : Nat} {B : Option Addr} {xs : List Value}, w.ownsRow b0 e s (.slice B n c) n xs → (w.setCell ⟨wk, 1, none⟩ (.slice A ks.length cA)).ownsRow b0 e s (.slice B n c) n xs := fun hr => own_set hr (fun e => by have := (hr.lt _ e).1; simp at this; omega) _
  have g0 : w.ownsRow b0 57 3 (.slice A ks.length cA) ks.length (cg ks) := by
    have hl := cg_len ks
    refine ⟨hl, ?_⟩
    rcases h.g.2 with ⟨hv, h2⟩ | ⟨g, cap, cur, hv, hbg, hg, h3, h4, h5, h6⟩
    · injection hv with e1 e2 e3
      subst e1 e3
      simp at e2
      obtain ⟨rfl, _⟩ := e2
      exact .inl ⟨rfl, rfl⟩
    · injection hv with e1 e2 e3
      subst e1 e3
      have hle : ks.length ≤ (ks ++ rest).length := by simp
      refine .inr ⟨g, cA, cur, rfl, hbg, hg, by omega, h4, h5, ?_⟩
      have e : cg (ks ++ rest) = cg ks ++ cg rest := by simp [cg]
      rw [e] at h6
      have h7 := congrArg (List.take (ks.length * 3)) h6.symm
      rw [List.take_take, Nat.min_eq_left (Nat.mul_le_mul_right _ hle), List.take_append_of_le_length (by omega), List.take_of_length_le (by omega)] at h7
      exact h7.symm
  refine ⟨⟨?_, far g0, far h.o, far h.v, h.ov, hb⟩, Fr.set_ w (p := ⟨wk, 1, none⟩) _ (.inl rfl)⟩
  have := h.blk.set_ 1 (.slice A ks.length cA)
  simpa using this
theorem WK.ne_bool {gn : Nat} {cs : Array Value} (h : WK wk b0 N gs os ws A O V cA cO cV mb w) (hk : Blk w gn 4 cs) : ¬ TS4 wk A O V gn := fun e => by
  rcases e with e | e | e | e
  · subst e
    have q := hk.symm.trans h.blk
    injection q with q
    injection q with _ q
    exact absurd q (by decide)
  · exact own_ob_ne h.g hk (by decide) e
  · exact own_ob_ne h.o hk (by decide) e
  · exact own_ob_ne h.v hk (by decide) e
set_option maxRecDepth 100000 in
set_option maxHeartbeats 8000000 in
theorem trim_some {S : C3 → Option Int} {ga : Nat} (h : WK wk b0 N gs os ws (some ⟨ga, 0, none⟩) O V cA cO cV mb w) (hm : GM w mb S) (hc : COk N gs os) (hol : os.length ≤ 1000) :
    Calls Try.prog 53 #[.pointer (some ⟨wk, 0, none⟩)] w fun e w' => OpOut wk b0 N (trimC N gs os).1 (trimC N gs os).2 (some ⟨ga, 0, none⟩) O V cA cO mb w e w' := by
  obtain ⟨ii, hii, hz0, hz1, hz2⟩ := info_parts Try.info_intL
  obtain ⟨i0, hi0, hy0, hy1, hy2⟩ := info_parts info_gate
  have NE := Lib.hid (needed_any h hc hol)
  have HW := Lib.hid h
  have HC := Lib.hid hc
  have HM := Lib.hid hm
  have hn := hc.g
  have hN := hc.n
  obtain ⟨n, hnn⟩ : ∃ n, gs.length = n := ⟨_, rfl⟩
  have HNN := Lib.hid hnn
  rw [hnn] at NE hn
  obtain ⟨nd, hnd⟩ : ∃ nd, ndA N gs os = nd := ⟨_, rfl⟩
  have HND := Lib.hid hnd
  rw [hnd] at NE
  have hndl : nd.length = N + n := by rw [← hnd, ndA, ndS_len, ndO_len, hnn]; simp
  obtain ⟨M, hM⟩ : ∃ M, N + n = M := ⟨_, rfl⟩
  rw [hM] at NE hndl
  have HMM := Lib.hid hM
  have HNL := Lib.hid hndl
  obtain ⟨Q, hQ⟩ : ∃ Q, OpOut wk b0 N (trimC N gs os).1 (trimC N gs os).2 (some ⟨ga, 0, none⟩) O V cA cO mb w = Q := ⟨_, rfl⟩
  have HQ := Lib.hid hQ
  rw [hQ]
  clear h hc hm hnn hnd hndl hM hQ
  go_enter Try.func53, Try.ntmps53
  go_upto_region 1 with (go_at_call 89; (with_reducible refine (NE.out).mono ?_); rintro e w1 ⟨gn, rfl, hk, hge, hb⟩; have K1 := Lib.hid hk; have B1 := Lib.hid hb; clear hk hb)
  have W1 := Lib.hid (HW.out.later B1.out)
  have BE := Lib.hid (begin_any W1.out hN)
  go_upto_region 2 with (go_at_call 90; (with_reducible refine (BE.out).mono ?_); rintro e w2 ⟨rfl, V1, cV1, hw2, hf2⟩; have W2 := Lib.hid hw2; have F2 := Lib.hid hf2; clear hw2 hf2)
  have K2 := Lib.hid (F2.out.blk K1.out (W1.out.ne_bool K1.out))
  have M1 := HM.out.of_fr (G := fun _ => False) (G' := fun _ => False) (Fr.of_below B1.out) (fun h => h)
  have M2 := Lib.hid (M1.of_fr F2.out (M1.ne W1.out))
  have c1 : w2.cell? ⟨wk, 1, none⟩ = some (.slice (some ⟨ga, 0, none⟩) n cA) := by have := W2.out.blk.five.2.1; rwa [HNN.out] at this
  have hcap : (0 : Int) ≤ (cA : Int) := by omega
  clear M1
  exact (by
    go_upto_region 4 with (fail)
    clear c1
    go_loopw [3, 22] (fun sv iv wr => ∃ (i : Nat) (ks : List C3) (ws' : List Int) (V' : Option Addr) (c' : Nat) (S' : C3 → Option Int), i ≤ n ∧ sv = .slice (some ⟨ga, 0, none⟩) ks.length cA ∧ iv = .int .i64 (i : Int) ∧ Hid (trF N nd (gs.take i) 0 [] (idW N) = (ks, ws')) ∧ Hid (WK wk b0 N (ks ++ gs.drop ks.length) os ws' (some ⟨ga, 0, none⟩) O V' cA cO c' mb wr) ∧ Hid (Blk wr gn 4 (bl nd).toArray) ∧ Hid (GM wr mb S') ∧ Hid (Fr (TS5 wk mb (some ⟨ga, 0, none⟩) O V) w (TS5 wk mb (some ⟨ga, 0, none⟩) O V') wr)) (fun _ iv _ => n - (intOf iv).toNat)
    case atStart => exact ⟨0, [], idW N, V1, cV1, S, Nat.zero_le _, rfl, rfl, Lib.hid rfl, by simpa using W2, K2, M2, Lib.hid ((fr5b B1.out).trans (fr5 F2.out))⟩
    case round =>
      obtain ⟨i, ks, ws', V', c', S', hi, rfl, rfl, HP, HWW, HK, HG, HF⟩ := hrel
      have hgl := HNN.out
      have hTL := trF_len N nd (gs.take i) 0 [] (idW N)
      rw [HP.out] at hTL
      simp only [List.length_nil, Nat.zero_add, List.length_take, idW_len] at hTL
      obtain ⟨hk1, hw1⟩ := hTL
      rw [Nat.min_eq_left (by omega)] at hk1 hw1
      have hlen : (ks ++ gs.drop ks.length).length = n := by simp; omega
      have HLEN := Lib.hid hlen
      by_cases hlt : i < n
      · have hiI : (i : Int) < (n : Int) := by omega
        obtain ⟨g, hg⟩ : ∃ g, gs.getD i (0, 0, 0) = g := ⟨_, rfl⟩
        have hgi : i < gs.length := by omega
        have hrg : rg g ((N : Int) + (i : Int)) = true := by rw [← hg]; exact HC.out.gd i hgi
        have hsn := trF_snoc N nd (gs.take i) g 0 [] (idW N)
        rw [HP.out, show gs.take i ++ [g] = gs.take (i + 1) by rw [List.take_add_one, List.getElem?_eq_getElem hgi, ← hg]; simp [List.getD_eq_getElem?_getD, hgi], show 0 + (gs.take i).length = i by simp; omega] at hsn
        simp only at hsn
        have HSN := Lib.hid hsn
        have hrd := HWW.out.rk.rd
        rw [hlen] at hrd
        obtain ⟨ga', oa', hA', hga', hcells⟩ := hrd (by omega)
        injection hA' with hA'
        injection hA' with e1 e2
        subst e1 e2
        have hcl := hcells i hlt
        simp only [Nat.zero_add] at hcl
        rw [show (ks ++ gs.drop ks.length).getD i (0, 0, 0) = g by rw [← hg]; simp only [List.getD_eq_getElem?_getD]; rw [List.getElem?_append_right hk1, List.getElem?_drop, show ks.length + (i - ks.length) = i by omega]] at hcl
        obtain ⟨op, a, b⟩ := g
        obtain ⟨y0, y1, y2⟩ := hcl
        simp only at y0 y1 y2
        obtain ⟨kl, hkl⟩ : ∃ kl, ks.length = kl := ⟨_, rfl⟩
        have HKL := Lib.hid hkl
        rw [hkl] at hk1
        rw [hkl]
        have A4 := Lib.hid ((Below.refl wr.heap.size wr).alloc (Nat.le_refl _) (.cells #[.int .i64 op, .int .i64 a, .int .i64 b] 57))
        have K5 := Blk.new wr 57 #[.int .i64 op, .int .i64 a, .int .i64 b]
        have W4 := Lib.hid (HWW.out.later A4.out)
        have N4 := Lib.hid (HK.out.below A4.out HK.out.lt)
        have G4 := Lib.hid (HG.out.of_fr (G := fun _ => False) (G' := fun _ => False) (Fr.of_below A4.out) (fun h => h))
        have F4 := Lib.hid (HF.out.trans (fr5b A4.out))
        have HWL := Lib.hid hw1
        have HRG := Lib.hid hrg
        have e3 : IntKind.i64.wrap ((N : Int) + (kl : Int)) = (N : Int) + (kl : Int) := IntWalk.i64_in _ ⟨by omega, by omega⟩
        obtain ⟨pp, hpp⟩ : ∃ pp, N + i = pp := ⟨_, rfl⟩
        have e4 : IntKind.i64.wrap ((N : Int) + (i : Int)) = (pp : Int) := by rw [show (N : Int) + (i : Int) = (pp : Int) by omega]; exact IntWalk.i64_in _ ⟨by omega, by omega⟩
        have ppI : (pp : Int) < (M : Int) := by have := HMM.out; omega
        have HPP := Lib.hid hpp
        have BG := Lib.hid (bl_get (l := nd) (k := pp) (by have := HNL.out; omega))
        rw [hpp] at HSN
        clear hpp
        clear hrd hcells hga' hrg hsn hg hkl hw1 hgi hgl hlen
        exact (by
          go_upto_region 6 with (fail)
          generalize wr.alloc (.cells #[.int .i64 op, .int .i64 a, .int .i64 b] 57) = w4 at *
          have KG := Lib.hid K5
          obtain ⟨nv, hnv⟩ : ∃ nv, ws'.length = nv := ⟨_, rfl⟩
          have c0 := W4.out.blk.five.1
          have c3 := W4.out.blk.five.2.2.2.1
          rw [hnv] at c3
          have HV := Lib.hid (show w4.ownsRow b0 3 1 (.slice V' nv c') nv (il ws') from by have := W4.out.v; rwa [hnv] at this)
          have HNV := Lib.hid hnv
          have hnb : nv ≤ 21000 := by have := HWL.out; omega
          have hsz : b0 ≤ w4.heap.size := by have := W4.out.blk.lt; have := W4.out.wb; omega
          have e3' := (W4.out.blk.alloc (.cells #[.int .i64 ((N : Int) + (kl : Int))] 3)).five.2.2.2.1
          rw [hnv] at e3'
          clear hnv y0 y1 y2 K5
          go_region_law (refine step_append_lies _ (by rfl) _ _ _ (by rfl) b0 3 ii (.int .i64 0) 1 8 Try.underlying26 hii hz0 hz1 hz2 rfl (by decide) (.slice V' nv c') nv (il ws') (by rfl) (show ((w4.alloc (.cells #[.int .i64 ((N : Int) + (kl : Int))] 3)).drew).ownsRow b0 3 1 (.slice V' nv c') nv (il ws') from HV.out.alloc _) ⟨w4.heap.size, 0, none⟩ 1 1 [.int .i64 ((N : Int) + (kl : Int))] (by rfl) (by rfl) (World.news_of_block (cs := #[.int .i64 ((N : Int) + (kl : Int))]) (t := 3) (fr := (0, 0)) (heap_alloc_new w4 _)) (by simp [Value.oneCell']) (by omega) (by unfold maxLen; omega) (by omega) (by simp; omega) (w4.heap.size + 1) (by simp) ?_; intro g' c2 w5 hown hgrow hat hlt; have hfr := fr_app1 (grown_drew hgrow) hat; have P5 := Lib.hid (W4.out.push (by rw [HNV.out]; exact hown) hfr); have K6 := hfr.blk W4.out.blk W4.out.lb.2.2; have d3 := (K6.cell 3).trans (show (#[_, _, _, _, _] : Array Value)[3]? = some _ from rfl); rw [HNV.out] at d3; have d3f := K6.frozen 3; have FV := Lib.hid hfr; clear hown hgrow hat hlt K6 c3 hfr)
          all_goals
            have P6 := P5.out
            have W6 := Lib.hid P6.1
            have F6 := Lib.hid P6.2
            rw [HNV.out] at W6 F6
            have N6 := Lib.hid (F6.out.blk N4.out (W4.out.ne_bool N4.out))
            have K6 := Lib.hid (F6.out.blk KG.out (fun e => Nat.lt_irrefl _ (HWW.out.ge _ e).2))
            have G6 := Lib.hid (G4.out.of_fr F6.out (G4.out.ne W4.out))
            have FF6 := Lib.hid (F4.out.trans (fr5 F6.out))
            generalize w5.setCell ⟨wk, 3, none⟩ (.slice (some ⟨g', 0, none⟩) (nv + 1) c2) = w6 at *
            clear P6 P5 FV d3 d3f e3' c0
            have c0 := W6.out.blk.five.1
            have cN := (N6.out.cell pp).trans BG.out
            obtain ⟨k0, k1, k2, _, _, _, k6⟩ := K6.out.three6
            cases hbg : bg nd pp with
            | false =>
              rw [hbg] at cN
              have HS2 := HSN.out
              rw [hbg] at HS2
              simp only [Bool.false_eq_true, if_false] at HS2
              have HS3 := Lib.hid HS2
              clear HS2 hbg HSN
              exact (by
                go_wp2
                go_roundw
                case rel => exact ⟨i + 1, ks, ws' ++ [(N : Int) + (kl : Int)], some ⟨g', 0, none⟩, c2, S', by omega, by rw [HKL.out], by go_num, Lib.hid (by rw [HS3.out, HKL.out]), Lib.hid (by rw [HKL.out]; rw [HKL.out] at W6; exact W6.out), N6, G6, FF6⟩
                case measure => simp [intOf]; omega)
            | true =>
              rw [hbg] at cN
              have HS2 := HSN.out
              rw [hbg] at HS2
              simp only [if_true] at HS2
              rw [HKL.out] at HS2
              have hmv : rg (op, a, b) ((ws' ++ [(N : Int) + (kl : Int)]).length : Int) = true := rg_mono HRG.out (by have := HWL.out; simp; omega)
              have MV := Lib.hid (moved_any W6.out.rk W6.out.vr (op, a, b) hmv)
              obtain ⟨⟨m1, m2, m3⟩, hm⟩ : ∃ m, mvd (ws' ++ [(N : Int) + (kl : Int)]) (op, a, b) = m := ⟨_, rfl⟩
              rw [hm] at HS2 MV
              have HS3 := Lib.hid HS2
              have MV2 := Lib.hid (show Calls Try.prog 91 #[.pointer (some ⟨wk, 0, none⟩), .agg #[.int .i64 op, .int .i64 a, .int .i64 b]] w6 fun e w' => e = .returned (.agg #[.int .i64 m1, .int .i64 m2, .int .i64 m3]) ∧ Below w6.heap.size w6 w' from MV.out)
              clear HS2 hbg HSN hmv MV hm
              have hkn : kl < gs.length := by have := HNN.out; omega
              have hset : (ks ++ gs.drop ks.length).set kl (m1, m2, m3) = (ks ++ [(m1, m2, m3)]) ++ gs.drop (kl + 1) := by
                rw [HKL.out, List.drop_eq_getElem_cons hkn, List.set_append_right _ _ (by rw [HKL.out]; exact Nat.le_refl _), HKL.out, Nat.sub_self, List.set_cons_zero]
                simp
              have HSET := Lib.hid hset
              have O6 := Lib.hid (show w6.ownsRow b0 57 3 (.slice (some ⟨ga, 0, none⟩) n cA) n (cg (ks ++ gs.drop ks.length)) from by have := W6.out.g; rwa [HLEN.out] at this)
              have hklL : kl < (ks ++ gs.drop ks.length).length := by rw [HLEN.out]; omega
              have HKLL := Lib.hid hklL
              clear hset hkn hklL
              exact (by
                go_wp2_with (first
                  | (go_at_call 91; (with_reducible refine (MV2.out).mono ?_); rintro e w7 ⟨rfl, hb⟩; have B7 := Lib.hid hb; have O7 := Lib.hid (own_belowk O6.out hb); have W7 := Lib.hid (W6.out.later hb); clear hb)
                  | (at_builtin; refine wpList_append_in3 rfl _ _ 32 rfl b0 57 i0 Try.underlying32 hi0 hy1 ga n kl cA _ rfl O7.out (by omega) _ _ _ rfl rfl rfl rfl ?_))
                have A8 := Lib.hid ((Below.refl w7.heap.size w7).alloc (Nat.le_refl _) (.cells #[.int .i64 m1, .int .i64 m2, .int .i64 m3] 57))
                have P8 := (W7.out.later A8.out).gset kl HKLL.out m1 m2 m3
                rw [HSET.out] at P8
                have W8 := Lib.hid P8.1
                have F8 := Lib.hid P8.2
                have N8 := Lib.hid (F8.out.blk ((N6.out.below B7.out N6.out.lt).below A8.out (Nat.lt_of_lt_of_le N6.out.lt B7.out.size)) ((W7.out.later A8.out).ne_bool ((N6.out.below B7.out N6.out.lt).below A8.out (Nat.lt_of_lt_of_le N6.out.lt B7.out.size))))
                have G7 := (G6.out.of_fr (G := fun _ => False) (G' := fun _ => False) (Fr.of_below B7.out) (fun h => h)).of_fr (G := fun _ => False) (G' := fun _ => False) (Fr.of_below A8.out) (fun h => h)
                have G8 := Lib.hid (G7.of_fr F8.out (G7.ne (W7.out.later A8.out)))
                have FF8 := Lib.hid (((FF6.out.trans (fr5b B7.out)).trans (fr5b A8.out)).trans (fr5 F8.out))
                clear P8 G7
                go_roundw
                case rel => exact ⟨i + 1, ks ++ [(m1, m2, m3)], ws' ++ [(N : Int) + (kl : Int)], some ⟨g', 0, none⟩, c2, S', by omega, by rw [List.length_append, HKL.out]; rfl, by go_num, HS3, Lib.hid (by rw [List.length_append, HKL.out]; exact W8.out), N8, G8, FF8⟩
                case measure => simp [intOf]; omega))
      · obtain rfl : i = n := by omega
        have htk : gs.take i = gs := by rw [← hgl]; exact List.take_length
        rw [htk] at HP
        have Q8 := HWW.out.less
        have W8 := Lib.hid Q8.1
        have F8 := Lib.hid Q8.2
        have G8 := Lib.hid (HG.out.of_fr F8.out (HG.out.ne HWW.out))
        have c1 : wr.cell? ⟨wk, 1, none⟩ = some (.slice (some ⟨ga, 0, none⟩) i cA) := by have := HWW.out.blk.five.2.1; rwa [hlen] at this
        have f1 := HWW.out.blk.frozen 1
        have HWL := Lib.hid hw1
        have MO := Lib.hid (fun (w9 : World) (hw : WK wk b0 N ks os ws' (some ⟨ga, 0, none⟩) O V' cA cO c' mb w9) => moveOuts_any hw (fun k hk => by have := HC.out.os k hk; rw [HNN.out] at this; rw [HWL.out]; omega) hol)
        clear Q8 hw1 hk1 hlen hgl htk
        exact (by
          go_upto_region 11 with (fail)
          generalize wr.setCell ⟨wk, 1, none⟩ (.slice (some ⟨ga, 0, none⟩) ks.length cA) = w8 at *
          have MM := Lib.hid (MO.out w8 W8.out)
          clear c1 f1
          go_wp2_with (go_at_call 92; (with_reducible refine (MM.out).mono ?_); rintro e w9 ⟨rfl, hw9, hf9⟩; have W9 := Lib.hid hw9; have F9 := Lib.hid hf9; clear hw9 hf9)
          go_end0
          rw [← HQ.out]
          unfold OpOut trimC
          rw [HND.out, HP.out]
          exact ⟨rfl, ws', V', c', W9.out, ⟨S', G8.out.of_fr F9.out (G8.out.ne W8.out)⟩, (HF.out.trans (fr5 F8.out)).trans (fr5 F9.out)⟩))
theorem WK.nilg (h : WK wk b0 N gs os ws none O V cA cO cV mb w) : gs = [] ∧ cA = 0 := by
  rcases h.g.2 with ⟨hv, hx⟩ | ⟨g, cap, cur, hv, _⟩
  · injection hv with _ h2 h3
    exact ⟨List.eq_nil_of_length_eq_zero h2, h3⟩
  · cases hv
set_option maxRecDepth 100000 in
set_option maxHeartbeats 8000000 in
theorem trim_none {S : C3 → Option Int} (h : WK wk b0 N [] os ws none O V 0 cO cV mb w) (hm : GM w mb S) (hc : COk N [] os) (hol : os.length ≤ 1000) :
    Calls Try.prog 53 #[.pointer (some ⟨wk, 0, none⟩)] w fun e w' => OpOut wk b0 N (trimC N [] os).1 (trimC N [] os).2 none O V 0 cO mb w e w' := by
  have NE := Lib.hid (needed_any h hc hol)
  have HW := Lib.hid h
  have HC := Lib.hid hc
  have HM := Lib.hid hm
  have hN := hc.n
  obtain ⟨M, hM⟩ : ∃ M, N + ([] : List C3).length = M := ⟨_, rfl⟩
  rw [hM] at NE
  obtain ⟨Q, hQ⟩ : ∃ Q, OpOut wk b0 N (trimC N [] os).1 (trimC N [] os).2 none O V 0 cO mb w = Q := ⟨_, rfl⟩
  have HQ := Lib.hid hQ
  rw [hQ]
  clear h hc hm hM hQ
  go_enter Try.func53, Try.ntmps53
  go_upto_region 1 with (go_at_call 89; (with_reducible refine (NE.out).mono ?_); rintro e w1 ⟨gn, rfl, hk, hge, hb⟩; have B1 := Lib.hid hb; clear hk hb)
  have W1 := Lib.hid (HW.out.later B1.out)
  have BE := Lib.hid (begin_any W1.out hN)
  go_upto_region 2 with (go_at_call 90; (with_reducible refine (BE.out).mono ?_); rintro e w2 ⟨rfl, V1, cV1, hw2, hf2⟩; have W2 := Lib.hid hw2; have F2 := Lib.hid hf2; clear hw2 hf2)
  have M1 := HM.out.of_fr (G := fun _ => False) (G' := fun _ => False) (Fr.of_below B1.out) (fun h => h)
  have M2 := Lib.hid (M1.of_fr F2.out (M1.ne W1.out))
  have c1 : w2.cell? ⟨wk, 1, none⟩ = some (.slice none 0 0) := W2.out.blk.five.2.1
  have f1 := W2.out.blk.frozen 1
  have Q8 := WK.less (ks := []) (rest := []) (by simpa using W2.out)
  have W8 := Lib.hid Q8.1
  have F8 := Lib.hid Q8.2
  have G8 := Lib.hid (M2.out.of_fr F8.out (M2.out.ne W2.out))
  have MO := Lib.hid (fun (w9 : World) (hw : WK wk b0 N [] os (idW N) none O V1 0 cO cV1 mb w9) => moveOuts_any hw (fun k hk => by have := HC.out.os k hk; rw [idW_len]; simpa using this) hol)
  clear M1 Q8
  exact (by
    go_upto_region 4 with (fail)
    refine wp_loop_rounds 1 ?_
    rw [rounds_succ]
    go_upto_region 11 with (fail)
    have W9 := Lib.hid (show WK wk b0 N [] os (idW N) none O V1 0 cO cV1 mb (w2.setCell ⟨wk, 1, none⟩ (.slice none 0 0)) from W8.out)
    have F9 := Lib.hid (show Fr (TS4 wk none O V1) w2 (TS4 wk none O V1) (w2.setCell ⟨wk, 1, none⟩ (.slice none 0 0)) from F8.out)
    have G9 := Lib.hid (show GM (w2.setCell ⟨wk, 1, none⟩ (.slice none 0 0)) mb S from G8.out)
    generalize w2.setCell ⟨wk, 1, none⟩ (.slice none 0 0) = w8 at *
    have MM := Lib.hid (MO.out w8 W9.out)
    clear c1 f1 W8 F8 G8
    go_wp2_with (go_at_call 92; (with_reducible refine (MM.out).mono ?_); rintro e w9 ⟨rfl, hw9, hf9⟩; have W10 := Lib.hid hw9; have F10 := Lib.hid hf9; clear hw9 hf9)
    go_end0
    rw [← HQ.out]
    exact ⟨rfl, idW N, V1, cV1, W10.out, ⟨S, G9.out.of_fr F10.out (G9.out.ne W9.out)⟩, (((fr5b B1.out).trans (fr5 F2.out)).trans (fr5 F9.out)).trans (fr5 F10.out)⟩)
theorem trim_any {S : C3 → Option Int} (h : WK wk b0 N gs os ws A O V cA cO cV mb w) (hm : GM w mb S) (hc : COk N gs os) (hol : os.length ≤ 1000) :
    Calls Try.prog 53 #[.pointer (some ⟨wk, 0, none⟩)] w fun e w' => OpOut wk b0 N (trimC N gs os).1 (trimC N gs os).2 A O V cA cO mb w e w' := by
  cases A with
  | none =>
    obtain ⟨rfl, rfl⟩ := h.nilg
    exact trim_none h hm hc hol
  | some ad =>
    obtain ⟨g, rfl, _⟩ := own_some h.g
    exact trim_some h hm hc hol
end
end Go.Proofs.Ytnhkgkpjkgifoaa
