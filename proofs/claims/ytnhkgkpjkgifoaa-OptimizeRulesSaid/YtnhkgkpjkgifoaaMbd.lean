/- The walk of process, over any function that rewrites gates. -/
import Derived.Test.YtnhkgkpjkgifoaaMbc
namespace Go.Proofs.Ytnhkgkpjkgifoaa
open Go.RowKit

theorem cg_set : ∀ (gs : List C3) (i : Nat) (o a b : Int), i < gs.length → (((cg gs).set (i * 3) (.int .i64 o)).set (i * 3 + 1) (.int .i64 a)).set (i * 3 + 2) (.int .i64 b) = cg (gs.set i (o, a, b))
  | [], _, _, _, _, h => absurd h (Nat.not_lt_zero _)
  | x :: r, 0, o, a, b, _ => by simp [cg]
  | x :: r, i + 1, o, a, b, h => by
    have h1 := cg_set r i o a b (by simpa using h)
    have e : ∀ (y : C3) (l : List C3), cg (y :: l) = .int .i64 y.1 :: .int .i64 y.2.1 :: .int .i64 y.2.2 :: cg l := fun y l => by simp [cg]
    rw [List.set_cons_succ, e, e, show (i + 1) * 3 = i * 3 + 1 + 1 + 1 by omega]
    rw [← h1]
    rfl
section
variable {wk b0 N : Nat} {gs : List C3} {os ws : List Int} {A O V : Option Addr} {cA cO cV mb : Nat} {w : World}
theorem WK.gset {ga : Nat} (h : WK wk b0 N gs os ws (some ⟨ga, 0, none⟩) O V cA cO cV mb w) (i : Nat) (hi : i < gs.length) (o a b : Int) :
    WK wk b0 N (gs.set i (o, a, b)) os ws (some ⟨ga, 0, none⟩) O V cA cO cV mb (((w.setCell ⟨ga, i * 3, none⟩ (.int .i64 o)).setCell ⟨ga, i * 3 + 1, none⟩ (.int .i64 a)).setCell ⟨ga, i * 3 + 2, none⟩ (.int .i64 b)) ∧ Fr (TS4 wk (some ⟨ga, 0, none⟩) O V) w (TS4 wk (some ⟨ga, 0, none⟩) O V) (((w.setCell ⟨ga, i * 3, none⟩ (.int .i64 o)).setCell ⟨ga, i * 3 + 1, none⟩ (.int .i64 a)).setCell ⟨ga, i * 3 + 2, none⟩ (.int .i64 b)) := by
  obtain ⟨l1, l2, l3⟩ := h.lb
  obtain ⟨a1, a2⟩ := h.ag
  have hw : ob (some ⟨ga, 0, none⟩) ga := rfl
  have hne : wk ≠ ga := fun e => l1 (by rw [e]; exact hw)
  have g1 := (h.g.stored (i * 3) (.int .i64 o)).1
  have g2 := (g1.stored (i * 3 + 1) (.int .i64 a)).1
  have g3 := (g2.stored (i * 3 + 2) (.int .i64 b)).1
  have fs : ∀ (W : World) (j : Nat) (u : Value), Fr (TS4 wk (some ⟨ga, 0, none⟩) O V) W (TS4 wk (some ⟨ga, 0, none⟩) O V) (W.setCell ⟨ga, j, none⟩ u) := fun W j u => Fr.set_ W (p := ⟨ga, j, none⟩) u (.inr (.inl hw))
  refine ⟨⟨?_, ?_, own_set (own_set (own_set h.o (fun e => a1 ga hw (ob_own.2 e)) _) (fun e => a1 ga hw (ob_own.2 e)) _) (fun e => a1 ga hw (ob_own.2 e)) _, own_set (own_set (own_set h.v (fun e => a2 ga hw (ob_own.2 e)) _) (fun e => a2 ga hw (ob_own.2 e)) _) (fun e => a2 ga hw (ob_own.2 e)) _, h.ov, h.wb⟩, ((fs _ _ _).trans (fs _ _ _)).trans (fs _ _ _)⟩
  · rw [List.length_set]
    exact ((h.blk.far (p := ⟨ga, i * 3, none⟩) hne _).far (p := ⟨ga, i * 3 + 1, none⟩) hne _).far (p := ⟨ga, i * 3 + 2, none⟩) hne _
  · rw [List.length_set, ← cg_set gs i o a b hi]
    exact g3
theorem WK.drew (h : WK wk b0 N gs os ws A O V cA cO cV mb w) : WK wk b0 N gs os ws A O V cA cO cV mb w.drew := ⟨h.blk.drew, h.g, h.o, h.v, h.ov, h.wb⟩
end
theorem prF_snoc {σ : Type} (R : σ → List C3 → C3 → (C3 × Int) × σ) : ∀ (r : List C3) (g : C3) (ds : List C3) (ws : List Int) (s : σ), prF R (r ++ [g]) ds ws s = (((prF R r ds ws s).1.1 ++ [(R (prF R r ds ws s).2 (prF R r ds ws s).1.1 (mvd (prF R r ds ws s).1.2 g)).1.1], (prF R r ds ws s).1.2 ++ [(R (prF R r ds ws s).2 (prF R r ds ws s).1.1 (mvd (prF R r ds ws s).1.2 g)).1.2]), (R (prF R r ds ws s).2 (prF R r ds ws s).1.1 (mvd (prF R r ds ws s).1.2 g)).2)
  | [], g, ds, ws, s => rfl
  | x :: r, g, ds, ws, s => by
    rw [List.cons_append, prF, prF, prF_snoc R r]
/-- .. and the map's block -/
def TS5 (wk mb : Nat) (A O V : Option Addr) (k : Nat) : Prop := TS4 wk A O V k ∨ k = mb
theorem fr5 {wk mb : Nat} {A O V V' : Option Addr} {w w' : World} (h : Fr (TS4 wk A O V) w (TS4 wk A O V') w') : Fr (TS5 wk mb A O V) w (TS5 wk mb A O V') w' := h.weak' _
theorem fr5b {wk mb : Nat} {A O V : Option Addr} {w w' : World} (h : Below w.heap.size w w') : Fr (TS5 wk mb A O V) w (TS5 wk mb A O V) w' := Fr.of_below h
theorem fr5m {wk mb : Nat} {A O V : Option Addr} {w w' : World} (h : Fr (fun k => k = mb) w (fun k => k = mb) w') : Fr (TS5 wk mb A O V) w (TS5 wk mb A O V) w' := h.weak (fun _ hk => .inr hk) (fun k hk => .inl hk)
/-- what process answers -/
def PrcOut {σ : Type} (wk b0 N : Nat) (R : σ → List C3 → C3 → (C3 × Int) × σ) (IW : σ → World → Prop) (s0 : σ) (gs : List C3) (os : List Int) (A O V : Option Addr) (cA cO mb : Nat) (w : World) (e : Ending) (w' : World) : Prop :=
  e = .returned (.tuple #[]) ∧ ∃ V' cV', WK wk b0 N (prF R gs [] (idW N) s0).1.1 (mo (prF R gs [] (idW N) s0).1.2 os) (prF R gs [] (idW N) s0).1.2 A O V' cA cO cV' mb w' ∧ IW (prF R gs [] (idW N) s0).2 w' ∧ Fr (TS5 wk mb A O V) w (TS5 wk mb A O V') w'
set_option maxRecDepth 100000 in
set_option maxHeartbeats 8000000 in
theorem process_any {σ : Type} {wk b0 N : Nat} {gs : List C3} {os ws : List Int} {A O V : Option Addr} {cA cO cV mb : Nat} {w : World} (G : FuncId) (cb : Array Value) (eg : ∀ args w, (callFunc G args).run Try.prog w = .ok (.enter G args) w)
    (R : σ → List C3 → C3 → (C3 × Int) × σ) (inv : σ → List C3 → Prop) (hR : StepOk N R inv) (IW : σ → World → Prop) (s0 : σ) (hi0 : inv s0 []) (h : WK wk b0 N gs os ws A O V cA cO cV mb w) (hc : COk N gs os) (hol : os.length ≤ 1000) (hI : IW s0 w)
    (hIF : ∀ (s : σ) (gs' : List C3) (os' ws' : List Int) (V' : Option Addr) (cV' : Nat) (w1 w2 : World) (G' : Nat → Prop), WK wk b0 N gs' os' ws' A O V' cA cO cV' mb w1 → IW s w1 → Fr (TS4 wk A O V') w1 G' w2 → IW s w2)
    (hCB : ∀ (s : σ) (ds rest : List C3) (ws' : List Int) (V' : Option Addr) (cV' : Nat) (w1 : World) (m : C3), WK wk b0 N (ds ++ rest) os ws' A O V' cA cO cV' mb w1 → IW s w1 → ws'.length = N + ds.length → (ds ++ rest).length ≤ 20000 → rg m ((N : Int) + (ds.length : Int)) = true →
      Calls Try.prog G (#[gV m] ++ cb) w1 fun e w2 => e = .returned (aV (R s ds m).1) ∧ IW (R s ds m).2 w2 ∧ WK wk b0 N (ds ++ rest) os ws' A O V' cA cO cV' mb w2 ∧ Fr (fun k => k = mb) w1 (fun k => k = mb) w2) :
    Calls Try.prog 83 #[.pointer (some ⟨wk, 0, none⟩), .func (.func G) #[] cb] w fun e w' => PrcOut wk b0 N R IW s0 gs os A O V cA cO mb w e w' := by
  obtain ⟨ii, hii, hz0, hz1, hz2⟩ := info_parts Try.info_intL
  have BE := Lib.hid (begin_any h hc.n)
  have HIF := Lib.hid hIF
  have HCB := Lib.hid hCB
  have HC := Lib.hid hc
  have HI := Lib.hid (fun V' (w' : World) (hf : Fr (TS4 wk A O V) w (TS4 wk A O V') w') => hIF s0 gs os ws V cV w w' _ h hI hf)
  have MO := Lib.hid (fun gs' ws' V' cV' (w' : World) (hw : WK wk b0 N gs' os ws' A O V' cA cO cV' mb w') (hl : ws'.length = N + gs.length) => moveOuts_any hw (fun k hk => by have := hc.os k hk; rw [hl]; omega) hol)
  have PO := Lib.hid (fun (i : Nat) (hi : i ≤ gs.length) => prF_ok hR hc.n (gs.take i) [] [] (idW N) s0 (by have := hc.g; simp; omega) (by have := hc.gd; rw [List.nil_append]; exact Gd.pre (r := gs.drop i) (by rw [List.take_append_drop]; exact this)) (fun k hk => absurd hk (by simp)) rfl (Al.start N) hi0 (Nat.le_refl _) (fun _ => rfl))
  have hgl := hc.g
  have hNl := hc.n
  obtain ⟨n, hn⟩ : ∃ n, gs.length = n := ⟨_, rfl⟩
  have HN := Lib.hid hn
  rw [hn] at hgl
  obtain ⟨Q, hQ⟩ : ∃ Q, PrcOut wk b0 N R IW s0 gs os A O V cA cO mb w = Q := ⟨_, rfl⟩
  have HQ := Lib.hid hQ
  rw [hQ]
  clear hIF hCB hc hI h hR hi0 hn hQ
  go_enter Try.func83, Try.ntmps83
  go_upto_region 1 with (go_at_call 90; (with_reducible refine (BE.out).mono ?_); rintro e w1 ⟨rfl, V1, cV1, hw1, hf1⟩; have W1 := Lib.hid hw1; have F1 := Lib.hid hf1; clear hw1 hf1)
  have I1 := Lib.hid (HI.out V1 w1 F1.out)
  have c1 := W1.out.blk.five.2.1
  rw [HN.out] at c1
  exact (by
    go_upto_region 2 with (fail)
    go_loopw [16] (fun iv wr => ∃ (i : Nat) (ds : List C3) (ws' : List Int) (V' : Option Addr) (c' : Nat) (s : σ), i ≤ n ∧ iv = .int .i64 (i : Int) ∧ Hid (prF R (gs.take i) [] (idW N) s0 = ((ds, ws'), s)) ∧ Hid (WK wk b0 N (ds ++ gs.drop i) os ws' A O V' cA cO c' mb wr) ∧ Hid (IW s wr) ∧ Hid (Fr (TS5 wk mb A O V) w (TS5 wk mb A O V') wr)) (fun iv _ => n - (intOf iv).toNat)
    case atStart => exact ⟨0, [], idW N, V1, cV1, s0, Nat.zero_le _, rfl, Lib.hid rfl, by simpa using W1, I1, Lib.hid (fr5 F1.out)⟩
    case round =>
      obtain ⟨i, ds, ws', V', c', s, hi, rfl, HP, HW, HS, HF⟩ := hrel
      clear c1
      have P := PO.out i (by rw [HN.out]; exact hi)
      rw [HP.out] at P
      obtain ⟨p1, p2, p3, _, _⟩ := P
      rw [List.nil_append] at p2 p3
      have hdl : ds.length = i := by
        have q : ds.length = (gs.take i).length := p2
        have q2 := HN.out
        simp at q
        omega
      have hwl : ws'.length = N + i := by have q := p3.1; have q2 := HN.out; simp at q; omega
      by_cases hlt : i < n
      · have hiI : (i : Int) < (n : Int) := by omega
        have hlen : (ds ++ gs.drop i).length = n := by have := HN.out; simp; omega
        obtain ⟨g, hg⟩ : ∃ g, gs.getD i (0, 0, 0) = g := ⟨_, rfl⟩
        have hgi : i < gs.length := by have := HN.out; omega
        have hdr : gs.drop i = g :: gs.drop (i + 1) := by
          rw [List.drop_eq_getElem_cons hgi, ← hg]
          simp [List.getD_eq_getElem?_getD, hgi]
        have hrg : rg g ((N : Int) + (i : Int)) = true := by rw [← hg]; exact HC.out.gd i hgi
        have hmv := (mvd_ok p3 (g := g) (by
          have : (gs.take i).length = i := by have := HN.out; simp; omega
          rw [this]; exact hrg)).1
        rw [show (gs.take i).length = i by have := HN.out; simp; omega] at hmv
        have hsn := prF_snoc R (gs.take i) g [] (idW N) s0
        rw [HP.out, show gs.take i ++ [g] = gs.take (i + 1) by rw [List.take_add_one, List.getElem?_eq_getElem hgi, ← hg]; simp [List.getD_eq_getElem?_getD, hgi]] at hsn
        simp only at hsn
        have hrd := HW.out.rk.rd
        rw [hlen] at hrd
        obtain ⟨ga, oa, hA, hga, hcells⟩ := hrd (by omega)
        have hgw := HW.out.g
        rw [hA] at hgw
        obtain ⟨ga0, hga', _, _, _⟩ := own_some hgw
        injection hga' with e1 e2
        subst e1 e2
        subst hA
        have hcl := hcells i hlt
        simp only [Nat.zero_add] at hcl
        rw [show (ds ++ gs.drop i).getD i (0, 0, 0) = g by rw [hdr]; simp [List.getD_eq_getElem?_getD, hdl]] at hcl
        have c1 : wr.cell? ⟨wk, 1, none⟩ = some (.slice (some ⟨ga, 0, none⟩) n cA) := by have := HW.out.blk.five.2.1; rwa [hlen] at this
        obtain ⟨op, a, b⟩ := g
        obtain ⟨y0, y1, y2⟩ := hcl
        simp only at y0 y1 y2
        have A4 := Lib.hid ((Below.refl wr.heap.size wr).alloc (Nat.le_refl _) (.cells #[.int .i64 op, .int .i64 a, .int .i64 b] 57))
        have K5 := Blk.new wr 57 #[.int .i64 op, .int .i64 a, .int .i64 b]
        have W4 := Lib.hid (HW.out.later A4.out)
        have S4 := Lib.hid (HIF.out s _ _ _ V' c' wr _ _ HW.out HS.out (Fr.of_below (G := TS4 wk (some ⟨ga, 0, none⟩) O V') A4.out))
        have HRG := Lib.hid (show rg (op, a, b) (ws'.length : Int) = true by rw [hwl]; push_cast; exact hrg)
        obtain ⟨⟨m1, m2, m3⟩, hm⟩ : ∃ m, mvd ws' (op, a, b) = m := ⟨_, rfl⟩
        rw [hm] at hmv hsn
        obtain ⟨⟨⟨⟨x, y, z⟩, u⟩, s2⟩, hx⟩ : ∃ r, R s ds (m1, m2, m3) = r := ⟨_, rfl⟩
        rw [hx] at hsn
        simp only at hsn
        have HSN := Lib.hid hsn
        have HX := Lib.hid hx
        have HMV := Lib.hid (show rg (m1, m2, m3) ((N : Int) + (ds.length : Int)) = true by rw [hdl]; exact hmv)
        have HM := Lib.hid hm
        have HWL := Lib.hid (show ws'.length = N + ds.length by rw [hdl]; exact hwl)
        have HLEN := Lib.hid hlen
        have HDL := Lib.hid hdl
        have HDR := Lib.hid hdr
        have fi : ∀ j, wr.frozen? ⟨ga, j, none⟩ = false := fun j => by have := HW.out.g; rw [hlen] at this; exact this.frozenAt j
        clear hrd hgw hcells hga hrg hmv hsn hx hm hdr hgi hg p1 p2 p3 hlen hdl hwl fi
        exact (by
          go_upto_region 4 with (fail)
          generalize wr.alloc (.cells #[.int .i64 op, .int .i64 a, .int .i64 b] 57) = w4 at *
          obtain ⟨k0, k1, k2, _, _, _, k6⟩ := K5.three6
          have K5 := Lib.hid K5
          clear y0 y1 y2 c1
          have MV := Lib.hid (show Calls Try.prog 91 #[.pointer (some ⟨wk, 0, none⟩), .agg #[.int .i64 op, .int .i64 a, .int .i64 b]] w4 fun e w' => e = .returned (.agg #[.int .i64 m1, .int .i64 m2, .int .i64 m3]) ∧ Below w4.heap.size w4 w' from by
            have q := moved_any W4.out.rk W4.out.vr (op, a, b) HRG.out
            rw [HM.out] at q
            exact q)
          have CB := Lib.hid (fun (w5 : World) (hb : Below w4.heap.size w4 w5) => show Calls Try.prog G (#[.agg #[.int .i64 m1, .int .i64 m2, .int .i64 m3]] ++ cb) w5 fun e w6 => e = .returned (.tuple #[.agg #[.int .i64 x, .int .i64 y, .int .i64 z], .int .i64 u]) ∧ IW s2 w6 ∧ WK wk b0 N (ds ++ gs.drop i) os ws' (some ⟨ga, 0, none⟩) O V' cA cO c' mb w6 ∧ Fr (fun k => k = mb) w5 (fun k => k = mb) w6 from by
            have q := HCB.out s ds (gs.drop i) ws' V' c' w5 (m1, m2, m3) (W4.out.later hb) (HIF.out s _ _ _ V' c' w4 w5 _ W4.out S4.out (Fr.of_below (G := TS4 wk (some ⟨ga, 0, none⟩) O V') hb)) HWL.out (by rw [HLEN.out]; exact hgl) HMV.out
            rw [HX.out] at q
            exact q)
          go_upto_region 5 with (first
            | (go_at_call 91; (with_reducible refine (MV.out).mono ?_); rintro e w5 ⟨rfl, hb⟩; have B5 := Lib.hid hb; have CC := Lib.hid (CB.out w5 hb); clear hb)
            | (with_reducible refine (CC.out).mono ?_; rintro e w6 ⟨rfl, hs, hw, hf⟩; have S6 := Lib.hid hs; have W6 := Lib.hid hw; have F6 := Lib.hid hf; clear hs hw hf))
          have A7 := Lib.hid ((Below.refl w6.heap.size w6).alloc (Nat.le_refl _) (.cells #[.int .i64 x, .int .i64 y, .int .i64 z] 57))
          have K7 := Blk.new w6 57 #[.int .i64 x, .int .i64 y, .int .i64 z]
          have W7 := Lib.hid (W6.out.later A7.out)
          have S7 := Lib.hid (HIF.out s2 _ _ _ V' c' w6 _ _ W6.out S6.out (Fr.of_below (G := TS4 wk (some ⟨ga, 0, none⟩) O V') A7.out))
          generalize w6.alloc (.cells #[.int .i64 x, .int .i64 y, .int .i64 z] 57) = w7 at *
          obtain ⟨x0, x1, x2, _, _, _, x6⟩ := K7.three6
          have c1 : w7.cell? ⟨wk, 1, none⟩ = some (.slice (some ⟨ga, 0, none⟩) n cA) := by have := W7.out.blk.five.2.1; rwa [HLEN.out] at this
          have hrd7 := W7.out.rk.rd
          rw [HLEN.out] at hrd7
          obtain ⟨ga1, oa1, hA1, _, hc7⟩ := hrd7 (by omega)
          injection hA1 with hA1
          injection hA1 with e1 e2
          subst e1 e2
          obtain ⟨y0, y1, y2⟩ := hc7 i hlt
          simp only [Nat.zero_add] at y0 y1 y2
          have g7 := W7.out.g
          rw [HLEN.out] at g7
          have fr0 := g7.frozenAt (i * 3)
          have fr1 := g7.frozenAt (i * 3 + 1)
          have fr2 := g7.frozenAt (i * 3 + 2)
          have P8 := Lib.hid (W7.out.gset i (by rw [HLEN.out]; exact hlt) x y z)
          have hset : (ds ++ gs.drop i).set i (x, y, z) = (ds ++ [(x, y, z)]) ++ gs.drop (i + 1) := by
            rw [HDR.out, List.set_append_right _ _ (by rw [HDL.out]; exact Nat.le_refl _), HDL.out, Nat.sub_self, List.set_cons_zero]
            simp
          rw [hset] at P8
          have HFF := Lib.hid ((((HF.out.trans (fr5b A4.out)).trans (fr5b B5.out)).trans (fr5m F6.out)).trans (fr5b A7.out))
          clear hrd7 hc7 g7 hset k0 k1 k2 k6 K7 MV CB CC K5
          exact (by
            go_region
            all_goals
              go_upto_region 6 with (fail)
              have W8 := Lib.hid P8.out.1.drew
              have F8 := Lib.hid P8.out.2.drew
              generalize (((w7.setCell ⟨ga, i * 3, none⟩ (.int .i64 x)).setCell ⟨ga, i * 3 + 1, none⟩ (.int .i64 y)).setCell ⟨ga, i * 3 + 2, none⟩ (.int .i64 z)).drew = w8 at *
              have S8 := Lib.hid (HIF.out s2 _ _ _ V' c' w7 w8 _ W7.out S7.out F8.out)
              clear x0 x1 x2 x6 c1 y0 y1 y2 fr0 fr1 fr2
              obtain ⟨nv, hnv⟩ : ∃ nv, ws'.length = nv := ⟨_, rfl⟩
              have c3 := W8.out.blk.five.2.2.2.1
              rw [hnv] at c3
              have HV := Lib.hid (show w8.ownsRow b0 3 1 (.slice V' nv c') nv (il ws') from by have := W8.out.v; rwa [hnv] at this)
              have hnb : nv ≤ 21000 := by have := HWL.out; have := HDL.out; omega
              have HNV := Lib.hid hnv
              have hsz : b0 ≤ w8.heap.size := by have := W8.out.blk.lt; have := W8.out.wb; omega
              clear hnv
              exact (by
                go_wp2_with (at_builtin; refine wpList_append1F rfl _ _ 26 rfl b0 3 ii (.int .i64 0) 8 Try.underlying26 hii hz0 hz1 hz2 rfl V' nv c' _ rfl HV.out (.int .i64 u) rfl rfl (by unfold maxLen; omega) (by omega) hsz ?_; intro g' c2 w9 hown hfr; have P9 := Lib.hid (W8.out.push (by rw [HNV.out]; exact hown) hfr); have K9 := hfr.blk W8.out.blk W8.out.lb.2.2; have d3 := (K9.cell 3).trans (show (#[_, _, _, _, _] : Array Value)[3]? = some _ from rfl); rw [HNV.out] at d3; have d3f := K9.frozen 3; clear hown hfr K9 c3)
                go_roundw
                case rel =>
                  have P := P9.out
                  rw [HNV.out] at P
                  exact ⟨i + 1, ds ++ [(x, y, z)], ws' ++ [u], some ⟨g', 0, none⟩, c2, s2, by omega, by go_num, HSN, Lib.hid P.1, Lib.hid (HIF.out s2 _ _ _ V' c' w8 _ _ W8.out S8.out P.2), Lib.hid ((HFF.out.trans (fr5 F8.out)).trans (fr5 P.2))⟩
                case measure => simp [intOf]; omega)))
      · obtain rfl : i = n := by omega
        have htk : gs.take i = gs := by rw [← HN.out]; exact List.take_length
        have hdp : gs.drop i = [] := by rw [← HN.out]; exact List.drop_length
        rw [htk] at HP
        rw [hdp, List.append_nil] at HW
        have MM := Lib.hid (MO.out ds ws' V' c' wr HW.out (by rw [HN.out]; exact hwl))
        go_wp2_with (go_at_call 92; (with_reducible refine (MM.out).mono ?_); rintro e w9 ⟨rfl, hw9, hf9⟩; have W9 := Lib.hid hw9; have F9 := Lib.hid hf9; clear hw9 hf9)
        go_end0
        rw [← HQ.out]
        refine ⟨rfl, V', c', ?_, ?_, HF.out.trans (fr5 F9.out)⟩
        · rw [HP.out]; exact W9.out
        · rw [HP.out]; exact HIF.out s _ _ _ V' c' wr w9 _ HW.out HS.out F9.out)
end Go.Proofs.Ytnhkgkpjkgifoaa
