/- The walk of evolve, over any function that records. -/
import Derived.Test.YtaicehkphokacaaMbf
import Derived.Test.YtaicehkphokacaaMae
namespace Go.Proofs.Ytaicehkphokacaa
open Go.RowKit

theorem com_lists {p q : List C3} {n m : Nat} (hp : p.length = n) (hq : q.length = m) (h : n = m ∧ com (fun k => p.getD k (0, 0, 0)) n (fun k => q.getD k (0, 0, 0)) m = n) : p = q := by
  obtain ⟨h1, h2⟩ := h
  apply List.ext_getElem
  · omega
  · intro i h3 h4
    have := com_eq (f := fun k => p.getD k (0, 0, 0)) (g := fun k => q.getD k (0, 0, 0)) (n := n) (m := m) i (by omega)
    simpa [List.getD_eq_getElem?_getD, h3, h4] using this
/-- a block that holds a list is none of the cells that are read -/
theorem creads_fr {W W' : World} {D : Nat} {A : Option Addr} {n : Nat} {f : Nat → C3} (h : CReads W W.heap.size A n f) (hD : ∃ t X l c, Blk W D t #[.slice X l c]) {S' : Nat → Prop} (fr : Fr (fun k => k = D) W S' W') : CReads W' W'.heap.size A n f := fun hn => by
  obtain ⟨g, o, e, hg, hc⟩ := h hn
  obtain ⟨t, X, l, c, hb⟩ := hD
  have hne : g ≠ D := fun e => by
    obtain ⟨q, _, _⟩ := hc 0 hn
    rw [e, Nat.zero_mul, Nat.add_zero] at q
    rw [hb.cell o] at q
    match o, q with
    | 0, q => simp at q
    | o + 1, q => simp at q
  have key : ∀ j, W'.cell? ⟨g, j, none⟩ = W.cell? ⟨g, j, none⟩ := fun j => by
    unfold World.cell?
    rw [fr.block g hg hne]
  refine ⟨g, o, e, Nat.lt_of_lt_of_le hg fr.size, fun k hk => ?_⟩
  rw [key, key, key]
  exact hc k hk
theorem not_new {S S' : Nat → Prop} {W W' : World} {b : Nat} (h : Fr S W S' W') (hb : ¬ S b) (hl : b < W.heap.size) : ¬ S' b := fun h' => by
  rcases h.new b h' with h1 | h1
  · exact hb h1
  · omega
section
variable (G : FuncId) (cb : Array Value) (AH AN AP : Option Addr) (cH cN cP n D : Nat) (T : Tr) (P : Nat → List C3) (R : Nat → (Nat → Prop) → World → Prop) (S0 : Nat → Prop) (w : World)
set_option maxRecDepth 100000 in
set_option maxHeartbeats 8000000 in
theorem evolve_any (eg : ∀ args w, (callFunc G args).run Try.prog w = .ok (.enter G args) w)
    (hRs : ∀ k S W W', R k S W → Below W.heap.size W W' → R k S W')
    (hRD : ∀ k j S S' W W' A, j ≤ n → R k S W → Fr S W S' W' → CReads W W.heap.size A (P j).length (fun i => (P j).getD i (0, 0, 0)) → CReads W' W'.heap.size A (P j).length (fun i => (P j).getD i (0, 0, 0)))
    (hCB : ∀ k S W X c, k ≤ n → R k S W → CReads W W.heap.size X (P k).length (fun j => (P k).getD j (0, 0, 0)) → Calls Try.prog G (#[.slice X (P k).length c] ++ cb) W fun e W' => e = .returned (.tuple #[]) ∧ ∃ S', R (k + 1) S' W' ∧ Fr S W S' W')
    (hn : n ≤ 10000) (hD : D < w.heap.size) (hS : ∀ k, S0 k → D ≤ k ∧ k < w.heap.size) (hR : R 0 S0 w) (hT : ∀ W, Below D w W → TS W AH AN T) (ht : Rt T) (hq : gT T (List.replicate T.n 0) = 0)
    (hp : CReads w w.heap.size AP (P 0).length (fun j => (P 0).getD j (0, 0, 0)))
    (hP : ∀ k, k ≤ n → PatOK (P k) ∧ (P k).length ≤ 5000 ∧ tpS (P k) < T.st)
    (hG : ∀ k, k < n → Vld (nxt (gT T) (offL T) (P k)) ∧ (nxt (gT T) (offL T) (P k)).length ≤ 5000 ∧ cls (nxt (gT T) (offL T) (P k)) = P (k + 1)) :
    Calls Try.prog 41 #[.agg #[.int .i64 T.st, .slice AH T.n cH, .slice AN T.m cN], .slice AP (P 0).length cP, .int .i64 (n : Int), .func (.func G) #[] cb] w fun e w' => e = .returned (.int .i64 0) ∧ ∃ S', R (n + 1) S' w' ∧ Fr S0 w S' w' := by
  have hs0 := ht.s1
  have EX := Lib.hid (fun W (hb : Below w.heap.size w W) => show Calls Try.prog 28 #[.agg #[.int .i64 T.st, .slice AH T.n cH, .slice AN T.m cN], .slice AP (P 0).length cP] W fun e W' => e = .returned (.int .i64 0) ∧ Below W.heap.size W W' from by
    have q := dexamine_any AH AN AP cH cN cP (P 0).length T (P 0) W (hT W (hb.mono (by omega))) ht hq (hp.later hb) rfl (hP 0 (Nat.zero_le _)).2.1 (hP 0 (Nat.zero_le _)).1
    unfold exE at q
    rw [if_pos (hP 0 (Nat.zero_le _)).2.2] at q
    exact q)
  have CL := Lib.hid (fun W X c k (hk : k ≤ n) (hr : CReads W W.heap.size X (P k).length (fun j => (P k).getD j (0, 0, 0))) => show Calls Try.prog 63 #[.slice X (P k).length c] W fun e W' => ∃ Y d, e = .returned (.slice Y (P k).length d) ∧ CReads W' W'.heap.size Y (P k).length (fun j => (P k).getD j (0, 0, 0)) ∧ Below W.heap.size W W' from
    (pclone_any X c (P k) W hr (by have := (hP k hk).2.1; omega)).mono fun e W' ⟨Y, d, h1, h2, h3⟩ => ⟨Y, d, h1, creads_cg h2, h3⟩)
  have AD := Lib.hid (fun W X c k (hk : k < n) (hb : Below D w W) (hr : CReads W W.heap.size X (P k).length (fun j => (P k).getD j (0, 0, 0))) => show Calls Try.prog 29 #[.agg #[.int .i64 T.st, .slice AH T.n cH, .slice AN T.m cN], .slice X (P k).length c] W fun e W' => ∃ Y d, e = .returned (.tuple #[.slice Y (P (k + 1)).length d, .int .i64 0]) ∧ CReads W' W'.heap.size Y (P (k + 1)).length (fun j => (P (k + 1)).getD j (0, 0, 0)) ∧ Below W.heap.size W W' from
    (advance_any AH AN X cH cN c (P k).length T (P k) W (hT W hb) ht hq hr rfl (hP k (by omega)).2.1 (hP k (by omega)).1 ((tpS_lt (st := T.st) (by omega) (P k) 0).1 (hP k (by omega)).2.2).2).mono fun e W' h => adv_known (hG k hk).1 (hG k hk).2.1 (hG k hk).2.2 h)
  have SA := Lib.hid (fun W X c Y d k (hk : k < n) (hr : CReads W W.heap.size X (P k).length (fun j => (P k).getD j (0, 0, 0))) (hr' : CReads W W.heap.size Y (P (k + 1)).length (fun j => (P (k + 1)).getD j (0, 0, 0))) => show Calls Try.prog 64 #[.slice Y (P (k + 1)).length d, .slice X (P k).length c] W fun e W' => ∃ b, e = .returned (.bool b) ∧ (b = true → P (k + 1) = P k) ∧ Below W.heap.size W W' from
    (same_any Y X (P (k + 1)).length (P k).length d c (fun j => (P (k + 1)).getD j (0, 0, 0)) (fun j => (P k).getD j (0, 0, 0)) W hr' hr (by have := (hP (k + 1) (by omega)).2.1; omega) (by have := (hP k (by omega)).2.1; omega)).mono fun e W' ⟨h1, h2⟩ => ⟨_, h1, fun hb => com_lists rfl rfl (of_decide_eq_true hb), h2⟩)
  have ST := Lib.hid (fun k (hk : k < n) (h : cls (nxt (gT T) (offL T) (P k)) = P k) => show P (k + 1) = P k from by rw [← (hG k hk).2.2]; exact h)
  have ST2 := Lib.hid (fun k (hk : k < n) (h : P (k + 1) = P k) => show cls (nxt (gT T) (offL T) (P (k + 1))) = P (k + 1) from by
    have := (hG k hk).2.2
    rw [h] at this ⊢
    exact this)
  have CB := Lib.hid hCB
  have RS := Lib.hid hRs
  have RD := Lib.hid hRD
  have HR := Lib.hid hR
  have HP := Lib.hid hp
  generalize nxt (gT T) (offL T) = nx0 at *
  clear hRs hRD hCB hR hT ht hq hp hP hG
  obtain ⟨st, nh, f, m, lv, nx⟩ := T
  simp only at *
  have hn0 : ¬ ((n : Int) < 0) := by omega
  have hn1 : (n : Int) ≤ 10000 := by omega
  have hn2 : ¬ ((10000 : Int) < (n : Int)) := by omega
  have HS0 := Lib.hid hS
  clear hS
  have HNE := Lib.hid (show ¬ S0 w.heap.size from fun h => by have := (HS0.out _ h).2; omega)
  have K1 := Blk.new w 25 #[.int .i64 st, .slice AH nh cH, .slice AN m cN]
  have B1 : Below w.heap.size w (w.alloc (.cells #[.int .i64 st, .slice AH nh cH, .slice AN m cN] 25)) := (Below.refl _ _).alloc (Nat.le_refl _) _
  go_enter Try.func41, Try.ntmps41
  go_upto_region 1 with (fail)
  generalize w.alloc (.cells #[.int .i64 st, .slice AH nh cH, .slice AN m cN] 25) = w1 at *
  obtain ⟨t0, t1, t2, _, _, _, t3⟩ := K1.three6
  have K1 := Lib.hid K1
  have B1 := Lib.hid B1
  go_upto_region 6 with (go_at_call 28; (with_reducible refine (EX.out _ B1.out).mono ?_); rintro e w2 ⟨rfl, hb⟩; have B2 := Lib.hid (B1.out.trans (hb.mono B1.out.size)); have K2 := Lib.hid (K1.out.below hb K1.out.lt); have P2 := Lib.hid (HP.out.later B2.out); have R2 := Lib.hid (RS.out _ _ _ _ HR.out B2.out); clear hb)
  clear t0 t1 t2 t3
  have C2 := Lib.hid (CL.out w2 AP cP 0 (Nat.zero_le _) P2.out)
  exact (by
    go_upto_region 9 with (first
      | (go_at_call 63; (with_reducible refine (C2.out).mono ?_); rintro e w3 ⟨Y, d, rfl, hr, hb⟩; have B3 := Lib.hid (B2.out.trans (hb.mono B2.out.size)); have K3 := Lib.hid (K2.out.below hb K2.out.lt); have P3 := Lib.hid (P2.out.later hb); have R3 := Lib.hid (RS.out _ _ _ _ R2.out hb); have CC := Lib.hid (CB.out 0 S0 w3 Y d (Nat.zero_le _) R3.out hr); clear hr hb)
      | (with_reducible refine (CC.out).mono ?_; rintro e w4 ⟨rfl, S4, hr, hf⟩; have R4 := Lib.hid hr; have F4 := Lib.hid ((Fr.of_below (G := S0) B3.out).trans hf); have K4 := Lib.hid (hf.blk K3.out HNE.out); have N4 := Lib.hid (not_new hf HNE.out K3.out.lt); have P4 := Lib.hid (RD.out _ 0 _ _ _ _ _ (Nat.zero_le _) R3.out hf P3.out); clear hr hf))
    clear C2 EX K2 P2 R2 B2 K1 HR HP B3 K3 P3 R3 CC B1
    go_loopw [1, 10, 30] (fun pv bv iv wr => ∃ (i : Nat) (X : Option Addr) (c : Nat) (b : Bool) (S : Nat → Prop), i ≤ n ∧ pv = .slice X (P i).length c ∧ bv = .bool b ∧ iv = .int .i64 (i : Int) ∧ Hid (b = true → cls (nx0 (P i)) = P i) ∧ Hid (CReads wr wr.heap.size X (P i).length (fun j => (P i).getD j (0, 0, 0))) ∧ Hid (R (i + 1) S wr) ∧ Hid (¬ S w.heap.size) ∧ Hid (Fr S0 w S wr) ∧ Hid (Blk wr w.heap.size 25 #[.int .i64 st, .slice AH nh cH, .slice AN m cN])) (fun _ _ iv _ => n - (intOf iv).toNat)
    case atStart => exact ⟨0, AP, cP, false, S4, Nat.zero_le _, rfl, rfl, rfl, Lib.hid (fun h => absurd h (by decide)), P4, R4, N4, F4, K4⟩
    case round =>
      clear P4 R4 F4 K4 N4 HNE
      obtain ⟨i, X, c, b, S, hi, rfl, rfl, rfl, HS, HX, HRi, HNE, HF, HK⟩ := hrel
      by_cases hlt : i < n
      · have hiI : (i : Int) < (n : Int) := by omega
        cases b with
        | true =>
          have HST := Lib.hid (ST.out i hlt (HS.out rfl))
          have HST2 := Lib.hid (ST2.out i hlt HST.out)
          have C5 := Lib.hid (CL.out wr X c i (by omega) HX.out)
          have CBX := Lib.hid (fun W Y d (hr : R (i + 1) S W) (hc : CReads W W.heap.size Y (P i).length (fun j => (P i).getD j (0, 0, 0))) => show Calls Try.prog G (#[.slice Y (P i).length d] ++ cb) W fun e W' => e = .returned (.tuple #[]) ∧ ∃ S', R (i + 1 + 1) S' W' ∧ Fr S W S' W' from by
            have q := CB.out (i + 1) S W Y d (by omega) hr (by rw [HST.out]; exact hc)
            rw [HST.out] at q
            exact q)
          exact (by
            go_wp2_with (first
              | (go_at_call 63; (with_reducible refine (C5.out).mono ?_); rintro e w5 ⟨Y, d, rfl, hr, hb⟩; have X5 := Lib.hid (HX.out.later hb); have R5 := Lib.hid (RS.out _ _ _ _ HRi.out hb); have F5 := Lib.hid (HF.out.trans (Fr.of_below hb)); have K5 := Lib.hid (HK.out.below hb HK.out.lt); have CC := Lib.hid (CBX.out w5 Y d R5.out hr); clear hr hb)
              | (with_reducible refine (CC.out).mono ?_; rintro e w6 ⟨rfl, S6, hr, hf⟩; have R6 := Lib.hid hr; have N6 := Lib.hid (not_new hf HNE.out K5.out.lt); have X6 := Lib.hid (RD.out _ i _ _ _ _ _ (by omega) R5.out hf X5.out); have F6 := Lib.hid (F5.out.trans hf); have K6 := Lib.hid (hf.blk K5.out HNE.out); clear hr hf))
            go_roundw
            case rel => exact ⟨i + 1, X, c, true, S6, by omega, by rw [HST.out], rfl, by go_num, Lib.hid (fun _ => HST2.out), Lib.hid (by rw [HST.out]; exact X6.out), R6, N6, F6, K6⟩
            case measure => simp [intOf]; omega)
        | false =>
          have HBD := HF.out.below (B := D) (fun k hk => (HS0.out k hk).1) (by omega)
          have A5 := Lib.hid (AD.out wr X c i hlt HBD HX.out)
          clear HBD HS
          obtain ⟨t0, t1, t2, _, _, _, t3⟩ := HK.out.three6
          exact (by
            go_upto_region 14 with (go_at_call 29; (with_reducible refine (A5.out).mono ?_); rintro e w5 ⟨Y, d, rfl, hr, hb⟩; have X5 := Lib.hid (HX.out.later hb); have Y5 := Lib.hid hr; have R5 := Lib.hid (RS.out _ _ _ _ HRi.out hb); have F5 := Lib.hid (HF.out.trans (Fr.of_below hb)); have K5 := Lib.hid (HK.out.below hb HK.out.lt); clear hr hb)
            have S5 := Lib.hid (SA.out w5 X c Y d i hlt X5.out Y5.out)
            clear t0 t1 t2 t3 A5
            exact (by
              go_upto_region 16 with (go_at_call 64; (with_reducible refine (S5.out).mono ?_); rintro e w6 ⟨b2, rfl, hq, hb⟩; have HQ := Lib.hid hq; have Y6 := Lib.hid (Y5.out.later hb); have R6 := Lib.hid (RS.out _ _ _ _ R5.out hb); have F6 := Lib.hid (F5.out.trans (Fr.of_below hb)); have K6 := Lib.hid (K5.out.below hb K5.out.lt); clear hq hb)
              have C6 := Lib.hid (CL.out w6 Y d (i + 1) (by omega) Y6.out)
              exact (by
                go_wp2_with (first
                  | (go_at_call 63; (with_reducible refine (C6.out).mono ?_); rintro e w7 ⟨Z, d7, rfl, hr, hb⟩; have Y7 := Lib.hid (Y6.out.later hb); have R7 := Lib.hid (RS.out _ _ _ _ R6.out hb); have F7 := Lib.hid (F6.out.trans (Fr.of_below hb)); have K7 := Lib.hid (K6.out.below hb K6.out.lt); have CC := Lib.hid (CB.out (i + 1) S w7 Z d7 hlt R7.out hr); clear hr hb)
                  | (with_reducible refine (CC.out).mono ?_; rintro e w8 ⟨rfl, S8, hr, hf⟩; have R8 := Lib.hid hr; have N8 := Lib.hid (not_new hf HNE.out K7.out.lt); have X8 := Lib.hid (RD.out _ (i + 1) _ _ _ _ _ (by omega) R7.out hf Y7.out); have F8 := Lib.hid (F7.out.trans hf); have K8 := Lib.hid (hf.blk K7.out HNE.out); clear hr hf))
                go_roundw
                case rel => exact ⟨i + 1, Y, d, b2, S8, by omega, rfl, rfl, by go_num, Lib.hid (fun h => ST2.out i hlt (HQ.out h)), X8, R8, N8, F8, K8⟩
                case measure => simp [intOf]; omega)))
      · obtain rfl : i = n := by omega
        go_wp2
        go_ret
        exact ⟨rfl, S, HRi.out, HF.out⟩)
end
end Go.Proofs.Ytaicehkphokacaa
