/- The walk of the whole, awake's answer given: TabletreeRows. -/
/- The walks of the reference's all, Constant and Read at the examples. -/
import Derived.Test.YtcgkkppidkkjiaaGreatDoorMbd
import Derived.Test.YtcgkkppidkkjiaaGreatDoorMav
import Derived.Test.YtcgkkppidkkjiaaGreatDoorMbc
import Derived.Test.YtcgkkppidkkjiaaGreatDoorMaj
import Derived.Test.YtcgkkppidkkjiaaGreatDoorMat
namespace Go.Proofs.YtcgkkppidkkjiaaGreatDoor
open Go.RowKit

theorem z_or (x : Int) : x = 0 ∨ (x != 0) = true := by
  by_cases h : x = 0
  · exact .inl h
  · exact .inr (by rw [bne_iff_ne]; exact h)
theorem rr_cell {w w' : World} {g o n : Nat} {ri : Nat → List Int} {ro : Nat → Int} (h : RR w w.heap.size (some ⟨g, o, none⟩) n ri ro) (hb : Below w.heap.size w w') {k : Nat} (hk : k < n) : w'.cell? ⟨g, o + k * 2 + 1, none⟩ = some (.int .i64 (ro k)) := by
  obtain ⟨g', o', e, hg, hc⟩ := h.below hb (by omega)
  injection e with e
  injection e with e1 e2
  subst e1 e2
  obtain ⟨A', c', -, -, h3⟩ := hc k hk
  exact h3
section
variable (AH : Option Addr) (cH : Nat) (AV : Option Addr) (cV : Nat) (AR : Option Addr) (cR : Nat) (T : Tab) (AI : Option Addr) (q cI : Nat) (l : List Int) (w : World)
set_option maxRecDepth 100000 in
set_option maxHeartbeats 4000000 in
theorem law_any (AW : ∀ w', Below w.heap.size w w' → Calls Tryz.prog 5 #[] w' fun e w'' => e = .returned (.bool true) ∧ Below w'.heap.size w' w'') (hM : Mat w) (h : TR w AH AV AR T) (hb : Bd T) (hI : Reads w w.heap.size AI q (il l)) (hR : T.nr ≤ cR) :
    Calls Tryz.prog 3 #[.agg #[.int .i64 T.st, .int .i64 T.sy, .slice AH T.n cH, .slice AV T.nv cV, .slice AR T.nr cR], .slice AI q cI] w fun e w' => e = .returned (.bool true) ∧ Below w.heap.size w w' := by
  have AW := Lib.hid AW
  have TI := Lib.hid (fun w' (hb' : Below w.heap.size w w') => tiny_any AH cH AV cV AR cR T w' (h.later hb') (by have := hb.1; omega) (by have := hb.2.1; omega) (by have := hb.2.2.1; omega) hb.2.2.2.1 hb.2.2.2.2)
  have TA := Lib.hid (fun w' (hb' : Below w.heap.size w w') (hq : q ≤ 1000000) => tree_all AH cH AV cV AR cR T AI q cI l w' (hM.below hb' hM.1) (h.later hb') hb (hI.later hb') hq)
  obtain ⟨M, hMd⟩ : ∃ M : Nat → Bool, ∀ i, M i = (av T l (T.ri i) (T.ro i)).2 := ⟨_, fun _ => rfl⟩
  have VE : ∀ i, ((vr T i l : Nat) : Int) = if M i = true then 1 else 0 := fun i => by
    unfold vr
    rw [← hMd]
    split <;> rfl
  have NXF := Lib.hid (show ∀ k, k < T.nr → (∀ i, i < k → M i = false) → M k = true → ¬ T.ro k < 0 → nx T l = T.ro k from fun k hk hb h ho => by
    rw [nx_row hk (fun i hi => by rw [← hMd]; exact hb i hi) (by rw [← hMd]; exact h), av_out (by omega) (by rw [← hMd]; exact h)])
  have RW := Lib.hid (show ∀ w', Below w.heap.size w w' → Rt T → q = T.n → als T.st l = true → bs T.st ^ T.n ≤ 1024 → ∀ i, i < T.nr →
      Calls Tryz.prog 8 #[.agg #[.int .i64 T.st, .int .i64 T.sy, .slice AH T.n cH, .slice AV T.nv cV, .slice AR T.nr cR], .int .i64 (i : Int)] w' fun e w2 => ∃ (s : Int) (A1 : Option Addr) (n1 c1 : Nat) (A2 : Option Addr) (n2 c2 : Nat), e = .returned (.tuple #[.agg #[.int .i64 s, .slice A1 n1 c1, .slice A2 n2 c2], .int .i64 0]) ∧ Below w'.heap.size w' w2 ∧
      ∀ w'', Below w2.heap.size w2 w'' → Calls Tryz.prog 9 #[.agg #[.int .i64 s, .slice A1 n1 c1, .slice A2 n2 c2], .slice AI q cI] w'' fun e w3 => e = .returned (.int .i64 (if M i = true then 1 else 0)) ∧ Below w''.heap.size w'' w3 from fun w' hb' ht hqn ha hbs i hi => by
    subst hqn
    have := row_all AH cH AV cV AR cR T AI cI l i w' (hM.below hb' hM.1) (h.later hb') hb ht (hI.later hb') ha hi hR hbs
    simp only [VE] at this
    exact this)
  have HR := Lib.hid h.2.2
  have hnr := hb.2.2.1
  clear h hb hM hI hMd VE hR
  generalize Sm T = SMT at TI
  have TI := Lib.hid (fun w' (hb' : Below w.heap.size w w') => (TI.out w' hb').mono fun e w2 (h : BoolThat (bs T.st ^ T.n ≤ 1024 ∧ SMT) w' e w2) => show ∃ qq, e = .returned (.bool qq) ∧ (qq = true → bs T.st ^ T.n ≤ 1024) ∧ Below w'.heap.size w' w2 from by
    obtain ⟨qq, h1, h2, h3⟩ := h
    exact ⟨qq, h1, fun e => (h2 e).1, h3⟩)
  generalize nx T l = Y at TA NXF
  generalize (bs T.st ^ T.n ≤ 1024) = SMB at TI RW
  generalize Rt T = RTT at TA RW
  generalize als T.st l = AL at TA RW
  obtain ⟨st, ky, n, f, nv, v, nr, ri, ro⟩ := T
  simp only at *
  have B0 := (Below.refl w.heap.size w).alloc (Nat.le_refl _) (.cells #[.int .i64 st, .int .i64 ky, .slice AH n cH, .slice AV nv cV, .slice AR nr cR] 26)
  have K0 := Blk.new w 26 #[.int .i64 st, .int .i64 ky, .slice AH n cH, .slice AV nv cV, .slice AR nr cR]
  go_enter Tryz.func3, Tryz.ntmps3
  go_upto_region 1 with (fail)
  generalize w.alloc (.cells #[.int .i64 st, .int .i64 ky, .slice AH n cH, .slice AV nv cV, .slice AR nr cR] 26) = w0 at K0 B0 ⊢
  obtain ⟨t0, t1, t2, t3, t4, t5⟩ := K0.five
  have K0 := Lib.hid K0
  have B0 := Lib.hid B0
  by_cases hq : q ≤ 30
  · have d3 : decide (30 < (q : Int)) = false := by rw [decide_eq_false_iff_not]; omega
    have TAQ := Lib.hid (fun w' hb' => TA.out w' hb' (by omega))
    clear TA
    go_wp2_with (first
      | (go_at_call 4; (with_reducible refine (TI.out _ B0.out).mono ?_); rintro e w1 ⟨qq, rfl, hqq, hb⟩; have HS := Lib.hid hqq; have B1 := Lib.hid (B0.out.trans (hb.mono B0.out.size)); have K1 := Lib.hid (K0.out.below hb K0.out.lt); clear hqq hb t0 t1 t2 t3 t4 t5; obtain ⟨t0, t1, t2, t3, t4, t5⟩ := K1.out.five; cases qq)
      | (go_at_call 5; (with_reducible refine (AW.out _ (by first | exact B3.out | exact B1.out)).mono ?_); rintro e wz ⟨rfl, hb⟩; have BZ := Lib.hid (show Below w.heap.size w wz from by first | exact B3.out.trans (hb.mono B3.out.size) | exact B1.out.trans (hb.mono B1.out.size)); clear hb)
      | (go_at_call 6; (with_reducible refine (TAQ.out _ B1.out).mono ?_); rintro e w2 ⟨s, A1, n1, c1, A2, n2, c2, er, y, fe, rfl, hb, hev, hnx⟩; have B2 := Lib.hid (B1.out.trans (hb.mono B1.out.size)); have K2 := Lib.hid (K1.out.below hb K1.out.lt); have EV := Lib.hid hev; have HN := Lib.hid hnx; clear hb hev hnx t0 t1 t2 t3 t4 t5; obtain ⟨t0, t1, t2, t3, t4, t5⟩ := K2.out.five)
      | (go_at_call 7; (with_reducible refine (EV.out _ ((Below.refl _ _).alloc (Nat.le_refl _) _)).mono ?_); rintro e w3 ⟨rfl, hb⟩; have hb' := ((Below.refl w2.heap.size w2).alloc (Nat.le_refl _) (.cells #[.int .i64 s, .slice A1 n1 c1, .slice A2 n2 c2] 32)).trans (hb.mono (by simp)); have B3 := Lib.hid (B2.out.trans (hb'.mono B2.out.size)); have K3 := Lib.hid (K2.out.below hb' K2.out.lt); clear hb hb' t0 t1 t2 t3 t4 t5; obtain ⟨t0, t1, t2, t3, t4, t5⟩ := K3.out.five; rcases z_or er with rfl | f1 <;> rcases z_or fe with rfl | f2))
    all_goals try (go_ret; exact ⟨rfl, BZ.out⟩)
    obtain ⟨ht, hqn, ha, rfl⟩ := HN.out (by trivial) (by trivial)
    have hsm := HS.out (by trivial)
    have RX := Lib.hid (fun w' hb' i hi => RW.out w' hb' ht hqn ha hsm i hi)
    clear RW HN HS EV TI TAQ ht hqn ha hsm
    go_loopw [42] (fun iv wr => ∃ j : Nat, j ≤ nr ∧ iv = .int .i64 (j : Int) ∧ Hid (∀ i, i < j → M i = false) ∧ Hid (Below w3.heap.size w3 wr)) (fun iv _ => nr - (intOf iv).toNat)
    case atStart => exact ⟨0, Nat.zero_le _, rfl, Lib.hid (fun i hi => absurd hi (by omega)), Lib.hid (Below.refl _ _)⟩
    case round =>
      obtain ⟨j, hj, rfl, HF, HB⟩ := hrel
      have BB := Lib.hid (B3.out.trans (HB.out.mono B3.out.size))
      have KB := Lib.hid (K3.out.below HB.out K3.out.lt)
      clear t0 t1 t2 t3 t4 t5
      obtain ⟨t0, t1, t2, t3, t4, t5⟩ := KB.out.five
      by_cases hlt : j < nr
      · obtain ⟨g1, o1, rfl, -⟩ := HR.out (by omega)
        have HC := Lib.hid (fun w' (hb : Below w.heap.size w w') => rr_cell HR.out hb hlt)
        have RJ := RX.out wr BB.out j hlt
        have hjI : (j : Int) < (nr : Int) := by omega
        have hj0 : (0 : Int) ≤ (j : Int) := by omega
        cases hm : M j with
        | true =>
          simp only [hm, if_true] at RJ
          have RJ := Lib.hid RJ
          have HY := Lib.hid (NXF.out j hlt HF.out hm)
          clear RX NXF hm
          generalize ro j = x at HC HY
          by_cases hx : x < 0
          · have dx : decide (x < 0) = true := decide_eq_true hx
            clear HY
            go_wp2_with (first
              | (go_at_call 8; (with_reducible refine (RJ.out).mono ?_); rintro e w4 ⟨s', A1', n1', c1', A2', n2', c2', rfl, hb, hv⟩; have B4 := Lib.hid (BB.out.trans (hb.mono BB.out.size)); have K4 := Lib.hid (KB.out.below hb KB.out.lt); have VV := Lib.hid hv; clear hb hv t0 t1 t2 t3 t4 t5; obtain ⟨t0, t1, t2, t3, t4, t5⟩ := K4.out.five)
              | (go_at_call 9; (with_reducible refine (VV.out _ ((Below.refl _ _).alloc (Nat.le_refl _) _)).mono ?_); rintro e w5 ⟨rfl, hb⟩; have hb' := ((Below.refl w4.heap.size w4).alloc (Nat.le_refl _) (.cells #[.int .i64 s', .slice A1' n1' c1', .slice A2' n2' c2'] 32)).trans (hb.mono (by simp)); have B5 := Lib.hid (B4.out.trans (hb'.mono B4.out.size)); have K5 := Lib.hid (K4.out.below hb' K4.out.lt); clear hb hb' t0 t1 t2 t3 t4 t5; obtain ⟨t0, t1, t2, t3, t4, t5⟩ := K5.out.five; have hcx := HC.out _ B5.out)
              | (go_at_call 5; (with_reducible refine (AW.out _ B5.out).mono ?_); rintro e wz ⟨rfl, hb⟩; have BZ := Lib.hid (B5.out.trans (hb.mono B5.out.size)); clear hb))
            go_ret
            exact ⟨rfl, BZ.out⟩
          · have dx : decide (x < 0) = false := decide_eq_false hx
            have hY := HY.out (by omega)
            subst hY
            clear HY
            go_wp2_with (first
              | (go_at_call 8; (with_reducible refine (RJ.out).mono ?_); rintro e w4 ⟨s', A1', n1', c1', A2', n2', c2', rfl, hb, hv⟩; have B4 := Lib.hid (BB.out.trans (hb.mono BB.out.size)); have K4 := Lib.hid (KB.out.below hb KB.out.lt); have VV := Lib.hid hv; clear hb hv t0 t1 t2 t3 t4 t5; obtain ⟨t0, t1, t2, t3, t4, t5⟩ := K4.out.five)
              | (go_at_call 9; (with_reducible refine (VV.out _ ((Below.refl _ _).alloc (Nat.le_refl _) _)).mono ?_); rintro e w5 ⟨rfl, hb⟩; have hb' := ((Below.refl w4.heap.size w4).alloc (Nat.le_refl _) (.cells #[.int .i64 s', .slice A1' n1' c1', .slice A2' n2' c2'] 32)).trans (hb.mono (by simp)); have B5 := Lib.hid (B4.out.trans (hb'.mono B4.out.size)); have K5 := Lib.hid (K4.out.below hb' K4.out.lt); clear hb hb' t0 t1 t2 t3 t4 t5; obtain ⟨t0, t1, t2, t3, t4, t5⟩ := K5.out.five; have hcx := HC.out _ B5.out)
              | (go_at_call 5; (with_reducible refine (AW.out _ B5.out).mono ?_); rintro e wz ⟨rfl, hb⟩; have BZ := Lib.hid (B5.out.trans (hb.mono B5.out.size)); clear hb))
            go_ret
            exact ⟨rfl, BZ.out⟩
        | false =>
          simp only [hm, if_false, Bool.false_eq_true] at RJ
          have RJ := Lib.hid RJ
          have HF2 := Lib.hid (show ∀ i, i < j + 1 → M i = false from fun i hi => by
            by_cases e : i < j
            · exact HF.out i e
            · obtain rfl : i = j := by omega
              exact hm)
          clear RX NXF HC hm
          go_wp2_with (first
            | (go_at_call 8; (with_reducible refine (RJ.out).mono ?_); rintro e w4 ⟨s', A1', n1', c1', A2', n2', c2', rfl, hb, hv⟩; have B4 := Lib.hid (HB.out.trans (hb.mono HB.out.size)); have K4 := Lib.hid (KB.out.below hb KB.out.lt); have VV := Lib.hid hv; clear hb hv t0 t1 t2 t3 t4 t5; obtain ⟨t0, t1, t2, t3, t4, t5⟩ := K4.out.five)
            | (go_at_call 9; (with_reducible refine (VV.out _ ((Below.refl _ _).alloc (Nat.le_refl _) _)).mono ?_); rintro e w5 ⟨rfl, hb⟩; have hb' := ((Below.refl w4.heap.size w4).alloc (Nat.le_refl _) (.cells #[.int .i64 s', .slice A1' n1' c1', .slice A2' n2' c2'] 32)).trans (hb.mono (by simp)); have B5 := Lib.hid (B4.out.trans (hb'.mono B4.out.size)); clear hb hb'))
          go_roundw
          case rel => exact ⟨j + 1, by omega, by go_num, HF2, B5⟩
          case measure => simp [intOf]; omega
      · obtain rfl : j = nr := by omega
        go_wp2_with (go_at_call 5; (with_reducible refine (AW.out _ BB.out).mono ?_); rintro e wz ⟨rfl, hb⟩; have BZ := Lib.hid (BB.out.trans (hb.mono BB.out.size)); clear hb)
        go_ret
        exact ⟨rfl, BZ.out⟩
  · have d3 : decide (30 < (q : Int)) = true := by rw [decide_eq_true_iff]; omega
    clear TA RW NXF HR
    go_wp2_with (first
      | (go_at_call 4; (with_reducible refine (TI.out _ B0.out).mono ?_); rintro e w1 ⟨qq, rfl, hqq, hb⟩; have B1 := Lib.hid (B0.out.trans (hb.mono B0.out.size)); clear hqq hb; cases qq)
      | (go_at_call 5; (with_reducible refine (AW.out _ B1.out).mono ?_); rintro e wz ⟨rfl, hb⟩; have BZ := Lib.hid (B1.out.trans (hb.mono B1.out.size)); clear hb))
    all_goals
      go_ret
      exact ⟨rfl, BZ.out⟩
end
end Go.Proofs.YtcgkkppidkkjiaaGreatDoor
namespace Go.Proofs.YtcgkkppidkkjiaaGreatDoor
open Go.RowKit

theorem il_rep (x : Int) (j : Nat) : il (List.replicate j x) ++ [.int .i64 x] = il (List.replicate (j + 1) x) := by
  rw [← il_add, List.replicate_succ']
set_option maxRecDepth 100000 in
set_option maxHeartbeats 4000000 in
theorem rall_any (l x : Int) (S : Nat) (hS : S ≤ 8) (w : World) :
    Calls Tryz.prog 31 #[.int .i64 l, .int .i64 (S : Int), .int .i64 x] w fun e w' => ∃ A c, e = .returned (.agg #[.int .i64 l, .slice A S c]) ∧ w'.ownsRow w.heap.size 3 1 (.slice A S c) S (il (List.replicate S x)) ∧ Below w.heap.size w w' := by
  obtain ⟨i0, hi, hz0, hz1, hz2⟩ := info_parts Tryz.info_int
  have IL := Lib.hid (il_rep x)
  have K0 := (Blk.new w 66 #[.int .i64 0, .slice none 0 0]).alloc (.cells #[.int .i64 l, .slice none 0 0] 66)
  have K1 := Blk.new (w.alloc (.cells #[.int .i64 0, .slice none 0 0] 66)) 66 #[.int .i64 l, .slice none 0 0]
  rw [World.size_alloc] at K1
  have B0 := ((Below.refl w.heap.size w).alloc (Nat.le_refl _) (.cells #[.int .i64 0, .slice none 0 0] 66)).alloc (by simp) (.cells #[.int .i64 l, .slice none 0 0] 66)
  have s0 : ((w.alloc (.cells #[.int .i64 0, .slice none 0 0] 66)).alloc (.cells #[.int .i64 l, .slice none 0 0] 66)).heap.size = w.heap.size + 2 := by simp
  go_enter Tryz.func31, Tryz.ntmps31
  go_wp2_with fail
  generalize (w.alloc (.cells #[.int .i64 0, .slice none 0 0] 66)).alloc (.cells #[.int .i64 l, .slice none 0 0] 66) = w0 at *
  obtain ⟨g, hg⟩ : ∃ g, g = w.heap.size := ⟨_, rfl⟩
  rw [← hg] at K0 K1 B0 s0 ⊢
  have HG := Lib.hid hg
  clear hg
  have K0 := Lib.hid K0
  have K1 := Lib.hid K1
  have B0 := Lib.hid B0
  have O0 := Lib.hid (World.ownsRow_nil w0 (g + 2) 3 1)
  go_loopw [8] (fun iv wr => ∃ (j : Nat) (A : Option Addr) (c : Nat), j ≤ S ∧ iv = .int .i64 (j : Int) ∧ Hid (Blk wr (g + 1) 66 #[.int .i64 l, .slice A j c]) ∧ Hid (Blk wr g 66 #[.int .i64 0, .slice none 0 0]) ∧ Hid (wr.ownsRow (g + 2) 3 1 (.slice A j c) j (il (List.replicate j x))) ∧ Hid (Below g w wr) ∧ g + 2 ≤ wr.heap.size) (fun iv _ => S - (intOf iv).toNat)
  case atStart => exact ⟨0, none, 0, Nat.zero_le _, rfl, K1, K0, O0, B0, by omega⟩
  case round =>
    obtain ⟨j, A, c, hj, rfl, HK, HK0, HO, HB, hsz⟩ := hrel
    by_cases hlt : j < S
    · obtain ⟨a0, a1, a2, a3, a4⟩ := HK.out.two
      have ho := HO.out
      have hjI : (j : Int) < (S : Int) := by omega
      go_wp2_with (at_builtin; refine wpList_append1 rfl _ _ 27 rfl (g + 2) 3 i0 (.int .i64 0) 8 Tryz.underlying27 hi hz0 hz1 hz2 rfl A j c _ rfl ho (.int .i64 x) rfl rfl (by unfold maxLen; omega) (by omega) hsz ?_; intro g6 c6 w6 hown6 hbel6; have O6 := Lib.hid hown6; have B6 := Lib.hid hbel6; have K6 := Lib.hid (HK.out.below hbel6 (by omega)); have K60 := Lib.hid (HK0.out.below hbel6 (by omega)); clear hown6 hbel6 a0 a1 a2 a3 a4; obtain ⟨a0, a1, a2, a3, a4⟩ := K6.out.two)
      go_roundw
      case rel =>
        refine ⟨j + 1, some ⟨g6, 0, none⟩, c6, by omega, by go_num, Lib.hid (K6.out.set_ 1 _), Lib.hid (K60.out.far (by show g ≠ g + 1; omega) _), Lib.hid ?_, Lib.hid (Below.set1 (HB.out.trans (B6.out.mono (by omega))) (Nat.le_succ g) _), by have := B6.out.size; show g + 2 ≤ (w6.setCell _ _).heap.size; rw [World.size_setCell]; omega⟩
        have h := O6.out
        rw [IL.out] at h
        exact own_set h (fun e => by have := (h.lt _ e).1; simp only at this; omega) _
      case measure => simp [intOf]; omega
    · obtain rfl : j = S := by omega
      obtain ⟨a0, a1, a2, a3, a4⟩ := HK.out.two
      obtain ⟨b0, b1, b2, b3, b4⟩ := HK0.out.two
      go_wp2
      have h := HO.out
      have hne : (Value.slice A j c).ownBlock ≠ some g := fun e => by have := (h.lt _ e).1; omega
      have KZ : Blk ((wr.setCell ⟨g, 0, none⟩ (.int .i64 l)).setCell ⟨g, 1, none⟩ (.slice A j c)) g 66 #[.int .i64 l, .slice A j c] := by simpa using ((HK0.out.set_ 0 (.int .i64 l)).set_ 1 (.slice A j c))
      obtain ⟨y0, y1, y2, y3, y4⟩ := KZ.two
      have eg := HG.out
      subst eg
      have hR : ∃ A' c', Ending.returned (.agg #[.int .i64 l, .slice A j c]) = .returned (.agg #[.int .i64 l, .slice A' j c']) ∧ ((wr.setCell ⟨w.heap.size, 0, none⟩ (.int .i64 l)).setCell ⟨w.heap.size, 1, none⟩ (.slice A j c)).ownsRow w.heap.size 3 1 (.slice A' j c') j (il (List.replicate j x)) ∧ Below w.heap.size w ((wr.setCell ⟨w.heap.size, 0, none⟩ (.int .i64 l)).setCell ⟨w.heap.size, 1, none⟩ (.slice A j c)) :=
        ⟨A, c, rfl, own_base (own_set (own_set h hne _) hne _) (by omega), Below.set1 (Below.set1 HB.out (Nat.le_refl _) _) (Nat.le_refl _) _⟩
      exact bodyPost_ret (v := .agg #[.int .i64 l, .slice A j c]) (by simp [results, Tryz.results31, go_sem, y0, y1]) rfl hR
end Go.Proofs.YtcgkkppidkkjiaaGreatDoor
