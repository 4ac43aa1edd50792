/- Tree and Row as values: the reference's Eval and value at what they made. -/
/- The walk of the whole, awake's answer given: TabletreeRows. -/
import Derived.Test.YtcgkkppidkkjiaaGreatDoorMbk
import Derived.Test.YtcgkkppidkkjiaaGreatDoorMae
import Derived.Test.YtcgkkppidkkjiaaGreatDoorMag
namespace Go.Proofs.YtcgkkppidkkjiaaGreatDoor
open Go.RowKit

theorem tl_ts {w : World} {base n cI cN : Nat} {f : Nat → P2} {AI AN : Option Addr} {out : List (Int × List Int)} (h : TL w base n f AI cI AN cN out) (S : Nat) : TS w AI AN (trO S n f out) := ⟨QReads.of_own h.1, h.2.nr⟩
/-- the reference's Eval at a made tree -/
theorem reval_out {S n : Nat} {f : Nat → P2} {out : List (Int × List Int)} {F : List Int → Int} {AI : Option Addr} {cI : Nat} {AN : Option Addr} {cN base : Nat} {w : World} (hT : TL w base n f AI cI AN cN out) (h1 : 2 ≤ S) (h2 : S ≤ 8) (hd : Hd f n) (hg : Gd S n out) (hm1 : 1 ≤ out.length) (hm2 : out.length ≤ 4096) (hmn : Mn S out n F ((out.length : Int) - 1))
    (q : Nat) (A : Option Addr) (l : List Int) (w' : World) (hb : Below w.heap.size w w') (hI : Reads w' w'.heap.size A q (il l)) (hq : q ≤ 1000000) (c : Nat) :
    Calls Tryz.prog 7 #[.agg #[.int .i64 (S : Int), .slice AI n cI, .slice AN out.length cN], .slice A q c] w' fun e w'' => e = .returned (.tuple #[.int .i64 (ev (S : Int) n l (F l)).1, .int .i64 (ev (S : Int) n l (F l)).2]) ∧ Below w'.heap.size w' w'' := by
  have h := reval_any AI cI AN cN (trO S n f out) A c l w' q ((tl_ts hT S).later hb) (rtt_out h1 h2 hd hg hm1 hm2 hmn) hI hq
  have e := ev_out hm1 hmn l
  refine h.mono ?_
  rintro e' w'' ⟨rfl, hb'⟩
  refine ⟨?_, hb'⟩
  show Ending.returned (.tuple #[.int .i64 (ev (S : Int) n l (fo (nxO out) ((out.length - 1 : Nat) : Int) l)).1, .int .i64 (ev (S : Int) n l (fo (nxO out) ((out.length - 1 : Nat) : Int) l)).2]) = _
  rw [e]
/-- value at a made tree -/
theorem val_out {S n : Nat} {f : Nat → P2} {out : List (Int × List Int)} {F : List Int → Int} {AI : Option Addr} {cI : Nat} {AN : Option Addr} {cN base : Nat} {w : World} (hT : TL w base n f AI cI AN cN out) (h1 : 2 ≤ S) (h2 : S ≤ 8) (hd : Hd f n) (hg : Gd S n out) (hm1 : 1 ≤ out.length) (hm2 : out.length ≤ 4096) (hmn : Mn S out n F ((out.length : Int) - 1))
    (q : Nat) (A : Option Addr) (l : List Int) (w' : World) (hb : Below w.heap.size w w') (hI : Reads w' w'.heap.size A q (il l)) (hq : q ≤ 1000000) (c : Nat) :
    Calls Tryz.prog 9 #[.agg #[.int .i64 (S : Int), .slice AI n cI, .slice AN out.length cN], .slice A q c] w' fun e w'' => e = .returned (.int .i64 (vl (ev (S : Int) n l (F l)))) ∧ Below w'.heap.size w' w'' := by
  have h := val_any AI cI AN cN (trO S n f out) A c l w' q ((tl_ts hT S).later hb) (rtt_out h1 h2 hd hg hm1 hm2 hmn) hI hq
  have e := ev_out hm1 hmn l
  refine h.mono ?_
  rintro e' w'' ⟨rfl, hb'⟩
  refine ⟨?_, hb'⟩
  show Ending.returned (.int .i64 (vl (ev (S : Int) n l (fo (nxO out) ((out.length - 1 : Nat) : Int) l)))) = _
  rw [e]
/-- the reference's Eval at the empty tree -/
theorem reval_zero (A : Option Addr) (q c : Nat) (w : World) :
    Calls Tryz.prog 7 #[.agg #[.int .i64 0, .slice none 0 0, .slice none 0 0], .slice A q c] w fun e w' => e = .returned (.tuple #[.int .i64 0, .int .i64 11]) ∧ Below w.heap.size w w' := by
  have RR := Lib.hid (fun w' => (rr_any none 0 none 0 ⟨0, 0, fun _ => (0, 0), 0, fun _ => 0, fun _ => []⟩ w' ⟨fun h => absurd h (by decide), fun h => absurd h (by decide)⟩ ⟨by decide, by decide, fun k hk => absurd hk (Nat.not_lt_zero k)⟩).mono (fun e w'' (h : BoolThat _ w' e w'') => show e = .returned (.bool false) ∧ Below w'.heap.size w' w'' by
    obtain ⟨q, h1, h2, h3⟩ := h
    cases q with
    | false => exact ⟨h1, h3⟩
    | true => exact absurd (h2 rfl).s1 (by decide)))
  simp only at RR
  have B1 := Lib.hid (show Below w.heap.size w (w.alloc (.cells #[.int .i64 0, .slice none 0 0, .slice none 0 0] 32)) from (Below.refl _ _).alloc (Nat.le_refl _) _)
  have K1 := Lib.hid (Blk.new w 32 #[.int .i64 0, .slice none 0 0, .slice none 0 0])
  go_enter Tryz.func7, Tryz.ntmps7
  go_upto_region 1 with (fail)
  generalize w.alloc (.cells #[.int .i64 0, .slice none 0 0, .slice none 0 0] 32) = w0 at *
  obtain ⟨a0, a1, a2, a3⟩ := K1.out.three
  go_wp2_with (go_at_call 21; (with_reducible refine (RR.out _).mono ?_); rintro e w1 ⟨rfl, hb⟩; have B2 := Lib.hid (B1.out.trans (hb.mono B1.out.size)); clear hb)
  go_ret2
  exact ⟨rfl, B2.out⟩
/-- Tree in all cases -/
theorem tree_all (AH : Option Addr) (cH : Nat) (AV : Option Addr) (cV : Nat) (AR : Option Addr) (cR : Nat) (T : Tab) (AI : Option Addr) (q cI : Nat) (l : List Int) (w : World) (hM : Mat w) (h : TR w AH AV AR T) (hb : Bd T) (hI : Reads w w.heap.size AI q (il l)) (hq : q ≤ 1000000) :
    Calls Tryz.prog 6 #[.agg #[.int .i64 T.st, .int .i64 T.sy, .slice AH T.n cH, .slice AV T.nv cV, .slice AR T.nr cR]] w fun e w' => ∃ (s : Int) (A1 : Option Addr) (n1 c1 : Nat) (A2 : Option Addr) (n2 c2 : Nat) (er y fe : Int), e = .returned (.tuple #[.agg #[.int .i64 s, .slice A1 n1 c1, .slice A2 n2 c2], .int .i64 er]) ∧ Below w.heap.size w w' ∧
      (∀ w'', Below w'.heap.size w' w'' → Calls Tryz.prog 7 #[.agg #[.int .i64 s, .slice A1 n1 c1, .slice A2 n2 c2], .slice AI q cI] w'' fun e w3 => e = .returned (.tuple #[.int .i64 y, .int .i64 fe]) ∧ Below w''.heap.size w'' w3) ∧
      (er = 0 → fe = 0 → Rt T ∧ q = T.n ∧ als T.st l = true ∧ y = nx T l) := by
  by_cases ht : Rt T
  · have hs1 := ht.s1
    have hs2 := ht.s2
    obtain ⟨S, hS⟩ : ∃ S : Nat, T.st = (S : Int) := ⟨T.st.toNat, by omega⟩
    refine (tree_out S AH cH AV cV AR cR T w hM h hb ht hS).mono fun e w' hto => ?_
    rcases hto with ⟨er, h1, h2, h3⟩ | ⟨AI', cI', AN', cN', out, h1, h2, h3, h4, h5, h6, h7⟩
    · exact ⟨_, _, _, _, _, _, _, _, 0, 11, h1, h3, fun w'' _ => reval_zero AI q cI w'', fun e => absurd e h2.1⟩
    · have HL := reads_len hI
      refine ⟨_, _, _, _, _, _, _, _, (ev (S : Int) T.n l ((nx T l).toNat : Nat)).1, (ev (S : Int) T.n l ((nx T l).toNat : Nat)).2, h1, h7, fun w'' hb2 => ?_, fun _ hf => ?_⟩
      · exact reval_out h2 (by omega) (by omega) ht.hd h3 h4 h5 h6 q AI l w'' hb2 ((hI.later h7).later hb2) hq cI
      · unfold ev at hf ⊢
        split at hf
        · next hl =>
          split at hf
          · next ha =>
            rw [if_pos hl, if_pos ha]
            rw [hS]
            refine ⟨ht, by omega, ha, ?_⟩
            have := nx_st ht hl (by rw [hS]; exact ha)
            show (((nx T l).toNat : Nat) : Int) = nx T l
            omega
          · exact absurd hf (by decide)
        · exact absurd hf (by decide)
  · exact (tree_bad AH cH AV cV AR cR T w hM h hb ht).mono fun e w' h => ⟨_, _, _, _, _, _, _, _, 0, 11, h.1, h.2, fun w'' _ => reval_zero AI q cI w'', fun e => absurd e (by decide)⟩
/-- Row at a table with few neighbourhoods, and value at its tree -/
theorem row_all (AH : Option Addr) (cH : Nat) (AV : Option Addr) (cV : Nat) (AR : Option Addr) (cR : Nat) (T : Tab) (AI : Option Addr) (cI : Nat) (l : List Int) (i : Nat) (w : World) (hM : Mat w) (h : TR w AH AV AR T) (hb : Bd T) (ht : Rt T) (hI : Reads w w.heap.size AI T.n (il l)) (ha : als T.st l = true) (hi : i < T.nr) (hR : T.nr ≤ cR) (hbs : bs T.st ^ T.n ≤ 1024) :
    Calls Tryz.prog 8 #[.agg #[.int .i64 T.st, .int .i64 T.sy, .slice AH T.n cH, .slice AV T.nv cV, .slice AR T.nr cR], .int .i64 (i : Int)] w fun e w' => ∃ (s : Int) (A1 : Option Addr) (n1 c1 : Nat) (A2 : Option Addr) (n2 c2 : Nat), e = .returned (.tuple #[.agg #[.int .i64 s, .slice A1 n1 c1, .slice A2 n2 c2], .int .i64 0]) ∧ Below w.heap.size w w' ∧
      ∀ w'', Below w'.heap.size w' w'' → Calls Tryz.prog 9 #[.agg #[.int .i64 s, .slice A1 n1 c1, .slice A2 n2 c2], .slice AI T.n cI] w'' fun e w3 => e = .returned (.int .i64 ((vr T i l : Nat) : Int)) ∧ Below w''.heap.size w'' w3 := by
  have hs1 := ht.s1
  have hs2 := ht.s2
  obtain ⟨S, hS⟩ : ∃ S : Nat, T.st = (S : Int) := ⟨T.st.toNat, by omega⟩
  have hn2 := ht.hd.1.2
  refine (row_out S AH cH AV cV AR cR T i w hM h hb ht hS hi hR).mono fun e w' hto => ?_
  rcases hto with ⟨er, h1, h2, h3⟩ | ⟨AI', cI', AN', cN', out, h1, h2, h3, h4, h5, h6, h7⟩
  · have e1 : bs T.st = S := by
      unfold bs
      rw [hS, if_neg (by omega), if_neg (by omega)]
      rfl
    rw [e1] at hbs
    exact absurd h2.2 (by omega)
  · have HL := reads_len hI
    refine ⟨_, _, _, _, _, _, _, h1, h7, fun w'' hb2 => ?_⟩
    refine (val_out h2 (by omega) (by omega) ht.hd h3 h4 h5 h6 T.n AI l w'' hb2 ((hI.later h7).later hb2) (by omega) cI).mono fun e w3 h => ?_
    obtain ⟨rfl, hb3⟩ := h
    refine ⟨?_, hb3⟩
    rw [ev, if_pos HL, if_pos (by rw [← hS]; exact ha)]
    rfl
end Go.Proofs.YtcgkkppidkkjiaaGreatDoor
namespace Go.Proofs.YtcgkkppidkkjiaaGreatDoor
open Go.RowKit

theorem z_or (x : Int) : x = 0 ∨ (x != 0) = true := by
  by_cases h : x = 0
  · exact .inl h
  · exact .inr (by rw [bne_iff_ne]; exact h)
theorem rr_cell {w w' : World} {g o n : Nat} {ri : Nat → List Int} {ro : Nat → Int} (h : RR w w.heap.size (some ⟨g, o, none⟩) n ri ro) (hb : Below w.heap.size w w') {k : Nat} (hk : k < n) : w'.cell? ⟨g, o + k * 2 + 1, none⟩ = some (.int .i64 (ro k)) := by
  obtain ⟨g', o', e, hg, hc⟩ := h.below hb (by omega)
  injection e with e
  injection e with e1 e2
  subst e1 e2
  obtain ⟨A', c', -, -, h3⟩ := hc k hk
  exact h3
section
variable (AH : Option Addr) (cH : Nat) (AV : Option Addr) (cV : Nat) (AR : Option Addr) (cR : Nat) (T : Tab) (AI : Option Addr) (q cI : Nat) (l : List Int) (w : World)
set_option maxRecDepth 100000 in
set_option maxHeartbeats 4000000 in
theorem law_any (AW : ∀ w', Below w.heap.size w w' → Calls Tryz.prog 5 #[] w' fun e w'' => e = .returned (.bool true) ∧ Below w'.heap.size w' w'') (hM : Mat w) (h : TR w AH AV AR T) (hb : Bd T) (hI : Reads w w.heap.size AI q (il l)) (hR : T.nr ≤ cR) :
    Calls Tryz.prog 3 #[.agg #[.int .i64 T.st, .int .i64 T.sy, .slice AH T.n cH, .slice AV T.nv cV, .slice AR T.nr cR], .slice AI q cI] w fun e w' => e = .returned (.bool true) ∧ Below w.heap.size w w' := by
  have AW := Lib.hid AW
  have TI := Lib.hid (fun w' (hb' : Below w.heap.size w w') => tiny_any AH cH AV cV AR cR T w' (h.later hb') (by have := hb.1; omega) (by have := hb.2.1; omega) (by have := hb.2.2.1; omega) hb.2.2.2.1 hb.2.2.2.2)
  have TA := Lib.hid (fun w' (hb' : Below w.heap.size w w') (hq : q ≤ 1000000) => tree_all AH cH AV cV AR cR T AI q cI l w' (hM.below hb' hM.1) (h.later hb') hb (hI.later hb') hq)
  obtain ⟨M, hMd⟩ : ∃ M : Nat → Bool, ∀ i, M i = (av T l (T.ri i) (T.ro i)).2 := ⟨_, fun _ => rfl⟩
  have VE : ∀ i, ((vr T i l : Nat) : Int) = if M i = true then 1 else 0 := fun i => by
    unfold vr
    rw [← hMd]
    split <;> rfl
  have NXF := Lib.hid (show ∀ k, k < T.nr → (∀ i, i < k → M i = false) → M k = true → ¬ T.ro k < 0 → nx T l = T.ro k from fun k hk hb h ho => by
    rw [nx_row hk (fun i hi => by rw [← hMd]; exact hb i hi) (by rw [← hMd]; exact h), av_out (by omega) (by rw [← hMd]; exact h)])
  have RW := Lib.hid (show ∀ w', Below w.heap.size w w' → Rt T → q = T.n → als T.st l = true → bs T.st ^ T.n ≤ 1024 → ∀ i, i < T.nr →
      Calls Tryz.prog 8 #[.agg #[.int .i64 T.st, .int .i64 T.sy, .slice AH T.n cH, .slice AV T.nv cV, .slice AR T.nr cR], .int .i64 (i : Int)] w' fun e w2 => ∃ (s : Int) (A1 : Option Addr) (n1 c1 : Nat) (A2 : Option Addr) (n2 c2 : Nat), e = .returned (.tuple #[.agg #[.int .i64 s, .slice A1 n1 c1, .slice A2 n2 c2], .int .i64 0]) ∧ Below w'.heap.size w' w2 ∧
      ∀ w'', Below w2.heap.size w2 w'' → Calls Tryz.prog 9 #[.agg #[.int .i64 s, .slice A1 n1 c1, .slice A2 n2 c2], .slice AI q cI] w'' fun e w3 => e = .returned (.int .i64 (if M i = true then 1 else 0)) ∧ Below w''.heap.size w'' w3 from fun w' hb' ht hqn ha hbs i hi => by
    subst hqn
    have := row_all AH cH AV cV AR cR T AI cI l i w' (hM.below hb' hM.1) (h.later hb') hb ht (hI.later hb') ha hi hR hbs
    simp only [VE] at this
    exact this)
  have HR := Lib.hid h.2.2
  have hnr := hb.2.2.1
  clear h hb hM hI hMd VE hR
  generalize Sm T = SMT at TI
  have TI := Lib.hid (fun w' (hb' : Below w.heap.size w w') => (TI.out w' hb').mono fun e w2 (h : BoolThat (bs T.st ^ T.n ≤ 1024 ∧ SMT) w' e w2) => show ∃ qq, e = .returned (.bool qq) ∧ (qq = true → bs T.st ^ T.n ≤ 1024) ∧ Below w'.heap.size w' w2 from by
    obtain ⟨qq, h1, h2, h3⟩ := h
    exact ⟨qq, h1, fun e => (h2 e).1, h3⟩)
  generalize nx T l = Y at TA NXF
  generalize (bs T.st ^ T.n ≤ 1024) = SMB at TI RW
  generalize Rt T = RTT at TA RW
  generalize als T.st l = AL at TA RW
  obtain ⟨st, ky, n, f, nv, v, nr, ri, ro⟩ := T
  simp only at *
  have B0 := (Below.refl w.heap.size w).alloc (Nat.le_refl _) (.cells #[.int .i64 st, .int .i64 ky, .slice AH n cH, .slice AV nv cV, .slice AR nr cR] 26)
  have K0 := Blk.new w 26 #[.int .i64 st, .int .i64 ky, .slice AH n cH, .slice AV nv cV, .slice AR nr cR]
  go_enter Tryz.func3, Tryz.ntmps3
  go_upto_region 1 with (fail)
  generalize w.alloc (.cells #[.int .i64 st, .int .i64 ky, .slice AH n cH, .slice AV nv cV, .slice AR nr cR] 26) = w0 at K0 B0 ⊢
  obtain ⟨t0, t1, t2, t3, t4, t5⟩ := K0.five
  have K0 := Lib.hid K0
  have B0 := Lib.hid B0
  by_cases hq : q ≤ 30
  · have d3 : decide (30 < (q : Int)) = false := by rw [decide_eq_false_iff_not]; omega
    have TAQ := Lib.hid (fun w' hb' => TA.out w' hb' (by omega))
    clear TA
    go_wp2_with (first
      | (go_at_call 4; (with_reducible refine (TI.out _ B0.out).mono ?_); rintro e w1 ⟨qq, rfl, hqq, hb⟩; have HS := Lib.hid hqq; have B1 := Lib.hid (B0.out.trans (hb.mono B0.out.size)); have K1 := Lib.hid (K0.out.below hb K0.out.lt); clear hqq hb t0 t1 t2 t3 t4 t5; obtain ⟨t0, t1, t2, t3, t4, t5⟩ := K1.out.five; cases qq)
      | (go_at_call 5; (with_reducible refine (AW.out _ (by first | exact B3.out | exact B1.out)).mono ?_); rintro e wz ⟨rfl, hb⟩; have BZ := Lib.hid (show Below w.heap.size w wz from by first | exact B3.out.trans (hb.mono B3.out.size) | exact B1.out.trans (hb.mono B1.out.size)); clear hb)
      | (go_at_call 6; (with_reducible refine (TAQ.out _ B1.out).mono ?_); rintro e w2 ⟨s, A1, n1, c1, A2, n2, c2, er, y, fe, rfl, hb, hev, hnx⟩; have B2 := Lib.hid (B1.out.trans (hb.mono B1.out.size)); have K2 := Lib.hid (K1.out.below hb K1.out.lt); have EV := Lib.hid hev; have HN := Lib.hid hnx; clear hb hev hnx t0 t1 t2 t3 t4 t5; obtain ⟨t0, t1, t2, t3, t4, t5⟩ := K2.out.five)
      | (go_at_call 7; (with_reducible refine (EV.out _ ((Below.refl _ _).alloc (Nat.le_refl _) _)).mono ?_); rintro e w3 ⟨rfl, hb⟩; have hb' := ((Below.refl w2.heap.size w2).alloc (Nat.le_refl _) (.cells #[.int .i64 s, .slice A1 n1 c1, .slice A2 n2 c2] 32)).trans (hb.mono (by simp)); have B3 := Lib.hid (B2.out.trans (hb'.mono B2.out.size)); have K3 := Lib.hid (K2.out.below hb' K2.out.lt); clear hb hb' t0 t1 t2 t3 t4 t5; obtain ⟨t0, t1, t2, t3, t4, t5⟩ := K3.out.five; rcases z_or er with rfl | f1 <;> rcases z_or fe with rfl | f2))
    all_goals try (go_ret; exact ⟨rfl, BZ.out⟩)
    obtain ⟨ht, hqn, ha, rfl⟩ := HN.out (by trivial) (by trivial)
    have hsm := HS.out (by trivial)
    have RX := Lib.hid (fun w' hb' i hi => RW.out w' hb' ht hqn ha hsm i hi)
    clear RW HN HS EV TI TAQ ht hqn ha hsm
    go_loopw [42] (fun iv wr => ∃ j : Nat, j ≤ nr ∧ iv = .int .i64 (j : Int) ∧ Hid (∀ i, i < j → M i = false) ∧ Hid (Below w3.heap.size w3 wr)) (fun iv _ => nr - (intOf iv).toNat)
    case atStart => exact ⟨0, Nat.zero_le _, rfl, Lib.hid (fun i hi => absurd hi (by omega)), Lib.hid (Below.refl _ _)⟩
    case round =>
      obtain ⟨j, hj, rfl, HF, HB⟩ := hrel
      have BB := Lib.hid (B3.out.trans (HB.out.mono B3.out.size))
      have KB := Lib.hid (K3.out.below HB.out K3.out.lt)
      clear t0 t1 t2 t3 t4 t5
      obtain ⟨t0, t1, t2, t3, t4, t5⟩ := KB.out.five
      by_cases hlt : j < nr
      · obtain ⟨g1, o1, rfl, -⟩ := HR.out (by omega)
        have HC := Lib.hid (fun w' (hb : Below w.heap.size w w') => rr_cell HR.out hb hlt)
        have RJ := RX.out wr BB.out j hlt
        have hjI : (j : Int) < (nr : Int) := by omega
        have hj0 : (0 : Int) ≤ (j : Int) := by omega
        cases hm : M j with
        | true =>
          simp only [hm, if_true] at RJ
          have RJ := Lib.hid RJ
          have HY := Lib.hid (NXF.out j hlt HF.out hm)
          clear RX NXF hm
          generalize ro j = x at HC HY
          by_cases hx : x < 0
          · have dx : decide (x < 0) = true := decide_eq_true hx
            clear HY
            go_wp2_with (first
              | (go_at_call 8; (with_reducible refine (RJ.out).mono ?_); rintro e w4 ⟨s', A1', n1', c1', A2', n2', c2', rfl, hb, hv⟩; have B4 := Lib.hid (BB.out.trans (hb.mono BB.out.size)); have K4 := Lib.hid (KB.out.below hb KB.out.lt); have VV := Lib.hid hv; clear hb hv t0 t1 t2 t3 t4 t5; obtain ⟨t0, t1, t2, t3, t4, t5⟩ := K4.out.five)
              | (go_at_call 9; (with_reducible refine (VV.out _ ((Below.refl _ _).alloc (Nat.le_refl _) _)).mono ?_); rintro e w5 ⟨rfl, hb⟩; have hb' := ((Below.refl w4.heap.size w4).alloc (Nat.le_refl _) (.cells #[.int .i64 s', .slice A1' n1' c1', .slice A2' n2' c2'] 32)).trans (hb.mono (by simp)); have B5 := Lib.hid (B4.out.trans (hb'.mono B4.out.size)); have K5 := Lib.hid (K4.out.below hb' K4.out.lt); clear hb hb' t0 t1 t2 t3 t4 t5; obtain ⟨t0, t1, t2, t3, t4, t5⟩ := K5.out.five; have hcx := HC.out _ B5.out)
              | (go_at_call 5; (with_reducible refine (AW.out _ B5.out).mono ?_); rintro e wz ⟨rfl, hb⟩; have BZ := Lib.hid (B5.out.trans (hb.mono B5.out.size)); clear hb))
            go_ret
            exact ⟨rfl, BZ.out⟩
          · have dx : decide (x < 0) = false := decide_eq_false hx
            have hY := HY.out (by omega)
            subst hY
            clear HY
            go_wp2_with (first
              | (go_at_call 8; (with_reducible refine (RJ.out).mono ?_); rintro e w4 ⟨s', A1', n1', c1', A2', n2', c2', rfl, hb, hv⟩; have B4 := Lib.hid (BB.out.trans (hb.mono BB.out.size)); have K4 := Lib.hid (KB.out.below hb KB.out.lt); have VV := Lib.hid hv; clear hb hv t0 t1 t2 t3 t4 t5; obtain ⟨t0, t1, t2, t3, t4, t5⟩ := K4.out.five)
              | (go_at_call 9; (with_reducible refine (VV.out _ ((Below.refl _ _).alloc (Nat.le_refl _) _)).mono ?_); rintro e w5 ⟨rfl, hb⟩; have hb' := ((Below.refl w4.heap.size w4).alloc (Nat.le_refl _) (.cells #[.int .i64 s', .slice A1' n1' c1', .slice A2' n2' c2'] 32)).trans (hb.mono (by simp)); have B5 := Lib.hid (B4.out.trans (hb'.mono B4.out.size)); have K5 := Lib.hid (K4.out.below hb' K4.out.lt); clear hb hb' t0 t1 t2 t3 t4 t5; obtain ⟨t0, t1, t2, t3, t4, t5⟩ := K5.out.five; have hcx := HC.out _ B5.out)
              | (go_at_call 5; (with_reducible refine (AW.out _ B5.out).mono ?_); rintro e wz ⟨rfl, hb⟩; have BZ := Lib.hid (B5.out.trans (hb.mono B5.out.size)); clear hb))
            go_ret
            exact ⟨rfl, BZ.out⟩
        | false =>
          simp only [hm, if_false, Bool.false_eq_true] at RJ
          have RJ := Lib.hid RJ
          have HF2 := Lib.hid (show ∀ i, i < j + 1 → M i = false from fun i hi => by
            by_cases e : i < j
            · exact HF.out i e
            · obtain rfl : i = j := by omega
              exact hm)
          clear RX NXF HC hm
          go_wp2_with (first
            | (go_at_call 8; (with_reducible refine (RJ.out).mono ?_); rintro e w4 ⟨s', A1', n1', c1', A2', n2', c2', rfl, hb, hv⟩; have B4 := Lib.hid (HB.out.trans (hb.mono HB.out.size)); have K4 := Lib.hid (KB.out.below hb KB.out.lt); have VV := Lib.hid hv; clear hb hv t0 t1 t2 t3 t4 t5; obtain ⟨t0, t1, t2, t3, t4, t5⟩ := K4.out.five)
            | (go_at_call 9; (with_reducible refine (VV.out _ ((Below.refl _ _).alloc (Nat.le_refl _) _)).mono ?_); rintro e w5 ⟨rfl, hb⟩; have hb' := ((Below.refl w4.heap.size w4).alloc (Nat.le_refl _) (.cells #[.int .i64 s', .slice A1' n1' c1', .slice A2' n2' c2'] 32)).trans (hb.mono (by simp)); have B5 := Lib.hid (B4.out.trans (hb'.mono B4.out.size)); clear hb hb'))
          go_roundw
          case rel => exact ⟨j + 1, by omega, by go_num, HF2, B5⟩
          case measure => simp [intOf]; omega
      · obtain rfl : j = nr := by omega
        go_wp2_with (go_at_call 5; (with_reducible refine (AW.out _ BB.out).mono ?_); rintro e wz ⟨rfl, hb⟩; have BZ := Lib.hid (BB.out.trans (hb.mono BB.out.size)); clear hb)
        go_ret
        exact ⟨rfl, BZ.out⟩
  · have d3 : decide (30 < (q : Int)) = true := by rw [decide_eq_true_iff]; omega
    clear TA RW NXF HR
    go_wp2_with (first
      | (go_at_call 4; (with_reducible refine (TI.out _ B0.out).mono ?_); rintro e w1 ⟨qq, rfl, hqq, hb⟩; have B1 := Lib.hid (B0.out.trans (hb.mono B0.out.size)); clear hqq hb; cases qq)
      | (go_at_call 5; (with_reducible refine (AW.out _ B1.out).mono ?_); rintro e wz ⟨rfl, hb⟩; have BZ := Lib.hid (B1.out.trans (hb.mono B1.out.size)); clear hb))
    all_goals
      go_ret
      exact ⟨rfl, BZ.out⟩
end
end Go.Proofs.YtcgkkppidkkjiaaGreatDoor
