/- The walks of the reference's Value and Eval at valid trees; value. -/
/- The walk of tiny: a table with few neighbourhoods, and what it says of the numbers. -/
/- Tree and Row as values: the reference's Eval and value at what they made. -/
import Derived.Test.YtcgkkppidkkjiaaGreatDoorMbc
import Derived.Test.YtcgkkppidkkjiaaGreatDoorMad
import Derived.Test.YtcgkkppidkkjiaaGreatDoorMaz
import Derived.Test.YtcgkkppidkkjiaaGreatDoorMbb
namespace Go.Proofs.YtcgkkppidkkjiaaGreatDoor
open Go.RowKit

section
variable (AH : Option Addr) (cH : Nat) (AN : Option Addr) (cN : Nat) (T : Tr) (AI : Option Addr) (cI : Nat) (l : List Int) (w : World)
set_option maxRecDepth 100000 in
set_option maxHeartbeats 4000000 in
theorem rvalue_any (h : NR w w.heap.size AN T.m T.lv T.nx) (ht : Rtt T) (hI : Reads w w.heap.size AI T.n (il l)) (ha : als T.st l = true) :
    Calls Tryz.prog 22 #[.agg #[.int .i64 T.st, .slice AH T.n cH, .slice AN T.m cN], .slice AI T.n cI] w fun e w' => e = .returned (.int .i64 (fo T.nx ((T.m - 1 : Nat) : Int) l)) ∧ Below w.heap.size w w' := by
  have HT := Lib.hid ht.nd
  have TP := Lib.hid ht.top
  have s1 := ht.s1
  have m1 := ht.m1
  have m2 := ht.m2
  have n2 := ht.hd.1.2
  have n1 := ht.hd.1.1
  have HL := Lib.hid (reads_len hI)
  have HA := Lib.hid ((als_iff _ _).1 ha)
  clear ht ha
  obtain ⟨st, n, f, m, lv, nx⟩ := T
  simp only at *
  have K1 := Blk.new w 32 #[.int .i64 st, .slice AH n cH, .slice AN m cN]
  have B1 : Below w.heap.size w (w.alloc (.cells #[.int .i64 st, .slice AH n cH, .slice AN m cN] 32)) := (Below.refl _ _).alloc (Nat.le_refl _) _
  have HN := Lib.hid h
  have HI := Lib.hid hI
  obtain ⟨i, rfl⟩ : ∃ i, m = i + 1 := ⟨m - 1, by omega⟩
  have e1 : i + 1 - 1 = i := by omega
  rw [e1] at TP ⊢
  clear h hI e1
  have hw1 : IntKind.i64.wrap (((i + 1 : Nat) : Int) - 1) = (i : Int) := by rw [show ((i + 1 : Nat) : Int) - 1 = (i : Int) by omega]; exact IntWalk.i64_in _ (by omega)
  obtain ⟨V, hV⟩ : ∃ V, V = fo nx (i : Int) l := ⟨_, rfl⟩
  rw [← hV]
  have HV := Lib.hid hV
  clear hV
  go_enter Tryz.func22, Tryz.ntmps22
  go_wp2_with fail
  generalize w.alloc (.cells #[.int .i64 st, .slice AH n cH, .slice AN (i + 1) cN] 32) = w0 at *
  obtain ⟨a0, a1, a2, a3⟩ := K1.three
  have B1 := Lib.hid B1
  have K1 := Lib.hid K1
  go_wp2
  go_loopw [5, 6] (fun kv jv wr => ∃ (j : Nat) (k : Int), j ≤ n ∧ jv = .int .i64 (j : Int) ∧ kv = .int .i64 k ∧ Hid (fo nx k (l.drop j) = V) ∧ Hid (j < n → 0 ≤ k ∧ k < (i : Int) + 1 ∧ lv k.toNat = (n : Int) - (j : Int)) ∧ Hid (Below w0.heap.size w0 wr)) (fun _ jv _ => n - (intOf jv).toNat)
  case atStart => exact ⟨0, i, Nat.zero_le _, rfl, by first | rfl | (congr 1; omega) | simp, Lib.hid HV.out.symm, Lib.hid (fun _ => ⟨by omega, by omega, by rw [Int.toNat_natCast, TP.out]; omega⟩), Lib.hid (Below.refl _ _)⟩
  case round =>
    obtain ⟨j, k, hj, rfl, rfl, HFO, HK, HB⟩ := hrel
    have BB := Lib.hid (B1.out.trans (HB.out.mono B1.out.size))
    have K2 := Lib.hid (K1.out.below HB.out K1.out.lt)
    clear a0 a1 a2 a3
    obtain ⟨a0, a1, a2, a3⟩ := K2.out.three
    by_cases hlt : j < n
    · obtain ⟨k1, k2, k3⟩ := HK.out hlt
      obtain ⟨kn, rfl⟩ : ∃ kn : Nat, k = (kn : Int) := ⟨k.toNat, by omega⟩
      have hkm : kn < i + 1 := by omega
      rw [Int.toNat_natCast] at k3
      obtain ⟨ad, rfl, hb, hx⟩ := il_at (HI.out.below BB.out) hlt
      obtain ⟨t1, t2⟩ := HA.out j (by rw [HL.out]; exact hlt)
      have hfo := HFO.out
      rw [fo_step nx kn (by rw [HL.out]; exact hlt)] at hfo
      obtain ⟨sn, hs⟩ : ∃ sn : Nat, ig l j = (sn : Int) := ⟨(ig l j).toNat, by omega⟩
      rw [hs] at hx t1 t2 hfo
      rw [Int.toNat_natCast, Int.toNat_natCast] at hfo
      obtain ⟨g1, o1, rfl, hb1, hc⟩ := HN.out.below BB.out (by omega)
      obtain ⟨A', c', y1, y2, hr⟩ := hc kn hkm
      obtain ⟨b1, b2, b3, b4⟩ := HT.out kn hkm
      have hsn : sn < (nx kn).length := by omega
      obtain ⟨ad2, rfl, hb2, hx2⟩ := il_at hr hsn
      have b5 := b4 sn hsn
      generalize (nx kn).length = S at y2 hsn
      obtain ⟨k', hk'⟩ : ∃ k', k' = ig (nx kn) sn := ⟨_, rfl⟩
      rw [← hk'] at hx2 hfo b5
      have HE := Lib.hid (show j + 1 < n → 0 ≤ k' ∧ k' < (i : Int) + 1 ∧ lv k'.toNat = (n : Int) - ((j + 1 : Nat) : Int) from fun hjn => by
        obtain ⟨p1, _, p3⟩ := b5
        obtain ⟨p4, p5⟩ := p3 (by omega)
        exact ⟨p1, by omega, by rw [p5, k3]; omega⟩)
      have HF := Lib.hid hfo
      have hknI : (kn : Int) < ((i + 1 : Nat) : Int) := by omega
      have hknI2 : (kn : Int) < (i : Int) + 1 := by omega
      have hsI : (sn : Int) < (S : Int) := by omega
      clear hfo hk' b1 b2 b3 b4 b5 hc hr y1 k1 k2 k3 hs t1 t2
      go_wp2_with fail
      go_quiet (fail)
      go_wp2
      go_roundw
      case rel => exact ⟨j + 1, k', by omega, by go_num, rfl, HF, HE, Lib.hid (below_drewN HB.out _)⟩
      case measure => simp [intOf]; omega
    · obtain rfl : j = n := by omega
      have hfo := HFO.out
      have hfo : k = V := by rw [List.drop_eq_nil_of_le (by rw [HL.out]; omega)] at hfo; exact hfo
      subst hfo
      go_wp2
      go_ret
      exact ⟨rfl, BB.out⟩
set_option maxRecDepth 100000 in
set_option maxHeartbeats 4000000 in
theorem reval_any (q : Nat) (h : TS w AH AN T) (ht : Rtt T) (hI : Reads w w.heap.size AI q (il l)) (hq : q ≤ 1000000) :
    Calls Tryz.prog 7 #[.agg #[.int .i64 T.st, .slice AH T.n cH, .slice AN T.m cN], .slice AI q cI] w fun e w' => e = .returned (.tuple #[.int .i64 (ev T.st T.n l (fo T.nx ((T.m - 1 : Nat) : Int) l)).1, .int .i64 (ev T.st T.n l (fo T.nx ((T.m - 1 : Nat) : Int) l)).2]) ∧ Below w.heap.size w w' := by
  have RI := Lib.hid (fun w' (hb : Below w.heap.size w w') => rr_yes AH cH AN cN T w' (h.later hb) ht)
  have HL := Lib.hid (reads_len hI)
  have n2 := ht.hd.1.2
  have FO := Lib.hid (fun w' (hb : Below w.heap.size w w') (hr : Reads w' w'.heap.size AI T.n (il l)) ha => rvalue_any AH cH AN cN T AI cI l w' (h.2.later hb) ht hr ha)
  have HI := Lib.hid (fun w' (hb : Below w.heap.size w w') => hI.later hb)
  clear h ht hI
  obtain ⟨st, n, f, m, lv, nx⟩ := T
  simp only at *
  generalize fo nx ((m - 1 : Nat) : Int) l = V at FO ⊢
  have K1 := Lib.hid (Blk.new w 32 #[.int .i64 st, .slice AH n cH, .slice AN m cN])
  have B1 := Lib.hid (show Below w.heap.size w (w.alloc (.cells #[.int .i64 st, .slice AH n cH, .slice AN m cN] 32)) from (Below.refl _ _).alloc (Nat.le_refl _) _)
  by_cases hqn : q = n
  · subst hqn
    have HEV := Lib.hid (show ev st q l V = if als st l = true then (V, 0) else (0, 10) from by rw [ev, if_pos HL.out])
    have AI1 := Lib.hid (als_iff st l)
    generalize ev st q l V = E at HEV ⊢
    have f3 : ((q : Int) != (q : Int)) = false := by rw [bne_eq_false_iff_eq]
    go_enter Tryz.func7, Tryz.ntmps7
    go_upto_region 1 with (fail)
    generalize w.alloc (.cells #[.int .i64 st, .slice AH q cH, .slice AN m cN] 32) = w0 at *
    obtain ⟨a0, a1, a2, a3⟩ := K1.out.three
    go_wp2_with (go_at_call 21; (with_reducible refine (RI.out _ B1.out).mono ?_); rintro e w1 ⟨rfl, hb⟩; have B2 := Lib.hid (B1.out.trans (hb.mono B1.out.size)); have K2 := Lib.hid (K1.out.below hb K1.out.lt); obtain ⟨b0, b1, b2, b3⟩ := K2.out.three; clear hb)
    clear a0 a1 a2 a3
    go_loopw [6] (fun iv wr => ∃ j : Nat, j ≤ q ∧ iv = .int .i64 (j : Int) ∧ Hid (∀ i, i < j → 0 ≤ ig l i ∧ ig l i < st) ∧ Hid (Below w1.heap.size w1 wr)) (fun iv _ => q - (intOf iv).toNat)
    case atStart => exact ⟨0, Nat.zero_le _, rfl, Lib.hid (fun i hi => absurd hi (by omega)), Lib.hid (Below.refl _ _)⟩
    case round =>
      obtain ⟨j, hj, rfl, HS, HB⟩ := hrel
      have B3 := Lib.hid (B2.out.trans (HB.out.mono B2.out.size))
      have K3 := Lib.hid (K2.out.below HB.out K2.out.lt)
      clear b0 b1 b2 b3
      obtain ⟨b0, b1, b2, b3⟩ := K3.out.three
      by_cases hjq : j < q
      · obtain ⟨ad, rfl, hb, hx⟩ := il_at (HI.out _ B3.out) hjq
        have HNO := Lib.hid (show ¬ (0 ≤ ig l j ∧ ig l j < st) → E = (0, 10) from fun h => by
          rw [HEV.out, if_neg]
          intro h'
          exact h (AI1.out.1 h' j (by rw [HL.out]; exact hjq)))
        have HOK := Lib.hid (show (0 ≤ ig l j ∧ ig l j < st) → ∀ i, i < j + 1 → 0 ≤ ig l i ∧ ig l i < st from fun h i hi => by
          by_cases e : i < j
          · exact HS.out i e
          · obtain rfl : i = j := by omega
            exact h)
        generalize ig l j = x at hx HNO HOK
        by_cases h0 : x < 0
        · have d0 : decide (x < 0) = true := decide_eq_true h0
          have HE := Lib.hid (HNO.out (by omega))
          clear h0
          go_wp2_with fail
          go_quiet (fail)
          go_wp2
          go_ret2
          exact ⟨by rw [HE.out] <;> rfl, below_drewN B3.out _⟩
        · have d0 : decide (x < 0) = false := decide_eq_false h0
          by_cases h1 : st ≤ x
          · have d1 : decide (st ≤ x) = true := decide_eq_true h1
            have HE := Lib.hid (HNO.out (by omega))
            clear h0 h1
            go_wp2_with fail
            go_quiet (fail)
            go_wp2
            go_ret2
            exact ⟨by rw [HE.out] <;> rfl, below_drewN B3.out _⟩
          · have d1 : decide (st ≤ x) = false := decide_eq_false h1
            have HZ := Lib.hid (HOK.out (by omega))
            clear h0 h1
            go_wp2_with fail
            go_quiet (fail)
            go_wp2
            go_roundw
            case rel => exact ⟨j + 1, by omega, by go_num, HZ, Lib.hid (below_drewN HB.out _)⟩
            case measure => simp [intOf]; omega
      · obtain rfl : j = q := by omega
        have ha := AI1.out.2 (fun i hi => HS.out i (by rw [← HL.out]; exact hi))
        have HE := Lib.hid (show E = (V, 0) by rw [HEV.out, if_pos ha])
        have FV := Lib.hid (FO.out _ B3.out (HI.out _ B3.out) ha)
        clear ha
        go_wp2_with (go_at_call 22; (with_reducible refine FV.out.mono ?_); rintro e w4 ⟨rfl, hb⟩; have B4 := Lib.hid (B3.out.trans (hb.mono B3.out.size)); clear hb)
        go_ret2
        exact ⟨by rw [HE.out] <;> rfl, B4.out⟩
  · have HE := Lib.hid (show ev st n l V = (0, 2) by rw [ev, if_neg (by rw [HL.out]; exact hqn)])
    have f3 : ((q : Int) != (n : Int)) = true := by rw [bne_iff_ne]; omega
    generalize ev st n l V = E at HE ⊢
    clear hqn
    go_enter Tryz.func7, Tryz.ntmps7
    go_upto_region 1 with (fail)
    generalize w.alloc (.cells #[.int .i64 st, .slice AH n cH, .slice AN m cN] 32) = w0 at *
    obtain ⟨a0, a1, a2, a3⟩ := K1.out.three
    go_wp2_with (go_at_call 21; (with_reducible refine (RI.out _ B1.out).mono ?_); rintro e w1 ⟨rfl, hb⟩; have B2 := Lib.hid (B1.out.trans (hb.mono B1.out.size)); have K2 := Lib.hid (K1.out.below hb K1.out.lt); obtain ⟨b0, b1, b2, b3⟩ := K2.out.three; clear hb)
    go_ret2
    exact ⟨by rw [HE.out] <;> rfl, B2.out⟩
/-- what value answers -/
def vl (p : Int × Int) : Int := if p.2 = 0 then p.1 else -1
theorem val_any (q : Nat) (h : TS w AH AN T) (ht : Rtt T) (hI : Reads w w.heap.size AI q (il l)) (hq : q ≤ 1000000) :
    Calls Tryz.prog 9 #[.agg #[.int .i64 T.st, .slice AH T.n cH, .slice AN T.m cN], .slice AI q cI] w fun e w' => e = .returned (.int .i64 (vl (ev T.st T.n l (fo T.nx ((T.m - 1 : Nat) : Int) l)))) ∧ Below w.heap.size w w' := by
  have B1 := Lib.hid (show Below w.heap.size w (w.alloc (.cells #[.int .i64 T.st, .slice AH T.n cH, .slice AN T.m cN] 32)) from (Below.refl _ _).alloc (Nat.le_refl _) _)
  have EV := Lib.hid (reval_any AH cH AN cN T AI cI l _ q (h.later B1.out) ht (hI.later B1.out) hq)
  generalize ev T.st T.n l (fo T.nx ((T.m - 1 : Nat) : Int) l) = p at EV ⊢
  obtain ⟨p1, p2⟩ := p
  clear h ht hI
  obtain ⟨st, n, f, m, lv, nx⟩ := T
  simp only at *
  by_cases e : p2 = 0
  · subst e
    go_enter Tryz.func9, Tryz.ntmps9
    go_wp2_with (go_at_call 7; (with_reducible refine EV.out.mono ?_); rintro e w1 ⟨rfl, hb⟩; have B2 := Lib.hid (B1.out.trans (hb.mono B1.out.size)); clear hb)
    go_ret
    exact ⟨rfl, B2.out⟩
  · have e1 : (p2 != 0) = true := by rw [bne_iff_ne]; exact e
    have HV := Lib.hid (show vl (p1, p2) = -1 by rw [vl, if_neg e])
    generalize vl (p1, p2) = v at HV ⊢
    clear e
    go_enter Tryz.func9, Tryz.ntmps9
    go_wp2_with (go_at_call 7; (with_reducible refine EV.out.mono ?_); rintro e w1 ⟨rfl, hb⟩; have B2 := Lib.hid (B1.out.trans (hb.mono B1.out.size)); clear hb)
    go_ret
    exact ⟨by rw [HV.out] <;> rfl, B2.out⟩
end
end Go.Proofs.YtcgkkppidkkjiaaGreatDoor
namespace Go.Proofs.YtcgkkppidkkjiaaGreatDoor
open Go.RowKit

/-- the number of states, from 1 to 9 -/
def bs (st : Int) : Nat := if st ≤ 1 then 1 else if 9 ≤ st then 9 else st.toNat
theorem bs_pos (st : Int) : 1 ≤ bs st ∧ bs st ≤ 9 := by
  unfold bs
  split
  · omega
  · split <;> omega
theorem bs_min (st : Int) : ∃ m : Int, (if (9 : Int) < st then (9 : Int) else st) = m ∧ (if (1 : Int) < m then m else 1) = (bs st : Int) := by
  unfold bs
  by_cases h9 : (9 : Int) < st
  · refine ⟨9, if_pos h9, ?_⟩
    rw [if_pos (show (1 : Int) < 9 by decide), if_neg (show ¬ st ≤ 1 by omega), if_pos (show 9 ≤ st by omega)]
    rfl
  · refine ⟨st, if_neg h9, ?_⟩
    by_cases h1 : (1 : Int) < st
    · rw [if_pos h1, if_neg (by omega)]
      split <;> omega
    · rw [if_neg h1, if_pos (by omega)]
      rfl
set_option maxRecDepth 100000 in
set_option maxHeartbeats 2000000 in
theorem tiny_any (AH : Option Addr) (cH : Nat) (AV : Option Addr) (cV : Nat) (AR : Option Addr) (cR : Nat) (T : Tab) (w : World) (h : TR w AH AV AR T) (h1 : T.n < 9223372036854775808) (h2 : T.nv < 9223372036854775808) (h3 : T.nr < 9223372036854775808) (h4 : ∀ k, k < T.nv → (T.v k).length < 9223372036854775808) (h5 : ∀ k, k < T.nr → (T.ri k).length < 9223372036854775808) :
    Calls Tryz.prog 4 #[.agg #[.int .i64 T.st, .int .i64 T.sy, .slice AH T.n cH, .slice AV T.nv cV, .slice AR T.nr cR]] w fun e w' => BoolThat (bs T.st ^ T.n ≤ 1024 ∧ Sm T) w e w' := by
  have FW := Lib.hid (fun w' (hb : Below w.heap.size w w') => few_any AH cH AV cV AR cR T w' (h.later hb) h1 h2 h3 h4 h5)
  generalize Sm T = SMT at FW ⊢
  clear h h2 h3 h4 h5
  obtain ⟨st, k, n, f, nv, v, nr, ri, ro⟩ := T
  simp only at *
  obtain ⟨hc1, hc9⟩ := bs_pos st
  obtain ⟨m, hm, hx⟩ := bs_min st
  generalize bs st = c at hx hc1 hc9 ⊢
  have K1 := Blk.new w 26 #[.int .i64 st, .int .i64 k, .slice AH n cH, .slice AV nv cV, .slice AR nr cR]
  have B1 : Below w.heap.size w (w.alloc (.cells #[.int .i64 st, .int .i64 k, .slice AH n cH, .slice AV nv cV, .slice AR nr cR] 26)) := (Below.refl _ _).alloc (Nat.le_refl _) _
  go_enter Tryz.func4, Tryz.ntmps4
  go_wp2_with fail
  generalize w.alloc (.cells #[.int .i64 st, .int .i64 k, .slice AH n cH, .slice AV nv cV, .slice AR nr cR] 26) = w0 at K1 B1 ⊢
  obtain ⟨a0, a1, a2, a3, a4, a5⟩ := K1.five
  have B2 := Lib.hid B1
  clear K1 B1
  go_wp2
  go_loop [3, 7] (fun pv iv => ∃ (j p : Nat), j ≤ n ∧ iv = .int .i64 (j : Int) ∧ pv = .int .i64 (p : Int) ∧ Hid (p = c ^ j) ∧ p ≤ 1024) (fun _ iv => n - (intOf iv).toNat)
  case atStart => exact ⟨0, 1, Nat.zero_le _, rfl, rfl, Lib.hid (by simp), by decide⟩
  case round =>
    obtain ⟨j, p, hj, rfl, rfl, HP, hp⟩ := hrel
    by_cases hlt : j < n
    · obtain ⟨q, hq⟩ : ∃ q, q = p * c := ⟨_, rfl⟩
      have hqq : q ≤ 9216 := by
        have : p * c ≤ 1024 * 9 := Nat.mul_le_mul hp hc9
        omega
      have HQ := Lib.hid (show q = c ^ (j + 1) by rw [hq, HP.out, Nat.pow_succ])
      have hw : IntKind.i64.wrap ((p : Int) * (c : Int)) = (q : Int) := by
        rw [← Int.natCast_mul, ← hq]
        exact IntWalk.i64_in _ (by omega)
      clear hq
      by_cases hs : q ≤ 1024
      · have e1 : decide ((1024 : Int) < (q : Int)) = false := decide_eq_false (by omega)
        go_wp2
        go_round
        case rel => exact ⟨j + 1, q, by omega, by go_num, rfl, HQ, hs⟩
        case measure => simp [intOf]; omega
      · have e1 : decide ((1024 : Int) < (q : Int)) = true := decide_eq_true (by omega)
        go_wp2
        go_ret
        exact ⟨_, rfl, fun h => (by cases h), B2.out⟩
    · obtain rfl : j = n := by omega
      have HS := Lib.hid (show c ^ j ≤ 1024 from HP.out ▸ hp)
      clear hm hx
      go_wp2_with (go_at_call 10; (with_reducible refine (FW.out _ B2.out).mono ?_); rintro e w1 ⟨q, rfl, hq, hb⟩)
      go_ret
      exact ⟨_, rfl, fun h => ⟨HS.out, hq h⟩, B2.out.trans (hb.mono B2.out.size)⟩
end Go.Proofs.YtcgkkppidkkjiaaGreatDoor
namespace Go.Proofs.YtcgkkppidkkjiaaGreatDoor
open Go.RowKit

theorem tl_ts {w : World} {base n cI cN : Nat} {f : Nat → P2} {AI AN : Option Addr} {out : List (Int × List Int)} (h : TL w base n f AI cI AN cN out) (S : Nat) : TS w AI AN (trO S n f out) := ⟨QReads.of_own h.1, h.2.nr⟩
/-- the reference's Eval at a made tree -/
theorem reval_out {S n : Nat} {f : Nat → P2} {out : List (Int × List Int)} {F : List Int → Int} {AI : Option Addr} {cI : Nat} {AN : Option Addr} {cN base : Nat} {w : World} (hT : TL w base n f AI cI AN cN out) (h1 : 2 ≤ S) (h2 : S ≤ 8) (hd : Hd f n) (hg : Gd S n out) (hm1 : 1 ≤ out.length) (hm2 : out.length ≤ 4096) (hmn : Mn S out n F ((out.length : Int) - 1))
    (q : Nat) (A : Option Addr) (l : List Int) (w' : World) (hb : Below w.heap.size w w') (hI : Reads w' w'.heap.size A q (il l)) (hq : q ≤ 1000000) (c : Nat) :
    Calls Tryz.prog 7 #[.agg #[.int .i64 (S : Int), .slice AI n cI, .slice AN out.length cN], .slice A q c] w' fun e w'' => e = .returned (.tuple #[.int .i64 (ev (S : Int) n l (F l)).1, .int .i64 (ev (S : Int) n l (F l)).2]) ∧ Below w'.heap.size w' w'' := by
  have h := reval_any AI cI AN cN (trO S n f out) A c l w' q ((tl_ts hT S).later hb) (rtt_out h1 h2 hd hg hm1 hm2 hmn) hI hq
  have e := ev_out hm1 hmn l
  refine h.mono ?_
  rintro e' w'' ⟨rfl, hb'⟩
  refine ⟨?_, hb'⟩
  show Ending.returned (.tuple #[.int .i64 (ev (S : Int) n l (fo (nxO out) ((out.length - 1 : Nat) : Int) l)).1, .int .i64 (ev (S : Int) n l (fo (nxO out) ((out.length - 1 : Nat) : Int) l)).2]) = _
  rw [e]
/-- value at a made tree -/
theorem val_out {S n : Nat} {f : Nat → P2} {out : List (Int × List Int)} {F : List Int → Int} {AI : Option Addr} {cI : Nat} {AN : Option Addr} {cN base : Nat} {w : World} (hT : TL w base n f AI cI AN cN out) (h1 : 2 ≤ S) (h2 : S ≤ 8) (hd : Hd f n) (hg : Gd S n out) (hm1 : 1 ≤ out.length) (hm2 : out.length ≤ 4096) (hmn : Mn S out n F ((out.length : Int) - 1))
    (q : Nat) (A : Option Addr) (l : List Int) (w' : World) (hb : Below w.heap.size w w') (hI : Reads w' w'.heap.size A q (il l)) (hq : q ≤ 1000000) (c : Nat) :
    Calls Tryz.prog 9 #[.agg #[.int .i64 (S : Int), .slice AI n cI, .slice AN out.length cN], .slice A q c] w' fun e w'' => e = .returned (.int .i64 (vl (ev (S : Int) n l (F l)))) ∧ Below w'.heap.size w' w'' := by
  have h := val_any AI cI AN cN (trO S n f out) A c l w' q ((tl_ts hT S).later hb) (rtt_out h1 h2 hd hg hm1 hm2 hmn) hI hq
  have e := ev_out hm1 hmn l
  refine h.mono ?_
  rintro e' w'' ⟨rfl, hb'⟩
  refine ⟨?_, hb'⟩
  show Ending.returned (.int .i64 (vl (ev (S : Int) n l (fo (nxO out) ((out.length - 1 : Nat) : Int) l)))) = _
  rw [e]
/-- the reference's Eval at the empty tree -/
theorem reval_zero (A : Option Addr) (q c : Nat) (w : World) :
    Calls Tryz.prog 7 #[.agg #[.int .i64 0, .slice none 0 0, .slice none 0 0], .slice A q c] w fun e w' => e = .returned (.tuple #[.int .i64 0, .int .i64 11]) ∧ Below w.heap.size w w' := by
  have RR := Lib.hid (fun w' => (rr_any none 0 none 0 ⟨0, 0, fun _ => (0, 0), 0, fun _ => 0, fun _ => []⟩ w' ⟨fun h => absurd h (by decide), fun h => absurd h (by decide)⟩ ⟨by decide, by decide, fun k hk => absurd hk (Nat.not_lt_zero k)⟩).mono (fun e w'' (h : BoolThat _ w' e w'') => show e = .returned (.bool false) ∧ Below w'.heap.size w' w'' by
    obtain ⟨q, h1, h2, h3⟩ := h
    cases q with
    | false => exact ⟨h1, h3⟩
    | true => exact absurd (h2 rfl).s1 (by decide)))
  simp only at RR
  have B1 := Lib.hid (show Below w.heap.size w (w.alloc (.cells #[.int .i64 0, .slice none 0 0, .slice none 0 0] 32)) from (Below.refl _ _).alloc (Nat.le_refl _) _)
  have K1 := Lib.hid (Blk.new w 32 #[.int .i64 0, .slice none 0 0, .slice none 0 0])
  go_enter Tryz.func7, Tryz.ntmps7
  go_upto_region 1 with (fail)
  generalize w.alloc (.cells #[.int .i64 0, .slice none 0 0, .slice none 0 0] 32) = w0 at *
  obtain ⟨a0, a1, a2, a3⟩ := K1.out.three
  go_wp2_with (go_at_call 21; (with_reducible refine (RR.out _).mono ?_); rintro e w1 ⟨rfl, hb⟩; have B2 := Lib.hid (B1.out.trans (hb.mono B1.out.size)); clear hb)
  go_ret2
  exact ⟨rfl, B2.out⟩
/-- Tree in all cases -/
theorem tree_all (AH : Option Addr) (cH : Nat) (AV : Option Addr) (cV : Nat) (AR : Option Addr) (cR : Nat) (T : Tab) (AI : Option Addr) (q cI : Nat) (l : List Int) (w : World) (hM : Mat w) (h : TR w AH AV AR T) (hb : Bd T) (hI : Reads w w.heap.size AI q (il l)) (hq : q ≤ 1000000) :
    Calls Tryz.prog 6 #[.agg #[.int .i64 T.st, .int .i64 T.sy, .slice AH T.n cH, .slice AV T.nv cV, .slice AR T.nr cR]] w fun e w' => ∃ (s : Int) (A1 : Option Addr) (n1 c1 : Nat) (A2 : Option Addr) (n2 c2 : Nat) (er y fe : Int), e = .returned (.tuple #[.agg #[.int .i64 s, .slice A1 n1 c1, .slice A2 n2 c2], .int .i64 er]) ∧ Below w.heap.size w w' ∧
      (∀ w'', Below w'.heap.size w' w'' → Calls Tryz.prog 7 #[.agg #[.int .i64 s, .slice A1 n1 c1, .slice A2 n2 c2], .slice AI q cI] w'' fun e w3 => e = .returned (.tuple #[.int .i64 y, .int .i64 fe]) ∧ Below w''.heap.size w'' w3) ∧
      (er = 0 → fe = 0 → Rt T ∧ q = T.n ∧ als T.st l = true ∧ y = nx T l) := by
  by_cases ht : Rt T
  · have hs1 := ht.s1
    have hs2 := ht.s2
    obtain ⟨S, hS⟩ : ∃ S : Nat, T.st = (S : Int) := ⟨T.st.toNat, by omega⟩
    refine (tree_out S AH cH AV cV AR cR T w hM h hb ht hS).mono fun e w' hto => ?_
    rcases hto with ⟨er, h1, h2, h3⟩ | ⟨AI', cI', AN', cN', out, h1, h2, h3, h4, h5, h6, h7⟩
    · exact ⟨_, _, _, _, _, _, _, _, 0, 11, h1, h3, fun w'' _ => reval_zero AI q cI w'', fun e => absurd e h2.1⟩
    · have HL := reads_len hI
      refine ⟨_, _, _, _, _, _, _, _, (ev (S : Int) T.n l ((nx T l).toNat : Nat)).1, (ev (S : Int) T.n l ((nx T l).toNat : Nat)).2, h1, h7, fun w'' hb2 => ?_, fun _ hf => ?_⟩
      · exact reval_out h2 (by omega) (by omega) ht.hd h3 h4 h5 h6 q AI l w'' hb2 ((hI.later h7).later hb2) hq cI
      · unfold ev at hf ⊢
        split at hf
        · next hl =>
          split at hf
          · next ha =>
            rw [if_pos hl, if_pos ha]
            rw [hS]
            refine ⟨ht, by omega, ha, ?_⟩
            have := nx_st ht hl (by rw [hS]; exact ha)
            show (((nx T l).toNat : Nat) : Int) = nx T l
            omega
          · exact absurd hf (by decide)
        · exact absurd hf (by decide)
  · exact (tree_bad AH cH AV cV AR cR T w hM h hb ht).mono fun e w' h => ⟨_, _, _, _, _, _, _, _, 0, 11, h.1, h.2, fun w'' _ => reval_zero AI q cI w'', fun e => absurd e (by decide)⟩
/-- Row at a table with few neighbourhoods, and value at its tree -/
theorem row_all (AH : Option Addr) (cH : Nat) (AV : Option Addr) (cV : Nat) (AR : Option Addr) (cR : Nat) (T : Tab) (AI : Option Addr) (cI : Nat) (l : List Int) (i : Nat) (w : World) (hM : Mat w) (h : TR w AH AV AR T) (hb : Bd T) (ht : Rt T) (hI : Reads w w.heap.size AI T.n (il l)) (ha : als T.st l = true) (hi : i < T.nr) (hR : T.nr ≤ cR) (hbs : bs T.st ^ T.n ≤ 1024) :
    Calls Tryz.prog 8 #[.agg #[.int .i64 T.st, .int .i64 T.sy, .slice AH T.n cH, .slice AV T.nv cV, .slice AR T.nr cR], .int .i64 (i : Int)] w fun e w' => ∃ (s : Int) (A1 : Option Addr) (n1 c1 : Nat) (A2 : Option Addr) (n2 c2 : Nat), e = .returned (.tuple #[.agg #[.int .i64 s, .slice A1 n1 c1, .slice A2 n2 c2], .int .i64 0]) ∧ Below w.heap.size w w' ∧
      ∀ w'', Below w'.heap.size w' w'' → Calls Tryz.prog 9 #[.agg #[.int .i64 s, .slice A1 n1 c1, .slice A2 n2 c2], .slice AI T.n cI] w'' fun e w3 => e = .returned (.int .i64 ((vr T i l : Nat) : Int)) ∧ Below w''.heap.size w'' w3 := by
  have hs1 := ht.s1
  have hs2 := ht.s2
  obtain ⟨S, hS⟩ : ∃ S : Nat, T.st = (S : Int) := ⟨T.st.toNat, by omega⟩
  have hn2 := ht.hd.1.2
  refine (row_out S AH cH AV cV AR cR T i w hM h hb ht hS hi hR).mono fun e w' hto => ?_
  rcases hto with ⟨er, h1, h2, h3⟩ | ⟨AI', cI', AN', cN', out, h1, h2, h3, h4, h5, h6, h7⟩
  · have e1 : bs T.st = S := by
      unfold bs
      rw [hS, if_neg (by omega), if_neg (by omega)]
      rfl
    rw [e1] at hbs
    exact absurd h2.2 (by omega)
  · have HL := reads_len hI
    refine ⟨_, _, _, _, _, _, _, h1, h7, fun w'' hb2 => ?_⟩
    refine (val_out h2 (by omega) (by omega) ht.hd h3 h4 h5 h6 T.n AI l w'' hb2 ((hI.later h7).later hb2) (by omega) cI).mono fun e w3 h => ?_
    obtain ⟨rfl, hb3⟩ := h
    refine ⟨?_, hb3⟩
    rw [ev, if_pos HL, if_pos (by rw [← hS]; exact ha)]
    rfl
end Go.Proofs.YtcgkkppidkkjiaaGreatDoor
