/- The walks of the reference's Value and Eval at valid trees; value. -/
import Derived.Test.YtaicehkphokacaaMau
namespace Go.Proofs.Ytaicehkphokacaa
open Go.RowKit

section
variable (AH : Option Addr) (cH : Nat) (AN : Option Addr) (cN : Nat) (T : Tr) (AI : Option Addr) (cI : Nat) (l : List Int) (w : World)
set_option maxRecDepth 100000 in
set_option maxHeartbeats 4000000 in
theorem rvalue_any (h : NR w w.heap.size AN T.m T.lv T.nx) (ht : Rt T) (hI : Reads w w.heap.size AI T.n (il l)) (ha : als T.st l = true) :
    Calls Try.prog 40 #[.agg #[.int .i64 T.st, .slice AH T.n cH, .slice AN T.m cN], .slice AI T.n cI] w fun e w' => e = .returned (.int .i64 (fo T.nx ((T.m - 1 : Nat) : Int) l)) ∧ Below w.heap.size w w' := by
  have HT := Lib.hid ht.nd
  have TP := Lib.hid ht.top
  have s1 := ht.s1
  have m1 := ht.m1
  have m2 := ht.m2
  have n2 := ht.hd.1.2
  have n1 := ht.hd.1.1
  have HL := Lib.hid (reads_len hI)
  have HA := Lib.hid ((als_iff _ _).1 ha)
  clear ht ha
  obtain ⟨st, n, f, m, lv, nx⟩ := T
  simp only at *
  have K1 := Blk.new w 25 #[.int .i64 st, .slice AH n cH, .slice AN m cN]
  have B1 : Below w.heap.size w (w.alloc (.cells #[.int .i64 st, .slice AH n cH, .slice AN m cN] 25)) := (Below.refl _ _).alloc (Nat.le_refl _) _
  have HN := Lib.hid h
  have HI := Lib.hid hI
  obtain ⟨i, rfl⟩ : ∃ i, m = i + 1 := ⟨m - 1, by omega⟩
  have e1 : i + 1 - 1 = i := by omega
  rw [e1] at TP ⊢
  clear h hI e1
  have hw1 : IntKind.i64.wrap (((i + 1 : Nat) : Int) - 1) = (i : Int) := by rw [show ((i + 1 : Nat) : Int) - 1 = (i : Int) by omega]; exact IntWalk.i64_in _ (by omega)
  obtain ⟨V, hV⟩ : ∃ V, V = fo nx (i : Int) l := ⟨_, rfl⟩
  rw [← hV]
  have HV := Lib.hid hV
  clear hV
  go_enter Try.func40, Try.ntmps40
  go_wp2_with fail
  generalize w.alloc (.cells #[.int .i64 st, .slice AH n cH, .slice AN (i + 1) cN] 25) = w0 at *
  obtain ⟨a0, a1, a2, a3⟩ := K1.three
  have B1 := Lib.hid B1
  have K1 := Lib.hid K1
  go_wp2
  go_loopw [5, 6] (fun kv jv wr => ∃ (j : Nat) (k : Int), j ≤ n ∧ jv = .int .i64 (j : Int) ∧ kv = .int .i64 k ∧ Hid (fo nx k (l.drop j) = V) ∧ Hid (j < n → 0 ≤ k ∧ k < (i : Int) + 1 ∧ lv k.toNat = (n : Int) - (j : Int)) ∧ Hid (Below w0.heap.size w0 wr)) (fun _ jv _ => n - (intOf jv).toNat)
  case atStart => exact ⟨0, i, Nat.zero_le _, rfl, by first | rfl | (congr 1; omega) | simp, Lib.hid HV.out.symm, Lib.hid (fun _ => ⟨by omega, by omega, by rw [Int.toNat_natCast, TP.out]; omega⟩), Lib.hid (Below.refl _ _)⟩
  case round =>
    obtain ⟨j, k, hj, rfl, rfl, HFO, HK, HB⟩ := hrel
    have BB := Lib.hid (B1.out.trans (HB.out.mono B1.out.size))
    have K2 := Lib.hid (K1.out.below HB.out K1.out.lt)
    clear a0 a1 a2 a3
    obtain ⟨a0, a1, a2, a3⟩ := K2.out.three
    by_cases hlt : j < n
    · obtain ⟨k1, k2, k3⟩ := HK.out hlt
      obtain ⟨kn, rfl⟩ : ∃ kn : Nat, k = (kn : Int) := ⟨k.toNat, by omega⟩
      have hkm : kn < i + 1 := by omega
      rw [Int.toNat_natCast] at k3
      obtain ⟨ad, rfl, hb, hx⟩ := il_at (HI.out.below BB.out) hlt
      obtain ⟨t1, t2⟩ := HA.out j (by rw [HL.out]; exact hlt)
      have hfo := HFO.out
      rw [fo_step nx kn (by rw [HL.out]; exact hlt)] at hfo
      obtain ⟨sn, hs⟩ : ∃ sn : Nat, ig l j = (sn : Int) := ⟨(ig l j).toNat, by omega⟩
      rw [hs] at hx t1 t2 hfo
      rw [Int.toNat_natCast, Int.toNat_natCast] at hfo
      obtain ⟨g1, o1, rfl, hb1, hc⟩ := HN.out.below BB.out (by omega)
      obtain ⟨A', c', y1, y2, hr⟩ := hc kn hkm
      obtain ⟨b1, b2, b3, b4⟩ := HT.out kn hkm
      have hsn : sn < (nx kn).length := by omega
      obtain ⟨ad2, rfl, hb2, hx2⟩ := il_at hr hsn
      have b5 := b4 sn hsn
      generalize (nx kn).length = S at y2 hsn
      obtain ⟨k', hk'⟩ : ∃ k', k' = ig (nx kn) sn := ⟨_, rfl⟩
      rw [← hk'] at hx2 hfo b5
      have HE := Lib.hid (show j + 1 < n → 0 ≤ k' ∧ k' < (i : Int) + 1 ∧ lv k'.toNat = (n : Int) - ((j + 1 : Nat) : Int) from fun hjn => by
        obtain ⟨p1, _, p3⟩ := b5
        obtain ⟨p4, p5⟩ := p3 (by omega)
        exact ⟨p1, by omega, by rw [p5, k3]; omega⟩)
      have HF := Lib.hid hfo
      have hknI : (kn : Int) < ((i + 1 : Nat) : Int) := by omega
      have hknI2 : (kn : Int) < (i : Int) + 1 := by omega
      have hsI : (sn : Int) < (S : Int) := by omega
      clear hfo hk' b1 b2 b3 b4 b5 hc hr y1 k1 k2 k3 hs t1 t2
      go_wp2_with fail
      go_quiet (fail)
      go_wp2
      go_roundw
      case rel => exact ⟨j + 1, k', by omega, by go_num, rfl, HF, HE, Lib.hid (below_drewN HB.out _)⟩
      case measure => simp [intOf]; omega
    · obtain rfl : j = n := by omega
      have hfo := HFO.out
      have hfo : k = V := by rw [List.drop_eq_nil_of_le (by rw [HL.out]; omega)] at hfo; exact hfo
      subst hfo
      go_wp2
      go_ret
      exact ⟨rfl, BB.out⟩
set_option maxRecDepth 100000 in
set_option maxHeartbeats 4000000 in
theorem reval_any (q : Nat) (h : TS w AH AN T) (ht : Rt T) (hI : Reads w w.heap.size AI q (il l)) (hq : q ≤ 1000000) :
    Calls Try.prog 19 #[.agg #[.int .i64 T.st, .slice AH T.n cH, .slice AN T.m cN], .slice AI q cI] w fun e w' => e = .returned (.tuple #[.int .i64 (ev T.st T.n l (fo T.nx ((T.m - 1 : Nat) : Int) l)).1, .int .i64 (ev T.st T.n l (fo T.nx ((T.m - 1 : Nat) : Int) l)).2]) ∧ Below w.heap.size w w' := by
  have RI := Lib.hid (fun w' (hb : Below w.heap.size w w') => rr_yes AH cH AN cN T w' (h.later hb) ht)
  have HL := Lib.hid (reads_len hI)
  have n2 := ht.hd.1.2
  have FO := Lib.hid (fun w' (hb : Below w.heap.size w w') (hr : Reads w' w'.heap.size AI T.n (il l)) ha => rvalue_any AH cH AN cN T AI cI l w' (h.2.later hb) ht hr ha)
  have HI := Lib.hid (fun w' (hb : Below w.heap.size w w') => hI.later hb)
  clear h ht hI
  obtain ⟨st, n, f, m, lv, nx⟩ := T
  simp only at *
  generalize fo nx ((m - 1 : Nat) : Int) l = V at FO ⊢
  have K1 := Lib.hid (Blk.new w 25 #[.int .i64 st, .slice AH n cH, .slice AN m cN])
  have B1 := Lib.hid (show Below w.heap.size w (w.alloc (.cells #[.int .i64 st, .slice AH n cH, .slice AN m cN] 25)) from (Below.refl _ _).alloc (Nat.le_refl _) _)
  by_cases hqn : q = n
  · subst hqn
    have HEV := Lib.hid (show ev st q l V = if als st l = true then (V, 0) else (0, 10) from by rw [ev, if_pos HL.out])
    have AI1 := Lib.hid (als_iff st l)
    generalize ev st q l V = E at HEV ⊢
    have f3 : ((q : Int) != (q : Int)) = false := by rw [bne_eq_false_iff_eq]
    go_enter Try.func19, Try.ntmps19
    go_upto_region 1 with (fail)
    generalize w.alloc (.cells #[.int .i64 st, .slice AH q cH, .slice AN m cN] 25) = w0 at *
    obtain ⟨a0, a1, a2, a3⟩ := K1.out.three
    go_wp2_with (go_at_call 18; (with_reducible refine (RI.out _ B1.out).mono ?_); rintro e w1 ⟨rfl, hb⟩; have B2 := Lib.hid (B1.out.trans (hb.mono B1.out.size)); have K2 := Lib.hid (K1.out.below hb K1.out.lt); obtain ⟨b0, b1, b2, b3⟩ := K2.out.three; clear hb)
    clear a0 a1 a2 a3
    go_loopw [6] (fun iv wr => ∃ j : Nat, j ≤ q ∧ iv = .int .i64 (j : Int) ∧ Hid (∀ i, i < j → 0 ≤ ig l i ∧ ig l i < st) ∧ Hid (Below w1.heap.size w1 wr)) (fun iv _ => q - (intOf iv).toNat)
    case atStart => exact ⟨0, Nat.zero_le _, rfl, Lib.hid (fun i hi => absurd hi (by omega)), Lib.hid (Below.refl _ _)⟩
    case round =>
      obtain ⟨j, hj, rfl, HS, HB⟩ := hrel
      have B3 := Lib.hid (B2.out.trans (HB.out.mono B2.out.size))
      have K3 := Lib.hid (K2.out.below HB.out K2.out.lt)
      clear b0 b1 b2 b3
      obtain ⟨b0, b1, b2, b3⟩ := K3.out.three
      by_cases hjq : j < q
      · obtain ⟨ad, rfl, hb, hx⟩ := il_at (HI.out _ B3.out) hjq
        have HNO := Lib.hid (show ¬ (0 ≤ ig l j ∧ ig l j < st) → E = (0, 10) from fun h => by
          rw [HEV.out, if_neg]
          intro h'
          exact h (AI1.out.1 h' j (by rw [HL.out]; exact hjq)))
        have HOK := Lib.hid (show (0 ≤ ig l j ∧ ig l j < st) → ∀ i, i < j + 1 → 0 ≤ ig l i ∧ ig l i < st from fun h i hi => by
          by_cases e : i < j
          · exact HS.out i e
          · obtain rfl : i = j := by omega
            exact h)
        generalize ig l j = x at hx HNO HOK
        by_cases h0 : x < 0
        · have d0 : decide (x < 0) = true := decide_eq_true h0
          have HE := Lib.hid (HNO.out (by omega))
          clear h0
          go_wp2_with fail
          go_quiet (fail)
          go_wp2
          go_ret2
          exact ⟨by rw [HE.out] <;> rfl, below_drewN B3.out _⟩
        · have d0 : decide (x < 0) = false := decide_eq_false h0
          by_cases h1 : st ≤ x
          · have d1 : decide (st ≤ x) = true := decide_eq_true h1
            have HE := Lib.hid (HNO.out (by omega))
            clear h0 h1
            go_wp2_with fail
            go_quiet (fail)
            go_wp2
            go_ret2
            exact ⟨by rw [HE.out] <;> rfl, below_drewN B3.out _⟩
          · have d1 : decide (st ≤ x) = false := decide_eq_false h1
            have HZ := Lib.hid (HOK.out (by omega))
            clear h0 h1
            go_wp2_with fail
            go_quiet (fail)
            go_wp2
            go_roundw
            case rel => exact ⟨j + 1, by omega, by go_num, HZ, Lib.hid (below_drewN HB.out _)⟩
            case measure => simp [intOf]; omega
      · obtain rfl : j = q := by omega
        have ha := AI1.out.2 (fun i hi => HS.out i (by rw [← HL.out]; exact hi))
        have HE := Lib.hid (show E = (V, 0) by rw [HEV.out, if_pos ha])
        have FV := Lib.hid (FO.out _ B3.out (HI.out _ B3.out) ha)
        clear ha
        go_wp2_with (go_at_call 40; (with_reducible refine FV.out.mono ?_); rintro e w4 ⟨rfl, hb⟩; have B4 := Lib.hid (B3.out.trans (hb.mono B3.out.size)); clear hb)
        go_ret2
        exact ⟨by rw [HE.out] <;> rfl, B4.out⟩
  · have HE := Lib.hid (show ev st n l V = (0, 2) by rw [ev, if_neg (by rw [HL.out]; exact hqn)])
    have f3 : ((q : Int) != (n : Int)) = true := by rw [bne_iff_ne]; omega
    generalize ev st n l V = E at HE ⊢
    clear hqn
    go_enter Try.func19, Try.ntmps19
    go_upto_region 1 with (fail)
    generalize w.alloc (.cells #[.int .i64 st, .slice AH n cH, .slice AN m cN] 25) = w0 at *
    obtain ⟨a0, a1, a2, a3⟩ := K1.out.three
    go_wp2_with (go_at_call 18; (with_reducible refine (RI.out _ B1.out).mono ?_); rintro e w1 ⟨rfl, hb⟩; have B2 := Lib.hid (B1.out.trans (hb.mono B1.out.size)); have K2 := Lib.hid (K1.out.below hb K1.out.lt); obtain ⟨b0, b1, b2, b3⟩ := K2.out.three; clear hb)
    go_ret2
    exact ⟨by rw [HE.out] <;> rfl, B2.out⟩
/-- what value answers -/
def vl (p : Int × Int) : Int := if p.2 = 0 then p.1 else -1
end
end Go.Proofs.Ytaicehkphokacaa
