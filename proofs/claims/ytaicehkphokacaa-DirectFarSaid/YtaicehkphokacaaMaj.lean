/- The walks of follow and Eval at valid trees. -/
import Derived.Test.YtaicehkphokacaaMad
import Derived.Test.YtaicehkphokacaaMae
import Derived.Test.YtaicehkphokacaaMaa
import Derived.Test.YtaicehkphokacaaMai
import Derived.Test.YtaicehkphokacaaMab
import Derived.Test.YtaicehkphokacaaMah
import Derived.Below
import Derived.BigQuiet
import Derived.Deep.AppendLies
import Derived.Deep.CutRange
import Derived.Deep.Draws
import Derived.Deep.QuietTactic
import Derived.IntWalk
import Derived.Laws.OwnMore
import Derived.Laws.Rows
import Derived.Lib.Hide
import Derived.LoopN
import Derived.OwnWalk
import Derived.StillTail
import Derived.StillTailTactics
import Derived.Test.YtaicehkphokacaaRows
import Derived.WalkKit
namespace Go.Proofs.Ytaicehkphokacaa
open Go.RowKit
/-- the value to which states lead from an index -/
def fo (nx : Nat → List Int) : Int → List Int → Int
  | k, [] => k
  | k, s :: r => fo nx (ig (nx k.toNat) s.toNat) r
theorem fo_step (nx : Nat → List Int) (k : Int) {l : List Int} {j : Nat} (hj : j < l.length) : fo nx k (l.drop j) = fo nx (ig (nx k.toNat) (ig l j).toNat) (l.drop (j + 1)) := by
  rw [List.drop_eq_getElem_cons hj, fo]
  congr 1
  simp [ig, hj]

section
variable (AH : Option Addr) (cH : Nat) (AN : Option Addr) (cN : Nat) (T : Tr) (AI : Option Addr) (cI : Nat) (l : List Int) (w : World)
set_option maxRecDepth 100000 in
set_option maxHeartbeats 4000000 in
theorem follow_any (h : NR w w.heap.size AN T.m T.lv T.nx) (ht : Rt T) (hI : Reads w w.heap.size AI T.n (il l)) (ha : als T.st l = true) :
    Calls Try.prog 69 #[.agg #[.int .i64 T.st, .slice AH T.n cH, .slice AN T.m cN], .slice AI T.n cI] w fun e w' => e = .returned (.int .i64 (fo T.nx ((T.m - 1 : Nat) : Int) l)) ∧ Below w.heap.size w w' := by
  have HT := Lib.hid ht.nd
  have TP := Lib.hid ht.top
  have s1 := ht.s1
  have m1 := ht.m1
  have m2 := ht.m2
  have n2 := ht.hd.1.2
  have n1 := ht.hd.1.1
  have HL := Lib.hid (reads_len hI)
  have HA := Lib.hid ((als_iff _ _).1 ha)
  clear ht ha
  obtain ⟨st, n, f, m, lv, nx⟩ := T
  simp only at *
  have K1 := Blk.new w 25 #[.int .i64 st, .slice AH n cH, .slice AN m cN]
  have B1 : Below w.heap.size w (w.alloc (.cells #[.int .i64 st, .slice AH n cH, .slice AN m cN] 25)) := (Below.refl _ _).alloc (Nat.le_refl _) _
  have HN := Lib.hid (h.below B1)
  have HI := Lib.hid (hI.below B1)
  obtain ⟨i, rfl⟩ : ∃ i, m = i + 1 := ⟨m - 1, by omega⟩
  have e1 : i + 1 - 1 = i := by omega
  rw [e1] at TP ⊢
  clear h hI e1
  obtain ⟨V, hV⟩ : ∃ V, V = fo nx (i : Int) l := ⟨_, rfl⟩
  rw [← hV]
  have HV := Lib.hid hV
  clear hV
  go_enter Try.func69, Try.ntmps69
  go_wp2_with fail
  generalize w.alloc (.cells #[.int .i64 st, .slice AH n cH, .slice AN (i + 1) cN] 25) = w0 at *
  obtain ⟨a0, a1, a2, a3⟩ := K1.three
  have B1 := Lib.hid B1
  clear K1
  go_wp2
  go_loop [5, 14] (fun kv jv => ∃ (j : Nat) (k : Int), j ≤ n ∧ jv = .int .i64 (j : Int) ∧ kv = .int .i64 k ∧ fo nx k (l.drop j) = V ∧ (j < n → 0 ≤ k ∧ k < (i : Int) + 1 ∧ lv k.toNat = (n : Int) - (j : Int))) (fun _ jv => n - (intOf jv).toNat)
  case atStart => exact ⟨0, i, Nat.zero_le _, rfl, rfl, HV.out.symm, fun _ => ⟨by omega, by omega, by rw [Int.toNat_natCast, TP.out]; omega⟩⟩
  case round =>
    obtain ⟨j, k, hj, rfl, rfl, hfo, hk⟩ := hrel
    by_cases hlt : j < n
    · obtain ⟨k1, k2, k3⟩ := hk hlt
      obtain ⟨kn, rfl⟩ : ∃ kn : Nat, k = (kn : Int) := ⟨k.toNat, by omega⟩
      have hkm : kn < i + 1 := by omega
      rw [Int.toNat_natCast] at k3
      obtain ⟨ad, rfl, hb, hx⟩ := il_at HI.out hlt
      obtain ⟨t1, t2⟩ := HA.out j (by rw [HL.out]; exact hlt)
      rw [fo_step nx kn (by rw [HL.out]; exact hlt)] at hfo
      obtain ⟨sn, hs⟩ : ∃ sn : Nat, ig l j = (sn : Int) := ⟨(ig l j).toNat, by omega⟩
      rw [hs] at hx t1 t2 hfo
      rw [Int.toNat_natCast, Int.toNat_natCast] at hfo
      obtain ⟨g1, o1, rfl, hb1, hc⟩ := HN.out (by omega)
      obtain ⟨A', c', y1, y2, hr⟩ := hc kn hkm
      obtain ⟨b1, b2, b3, b4⟩ := HT.out kn hkm
      have hsn : sn < (nx kn).length := by omega
      obtain ⟨ad2, rfl, hb2, hx2⟩ := il_at hr hsn
      have b5 := b4 sn hsn
      generalize (nx kn).length = S at y2 hsn
      obtain ⟨k', hk'⟩ : ∃ k', k' = ig (nx kn) sn := ⟨_, rfl⟩
      rw [← hk'] at hx2 hfo b5
      have HE := Lib.hid (show j + 1 < n → 0 ≤ k' ∧ k' < (i : Int) + 1 ∧ lv k'.toNat = (n : Int) - ((j + 1 : Nat) : Int) from fun hjn => by
        obtain ⟨p1, _, p3⟩ := b5
        obtain ⟨p4, p5⟩ := p3 (by omega)
        exact ⟨p1, by omega, by rw [p5, k3]; omega⟩)
      have HF := Lib.hid hfo
      clear hk hfo hk' b1 b2 b3 b4 b5 hc hr y1 k1 k2 k3 hs t1 t2
      go_wp2
      go_round
      case rel => exact ⟨j + 1, k', by omega, by go_num, rfl, HF.out, HE.out⟩
      case measure => simp [intOf]; omega
    · obtain rfl : j = n := by omega
      have hfo : k = V := by rw [List.drop_eq_nil_of_le (by rw [HL.out]; omega)] at hfo; exact hfo
      subst hfo
      clear hk
      go_wp2
      go_ret
      exact ⟨rfl, B1.out⟩

/-- not a state -/
theorem evalFn_any (st : Int) (g : Nat) (x : Int) (w : World) (h : w.cell? ⟨g, 0, none⟩ = some (.int .i64 st)) :
    Calls Try.prog 67 #[.int .i64 x, .pointer (some ⟨g, 0, none⟩)] w fun e w' => e = .returned (.bool (!sta st x)) ∧ w = w' := by
  have IS := Lib.hid (fun w => isState_any st x w)
  generalize sta st x = q at IS
  go_enter Try.func67, Try.ntmps67
  cases q <;> go_wp2_with (go_at_call 68; (with_reducible refine (IS.out _).mono ?_); rintro e w' ⟨rfl, rfl⟩)
  all_goals go_ret
  all_goals exact ⟨rfl, rfl⟩
theorem indexf_no (n : Nat) (st : Int) (g : Nat) (hg : w.cell? ⟨g, 0, none⟩ = some (.int .i64 st)) (h : Reads w w.heap.size AI n (il l)) (hn : n ≤ 1000000) (ha : als st l = true) :
    Calls Try.prog 75 #[.slice AI n cI, .func (.func 67) #[] #[.pointer (some ⟨g, 0, none⟩)]] w fun e w' => e = .returned (.int .i64 (-1)) ∧ w = w' := by
  have HL := Lib.hid (reads_len h)
  have H := Lib.hid h
  have HA := Lib.hid ((als_iff _ _).1 ha)
  have HG := Lib.hid hg
  clear h ha hg
  go_enter Try.func75, Try.ntmps75
  go_wp2
  go_loop [8] (fun iv => ∃ j : Nat, j ≤ n ∧ iv = .int .i64 (j : Int)) (fun iv => n - (intOf iv).toNat)
  case atStart => exact ⟨0, Nat.zero_le _, rfl⟩
  case round =>
    obtain ⟨j, hj, rfl⟩ := hrel
    by_cases hlt : j < n
    · obtain ⟨ad, rfl, hb, hc⟩ := il_at H.out hlt
      have E := evalFn_any st g (ig l j) w HG.out
      rw [show sta st (ig l j) = true from (sta_iff _ _).2 (HA.out j (by rw [HL.out]; exact hlt))] at E
      have E := Lib.hid E
      generalize ig l j = x at hc E
      go_wp2_with (go_at_call 67; (with_reducible refine E.out.mono ?_); rintro e w' ⟨rfl, rfl⟩)
      go_round
      case rel => exact ⟨j + 1, by omega, by go_num⟩
      case measure => simp [intOf]; omega
    · obtain rfl : j = n := by omega
      go_wp2
      go_ret
      exact ⟨rfl, rfl⟩
theorem indexf_yes (n : Nat) (st : Int) (g : Nat) (hg : w.cell? ⟨g, 0, none⟩ = some (.int .i64 st)) (h : Reads w w.heap.size AI n (il l)) (hn : n ≤ 1000000) (ha : als st l = false) :
    Calls Try.prog 75 #[.slice AI n cI, .func (.func 67) #[] #[.pointer (some ⟨g, 0, none⟩)]] w fun e w' => (∃ r : Nat, e = .returned (.int .i64 (r : Nat))) ∧ w = w' := by
  have HL := Lib.hid (reads_len h)
  have H := Lib.hid h
  have HA := Lib.hid ha
  have HG := Lib.hid hg
  clear h ha hg
  go_enter Try.func75, Try.ntmps75
  go_wp2
  go_loop [8] (fun iv => ∃ j : Nat, j ≤ n ∧ iv = .int .i64 (j : Int) ∧ ∀ i, i < j → 0 ≤ ig l i ∧ ig l i < st) (fun iv => n - (intOf iv).toNat)
  case atStart => exact ⟨0, Nat.zero_le _, rfl, fun i hi => absurd hi (by omega)⟩
  case round =>
    obtain ⟨j, hj, rfl, hno⟩ := hrel
    have HN := Lib.hid hno
    clear hno
    by_cases hlt : j < n
    · obtain ⟨ad, rfl, hb, hc⟩ := il_at H.out hlt
      have E := evalFn_any st g (ig l j) w HG.out
      have HS := Lib.hid ((sta_iff st (ig l j)).1)
      obtain ⟨x, hx⟩ : ∃ x, x = ig l j := ⟨_, rfl⟩
      rw [← hx] at hc E HS
      have HX := Lib.hid hx
      clear hx
      generalize sta st x = q at E HS
      cases q with
      | true =>
        have HQ := Lib.hid (HS.out rfl)
        have E := Lib.hid E
        go_wp2_with (go_at_call 67; (with_reducible refine E.out.mono ?_); rintro e w' ⟨rfl, rfl⟩)
        go_round
        case rel =>
          exact ⟨j + 1, by omega, by go_num, fun i hi => by
            by_cases e : i = j
            · subst e; rw [← HX.out]; exact HQ.out
            · exact HN.out i (by omega)⟩
        case measure => simp [intOf]; omega
      | false =>
        have E := Lib.hid E
        go_wp2_with (go_at_call 67; (with_reducible refine E.out.mono ?_); rintro e w' ⟨rfl, rfl⟩)
        go_ret
        exact ⟨⟨j, rfl⟩, rfl⟩
    · exfalso
      obtain rfl : j = n := by omega
      have := (als_iff st l).2 (by rw [HL.out]; exact HN.out)
      rw [HA.out] at this
      cases this
theorem containsf_any (n : Nat) (st : Int) (g : Nat) (hg : w.cell? ⟨g, 0, none⟩ = some (.int .i64 st)) (h : Reads w w.heap.size AI n (il l)) (hn : n ≤ 1000000) :
    Calls Try.prog 61 #[.slice AI n cI, .func (.func 67) #[] #[.pointer (some ⟨g, 0, none⟩)]] w fun e w' => e = .returned (.bool (!als st l)) ∧ w = w' := by
  cases ha : als st l with
  | true =>
    have I := Lib.hid (indexf_no AI cI l w n st g hg h hn ha)
    clear hg h ha
    go_enter Try.func61, Try.ntmps61
    go_wp2_with (go_at_call 75; (with_reducible refine I.out.mono ?_); rintro e w' ⟨rfl, rfl⟩)
    go_ret
    exact ⟨rfl, rfl⟩
  | false =>
    have I := Lib.hid (indexf_yes AI cI l w n st g hg h hn ha)
    clear hg h ha
    go_enter Try.func61, Try.ntmps61
    go_wp2_with (go_at_call 75; (with_reducible refine I.out.mono ?_); rintro e w' ⟨⟨r, rfl⟩, rfl⟩)
    go_ret
    exact ⟨rfl, rfl⟩

/-- what Eval answers, where V is the value to which the states lead -/
def ev (st : Int) (n : Nat) (l : List Int) (V : Int) : Int × Int := if l.length = n then (if als st l = true then (V, 0) else (0, 10)) else (0, 2)
set_option maxRecDepth 100000 in
set_option maxHeartbeats 4000000 in
theorem eval_any (q : Nat) (h : TS w AH AN T) (ht : Rt T) (hI : Reads w w.heap.size AI q (il l)) (hq : q ≤ 1000000) :
    Calls Try.prog 46 #[.agg #[.int .i64 T.st, .slice AH T.n cH, .slice AN T.m cN], .slice AI q cI] w fun e w' => e = .returned (.tuple #[.int .i64 (ev T.st T.n l (fo T.nx ((T.m - 1 : Nat) : Int) l)).1, .int .i64 (ev T.st T.n l (fo T.nx ((T.m - 1 : Nat) : Int) l)).2]) ∧ Below w.heap.size w w' := by
  have RI := Lib.hid (fun w' (hb : Below w.heap.size w w') => tright_yes AH cH AN cN T w' (h.later hb) ht)
  have HL := Lib.hid (reads_len hI)
  have n2 := ht.hd.1.2
  have FO := Lib.hid (fun w' (hb : Below w.heap.size w w') (hr : Reads w' w'.heap.size AI T.n (il l)) ha => follow_any AH cH AN cN T AI cI l w' (h.2.later hb) ht hr ha)
  have CF := Lib.hid (fun w' g (hb : Below w.heap.size w w') hg => containsf_any AI cI l w' q T.st g hg (hI.later hb) hq)
  have HI := Lib.hid (fun w' (hb : Below w.heap.size w w') => hI.later hb)
  clear h ht hI
  obtain ⟨st, n, f, m, lv, nx⟩ := T
  simp only at *
  generalize fo nx ((m - 1 : Nat) : Int) l = V at FO ⊢
  have K1 := Blk.new w 25 #[.int .i64 st, .slice AH n cH, .slice AN m cN]
  have B1 : Below w.heap.size w (w.alloc (.cells #[.int .i64 st, .slice AH n cH, .slice AN m cN] 25)) := (Below.refl _ _).alloc (Nat.le_refl _) _
  by_cases hqn : q = n
  · subst hqn
    rw [ev, if_pos HL.out]
    have f3 : ((q : Int) != (q : Int)) = false := by rw [bne_eq_false_iff_eq]
    have FO2 := FO.out
    have CF2 := CF.out
    generalize als st l = p at FO2 CF2
    cases p with
    | true =>
      rw [if_pos rfl]
      have FO3 := Lib.hid (fun w' hb hr => FO2 w' hb hr rfl)
      have CF3 := Lib.hid CF2
      clear FO2 CF2
      go_enter Try.func46, Try.ntmps46
      go_wp2_with fail
      generalize w.alloc (.cells #[.int .i64 st, .slice AH q cH, .slice AN m cN] 25) = w0 at *
      obtain ⟨a0, a1, a2, a3⟩ := K1.three
      have K1 := Lib.hid K1
      have B1 := Lib.hid B1
      go_wp2_with (first
        | (go_at_call 66; (with_reducible refine (RI.out _ B1.out).mono ?_); rintro e w1 ⟨rfl, hb⟩; have B2 := Lib.hid (B1.out.trans (hb.mono B1.out.size)); have K2 := Lib.hid (K1.out.below hb K1.out.lt); obtain ⟨b0, b1, b2, b3⟩ := K2.out.three; clear hb)
        | (go_at_call 61; (with_reducible refine (CF3.out _ _ B2.out b0).mono ?_); rintro e w2 ⟨rfl, rfl⟩)
        | (go_at_call 69; (with_reducible refine (FO3.out _ B2.out (HI.out _ B2.out)).mono ?_); rintro e w3 ⟨rfl, hb⟩; have B3 := Lib.hid (B2.out.trans (hb.mono B2.out.size)); clear hb))
      go_ret2
      exact ⟨rfl, B3.out⟩
    | false =>
      rw [if_neg (by decide)]
      have CF3 := Lib.hid CF2
      clear FO2 CF2
      go_enter Try.func46, Try.ntmps46
      go_wp2_with fail
      generalize w.alloc (.cells #[.int .i64 st, .slice AH q cH, .slice AN m cN] 25) = w0 at *
      obtain ⟨a0, a1, a2, a3⟩ := K1.three
      have K1 := Lib.hid K1
      have B1 := Lib.hid B1
      go_wp2_with (first
        | (go_at_call 66; (with_reducible refine (RI.out _ B1.out).mono ?_); rintro e w1 ⟨rfl, hb⟩; have B2 := Lib.hid (B1.out.trans (hb.mono B1.out.size)); have K2 := Lib.hid (K1.out.below hb K1.out.lt); obtain ⟨b0, b1, b2, b3⟩ := K2.out.three; clear hb)
        | (go_at_call 61; (with_reducible refine (CF3.out _ _ B2.out b0).mono ?_); rintro e w2 ⟨rfl, rfl⟩))
      go_ret2
      exact ⟨rfl, B2.out⟩
  · rw [ev, if_neg (by rw [HL.out]; exact hqn)]
    have f3 : ((q : Int) != (n : Int)) = true := by rw [bne_iff_ne]; omega
    go_enter Try.func46, Try.ntmps46
    go_wp2_with fail
    generalize w.alloc (.cells #[.int .i64 st, .slice AH n cH, .slice AN m cN] 25) = w0 at *
    obtain ⟨a0, a1, a2, a3⟩ := K1.three
    have K1 := Lib.hid K1
    have B1 := Lib.hid B1
    go_wp2_with (go_at_call 66; (with_reducible refine (RI.out _ B1.out).mono ?_); rintro e w1 ⟨rfl, hb⟩; have B2 := Lib.hid (B1.out.trans (hb.mono B1.out.size)); have K2 := Lib.hid (K1.out.below hb K1.out.lt); obtain ⟨b0, b1, b2, b3⟩ := K2.out.three; clear hb)
    go_ret2
    exact ⟨rfl, B2.out⟩
end
end Go.Proofs.Ytaicehkphokacaa
