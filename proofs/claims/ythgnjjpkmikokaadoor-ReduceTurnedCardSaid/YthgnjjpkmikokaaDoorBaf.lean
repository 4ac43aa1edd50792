/- The walks of possible, rightNode and Right at valid trees. -/
/- The walks of follow and Eval at valid trees. -/
/- Plain mathematics: the tree with a node in front of the others is valid, and has the same values. -/
import Derived.Test.YthgnjjpkmikokaaDoorBae
namespace Go.Proofs.YthgnjjpkmikokaaDoor
open Go.RowKit

theorem possible_yes (st : Int) (AH : Option Addr) (n cH : Nat) (f : Nat → P2) (w : World) (h : QReads w w.heap.size AH n f) (hd : Hd f n) (s1 : 2 ≤ st) (s2 : st ≤ 8) :
    Calls Tryd.prog 50 #[.int .i64 st, .slice AH n cH] w fun e w' => e = .returned (.bool true) ∧ Below w.heap.size w w' := by
  have HR := Lib.hid (hright_any AH n cH f w h hd)
  clear h hd
  go_enter Tryd.func50, Tryd.ntmps50
  go_wp2_with (go_at_call 8; (with_reducible refine HR.out.mono ?_); rintro e w1 ⟨rfl, hb⟩; have B1 := Lib.hid hb; clear hb)
  go_ret
  exact ⟨rfl, B1.out⟩
theorem possible_zero (A : Option Addr) (n c : Nat) (w : World) :
    Calls Tryd.prog 50 #[.int .i64 0, .slice A n c] w fun e w' => e = .returned (.bool false) ∧ w = w' := by
  go_enter Tryd.func50, Tryd.ntmps50
  go_wp2
  go_ret
  exact ⟨rfl, rfl⟩

set_option maxRecDepth 100000 in
set_option maxHeartbeats 4000000 in
theorem rightNode_yes (AH : Option Addr) (cH : Nat) (AN : Option Addr) (cN : Nat) (T : Tr) (i : Nat) (w : World) (h : NR w w.heap.size AN T.m T.lv T.nx) (ht : Rt T) (hi : i < T.m) :
    Calls Tryd.prog 51 #[.agg #[.int .i64 T.st, .slice AH T.n cH, .slice AN T.m cN], .int .i64 (i : Int)] w fun e w' => e = .returned (.bool true) ∧ Below w.heap.size w w' := by
  obtain ⟨b1, b2, b3, b4⟩ := ht.nd i hi
  have s1 := ht.s1
  have s2 := ht.s2
  have m2 := ht.m2
  have n2 := ht.hd.1.2
  clear ht
  obtain ⟨st, n, f, m, lv, nx⟩ := T
  simp only at *
  obtain ⟨S, rfl⟩ : ∃ S : Nat, st = (S : Int) := ⟨st.toNat, by omega⟩
  have K1 := Blk.new w 25 #[.int .i64 (S : Int), .slice AH n cH, .slice AN m cN]
  have B1 : Below w.heap.size w (w.alloc (.cells #[.int .i64 (S : Int), .slice AH n cH, .slice AN m cN] 25)) := (Below.refl _ _).alloc (Nat.le_refl _) _
  obtain ⟨g1, o1, rfl, hb1, hc⟩ := h.below B1 (by omega)
  obtain ⟨A', c', h1, h2, hr⟩ := hc i hi
  have hE : (nx i).length = S := by omega
  rw [hE] at h2 hr b4
  clear h b3 hE
  have HC := Lib.hid (fun k (hk : k < m) => (hc k hk))
  have HE := Lib.hid b4
  clear hc b4
  generalize nx i = X at hr HE
  generalize lv i = l at h1 HE b1 b2
  have f1 : decide (l < 1) = false := by rw [decide_eq_false_iff_not]; omega
  have f2 : decide ((n : Int) < l) = false := by rw [decide_eq_false_iff_not]; omega
  have f3 : ((S : Int) != (S : Int)) = false := by rw [bne_eq_false_iff_eq]
  have IS := Lib.hid (fun k w => isState_any (S : Int) k w)
  have hz : (w.alloc (.cells #[.int .i64 (S : Int), .slice AH n cH, .slice (some ⟨g1, o1, none⟩) m cN] 25)).heap.size = w.heap.size + 1 := by simp
  go_enter Tryd.func51, Tryd.ntmps51
  go_wp2_with fail
  generalize w.alloc (.cells #[.int .i64 (S : Int), .slice AH n cH, .slice (some ⟨g1, o1, none⟩) m cN] 25) = w0 at *
  obtain ⟨a0, a1, a2, a3⟩ := K1.three
  have hg1 : g1 < w0.heap.size := Nat.lt_of_lt_of_le hb1 B1.size
  have BY := (Below.refl w0.heap.size w0).alloc (Nat.le_refl _) (.cells #[.int .i64 l, .slice A' S c'] 44)
  have K7 := (Blk.new w0 44 #[.int .i64 l, .slice A' S c'])
  rw [hz] at K7
  have K7 := Lib.hid K7
  clear hz
  have K5 := Lib.hid (K1.alloc (.cells #[.int .i64 l, .slice A' S c'] 44))
  have RX := Lib.hid (hr.below (BY.mono B1.size))
  have B7 := Lib.hid (B1.trans (BY.mono B1.size))
  have BY := Lib.hid BY
  clear hr
  go_upto_region 2 with (fail)
  generalize w0.alloc (.cells #[.int .i64 l, .slice A' S c'] 44) = w7 at *
  clear a0 a1 a2 a3 h1 h2
  obtain ⟨a0, a1, a2, a3⟩ := K5.out.three
  obtain ⟨k0, k1, k2, k3, k4⟩ := K7.out.two
  go_wp2
  go_loopw [35] (fun iv wr => ∃ s : Nat, s ≤ S ∧ iv = .int .i64 (s : Int) ∧ Below w7.heap.size w7 wr) (fun iv _ => S - (intOf iv).toNat)
  case atStart => exact ⟨0, Nat.zero_le _, rfl, Below.refl _ _⟩
  case round =>
    obtain ⟨s, hs, rfl, hbel⟩ := hrel
    have K8 := Lib.hid (K7.out.below hbel K7.out.lt)
    have K9 := Lib.hid (K5.out.below hbel K5.out.lt)
    have B8 := Lib.hid (B7.out.trans (hbel.mono B7.out.size))
    have BZ := Lib.hid hbel
    clear a0 a1 a2 a3 k0 k1 k2 k3 k4 hbel
    obtain ⟨a0, a1, a2, a3⟩ := K9.out.three
    obtain ⟨k0, k1, k2, k3, k4⟩ := K8.out.two
    by_cases hsl : s < S
    · obtain ⟨ad, rfl, hb, hx⟩ := il_at (RX.out.below (BZ.out.mono B7.out.size)) hsl
      obtain ⟨p0, e1, e2⟩ := HE.out s hsl
      generalize ig X s = k at hx p0 e1 e2
      have I := IS.out k
      by_cases p1 : l = 1
      · have p2 := e1 p1
        rw [show sta (S : Int) k = true from (sta_iff _ _).2 ⟨p0, p2⟩] at I
        have I := Lib.hid I
        subst p1
        have q1 : decide ((1 : Int) < 1) = false := by decide
        clear e1 e2
        go_upto_region 9 with (go_at_call 35; (with_reducible refine (I.out _).mono ?_); rintro e w' ⟨rfl, rfl⟩)
        go_quiet (fail)
        go_wp2
        go_roundw
        case rel => exact ⟨s + 1, by omega, by go_num, below_drewN BZ.out _⟩
        case measure => simp [intOf]; omega
      · have q0 : (l == 1) = false := by rw [beq_eq_false_iff_ne]; exact p1
        have q1 : decide (1 < l) = true := by rw [decide_eq_true_iff]; omega
        obtain ⟨p2, p3⟩ := e2 (by omega)
        obtain ⟨kn, rfl⟩ : ∃ kn : Nat, k = (kn : Int) := ⟨k.toNat, by omega⟩
        rw [Int.toNat_natCast] at p3
        have hkm : kn < m := by omega
        have q0n : decide ((kn : Int) < 0) = false := by rw [decide_eq_false_iff_not]; omega
        have q2 : decide ((i : Int) ≤ (kn : Int)) = false := by rw [decide_eq_false_iff_not]; omega
        have q2n : decide (i ≤ kn) = false := by rw [decide_eq_false_iff_not]; omega
        obtain ⟨A2, c2, y1, -, -⟩ := HC.out kn hkm
        have y2 := (BZ.out.cell (p := ⟨g1, o1 + kn * 2, none⟩) (Nat.lt_of_lt_of_le hg1 BY.out.size)).trans ((BY.out.cell (p := ⟨g1, o1 + kn * 2, none⟩) hg1).trans y1)
        rw [p3] at y2
        have hw : IntKind.i64.wrap (l - 1) = l - 1 := IntWalk.i64_in _ (by omega)
        have q3 : (l - 1 != l - 1) = false := by rw [bne_eq_false_iff_eq]
        clear y1 p3 e1 e2 I
        go_upto_region 9 with (fail)
        go_quiet (fail)
        go_wp2
        go_roundw
        case rel => exact ⟨s + 1, by omega, by go_num, below_drewN BZ.out _⟩
        case measure => simp [intOf]; omega
    · obtain rfl : s = S := by omega
      go_wp2
      go_ret
      exact ⟨rfl, B8.out⟩

set_option maxRecDepth 100000 in
set_option maxHeartbeats 4000000 in
theorem tright_yes (AH : Option Addr) (cH : Nat) (AN : Option Addr) (cN : Nat) (T : Tr) (w : World) (h : TS w AH AN T) (ht : Rt T) :
    Calls Tryd.prog 21 #[.agg #[.int .i64 T.st, .slice AH T.n cH, .slice AN T.m cN]] w fun e w' => e = .returned (.bool true) ∧ Below w.heap.size w w' := by
  have PO := Lib.hid (fun w' (hb : Below w.heap.size w w') => possible_yes T.st AH T.n cH T.f w' (h.1.later hb) ht.hd ht.s1 ht.s2)
  have ND := Lib.hid (fun w' (hb : Below w.heap.size w w') i hi => rightNode_yes AH cH AN cN T i w' (h.2.later hb) ht hi)
  have HN := Lib.hid (fun w' (hb : Below w.heap.size w w') => h.2.below hb)
  have m1 := ht.m1
  have m2 := ht.m2
  have TP := Lib.hid ht.top
  clear h ht
  obtain ⟨st, n, f, m, lv, nx⟩ := T
  simp only at *
  have K1 := Blk.new w 25 #[.int .i64 st, .slice AH n cH, .slice AN m cN]
  have B1 : Below w.heap.size w (w.alloc (.cells #[.int .i64 st, .slice AH n cH, .slice AN m cN] 25)) := (Below.refl _ _).alloc (Nat.le_refl _) _
  have d1 : decide ((m : Int) < 1) = false := by rw [decide_eq_false_iff_not]; omega
  have d2 : decide (4096 < (m : Int)) = false := by rw [decide_eq_false_iff_not]; omega
  go_enter Tryd.func21, Tryd.ntmps21
  go_wp2_with fail
  generalize w.alloc (.cells #[.int .i64 st, .slice AH n cH, .slice AN m cN] 25) = w0 at *
  obtain ⟨a0, a1, a2, a3⟩ := K1.three
  have K1 := Lib.hid K1
  have B1 := Lib.hid B1
  go_wp2_with (go_at_call 50; (with_reducible refine (PO.out _ B1.out).mono ?_); rintro e w1 ⟨rfl, hb⟩; have B2 := Lib.hid (B1.out.trans (hb.mono B1.out.size)); have K2 := Lib.hid (K1.out.below hb K1.out.lt); obtain ⟨b0, b1, b2, b3⟩ := K2.out.three; clear hb)
  go_loopw [25] (fun iv wr => ∃ j : Nat, j ≤ m ∧ iv = .int .i64 (j : Int) ∧ Below w1.heap.size w1 wr) (fun iv _ => m - (intOf iv).toNat)
  case atStart => exact ⟨0, Nat.zero_le _, rfl, Below.refl _ _⟩
  case round =>
    obtain ⟨j, hj, rfl, hbel⟩ := hrel
    have B4 := Lib.hid (B2.out.trans (hbel.mono B2.out.size))
    have K4 := Lib.hid (K2.out.below hbel K2.out.lt)
    have BX := Lib.hid hbel
    clear a0 a1 a2 a3 b0 b1 b2 b3 hbel
    obtain ⟨a0, a1, a2, a3⟩ := K4.out.three
    by_cases hlt : j < m
    · go_wp2_with (go_at_call 51; (with_reducible refine (ND.out _ B4.out _ hlt).mono ?_); rintro e w2 ⟨rfl, hb⟩; have B5 := Lib.hid (BX.out.trans (hb.mono BX.out.size)); clear hb)
      go_roundw
      case rel => exact ⟨j + 1, by omega, by go_num, B5.out⟩
      case measure => simp [intOf]; omega
    · obtain rfl : j = m := by omega
      obtain ⟨i, hi⟩ : ∃ i, j = i + 1 := ⟨j - 1, by omega⟩
      obtain ⟨g1, o1, rfl, hb1, hc⟩ := HN.out _ B4.out (by omega)
      obtain ⟨A', c', h1, -, -⟩ := hc i (by omega)
      have hw1 : IntKind.i64.wrap ((j : Int) - 1) = (i : Int) := by rw [show (j : Int) - 1 = (i : Int) by omega]; exact IntWalk.i64_in _ (by omega)
      have tp := TP.out
      rw [show j - 1 = i by omega] at tp
      rw [tp] at h1
      have hij : i < j := by omega
      clear hc hlt hi tp
      go_wp2_with fail
      go_quiet (fail)
      go_wp2
      go_ret
      exact ⟨rfl, below_drewN B4.out _⟩
end Go.Proofs.YthgnjjpkmikokaaDoor
namespace Go.Proofs.YthgnjjpkmikokaaDoor
open Go.RowKit

/-- the value to which states lead from an index -/
def fo (nx : Nat → List Int) : Int → List Int → Int
  | k, [] => k
  | k, s :: r => fo nx (ig (nx k.toNat) s.toNat) r
theorem fo_step (nx : Nat → List Int) (k : Int) {l : List Int} {j : Nat} (hj : j < l.length) : fo nx k (l.drop j) = fo nx (ig (nx k.toNat) (ig l j).toNat) (l.drop (j + 1)) := by
  rw [List.drop_eq_getElem_cons hj, fo]
  congr 1
  simp [ig, hj]

section
variable (AH : Option Addr) (cH : Nat) (AN : Option Addr) (cN : Nat) (T : Tr) (AI : Option Addr) (cI : Nat) (l : List Int) (w : World)
set_option maxRecDepth 100000 in
set_option maxHeartbeats 4000000 in
theorem follow_any (h : NR w w.heap.size AN T.m T.lv T.nx) (ht : Rt T) (hI : Reads w w.heap.size AI T.n (il l)) (ha : als T.st l = true) :
    Calls Tryd.prog 36 #[.agg #[.int .i64 T.st, .slice AH T.n cH, .slice AN T.m cN], .slice AI T.n cI] w fun e w' => e = .returned (.int .i64 (fo T.nx ((T.m - 1 : Nat) : Int) l)) ∧ Below w.heap.size w w' := by
  have HT := Lib.hid ht.nd
  have TP := Lib.hid ht.top
  have s1 := ht.s1
  have m1 := ht.m1
  have m2 := ht.m2
  have n2 := ht.hd.1.2
  have n1 := ht.hd.1.1
  have HL := Lib.hid (reads_len hI)
  have HA := Lib.hid ((als_iff _ _).1 ha)
  clear ht ha
  obtain ⟨st, n, f, m, lv, nx⟩ := T
  simp only at *
  have K1 := Blk.new w 25 #[.int .i64 st, .slice AH n cH, .slice AN m cN]
  have B1 : Below w.heap.size w (w.alloc (.cells #[.int .i64 st, .slice AH n cH, .slice AN m cN] 25)) := (Below.refl _ _).alloc (Nat.le_refl _) _
  have HN := Lib.hid (h.below B1)
  have HI := Lib.hid (hI.below B1)
  obtain ⟨i, rfl⟩ : ∃ i, m = i + 1 := ⟨m - 1, by omega⟩
  have e1 : i + 1 - 1 = i := by omega
  rw [e1] at TP ⊢
  clear h hI e1
  obtain ⟨V, hV⟩ : ∃ V, V = fo nx (i : Int) l := ⟨_, rfl⟩
  rw [← hV]
  have HV := Lib.hid hV
  clear hV
  go_enter Tryd.func36, Tryd.ntmps36
  go_wp2_with fail
  generalize w.alloc (.cells #[.int .i64 st, .slice AH n cH, .slice AN (i + 1) cN] 25) = w0 at *
  obtain ⟨a0, a1, a2, a3⟩ := K1.three
  have B1 := Lib.hid B1
  clear K1
  go_wp2
  go_loop [5, 14] (fun kv jv => ∃ (j : Nat) (k : Int), j ≤ n ∧ jv = .int .i64 (j : Int) ∧ kv = .int .i64 k ∧ fo nx k (l.drop j) = V ∧ (j < n → 0 ≤ k ∧ k < (i : Int) + 1 ∧ lv k.toNat = (n : Int) - (j : Int))) (fun _ jv => n - (intOf jv).toNat)
  case atStart => exact ⟨0, i, Nat.zero_le _, rfl, rfl, HV.out.symm, fun _ => ⟨by omega, by omega, by rw [Int.toNat_natCast, TP.out]; omega⟩⟩
  case round =>
    obtain ⟨j, k, hj, rfl, rfl, hfo, hk⟩ := hrel
    by_cases hlt : j < n
    · obtain ⟨k1, k2, k3⟩ := hk hlt
      obtain ⟨kn, rfl⟩ : ∃ kn : Nat, k = (kn : Int) := ⟨k.toNat, by omega⟩
      have hkm : kn < i + 1 := by omega
      rw [Int.toNat_natCast] at k3
      obtain ⟨ad, rfl, hb, hx⟩ := il_at HI.out hlt
      obtain ⟨t1, t2⟩ := HA.out j (by rw [HL.out]; exact hlt)
      rw [fo_step nx kn (by rw [HL.out]; exact hlt)] at hfo
      obtain ⟨sn, hs⟩ : ∃ sn : Nat, ig l j = (sn : Int) := ⟨(ig l j).toNat, by omega⟩
      rw [hs] at hx t1 t2 hfo
      rw [Int.toNat_natCast, Int.toNat_natCast] at hfo
      obtain ⟨g1, o1, rfl, hb1, hc⟩ := HN.out (by omega)
      obtain ⟨A', c', y1, y2, hr⟩ := hc kn hkm
      obtain ⟨b1, b2, b3, b4⟩ := HT.out kn hkm
      have hsn : sn < (nx kn).length := by omega
      obtain ⟨ad2, rfl, hb2, hx2⟩ := il_at hr hsn
      have b5 := b4 sn hsn
      generalize (nx kn).length = S at y2 hsn
      obtain ⟨k', hk'⟩ : ∃ k', k' = ig (nx kn) sn := ⟨_, rfl⟩
      rw [← hk'] at hx2 hfo b5
      have HE := Lib.hid (show j + 1 < n → 0 ≤ k' ∧ k' < (i : Int) + 1 ∧ lv k'.toNat = (n : Int) - ((j + 1 : Nat) : Int) from fun hjn => by
        obtain ⟨p1, _, p3⟩ := b5
        obtain ⟨p4, p5⟩ := p3 (by omega)
        exact ⟨p1, by omega, by rw [p5, k3]; omega⟩)
      have HF := Lib.hid hfo
      clear hk hfo hk' b1 b2 b3 b4 b5 hc hr y1 k1 k2 k3 hs t1 t2
      go_wp2
      go_round
      case rel => exact ⟨j + 1, k', by omega, by go_num, rfl, HF.out, HE.out⟩
      case measure => simp [intOf]; omega
    · obtain rfl : j = n := by omega
      have hfo : k = V := by rw [List.drop_eq_nil_of_le (by rw [HL.out]; omega)] at hfo; exact hfo
      subst hfo
      clear hk
      go_wp2
      go_ret
      exact ⟨rfl, B1.out⟩

/-- not a state -/
theorem evalFn_any (st : Int) (g : Nat) (x : Int) (w : World) (h : w.cell? ⟨g, 0, none⟩ = some (.int .i64 st)) :
    Calls Tryd.prog 34 #[.int .i64 x, .pointer (some ⟨g, 0, none⟩)] w fun e w' => e = .returned (.bool (!sta st x)) ∧ w = w' := by
  have IS := Lib.hid (fun w => isState_any st x w)
  generalize sta st x = q at IS
  go_enter Tryd.func34, Tryd.ntmps34
  cases q <;> go_wp2_with (go_at_call 35; (with_reducible refine (IS.out _).mono ?_); rintro e w' ⟨rfl, rfl⟩)
  all_goals go_ret
  all_goals exact ⟨rfl, rfl⟩
theorem indexf_no (n : Nat) (st : Int) (g : Nat) (hg : w.cell? ⟨g, 0, none⟩ = some (.int .i64 st)) (h : Reads w w.heap.size AI n (il l)) (hn : n ≤ 1000000) (ha : als st l = true) :
    Calls Tryd.prog 66 #[.slice AI n cI, .func (.func 34) #[] #[.pointer (some ⟨g, 0, none⟩)]] w fun e w' => e = .returned (.int .i64 (-1)) ∧ w = w' := by
  have HL := Lib.hid (reads_len h)
  have H := Lib.hid h
  have HA := Lib.hid ((als_iff _ _).1 ha)
  have HG := Lib.hid hg
  clear h ha hg
  go_enter Tryd.func66, Tryd.ntmps66
  go_wp2
  go_loop [8] (fun iv => ∃ j : Nat, j ≤ n ∧ iv = .int .i64 (j : Int)) (fun iv => n - (intOf iv).toNat)
  case atStart => exact ⟨0, Nat.zero_le _, rfl⟩
  case round =>
    obtain ⟨j, hj, rfl⟩ := hrel
    by_cases hlt : j < n
    · obtain ⟨ad, rfl, hb, hc⟩ := il_at H.out hlt
      have E := evalFn_any st g (ig l j) w HG.out
      rw [show sta st (ig l j) = true from (sta_iff _ _).2 (HA.out j (by rw [HL.out]; exact hlt))] at E
      have E := Lib.hid E
      generalize ig l j = x at hc E
      go_wp2_with (go_at_call 34; (with_reducible refine E.out.mono ?_); rintro e w' ⟨rfl, rfl⟩)
      go_round
      case rel => exact ⟨j + 1, by omega, by go_num⟩
      case measure => simp [intOf]; omega
    · obtain rfl : j = n := by omega
      go_wp2
      go_ret
      exact ⟨rfl, rfl⟩
theorem indexf_yes (n : Nat) (st : Int) (g : Nat) (hg : w.cell? ⟨g, 0, none⟩ = some (.int .i64 st)) (h : Reads w w.heap.size AI n (il l)) (hn : n ≤ 1000000) (ha : als st l = false) :
    Calls Tryd.prog 66 #[.slice AI n cI, .func (.func 34) #[] #[.pointer (some ⟨g, 0, none⟩)]] w fun e w' => (∃ r : Nat, e = .returned (.int .i64 (r : Nat))) ∧ w = w' := by
  have HL := Lib.hid (reads_len h)
  have H := Lib.hid h
  have HA := Lib.hid ha
  have HG := Lib.hid hg
  clear h ha hg
  go_enter Tryd.func66, Tryd.ntmps66
  go_wp2
  go_loop [8] (fun iv => ∃ j : Nat, j ≤ n ∧ iv = .int .i64 (j : Int) ∧ ∀ i, i < j → 0 ≤ ig l i ∧ ig l i < st) (fun iv => n - (intOf iv).toNat)
  case atStart => exact ⟨0, Nat.zero_le _, rfl, fun i hi => absurd hi (by omega)⟩
  case round =>
    obtain ⟨j, hj, rfl, hno⟩ := hrel
    have HN := Lib.hid hno
    clear hno
    by_cases hlt : j < n
    · obtain ⟨ad, rfl, hb, hc⟩ := il_at H.out hlt
      have E := evalFn_any st g (ig l j) w HG.out
      have HS := Lib.hid ((sta_iff st (ig l j)).1)
      obtain ⟨x, hx⟩ : ∃ x, x = ig l j := ⟨_, rfl⟩
      rw [← hx] at hc E HS
      have HX := Lib.hid hx
      clear hx
      generalize sta st x = q at E HS
      cases q with
      | true =>
        have HQ := Lib.hid (HS.out rfl)
        have E := Lib.hid E
        go_wp2_with (go_at_call 34; (with_reducible refine E.out.mono ?_); rintro e w' ⟨rfl, rfl⟩)
        go_round
        case rel =>
          exact ⟨j + 1, by omega, by go_num, fun i hi => by
            by_cases e : i = j
            · subst e; rw [← HX.out]; exact HQ.out
            · exact HN.out i (by omega)⟩
        case measure => simp [intOf]; omega
      | false =>
        have E := Lib.hid E
        go_wp2_with (go_at_call 34; (with_reducible refine E.out.mono ?_); rintro e w' ⟨rfl, rfl⟩)
        go_ret
        exact ⟨⟨j, rfl⟩, rfl⟩
    · exfalso
      obtain rfl : j = n := by omega
      have := (als_iff st l).2 (by rw [HL.out]; exact HN.out)
      rw [HA.out] at this
      cases this
theorem containsf_any (n : Nat) (st : Int) (g : Nat) (hg : w.cell? ⟨g, 0, none⟩ = some (.int .i64 st)) (h : Reads w w.heap.size AI n (il l)) (hn : n ≤ 1000000) :
    Calls Tryd.prog 33 #[.slice AI n cI, .func (.func 34) #[] #[.pointer (some ⟨g, 0, none⟩)]] w fun e w' => e = .returned (.bool (!als st l)) ∧ w = w' := by
  cases ha : als st l with
  | true =>
    have I := Lib.hid (indexf_no AI cI l w n st g hg h hn ha)
    clear hg h ha
    go_enter Tryd.func33, Tryd.ntmps33
    go_wp2_with (go_at_call 66; (with_reducible refine I.out.mono ?_); rintro e w' ⟨rfl, rfl⟩)
    go_ret
    exact ⟨rfl, rfl⟩
  | false =>
    have I := Lib.hid (indexf_yes AI cI l w n st g hg h hn ha)
    clear hg h ha
    go_enter Tryd.func33, Tryd.ntmps33
    go_wp2_with (go_at_call 66; (with_reducible refine I.out.mono ?_); rintro e w' ⟨⟨r, rfl⟩, rfl⟩)
    go_ret
    exact ⟨rfl, rfl⟩

/-- what Eval answers, where V is the value to which the states lead -/
def ev (st : Int) (n : Nat) (l : List Int) (V : Int) : Int × Int := if l.length = n then (if als st l = true then (V, 0) else (0, 10)) else (0, 2)
set_option maxRecDepth 100000 in
set_option maxHeartbeats 4000000 in
theorem eval_any (q : Nat) (h : TS w AH AN T) (ht : Rt T) (hI : Reads w w.heap.size AI q (il l)) (hq : q ≤ 1000000) :
    Calls Tryd.prog 12 #[.agg #[.int .i64 T.st, .slice AH T.n cH, .slice AN T.m cN], .slice AI q cI] w fun e w' => e = .returned (.tuple #[.int .i64 (ev T.st T.n l (fo T.nx ((T.m - 1 : Nat) : Int) l)).1, .int .i64 (ev T.st T.n l (fo T.nx ((T.m - 1 : Nat) : Int) l)).2]) ∧ Below w.heap.size w w' := by
  have RI := Lib.hid (fun w' (hb : Below w.heap.size w w') => tright_yes AH cH AN cN T w' (h.later hb) ht)
  have HL := Lib.hid (reads_len hI)
  have n2 := ht.hd.1.2
  have FO := Lib.hid (fun w' (hb : Below w.heap.size w w') (hr : Reads w' w'.heap.size AI T.n (il l)) ha => follow_any AH cH AN cN T AI cI l w' (h.2.later hb) ht hr ha)
  have CF := Lib.hid (fun w' g (hb : Below w.heap.size w w') hg => containsf_any AI cI l w' q T.st g hg (hI.later hb) hq)
  have HI := Lib.hid (fun w' (hb : Below w.heap.size w w') => hI.later hb)
  clear h ht hI
  obtain ⟨st, n, f, m, lv, nx⟩ := T
  simp only at *
  generalize fo nx ((m - 1 : Nat) : Int) l = V at FO ⊢
  have K1 := Blk.new w 25 #[.int .i64 st, .slice AH n cH, .slice AN m cN]
  have B1 : Below w.heap.size w (w.alloc (.cells #[.int .i64 st, .slice AH n cH, .slice AN m cN] 25)) := (Below.refl _ _).alloc (Nat.le_refl _) _
  by_cases hqn : q = n
  · subst hqn
    rw [ev, if_pos HL.out]
    have f3 : ((q : Int) != (q : Int)) = false := by rw [bne_eq_false_iff_eq]
    have FO2 := FO.out
    have CF2 := CF.out
    generalize als st l = p at FO2 CF2
    cases p with
    | true =>
      rw [if_pos rfl]
      have FO3 := Lib.hid (fun w' hb hr => FO2 w' hb hr rfl)
      have CF3 := Lib.hid CF2
      clear FO2 CF2
      go_enter Tryd.func12, Tryd.ntmps12
      go_wp2_with fail
      generalize w.alloc (.cells #[.int .i64 st, .slice AH q cH, .slice AN m cN] 25) = w0 at *
      obtain ⟨a0, a1, a2, a3⟩ := K1.three
      have K1 := Lib.hid K1
      have B1 := Lib.hid B1
      go_wp2_with (first
        | (go_at_call 21; (with_reducible refine (RI.out _ B1.out).mono ?_); rintro e w1 ⟨rfl, hb⟩; have B2 := Lib.hid (B1.out.trans (hb.mono B1.out.size)); have K2 := Lib.hid (K1.out.below hb K1.out.lt); obtain ⟨b0, b1, b2, b3⟩ := K2.out.three; clear hb)
        | (go_at_call 33; (with_reducible refine (CF3.out _ _ B2.out b0).mono ?_); rintro e w2 ⟨rfl, rfl⟩)
        | (go_at_call 36; (with_reducible refine (FO3.out _ B2.out (HI.out _ B2.out)).mono ?_); rintro e w3 ⟨rfl, hb⟩; have B3 := Lib.hid (B2.out.trans (hb.mono B2.out.size)); clear hb))
      go_ret2
      exact ⟨rfl, B3.out⟩
    | false =>
      rw [if_neg (by decide)]
      have CF3 := Lib.hid CF2
      clear FO2 CF2
      go_enter Tryd.func12, Tryd.ntmps12
      go_wp2_with fail
      generalize w.alloc (.cells #[.int .i64 st, .slice AH q cH, .slice AN m cN] 25) = w0 at *
      obtain ⟨a0, a1, a2, a3⟩ := K1.three
      have K1 := Lib.hid K1
      have B1 := Lib.hid B1
      go_wp2_with (first
        | (go_at_call 21; (with_reducible refine (RI.out _ B1.out).mono ?_); rintro e w1 ⟨rfl, hb⟩; have B2 := Lib.hid (B1.out.trans (hb.mono B1.out.size)); have K2 := Lib.hid (K1.out.below hb K1.out.lt); obtain ⟨b0, b1, b2, b3⟩ := K2.out.three; clear hb)
        | (go_at_call 33; (with_reducible refine (CF3.out _ _ B2.out b0).mono ?_); rintro e w2 ⟨rfl, rfl⟩))
      go_ret2
      exact ⟨rfl, B2.out⟩
  · rw [ev, if_neg (by rw [HL.out]; exact hqn)]
    have f3 : ((q : Int) != (n : Int)) = true := by rw [bne_iff_ne]; omega
    go_enter Tryd.func12, Tryd.ntmps12
    go_wp2_with fail
    generalize w.alloc (.cells #[.int .i64 st, .slice AH n cH, .slice AN m cN] 25) = w0 at *
    obtain ⟨a0, a1, a2, a3⟩ := K1.three
    have K1 := Lib.hid K1
    have B1 := Lib.hid B1
    go_wp2_with (go_at_call 21; (with_reducible refine (RI.out _ B1.out).mono ?_); rintro e w1 ⟨rfl, hb⟩; have B2 := Lib.hid (B1.out.trans (hb.mono B1.out.size)); have K2 := Lib.hid (K1.out.below hb K1.out.lt); obtain ⟨b0, b1, b2, b3⟩ := K2.out.three; clear hb)
    go_ret2
    exact ⟨rfl, B2.out⟩
end
end Go.Proofs.YthgnjjpkmikokaaDoor
namespace Go.Proofs.YthgnjjpkmikokaaDoor
open Go.RowKit

/-- the elements of a moved node -/
def mx (l : Int) (X : List Int) : List Int := X.map fun k => if 1 < l then k + 1 else k
theorem mx_len (l : Int) (X : List Int) : (mx l X).length = X.length := by simp [mx]
theorem ig_mx (l : Int) (X : List Int) {s : Nat} (h : s < X.length) : ig (mx l X) s = if 1 < l then ig X s + 1 else ig X s := by
  simp [mx, ig, h]
/-- its levels -/
def lu (lv : Nat → Int) : Nat → Int
  | 0 => 1
  | k + 1 => lv k
/-- its elements -/
def xu (S : Nat) (lv : Nat → Int) (nx : Nat → List Int) : Nat → List Int
  | 0 => List.replicate S 0
  | k + 1 => mx (lv k) (nx k)
/-- the tree with a node in front -/
def up (T : Tr) : Tr := ⟨T.st, T.n, T.f, T.m + 1, lu T.lv, xu T.st.toNat T.lv T.nx⟩
theorem up_rt {T : Tr} (h : Rt T) (h3 : T.m ≤ 300) : Rt (up T) := by
  refine ⟨h.s1, h.s2, h.hd, ?_, ?_, ?_, ?_⟩
  · show 1 ≤ T.m + 1; omega
  · show T.m + 1 ≤ 4096; omega
  · intro i hi
    match i, hi with
    | 0, _ =>
      refine ⟨by show (1 : Int) ≤ 1; omega, by show (1 : Int) ≤ (T.n : Int); have := h.hd.1.1; omega, ?_, ?_⟩
      · show ((List.replicate T.st.toNat (0 : Int)).length : Int) = T.st
        have := h.s1
        rw [List.length_replicate]; omega
      · intro s hs
        have hs' : s < T.st.toNat := by
          have : s < (List.replicate T.st.toNat (0 : Int)).length := hs
          rwa [List.length_replicate] at this
        show El T.st _ 0 1 (ig (List.replicate T.st.toNat (0 : Int)) s)
        rw [show ig (List.replicate T.st.toNat (0 : Int)) s = 0 by simp [ig, hs']]
        have := h.s1
        exact ⟨by omega, fun _ => by omega, fun h => absurd h (by omega)⟩
    | i + 1, hi =>
      have hi' : i < T.m := by have : i + 1 < T.m + 1 := hi; omega
      obtain ⟨b1, b2, b3, b4⟩ := h.nd i hi'
      refine ⟨b1, b2, ?_, ?_⟩
      · show ((mx (T.lv i) (T.nx i)).length : Int) = T.st
        rw [mx_len]; exact b3
      · intro s hs
        have hs' : s < (T.nx i).length := by
          have : s < (mx (T.lv i) (T.nx i)).length := hs
          rwa [mx_len] at this
        show El T.st (lu T.lv) (i + 1) (T.lv i) (ig (mx (T.lv i) (T.nx i)) s)
        rw [ig_mx _ _ hs']
        obtain ⟨p1, p2, p3⟩ := b4 s hs'
        split
        · next hl =>
          obtain ⟨p4, p5⟩ := p3 hl
          refine ⟨by omega, fun h => absurd h (by omega), fun _ => ⟨by omega, ?_⟩⟩
          rw [show (ig (T.nx i) s + 1).toNat = (ig (T.nx i) s).toNat + 1 by omega]
          exact p5
        · next hl => exact ⟨p1, p2, fun h => absurd h hl⟩
  · show lu T.lv (T.m + 1 - 1) = (T.n : Int)
    have := h.m1
    obtain ⟨k, hk⟩ : ∃ k, T.m = k + 1 := ⟨T.m - 1, by omega⟩
    rw [Nat.add_sub_cancel, hk]
    have := h.top
    rw [hk, Nat.add_sub_cancel] at this
    exact this

theorem fo_up {T : Tr} (h : Rt T) : ∀ (r : List Int) (k : Nat), k < T.m → T.lv k = (r.length : Int) → (∀ s ∈ r, 0 ≤ s ∧ s < T.st) → fo (xu T.st.toNat T.lv T.nx) (((k + 1 : Nat)) : Int) r = fo T.nx (k : Int) r
  | [], k, hk, hl, _ => by
    have := (h.nd k hk).1
    simp at hl
    omega
  | s :: r, k, hk, hl, hs => by
    obtain ⟨b1, b2, b3, b4⟩ := h.nd k hk
    have hs0 := hs s (List.mem_cons_self)
    have hsl : s.toNat < (T.nx k).length := by omega
    obtain ⟨p1, p2, p3⟩ := b4 s.toNat hsl
    rw [fo, fo, Int.toNat_natCast, Int.toNat_natCast]
    show fo _ (ig (mx (T.lv k) (T.nx k)) s.toNat) r = _
    rw [ig_mx _ _ hsl]
    split
    · next hl1 =>
      obtain ⟨p4, p5⟩ := p3 hl1
      obtain ⟨k', hk'⟩ : ∃ k' : Nat, ig (T.nx k) s.toNat = (k' : Int) := ⟨(ig (T.nx k) s.toNat).toNat, by omega⟩
      rw [hk'] at p4 p5 ⊢
      rw [Int.toNat_natCast] at p5
      have hlr : T.lv k' = (r.length : Int) := by rw [p5, hl]; simp
      have := fo_up h r k' (by omega) hlr (fun t ht => hs t (List.mem_cons_of_mem _ ht))
      rw [← this]
      rfl
    · next hl1 =>
      have hr : r = [] := by
        have : r.length = 0 := by simp at hl; omega
        exact List.eq_nil_of_length_eq_zero this
      subst hr
      rfl
/-- both trees answer the same -/
theorem ev_up {T : Tr} (h : Rt T) (l : List Int) : ev (up T).st (up T).n l (fo (up T).nx (((up T).m - 1 : Nat) : Int) l) = ev T.st T.n l (fo T.nx ((T.m - 1 : Nat) : Int) l) := by
  show ev T.st T.n l (fo (xu T.st.toNat T.lv T.nx) ((T.m + 1 - 1 : Nat) : Int) l) = _
  unfold ev
  split
  · next hn =>
    split
    · next ha =>
      have hm := h.m1
      obtain ⟨k, hk⟩ : ∃ k, T.m = k + 1 := ⟨T.m - 1, by omega⟩
      have ht := h.top
      rw [hk, Nat.add_sub_cancel] at ht
      rw [hk, Nat.add_sub_cancel, Nat.add_sub_cancel, fo_up h l k (by omega) (by rw [ht, hn])]
      intro s hs
      obtain ⟨j, hj, rfl⟩ := mem_ig hs
      exact (als_iff _ _).1 ha j hj
    · rfl
  · rfl
end Go.Proofs.YthgnjjpkmikokaaDoor
