/- The walk of permits on valid neighbourhoods. -/
/- The walk of ruletable.Right. -/
/- The walk of the binary search for a position that is there. -/
/- Tallies as values: what they are equal by, what a list of them reads as. -/
/- The walks of Index and Contains on tallies, and of count. -/
/- The walk of without. -/
/- The walks of both Index functions on positions, and of both Centre functions. -/
/- The walks of accepts and matches. -/
/- What a question reads as; the walk of turned. -/
/- The walk of choices. -/
import Derived.Test.YtedjjhaopohibaaGreatDoorMd
import Derived.Test.YtedjjhaopohibaaGreatDoorMc
import Derived.Test.YtedjjhaopohibaaGreatDoorMb
import Derived.DeepKeys
namespace Go.Proofs.YtedjjhaopohibaaGreatDoor
open Go.RowKit

theorem ints_il (l : List Nat) : ints l = il (l.map fun (d : Nat) => (d : Int)) := by simp [ints, il, List.map_map]
theorem mem_cast (j : Nat) (l : List Nat) : decide ((j : Int) ∈ l.map fun (d : Nat) => (d : Int)) = decide (j ∈ l) := by
  rw [decide_eq_decide]
  simp only [List.mem_map]
  exact ⟨fun ⟨a, h1, h2⟩ => by rw [show j = a by omega]; exact h1, fun h => ⟨j, h, rfl⟩⟩
/-- the first m symmetries map the neighbourhood to itself -/
def own (f : Nat → P2) (n m : Nat) : Bool := (List.range m).all fun i => decide (i ∈ sy f n 8)
theorem own_iff (f : Nat → P2) (n m : Nat) : own f n m = true ↔ ∀ i, i < m → i ∈ sy f n 8 := by
  simp [own, List.all_eq_true]
/-- whether a neighbourhood may have a kind of symmetry -/
def pmt (f : Nat → P2) (n : Nat) (k : Int) : Bool := if k = 0 then true else if k = 3 then decide (n ≤ 9) else if k = 1 ∨ k = 2 then own f n (ns k) else false

set_option maxRecDepth 100000 in
set_option maxHeartbeats 2000000 in
theorem permits_sym (k : Int) (m : Nat) (A : Option Addr) (n c : Nat) (f : Nat → P2) (w : World) (hM : Mat w) (h : QReads w w.heap.size A n f) (hd : Hd f n) (hk : k = 1 ∧ m = 4 ∨ k = 2 ∧ m = 8) :
    Calls Tryz.prog 26 #[.slice A n c, .int .i64 k] w fun e w' => e = .returned (.bool (own f n m)) ∧ Below w.heap.size w w' := by
  have SY := Lib.hid (syms_any A n c f w hM h hd)
  have hns : (ns k : Int) = (m : Int) := by rcases hk with ⟨rfl, rfl⟩ | ⟨rfl, rfl⟩ <;> decide
  have SN := fun w => symmetries_any k w
  rw [hns] at SN
  have SN := Lib.hid SN
  have OI := Lib.hid (own_iff f n m)
  have hm : m ≤ 8 := by omega
  have HLL := Lib.hid (show (sy f n 8).length ≤ 1000000 by have := sy_len f n 8; omega)
  generalize own f n m = q at OI ⊢
  generalize sy f n 8 = l at SY OI HLL
  have k0 : (k == 0) = false := by rw [beq_eq_false_iff_ne]; omega
  have k3 : (k == 3) = false := by rw [beq_eq_false_iff_ne]; omega
  clear h hM hd hns
  rcases hk with ⟨rfl, rfl⟩ | ⟨rfl, rfl⟩
  · go_enter Tryz.func26, Tryz.ntmps26
    go_wp2_with (first
      | (go_at_call 49; (with_reducible refine SY.out.mono ?_); rintro e w1 ⟨A', c', rfl, h1, hb⟩; have B1 := Lib.hid hb; have R1 := Lib.hid h1; clear h1 hb)
      | (go_at_call 36; (with_reducible refine (SN.out _).mono ?_); rintro e w2 ⟨rfl, rfl⟩))
    go_loop [22] (fun iv => ∃ j : Nat, j ≤ 4 ∧ iv = .int .i64 (j : Int) ∧ ∀ i, i < j → i ∈ l) (fun iv => 4 - (intOf iv).toNat)
    case atStart => exact ⟨0, Nat.zero_le _, rfl, fun i hi => absurd hi (by omega)⟩
    case round =>
      obtain ⟨j, hj, rfl, hno⟩ := hrel
      have HN := Lib.hid hno
      clear hno
      by_cases hlt : j < 4
      · have CO := contains_any A' l.length c' _ _ (j : Int) w1 (by have h := R1.out; rw [ints_il] at h; exact h) HLL.out
        rw [mem_cast] at CO
        by_cases hq : j ∈ l
        · have HQ := Lib.hid hq
          rw [decide_eq_true hq] at CO
          have CO := Lib.hid CO
          clear hq
          go_wp2_with (go_at_call 50; (with_reducible refine CO.out.mono ?_); rintro e w2 ⟨rfl, rfl⟩)
          go_round
          case rel => exact ⟨j + 1, by omega, by go_num, fun i hi => by
            by_cases e : i < j
            · exact HN.out i e
            · obtain rfl : i = j := by omega
              exact HQ.out⟩
          case measure => simp [intOf]; omega
        · have HF := Lib.hid (show q = false by rw [← Bool.not_eq_true, OI.out]; exact fun h => hq (h j hlt))
          rw [decide_eq_false hq] at CO
          have CO := Lib.hid CO
          clear hq
          go_wp2_with (go_at_call 50; (with_reducible refine CO.out.mono ?_); rintro e w2 ⟨rfl, rfl⟩)
          go_ret
          exact ⟨ret_bool HF.out.symm, B1.out⟩
      · obtain rfl : j = 4 := by omega
        have HF := Lib.hid (show q = true by rw [OI.out]; exact HN.out)
        go_wp2
        go_ret
        exact ⟨ret_bool HF.out.symm, B1.out⟩
  · go_enter Tryz.func26, Tryz.ntmps26
    go_wp2_with (first
      | (go_at_call 49; (with_reducible refine SY.out.mono ?_); rintro e w1 ⟨A', c', rfl, h1, hb⟩; have B1 := Lib.hid hb; have R1 := Lib.hid h1; clear h1 hb)
      | (go_at_call 36; (with_reducible refine (SN.out _).mono ?_); rintro e w2 ⟨rfl, rfl⟩))
    go_loop [22] (fun iv => ∃ j : Nat, j ≤ 8 ∧ iv = .int .i64 (j : Int) ∧ ∀ i, i < j → i ∈ l) (fun iv => 8 - (intOf iv).toNat)
    case atStart => exact ⟨0, Nat.zero_le _, rfl, fun i hi => absurd hi (by omega)⟩
    case round =>
      obtain ⟨j, hj, rfl, hno⟩ := hrel
      have HN := Lib.hid hno
      clear hno
      by_cases hlt : j < 8
      · have CO := contains_any A' l.length c' _ _ (j : Int) w1 (by have h := R1.out; rw [ints_il] at h; exact h) HLL.out
        rw [mem_cast] at CO
        by_cases hq : j ∈ l
        · have HQ := Lib.hid hq
          rw [decide_eq_true hq] at CO
          have CO := Lib.hid CO
          clear hq
          go_wp2_with (go_at_call 50; (with_reducible refine CO.out.mono ?_); rintro e w2 ⟨rfl, rfl⟩)
          go_round
          case rel => exact ⟨j + 1, by omega, by go_num, fun i hi => by
            by_cases e : i < j
            · exact HN.out i e
            · obtain rfl : i = j := by omega
              exact HQ.out⟩
          case measure => simp [intOf]; omega
        · have HF := Lib.hid (show q = false by rw [← Bool.not_eq_true, OI.out]; exact fun h => hq (h j hlt))
          rw [decide_eq_false hq] at CO
          have CO := Lib.hid CO
          clear hq
          go_wp2_with (go_at_call 50; (with_reducible refine CO.out.mono ?_); rintro e w2 ⟨rfl, rfl⟩)
          go_ret
          exact ⟨ret_bool HF.out.symm, B1.out⟩
      · obtain rfl : j = 8 := by omega
        have HF := Lib.hid (show q = true by rw [OI.out]; exact HN.out)
        go_wp2
        go_ret
        exact ⟨ret_bool HF.out.symm, B1.out⟩
theorem permits_any (k : Int) (A : Option Addr) (n c : Nat) (f : Nat → P2) (w : World) (hM : Mat w) (h : QReads w w.heap.size A n f) (hd : Hd f n) :
    Calls Tryz.prog 26 #[.slice A n c, .int .i64 k] w fun e w' => e = .returned (.bool (pmt f n k)) ∧ Below w.heap.size w w' := by
  have hn : n ≤ 25 := hd.1.2
  by_cases h0 : k = 0
  · subst h0
    rw [show pmt f n 0 = true by rfl]
    clear h hM hd
    go_enter Tryz.func26, Tryz.ntmps26
    go_wp2
    go_ret
    exact ⟨rfl, Below.refl _ _⟩
  · by_cases h3 : k = 3
    · subst h3
      rw [show pmt f n 3 = decide (n ≤ 9) by rfl]
      clear h hM hd h0
      by_cases h9 : n ≤ 9
      · have d : decide ((n : Int) ≤ 9) = true := by rw [decide_eq_true_iff]; omega
        rw [decide_eq_true h9]
        go_enter Tryz.func26, Tryz.ntmps26
        go_wp2
        go_ret
        exact ⟨ret_bool (by first | (simp; done) | (simp; omega)), Below.refl _ _⟩
      · rw [decide_eq_false h9]
        go_enter Tryz.func26, Tryz.ntmps26
        go_wp2
        go_ret
        exact ⟨ret_bool (by first | (simp; done) | (simp; omega)), Below.refl _ _⟩
    · by_cases h12 : k = 1 ∨ k = 2
      · rw [pmt, if_neg h0, if_neg h3, if_pos h12]
        rcases h12 with rfl | rfl
        · exact permits_sym 1 4 A n c f w hM h hd (by omega)
        · exact permits_sym 2 8 A n c f w hM h hd (by omega)
      · rw [pmt, if_neg h0, if_neg h3, if_neg h12]
        have k0 : (k == 0) = false := by rw [beq_eq_false_iff_ne]; omega
        have k1 : (k == 1) = false := by rw [beq_eq_false_iff_ne]; omega
        have k2 : (k == 2) = false := by rw [beq_eq_false_iff_ne]; omega
        have k3 : (k == 3) = false := by rw [beq_eq_false_iff_ne]; omega
        clear h hM hd h0 h3 h12
        go_enter Tryz.func26, Tryz.ntmps26
        go_wp2
        go_ret
        exact ⟨rfl, Below.refl _ _⟩
end Go.Proofs.YtedjjhaopohibaaGreatDoor
namespace Go.Proofs.YtedjjhaopohibaaGreatDoor
open Go.RowKit

/-- the states of a variable -/
def vv (st : Int) (l : List Int) : Bool := decide (l.length ≠ 0) && als st l && ups l
/-- a valid table -/
def rt (T : Tab) : Bool := decide (2 ≤ T.st) && decide (T.st ≤ 8) && decide (Hd T.f T.n) && pmt T.f T.n T.sy && decide (T.nv ≤ 40) && decide (T.nr ≤ 400) && ((List.range T.nv).all fun i => vv T.st (T.v i)) && ((List.range T.nr).all fun i => rr T.n T.st T.nv (T.ri i) (T.ro i))
/-- what a valid table is -/
structure Rt (T : Tab) : Prop where
  s1 : 2 ≤ T.st
  s2 : T.st ≤ 8
  hd : Hd T.f T.n
  pm : pmt T.f T.n T.sy = true
  v1 : T.nv ≤ 40
  r1 : T.nr ≤ 400
  vs : ∀ i, i < T.nv → vv T.st (T.v i) = true
  rs : ∀ i, i < T.nr → rr T.n T.st T.nv (T.ri i) (T.ro i) = true
theorem rt_iff (T : Tab) : rt T = true ↔ Rt T := by
  simp only [rt, Bool.and_eq_true, decide_eq_true_eq, List.all_eq_true, List.mem_range]
  exact ⟨fun ⟨⟨⟨⟨⟨⟨⟨a, b⟩, c⟩, d⟩, e⟩, f⟩, g⟩, h⟩ => ⟨a, b, c, d, e, f, g, h⟩, fun h => ⟨⟨⟨⟨⟨⟨⟨h.s1, h.s2⟩, h.hd⟩, h.pm⟩, h.v1⟩, h.r1⟩, h.vs⟩, h.rs⟩⟩
theorem rt_no {T : Tab} (h : ¬ Rt T) : rt T = false := by rw [← Bool.not_eq_true, rt_iff]; exact h

set_option maxRecDepth 100000 in
set_option maxHeartbeats 4000000 in
theorem rt_any (AH : Option Addr) (cH : Nat) (AV : Option Addr) (cV : Nat) (AR : Option Addr) (cR : Nat) (T : Tab) (w : World) (hM : Mat w) (h : TR w AH AV AR T) (hb : Bd T) :
    Calls Tryz.prog 9 #[.agg #[.int .i64 T.st, .int .i64 T.sy, .slice AH T.n cH, .slice AV T.nv cV, .slice AR T.nr cR]] w fun e w' => e = .returned (.bool (rt T)) ∧ Below w.heap.size w w' := by
  obtain ⟨hH, hV, hR⟩ := h
  obtain ⟨h1, h2, h3, h4, h5⟩ := hb
  have RY := Lib.hid (rt_iff T).2
  have RN := Lib.hid (rt_no (T := T))
  have RF := Lib.hid (fun (h : Rt T) => h)
  have K1 := Blk.new w 26 #[.int .i64 T.st, .int .i64 T.sy, .slice AH T.n cH, .slice AV T.nv cV, .slice AR T.nr cR]
  have B1 : Below w.heap.size w (w.alloc (.cells #[.int .i64 T.st, .int .i64 T.sy, .slice AH T.n cH, .slice AV T.nv cV, .slice AR T.nr cR] 26)) := (Below.refl _ _).alloc (Nat.le_refl _) _
  have HR1 := Lib.hid (fun w' (hb : Below w.heap.size w w') => hright_all AH T.n cH T.f w' (hH.later hb) h1)
  have PM := Lib.hid (fun w' (hb : Below w.heap.size w w') (hd : Hd T.f T.n) => permits_any T.sy AH T.n cH T.f w' (hM.below hb hM.1) (hH.later hb) hd)
  have HV := Lib.hid (fun w' (hb : Below w.heap.size w w') => hV.later hb)
  have HR := Lib.hid (fun w' (hb : Below w.heap.size w w') => hR.later hb)
  have H4 := Lib.hid h4
  have H5 := Lib.hid h5
  have F1 := Lib.hid (fun (h : Rt T) => h.s1)
  have F2 := Lib.hid (fun (h : Rt T) => h.s2)
  have F3 := Lib.hid (fun (h : Rt T) => h.hd)
  have F4 := Lib.hid (fun (h : Rt T) => h.pm)
  have F5 := Lib.hid (fun (h : Rt T) => h.v1)
  have F6 := Lib.hid (fun (h : Rt T) => h.r1)
  have F7 := Lib.hid (fun (h : Rt T) => h.vs)
  have F8 := Lib.hid (fun (h : Rt T) => h.rs)
  have F9 := Lib.hid (fun (a : 2 ≤ T.st) (b : T.st ≤ 8) (c : Hd T.f T.n) (d : pmt T.f T.n T.sy = true) (e : T.nv ≤ 40) (f : T.nr ≤ 400) (g : ∀ i, i < T.nv → vv T.st (T.v i) = true) (h : ∀ i, i < T.nr → rr T.n T.st T.nv (T.ri i) (T.ro i) = true) => RY.out ⟨a, b, c, d, e, f, g, h⟩)
  generalize Rt T = RTT at RY RN RF F1 F2 F3 F4 F5 F6 F7 F8
  generalize rt T = q at RY RN F9 ⊢
  obtain ⟨st, k, n, f, nv, v, nr, ri, ro⟩ := T
  simp only at *
  clear hH hV hR h4 h5 RF
  by_cases s1 : 2 ≤ st
  · by_cases s2 : st ≤ 8
    · by_cases hd : Hd f n
      · have PM2 := fun w' hb => PM.out w' hb hd
        have HR2 := HR1.out
        have HD := Lib.hid hd
        rw [decide_eq_true hd] at HR2
        have HR2 := Lib.hid HR2
        clear hd
        generalize hpm : pmt f n k = pq at PM2 F4 F9
        have PM2 := Lib.hid PM2
        cases pq with
        | true =>
          by_cases v1 : nv ≤ 40
          · by_cases r1 : nr ≤ 400
            · have V9 := Lib.hid (fun g h => F9.out s1 s2 HD.out rfl v1 r1 g h)
              have e1 : decide (st < 2) = false := by rw [decide_eq_false_iff_not]; omega
              have e2 : decide (8 < st) = false := by rw [decide_eq_false_iff_not]; omega
              have d1 : decide (40 < (nv : Int)) = false := by rw [decide_eq_false_iff_not]; omega
              have d2 : decide (400 < (nr : Int)) = false := by rw [decide_eq_false_iff_not]; omega
              go_enter Tryz.func9, Tryz.ntmps9
              go_wp2_with fail
              generalize w.alloc (.cells #[.int .i64 st, .int .i64 k, .slice AH n cH, .slice AV nv cV, .slice AR nr cR] 26) = w0 at K1 B1 ⊢
              obtain ⟨a0, a1, a2, a3, a4, a5⟩ := K1.five
              have K1 := Lib.hid K1
              have B1 := Lib.hid B1
              go_wp2_with (first
                | (go_at_call 25; (with_reducible refine (HR2.out _ B1.out).mono ?_); rintro e w1 ⟨rfl, hb⟩; have B2 := Lib.hid (B1.out.trans (hb.mono B1.out.size)); have K2 := Lib.hid (K1.out.below hb K1.out.lt); obtain ⟨b0, b1, b2, b3, b4, b5⟩ := K2.out.five; clear hb)
                | (go_at_call 26; (with_reducible refine (PM2.out _ B2.out).mono ?_); rintro e w2 ⟨rfl, hb⟩; have B3 := Lib.hid (B2.out.trans (hb.mono B2.out.size)); have K3 := Lib.hid (K2.out.below hb K2.out.lt); obtain ⟨c0, c1, c2, c3, c4, c5⟩ := K3.out.five; clear hb))
              go_loopw [42] (fun iv wr => ∃ j : Nat, j ≤ nv ∧ iv = .int .i64 (j : Int) ∧ (∀ i, i < j → vv st (v i) = true) ∧ Below w2.heap.size w2 wr) (fun iv _ => nv - (intOf iv).toNat)
              case atStart => exact ⟨0, Nat.zero_le _, rfl, fun i hi => absurd hi (by omega), Below.refl _ _⟩
              case round =>
                obtain ⟨j, hj, rfl, hno, hbel⟩ := hrel
                have HN := Lib.hid hno
                have B4 := Lib.hid (B3.out.trans (hbel.mono B3.out.size))
                have K4 := Lib.hid (K3.out.below hbel K3.out.lt)
                obtain ⟨d0, d1', d2', d3', d4', d5'⟩ := K4.out.five
                clear hno b0 b1 b2 b3 b4 b5 c0 c1 c2 c3 c4 c5 a0 a1 a2 a3 a4 a5
                by_cases hlt : j < nv
                · obtain ⟨ad, rfl, hb, hc⟩ := HV.out _ B4.out (by omega)
                  obtain ⟨A', c', hc, hr⟩ := hc j hlt
                  have hl := H4.out j hlt
                  have NO := Lib.hid (fun (h : vv st (v j) = false) => RN.out fun hrt => by have := F7.out hrt j hlt; rw [h] at this; cases this)
                  have NX := Lib.hid (fun (h : vv st (v j) = true) (i : Nat) (hi : i < j + 1) => show vv st (v i) = true from by
                    by_cases e : i < j
                    · exact HN.out i e
                    · obtain rfl : i = j := by omega
                      exact h)
                  have hvd : vv st (v j) = (decide ((v j).length ≠ 0) && als st (v j) && ups (v j)) := rfl
                  generalize vv st (v j) = qv at NO NX hvd
                  have AL := Lib.hid (allStates_any A' (v j).length c' _ (v j) wr st hr (by omega))
                  have UP := Lib.hid (ascends_any A' (v j).length c' (v j) wr hr (by omega))
                  generalize als st (v j) = q1 at AL hvd
                  generalize ups (v j) = q2 at UP hvd
                  generalize (v j).length = m at hc hl AL UP hvd
                  clear hr
                  by_cases hm : m = 0
                  · subst hm
                    have HF := Lib.hid (NO.out (by rw [hvd]; rfl))
                    clear hvd
                    go_wp2
                    go_ret
                    exact ⟨ret_bool HF.out.symm, B4.out⟩
                  · have hm0 : ((m : Int) == 0) = false := by rw [beq_eq_false_iff_ne]; omega
                    rw [decide_eq_true hm] at hvd
                    have HVD := Lib.hid hvd
                    clear hvd hm
                    cases q1 with
                    | false =>
                      have HF := Lib.hid (NO.out (by rw [HVD.out]; rfl))
                      go_wp2_with (go_at_call 12; (with_reducible refine AL.out.mono ?_); rintro e w' ⟨rfl, rfl⟩)
                      go_ret
                      exact ⟨ret_bool HF.out.symm, B4.out⟩
                    | true =>
                      cases q2 with
                      | false =>
                        have HF := Lib.hid (NO.out (by rw [HVD.out]; rfl))
                        go_wp2_with (first
                          | (go_at_call 12; (with_reducible refine AL.out.mono ?_); rintro e w' ⟨rfl, rfl⟩)
                          | (go_at_call 27; (with_reducible refine UP.out.mono ?_); rintro e w5 ⟨rfl, hb⟩; have B5 := Lib.hid (B4.out.trans (hb.mono B4.out.size)); clear hb))
                        go_ret
                        exact ⟨ret_bool HF.out.symm, B5.out⟩
                      | true =>
                        have HT := Lib.hid (NX.out (by rw [HVD.out]; rfl))
                        have HBL := Lib.hid hbel
                        go_wp2_with (first
                          | (go_at_call 12; (with_reducible refine AL.out.mono ?_); rintro e w' ⟨rfl, rfl⟩)
                          | (go_at_call 27; (with_reducible refine UP.out.mono ?_); rintro e w5 ⟨rfl, hb⟩; have B5 := Lib.hid (HBL.out.trans (hb.mono HBL.out.size)); clear hb))
                        go_roundw
                        case rel => exact ⟨j + 1, by omega, by go_num, HT.out, B5.out⟩
                        case measure => simp [intOf]; omega
                · obtain rfl : j = nv := by omega
                  clear hlt hbel
                  obtain ⟨w3, hw3⟩ : ∃ w3, w3 = wr := ⟨_, rfl⟩
                  subst hw3
                  go_wp2
                  go_loopw [65] (fun iv wr => ∃ i : Nat, i ≤ nr ∧ iv = .int .i64 (i : Int) ∧ (∀ i', i' < i → rr n st j (ri i') (ro i') = true) ∧ Below w3.heap.size w3 wr) (fun iv _ => nr - (intOf iv).toNat)
                  case atStart => exact ⟨0, Nat.zero_le _, rfl, fun i hi => absurd hi (by omega), Below.refl _ _⟩
                  case round =>
                    obtain ⟨i, hi, rfl, hno, hbel⟩ := hrel
                    have HM := Lib.hid hno
                    have B5 := Lib.hid (B4.out.trans (hbel.mono B4.out.size))
                    have K5 := Lib.hid (K4.out.below hbel K4.out.lt)
                    have HBL := Lib.hid hbel
                    obtain ⟨e0, e1', e2', e3', e4', e5'⟩ := K5.out.five
                    clear hno d0 d1' d2' d3' d4' d5' hbel
                    by_cases hlt : i < nr
                    · obtain ⟨g1, o1, rfl, hb1, hc⟩ := HR.out _ B5.out (by omega)
                      obtain ⟨A', c', hc, hr, hc2⟩ := hc i hlt
                      have hl := H5.out i hlt
                      have NO := Lib.hid (fun (h : rr n st j (ri i) (ro i) = false) => RN.out fun hrt => by have := F8.out hrt i hlt; rw [h] at this; cases this)
                      have NX := Lib.hid (fun (h : rr n st j (ri i) (ro i) = true) (i' : Nat) (hi : i' < i + 1) => show rr n st j (ri i') (ro i') = true from by
                        by_cases e : i' < i
                        · exact HM.out i' e
                        · obtain rfl : i' = i := by omega
                          exact h)
                      have RW := fun w' (hb : Below wr.heap.size wr w') => rightRow_any st k AH n cH AV j cV (some ⟨g1, o1, none⟩) nr cR A' (ri i).length c' (ri i) (ro i) w' (hr.later hb) hl h1 h2 (by omega) s2
                      generalize rr n st j (ri i) (ro i) = qr at NO NX RW
                      generalize (ri i).length = m at hc hl RW
                      generalize ro i = o at hc2 RW
                      have RW := Lib.hid RW
                      have K6 := Lib.hid (Blk.new wr 47 #[.slice A' m c', .int .i64 o])
                      have B6 := Lib.hid ((Below.refl wr.heap.size wr).alloc (Nat.le_refl _) (.cells #[.slice A' m c', .int .i64 o] 47))
                      have K7 := Lib.hid (K5.out.alloc (.cells #[.slice A' m c', .int .i64 o] 47))
                      clear hr
                      cases qr with
                      | false =>
                        have HF := Lib.hid (NO.out rfl)
                        go_upto_region 14 with (fail)
                        generalize wr.alloc (.cells #[.slice A' m c', .int .i64 o] 47) = w5 at K6 B6 K7 ⊢
                        obtain ⟨r0, r1, r2, r3, r4⟩ := K6.out.two
                        obtain ⟨e0, e1', e2', e3', e4', e5'⟩ := K7.out.five
                        go_wp2_with (go_at_call 28; (with_reducible refine (RW.out _ B6.out).mono ?_); rintro e w6 ⟨rfl, hb⟩; have B7 := Lib.hid (B5.out.trans ((B6.out.trans (hb.mono B6.out.size)).mono B5.out.size)); clear hb)
                        go_ret
                        exact ⟨ret_bool HF.out.symm, B7.out⟩
                      | true =>
                        have HT := Lib.hid (NX.out rfl)
                        go_upto_region 14 with (fail)
                        generalize wr.alloc (.cells #[.slice A' m c', .int .i64 o] 47) = w5 at K6 B6 K7 ⊢
                        obtain ⟨r0, r1, r2, r3, r4⟩ := K6.out.two
                        obtain ⟨e0, e1', e2', e3', e4', e5'⟩ := K7.out.five
                        go_wp2_with (go_at_call 28; (with_reducible refine (RW.out _ B6.out).mono ?_); rintro e w6 ⟨rfl, hb⟩; have B7 := Lib.hid (HBL.out.trans ((B6.out.trans (hb.mono B6.out.size)).mono HBL.out.size)); clear hb)
                        go_roundw
                        case rel => exact ⟨i + 1, by omega, by go_num, HT.out, B7.out⟩
                        case measure => simp [intOf]; omega
                    · obtain rfl : i = nr := by omega
                      have HF := Lib.hid (V9.out HN.out HM.out)
                      go_wp2
                      go_ret
                      exact ⟨ret_bool HF.out.symm, B5.out⟩
            · have e1 : decide (st < 2) = false := by rw [decide_eq_false_iff_not]; omega
              have e2 : decide (8 < st) = false := by rw [decide_eq_false_iff_not]; omega
              have d1 : decide (40 < (nv : Int)) = false := by rw [decide_eq_false_iff_not]; omega
              have d2 : decide (400 < (nr : Int)) = true := by rw [decide_eq_true_iff]; omega
              have HF := Lib.hid (RN.out fun h => r1 (F6.out h))
              go_enter Tryz.func9, Tryz.ntmps9
              go_wp2_with fail
              generalize w.alloc (.cells #[.int .i64 st, .int .i64 k, .slice AH n cH, .slice AV nv cV, .slice AR nr cR] 26) = w0 at K1 B1 ⊢
              obtain ⟨a0, a1, a2, a3, a4, a5⟩ := K1.five
              have K1 := Lib.hid K1
              have B1 := Lib.hid B1
              go_wp2_with (first
                | (go_at_call 25; (with_reducible refine (HR2.out _ B1.out).mono ?_); rintro e w1 ⟨rfl, hb⟩; have B2 := Lib.hid (B1.out.trans (hb.mono B1.out.size)); have K2 := Lib.hid (K1.out.below hb K1.out.lt); obtain ⟨b0, b1, b2, b3, b4, b5⟩ := K2.out.five; clear hb)
                | (go_at_call 26; (with_reducible refine (PM2.out _ B2.out).mono ?_); rintro e w2 ⟨rfl, hb⟩; have B3 := Lib.hid (B2.out.trans (hb.mono B2.out.size)); have K3 := Lib.hid (K2.out.below hb K2.out.lt); obtain ⟨c0, c1, c2, c3, c4, c5⟩ := K3.out.five; clear hb))
              go_ret
              exact ⟨ret_bool HF.out.symm, B3.out⟩
          · have e1 : decide (st < 2) = false := by rw [decide_eq_false_iff_not]; omega
            have e2 : decide (8 < st) = false := by rw [decide_eq_false_iff_not]; omega
            have d1 : decide (40 < (nv : Int)) = true := by rw [decide_eq_true_iff]; omega
            have HF := Lib.hid (RN.out fun h => v1 (F5.out h))
            go_enter Tryz.func9, Tryz.ntmps9
            go_wp2_with fail
            generalize w.alloc (.cells #[.int .i64 st, .int .i64 k, .slice AH n cH, .slice AV nv cV, .slice AR nr cR] 26) = w0 at K1 B1 ⊢
            obtain ⟨a0, a1, a2, a3, a4, a5⟩ := K1.five
            have K1 := Lib.hid K1
            have B1 := Lib.hid B1
            go_wp2_with (first
              | (go_at_call 25; (with_reducible refine (HR2.out _ B1.out).mono ?_); rintro e w1 ⟨rfl, hb⟩; have B2 := Lib.hid (B1.out.trans (hb.mono B1.out.size)); have K2 := Lib.hid (K1.out.below hb K1.out.lt); obtain ⟨b0, b1, b2, b3, b4, b5⟩ := K2.out.five; clear hb)
              | (go_at_call 26; (with_reducible refine (PM2.out _ B2.out).mono ?_); rintro e w2 ⟨rfl, hb⟩; have B3 := Lib.hid (B2.out.trans (hb.mono B2.out.size)); have K3 := Lib.hid (K2.out.below hb K2.out.lt); obtain ⟨c0, c1, c2, c3, c4, c5⟩ := K3.out.five; clear hb))
            go_ret
            exact ⟨ret_bool HF.out.symm, B3.out⟩
        | false =>
          have e1 : decide (st < 2) = false := by rw [decide_eq_false_iff_not]; omega
          have e2 : decide (8 < st) = false := by rw [decide_eq_false_iff_not]; omega
          have HF := Lib.hid (RN.out fun h => by have := F4.out h; cases this)
          go_enter Tryz.func9, Tryz.ntmps9
          go_wp2_with fail
          generalize w.alloc (.cells #[.int .i64 st, .int .i64 k, .slice AH n cH, .slice AV nv cV, .slice AR nr cR] 26) = w0 at K1 B1 ⊢
          obtain ⟨a0, a1, a2, a3, a4, a5⟩ := K1.five
          have K1 := Lib.hid K1
          have B1 := Lib.hid B1
          go_wp2_with (first
            | (go_at_call 25; (with_reducible refine (HR2.out _ B1.out).mono ?_); rintro e w1 ⟨rfl, hb⟩; have B2 := Lib.hid (B1.out.trans (hb.mono B1.out.size)); have K2 := Lib.hid (K1.out.below hb K1.out.lt); obtain ⟨b0, b1, b2, b3, b4, b5⟩ := K2.out.five; clear hb)
            | (go_at_call 26; (with_reducible refine (PM2.out _ B2.out).mono ?_); rintro e w2 ⟨rfl, hb⟩; have B3 := Lib.hid (B2.out.trans (hb.mono B2.out.size)); have K3 := Lib.hid (K2.out.below hb K2.out.lt); obtain ⟨c0, c1, c2, c3, c4, c5⟩ := K3.out.five; clear hb))
          go_ret
          exact ⟨ret_bool HF.out.symm, B3.out⟩
      · have HR2 := HR1.out
        rw [decide_eq_false hd] at HR2
        have HR2 := Lib.hid HR2
        have e1 : decide (st < 2) = false := by rw [decide_eq_false_iff_not]; omega
        have e2 : decide (8 < st) = false := by rw [decide_eq_false_iff_not]; omega
        have HF := Lib.hid (RN.out fun h => hd (F3.out h))
        go_enter Tryz.func9, Tryz.ntmps9
        go_wp2_with fail
        generalize w.alloc (.cells #[.int .i64 st, .int .i64 k, .slice AH n cH, .slice AV nv cV, .slice AR nr cR] 26) = w0 at K1 B1 ⊢
        obtain ⟨a0, a1, a2, a3, a4, a5⟩ := K1.five
        have K1 := Lib.hid K1
        have B1 := Lib.hid B1
        go_wp2_with (first
          | (go_at_call 25; (with_reducible refine (HR2.out _ B1.out).mono ?_); rintro e w1 ⟨rfl, hb⟩; have B2 := Lib.hid (B1.out.trans (hb.mono B1.out.size)); have K2 := Lib.hid (K1.out.below hb K1.out.lt); obtain ⟨b0, b1, b2, b3, b4, b5⟩ := K2.out.five; clear hb))
        go_ret
        exact ⟨ret_bool HF.out.symm, B2.out⟩
    · have e1 : decide (st < 2) = false := by rw [decide_eq_false_iff_not]; omega
      have e2 : decide (8 < st) = true := by rw [decide_eq_true_iff]; omega
      have HF := Lib.hid (RN.out fun h => s2 (F2.out h))
      go_enter Tryz.func9, Tryz.ntmps9
      go_wp2
      go_ret
      exact ⟨ret_bool HF.out.symm, B1⟩
  · have e1 : decide (st < 2) = true := by rw [decide_eq_true_iff]; omega
    have HF := Lib.hid (RN.out fun h => s1 (F1.out h))
    go_enter Tryz.func9, Tryz.ntmps9
    go_wp2
    go_ret
    exact ⟨ret_bool HF.out.symm, B1⟩
end Go.Proofs.YtedjjhaopohibaaGreatDoor
namespace Go.Proofs.YtedjjhaopohibaaGreatDoor
open Go.RowKit

theorem up_lt {f : Nat → P2} {n h k : Nat} (hu : Up f n) (hh : h < n) (hk : k < n) (hp : pc (f h) (f k) < 0) : h < k := by
  rcases Nat.lt_trichotomy h k with e | e | e
  · exact e
  · rw [e, pc_lt] at hp; omega
  · have := hu k h e hh
    rw [pc_lt] at *
    omega
theorem up_ge {f : Nat → P2} {n h k : Nat} (hu : Up f n) (hk : k < n) (hp : ¬ pc (f h) (f k) < 0) : k ≤ h := by
  refine Nat.le_of_not_lt fun e => hp (hu h k e hk)

set_option maxRecDepth 100000 in
set_option maxHeartbeats 4000000 in
theorem search_any (A : Option Addr) (n c k : Nat) (f : Nat → P2) (u v : Int) (w : World) (h : QReads w w.heap.size A n f) (hu : Up f n) (hn : n ≤ 1000) (hk : k < n) (hf : f k = (u, v)) :
    Calls Tryz.prog 55 #[.slice A n c, .agg #[.int .i64 u, .int .i64 v], .func (.func 48) #[] #[]] w fun e w' => e = .returned (.tuple #[.int .i64 (k : Int), .bool true]) ∧ Below w.heap.size w w' := by
  have H := Lib.hid h
  have K0 := Lib.hid (Blk.new w 74 #[.int .i64 u, .int .i64 v])
  have B0 := Lib.hid ((Below.refl w.heap.size w).alloc (Nat.le_refl _) (.cells #[.int .i64 u, .int .i64 v] 74))
  have hgn : ∀ g, g < w.heap.size → g < (w.alloc (.cells #[.int .i64 u, .int .i64 v] 74)).heap.size := fun g hg => by simp; omega
  have UL := Lib.hid (fun h (hh : h < n) (hp : pc (f h) (u, v) < 0) => up_lt hu hh hk (by rw [hf]; exact hp))
  have UG := Lib.hid (fun h (hp : ¬ pc (f h) (u, v) < 0) => up_ge (n := n) (h := h) hu hk (by rw [hf]; exact hp))
  have FK := Lib.hid hf
  obtain ⟨g1, o1, rfl, hb1, -⟩ := h (by omega)
  have hgb := Lib.hid (hgn g1 hb1)
  clear h hu hf hgn
  go_enter Tryz.func55, Tryz.ntmps55
  go_wp2_with fail
  have HZ := Lib.hid hb1
  generalize w.alloc (.cells #[.int .i64 u, .int .i64 v] 74) = w0 at K0 B0 hgb ⊢
  go_wp2
  go_loopw [9, 10] (fun iv jv wr => ∃ i j : Nat, iv = .int .i64 (i : Int) ∧ jv = .int .i64 (j : Int) ∧ i ≤ k ∧ k ≤ j ∧ j ≤ n ∧ Below w0.heap.size w0 wr) (fun iv jv _ => (intOf jv).toNat - (intOf iv).toNat)
  case atStart => exact ⟨0, n, rfl, rfl, Nat.zero_le _, by omega, Nat.le_refl _, Below.refl _ _⟩
  case round =>
    obtain ⟨i, j, rfl, rfl, hi, hj, hjn, hbel⟩ := hrel
    have HB := Lib.hid (B0.out.trans (hbel.mono B0.out.size))
    have K1 := Lib.hid (K0.out.below hbel K0.out.lt)
    have hgw : g1 < wr.heap.size := Nat.lt_of_lt_of_le hgb.out hbel.size
    obtain ⟨g2, o2, hA, -, hc1⟩ := H.out.below HB.out (by omega)
    obtain ⟨rfl, rfl⟩ : g1 = g2 ∧ o1 = o2 := by injection hA with hA; injection hA with h1 h2; exact ⟨h1, h2⟩
    have BX := Lib.hid hbel
    clear hbel hA
    by_cases hij : i < j
    · obtain ⟨m, hm⟩ : ∃ m : Nat, m = (i + j) / 2 := ⟨_, rfl⟩
      have hm1 : i ≤ m := by omega
      have hm2 : m < j := by omega
      have hmn : m < n := by omega
      have e2 : ((i : Int) + (j : Int)) / 2 = (m : Int) := by omega
      have c1 := hc1 m hmn
      have ul := UL.out m hmn
      have ug := UG.out m
      obtain ⟨⟨x1, x2⟩, hx⟩ : ∃ x, x = f m := ⟨_, rfl⟩
      rw [← hx] at c1 ul ug
      have C1 := Lib.hid c1
      have P := fun w => pcompare_any x1 x2 u v w
      have hpr : pc (x1, x2) (u, v) = or2 (sg x2 v) (sg x1 u) := rfl
      rw [hpr] at ul ug
      generalize or2 (sg x2 v) (sg x1 u) = r at P ul ug
      have UL1 := Lib.hid ul
      have UG1 := Lib.hid ug
      have P := Lib.hid P
      clear c1 hc1 hx ul ug hpr hm
      have q0 := fun p : LowW wr.heap.size wr => LowW.cell (a := ⟨g1, o1 + m * 2, none⟩) hgw C1.out.1 p
      have q1 := fun p : LowW wr.heap.size wr => LowW.cell (a := ⟨g1, o1 + m * 2 + 1, none⟩) hgw C1.out.2 p
      have q2 := fun p : LowW wr.heap.size wr => (K1.out.below p.below K1.out.lt).two.1
      have q3 := fun p : LowW wr.heap.size wr => (K1.out.below p.below K1.out.lt).two.2.1
      by_cases hr : r < 0
      · go_wp2_with fail
        refine wp_region_low wr.heap.size wr (by kernel_rfl) (by kernel_rfl) (Below.refl _ _) ?_
        repeat (quiet_step (first | (go_at_call 48; with_reducible exact LowW.of_call _ (Nat.le_refl _) (P.out _))))
        refine wpQuiet_nil ?_
        rintro w3 ⟨p, rfl⟩
        have B3 := Lib.hid (BX.out.trans (p.below.mono BX.out.size))
        have HU := Lib.hid (UL1.out hr)
        clear q0 q1 q2 q3
        generalize p.w = w3 at B3 ⊢
        go_wp2
        go_roundw
        case rel => exact ⟨m + 1, j, by go_num, rfl, HU.out, hj, hjn, B3.out⟩
        case measure => simp [intOf]; omega
      · have hr : 0 ≤ r := by omega
        have HU := Lib.hid (UG1.out (by omega))
        go_wp2_with fail
        refine wp_region_low wr.heap.size wr (by kernel_rfl) (by kernel_rfl) (Below.refl _ _) ?_
        repeat (quiet_step (first | (go_at_call 48; with_reducible exact LowW.of_call _ (Nat.le_refl _) (P.out _))))
        refine wpQuiet_nil ?_
        rintro w3 ⟨p, rfl⟩
        have B3 := Lib.hid (BX.out.trans (p.below.mono BX.out.size))
        clear q0 q1 q2 q3
        generalize p.w = w3 at B3 ⊢
        go_wp2
        go_roundw
        case rel => exact ⟨i, m, rfl, rfl, hi, HU.out, by omega, B3.out⟩
        case measure => simp [intOf]; omega
    · obtain ⟨e1, e3⟩ : i = k ∧ j = k := by omega
      subst e1
      subst e3
      have C1 := Lib.hid (hc1 j hk)
      rw [FK.out] at C1
      have P := fun w => pcompare_any u v u v w
      rw [show or2 (sg v v) (sg u u) = 0 from (pc_zero (u, v) (u, v)).2 rfl] at P
      have P := Lib.hid P
      have q0 := fun p : LowW wr.heap.size wr => LowW.cell (a := ⟨g1, o1 + j * 2, none⟩) hgw C1.out.1 p
      have q1 := fun p : LowW wr.heap.size wr => LowW.cell (a := ⟨g1, o1 + j * 2 + 1, none⟩) hgw C1.out.2 p
      have q2 := fun p : LowW wr.heap.size wr => (K1.out.below p.below K1.out.lt).two.1
      have q3 := fun p : LowW wr.heap.size wr => (K1.out.below p.below K1.out.lt).two.2.1
      have d1 : decide (j < n) = true := decide_eq_true hk
      clear hc1
      go_wp2_with fail
      refine wp_region_low wr.heap.size wr (by kernel_rfl) (by kernel_rfl) (Below.refl _ _) ?_
      repeat (quiet_step (first | (go_at_call 48; with_reducible exact LowW.of_call _ (Nat.le_refl _) (P.out _))))
      refine wpQuiet_nil ?_
      rintro w3 ⟨p, rfl⟩
      have B3 := Lib.hid (HB.out.trans (p.below.mono HB.out.size))
      clear q0 q1 q2 q3
      generalize p.w = w3 at B3 ⊢
      go_wp2
      go_ret2
      exact ⟨rfl, B3.out⟩
end Go.Proofs.YtedjjhaopohibaaGreatDoor
namespace Go.Proofs.YtedjjhaopohibaaGreatDoor
open Go.RowKit

/-- a tally's cells -/
def tg (x : List Int) : Array Value := #[.int .u8 (ig x 0), .int .u8 (ig x 1), .int .u8 (ig x 2), .int .u8 (ig x 3), .int .u8 (ig x 4), .int .u8 (ig x 5), .int .u8 (ig x 6), .int .u8 (ig x 7)]
def tcs (x : List Int) : List Value := [.int .u8 (ig x 0), .int .u8 (ig x 1), .int .u8 (ig x 2), .int .u8 (ig x 3), .int .u8 (ig x 4), .int .u8 (ig x 5), .int .u8 (ig x 6), .int .u8 (ig x 7)]
/-- a tally -/
def Tk (x : List Int) : Prop := x.length = 8 ∧ ∀ i, i < 8 → 0 ≤ ig x i ∧ ig x i < 256
theorem eightl {x : List Int} (h : x.length = 8) : ∃ a b c d e f g i, x = [a, b, c, d, e, f, g, i] := by
  match x, h with
  | [a, b, c, d, e, f, g, i], _ => exact ⟨a, b, c, d, e, f, g, i, rfl⟩
theorem tg_set (x : List Int) (s : Nat) (v : Int) (h : x.length = 8) (hs : s < 8) : (tg x).setIfInBounds s (.int .u8 v) = tg (x.set s v) := by
  obtain ⟨a, b, c, d, e, f, g, i, rfl⟩ := eightl h
  match s, hs with
  | 0, _ | 1, _ | 2, _ | 3, _ | 4, _ | 5, _ | 6, _ | 7, _ => rfl
theorem tg_at (x : List Int) (s : Nat) (hs : s < 8) : (tg x)[s]? = some (.int .u8 (ig x s)) := by
  match s, hs with
  | 0, _ | 1, _ | 2, _ | 3, _ | 4, _ | 5, _ | 6, _ | 7, _ => rfl
theorem tal_ext {x y : List Int} (hx : x.length = 8) (hy : y.length = 8) (h : tcs x = tcs y) : x = y := by
  obtain ⟨a, b, c, d, e, f, g, i, rfl⟩ := eightl hx
  obtain ⟨a', b', c', d', e', f', g', i', rfl⟩ := eightl hy
  simp [tcs, ig] at h
  simp [h]
theorem wf8 (n : Int) (h : 0 ≤ n ∧ n < 256) : (Lit.int .u8 n).wf = true := by
  have e1 : IntKind.u8.min = 0 := by decide
  have e2 : IntKind.u8.max = 255 := by decide
  simp only [Lit.wf, e1, e2, Bool.and_eq_true, decide_eq_true_eq]
  omega
def tl8 (x : List Int) : List Lit := [.int .u8 (ig x 0), .int .u8 (ig x 1), .int .u8 (ig x 2), .int .u8 (ig x 3), .int .u8 (ig x 4), .int .u8 (ig x 5), .int .u8 (ig x 6), .int .u8 (ig x 7)]
theorem key1 (n : Int) (h : 0 ≤ n ∧ n < 256) : Tryz.prog.keyLits 1 5 [.int .u8 n] = some [.int .u8 n] := by
  have hu : Tryz.prog.underlying 5 = some (.int .u8) := by kernel_rfl
  simp only [Program.keyLits, hu]
  rw [if_pos ⟨trivial, wf8 n h⟩]
theorem key8 (x : List Int) (hx : Tk x) : Tryz.prog.keyLits 2 107 (Value.agg (tg x)).cells.toList = some (tl8 x) := by
  have hu : Tryz.prog.underlying 107 = some (.array 8 5) := by kernel_rfl
  have hc : Tryz.prog.cellsOf 107 = 8 := by kernel_rfl
  have hc1 : Tryz.prog.cellsOf 5 = 1 := by kernel_rfl
  have k := fun i hi => key1 (ig x i) (hx.2 i hi)
  show Tryz.prog.keyLits (1 + 1) _ _ = _
  unfold Program.keyLits
  simp only [hu, hc, hc1]
  simp [Value.cells, tg, List.range, List.range.loop, k, tl8]
set_option maxRecDepth 100000 in
theorem teq (x y : List Int) (hx : Tk x) (hy : Tk y) (w : World) : (Op.equalIn 10000 107 (.agg (tg x)) (.agg (tg y))).run Tryz.prog w = .ok (decide (x = y)) w := by
  obtain ⟨r, hr, hi⟩ := run_equalIn_deep (P := Tryz.prog) 9998 2 107 (by kernel_rfl) w 2 2 (.agg (tg x)) (.agg (tg y)) (tl8 x) (tl8 y) (by kernel_rfl) (by kernel_rfl) (key8 x hx) (key8 y hy)
  simp only [Nat.reduceAdd] at hr
  rw [hr]
  congr 1
  rw [Bool.eq_iff_iff, hi, decide_eq_true_iff]
  constructor
  · intro h
    refine tal_ext hx.1 hy.1 ?_
    simp [tl8] at h
    simp [tcs, h]
  · intro h
    rw [h]

/-- the cells of a list of tallies -/
def tcl (l : List (List Int)) : List Value := l.flatMap tcs
theorem tcl_add (l : List (List Int)) (x : List Int) : tcl (l ++ [x]) = tcl l ++ tcs x := by simp [tcl, List.flatMap_append]
theorem tcl_len (l : List (List Int)) : (tcl l).length = l.length * 8 := by
  induction l with
  | nil => rfl
  | cons a l ih => simp [tcl, List.flatMap_cons] at ih ⊢; rw [ih]; simp [tcs]; omega
/-- tally number k -/
def tn8 (l : List (List Int)) (k : Nat) : List Int := l.getD k []
theorem tcl_at (l : List (List Int)) (k i : Nat) (hk : k < l.length) (hi : i < 8) : (tcl l)[k * 8 + i]? = (tcs (tn8 l k))[i]? := by
  induction l generalizing k with
  | nil => simp at hk
  | cons a l ih =>
    have e : tcl (a :: l) = tcs a ++ tcl l := by simp [tcl, List.flatMap_cons]
    have la : (tcs a).length = 8 := rfl
    rw [e]
    cases k with
    | zero => rw [List.getElem?_append_left (by omega)]; simp [tn8]
    | succ k =>
      rw [List.getElem?_append_right (by omega), la, show (k + 1) * 8 + i - 8 = k * 8 + i by omega, ih k (by simpa using hk)]
      simp [tn8]
/-- a list of tallies at the address A, below block B -/
def TReads (w : World) (B : Nat) (A : Option Addr) (l : List (List Int)) : Prop :=
  0 < l.length → ∃ g o, A = some ⟨g, o, none⟩ ∧ g < B ∧ ∀ k, k < l.length → ∀ i, i < 8 → w.cell? ⟨g, o + k * 8 + i, none⟩ = some (.int .u8 (ig (tn8 l k) i))
section
variable {w w' : World} {B B' : Nat} {A : Option Addr} {l : List (List Int)}
theorem TReads.below (h : TReads w B A l) (hb : Below B w w') : TReads w' B A l := fun hn => by
  obtain ⟨g, o, e, hg, hc⟩ := h hn
  exact ⟨g, o, e, hg, fun k hk i hi => (hb.cell (p := ⟨g, _, none⟩) hg).trans (hc k hk i hi)⟩
theorem TReads.more (h : TReads w B A l) (hB : B ≤ B') : TReads w B' A l := fun hn => by
  obtain ⟨g, o, e, hg, hc⟩ := h hn
  exact ⟨g, o, e, Nat.lt_of_lt_of_le hg hB, hc⟩
theorem TReads.later (h : TReads w w.heap.size A l) (hb : Below w.heap.size w w') : TReads w' w'.heap.size A l := (h.below hb).more hb.size
theorem TReads.eight (h : TReads w B A l) {k : Nat} (hk : k < l.length) : ∃ g o, A = some ⟨g, o, none⟩ ∧ g < B ∧ w.cell? ⟨g, o + k * 8, none⟩ = some (.int .u8 (ig (tn8 l k) 0)) ∧ w.cell? ⟨g, o + k * 8 + 1, none⟩ = some (.int .u8 (ig (tn8 l k) 1)) ∧ w.cell? ⟨g, o + k * 8 + 2, none⟩ = some (.int .u8 (ig (tn8 l k) 2)) ∧ w.cell? ⟨g, o + k * 8 + 3, none⟩ = some (.int .u8 (ig (tn8 l k) 3)) ∧ w.cell? ⟨g, o + k * 8 + 4, none⟩ = some (.int .u8 (ig (tn8 l k) 4)) ∧ w.cell? ⟨g, o + k * 8 + 5, none⟩ = some (.int .u8 (ig (tn8 l k) 5)) ∧ w.cell? ⟨g, o + k * 8 + 6, none⟩ = some (.int .u8 (ig (tn8 l k) 6)) ∧ w.cell? ⟨g, o + k * 8 + 7, none⟩ = some (.int .u8 (ig (tn8 l k) 7)) := by
  obtain ⟨g, o, e, hg, hc⟩ := h (by omega)
  exact ⟨g, o, e, hg, hc k hk 0 (by omega), hc k hk 1 (by omega), hc k hk 2 (by omega), hc k hk 3 (by omega), hc k hk 4 (by omega), hc k hk 5 (by omega), hc k hk 6 (by omega), hc k hk 7 (by omega)⟩
theorem TReads.of_own {base c : Nat} {e : TypeId} (h : w.ownsRow base e 8 (.slice A l.length c) l.length (tcl l)) : TReads w w.heap.size A l := fun hn => by
  obtain ⟨g, cap, hv, _, _⟩ := h.form hn
  injection hv with h1 h2 h3
  subst h1 h3
  refine ⟨g, 0, rfl, (h.lt g rfl).2, fun k hk i hi => ?_⟩
  rw [Nat.zero_add, h.cellAt (k * 8 + i) (by omega), tcl_at l k i hk hi]
  match i, hi with
  | 0, _ | 1, _ | 2, _ | 3, _ | 4, _ | 5, _ | 6, _ | 7, _ => rfl
end
theorem tn8_mem {l : List (List Int)} {k : Nat} (h : k < l.length) : tn8 l k ∈ l := by
  rw [tn8, List.getD_eq_getElem?_getD, List.getElem?_eq_getElem h]; exact List.getElem_mem h
theorem mem_tn8 {l : List (List Int)} {x : List Int} (h : x ∈ l) : ∃ j, j < l.length ∧ tn8 l j = x := by
  obtain ⟨j, hj, rfl⟩ := List.getElem_of_mem h
  exact ⟨j, hj, by rw [tn8, List.getD_eq_getElem?_getD, List.getElem?_eq_getElem hj]; rfl⟩
theorem own_below8 {w w' : World} {base : Nat} {e : TypeId} {v : Value} {n : Nat} {xs : List Value} (h : w.ownsRow base e 8 v n xs) (hb : Below w.heap.size w w') : w'.ownsRow base e 8 v n xs := by
  refine ⟨h.1, ?_⟩
  rcases h.2 with hn | ⟨g, cap, cur, rfl, hb', hg, rest⟩
  · exact .inl hn
  · refine .inr ⟨g, cap, cur, rfl, hb', ?_, rest⟩
    rw [hb.block g (Array.getElem?_eq_some_iff.1 hg).1]; exact hg
/-- append of one tally onto a row of the call's own -/
theorem wpList_append8 {P : Program} {w : World} {ops : Array Oper} {rest : List Oper} {o : Oper} {a : Act} {Q : Exit → Act → World → Prop} (hgd : o.guard = none) (s x : Operand) (t : TypeId)
    (ho : o.op = .call { callee := .builtin .append, args := #[s, x], argTypes := #[t, t] })
    (base : Nat) (e : TypeId) (i : TypeInfo) (z : Value) (bytes : Nat) (ht : P.underlying t = some (.slice e)) (hi : P.info? e = some i) (hz : i.zero = some z)
    (hsize : i.size = 8) (hby : i.bytes = bytes) (hzs : z.cells.size = 8)
    (A : Option Addr) (n c : Nat) (xs : List Value) (hs : a.eval s = .slice A n c) (hown : w.ownsRow base e 8 (.slice A n c) n xs) (a0 a1 a2 a3 a4 a5 a6 a7 : Int)
    (hx : a.eval x = .slice (some ⟨w.heap.size, 0, none⟩) 1 1) (h63 : n + 1 ≤ maxLen) (hbytes : (n + 1) * bytes ≤ 140737488355328) (hbase : base ≤ w.heap.size)
    (h : ∀ g' c' w', w'.ownsRow base e 8 (.slice (some ⟨g', 0, none⟩) (n + 1) c') (n + 1) (xs ++ [.int .u8 a0, .int .u8 a1, .int .u8 a2, .int .u8 a3, .int .u8 a4, .int .u8 a5, .int .u8 a6, .int .u8 a7]) → Below base w w' → wpList P ops Q rest (a.put o.dst (.slice (some ⟨g', 0, none⟩) (n + 1) c')) w') :
    wpList P ops Q (o :: rest) a (w.alloc (.cells #[.int .u8 a0, .int .u8 a1, .int .u8 a2, .int .u8 a3, .int .u8 a4, .int .u8 a5, .int .u8 a6, .int .u8 a7] e)) := by
  refine wpList_append_own _ hgd s x t ho base e i z 8 bytes ht hi hz hsize hby hzs (by decide) _ n xs hs (hown.alloc _) ⟨w.heap.size, 0, none⟩ 1 1 [.int .u8 a0, .int .u8 a1, .int .u8 a2, .int .u8 a3, .int .u8 a4, .int .u8 a5, .int .u8 a6, .int .u8 a7] hx rfl ?_ ?_ h63 hbytes (by simp; omega) ?_
  · intro j y hj
    match j, hj with
    | 0, hj | 1, hj | 2, hj | 3, hj | 4, hj | 5, hj | 6, hj | 7, hj => simp at hj; subst hj; simp [Addr.add]
  · intro y hy; simp at hy; rcases hy with rfl | rfl | rfl | rfl | rfl | rfl | rfl | rfl <;> rfl
  · intro v' w' hown' hg _
    obtain ⟨g', c', hv, hg', hs'⟩ := hown'.form (by omega)
    subst hv
    refine h g' c' w' hown' (Below.grown ((Below.refl base w).alloc hbase _) hg (by simp; omega) ?_)
    intro k hk
    exact (hown.lt k hk).1
theorem Tryz.info_tally : (Tryz.prog.info? 107).map (fun i => (i.zero, i.size, i.bytes)) = some (some (.agg #[.int .u8 0, .int .u8 0, .int .u8 0, .int .u8 0, .int .u8 0, .int .u8 0, .int .u8 0, .int .u8 0]), 8, 8) := by kernel_rfl
end Go.Proofs.YtedjjhaopohibaaGreatDoor
namespace Go.Proofs.YtedjjhaopohibaaGreatDoor
open Go.RowKit

set_option maxRecDepth 100000 in
set_option maxHeartbeats 2000000 in
theorem tindex_any (A : Option Addr) (c : Nat) (l : List (List Int)) (x : List Int) (w : World) (h : TReads w w.heap.size A l) (hk : ∀ y, y ∈ l → Tk y) (hx : Tk x) (hn : l.length ≤ 4611686018427387904) :
    Calls Tryz.prog 87 #[.slice A l.length c, .agg (tg x)] w fun e w' => e = .returned (.int .i64 (fx (fun i => decide (tn8 l i = x)) l.length)) ∧ Below w.heap.size w w' := by
  have H := Lib.hid h
  have TE := Lib.hid (fun k (hk' : k < l.length) (w : World) => teq x (tn8 l k) hx (hk _ (tn8_mem hk')) w)
  have K0 := Lib.hid (Blk.new w 107 (tg x))
  have B0 := Lib.hid ((Below.refl w.heap.size w).alloc (Nat.le_refl _) (.cells (tg x) 107))
  have FS := Lib.hid (fun j (hj : j < l.length) (h : ∀ i, i < j → tn8 l i ≠ x) (e : tn8 l j = x) => show fx (fun i => decide (tn8 l i = x)) l.length = (j : Int) from fx_some hj (fun i hi => decide_eq_false (h i hi)) (decide_eq_true e))
  have FN := Lib.hid (fun (h : ∀ i, i < l.length → tn8 l i ≠ x) => show fx (fun i => decide (tn8 l i = x)) l.length = -1 from fx_none (fun i hi => decide_eq_false (h i hi)))
  generalize fx (fun i => decide (tn8 l i = x)) l.length = r at FS FN ⊢
  clear h hk hx
  unfold tg at *
  generalize ig x 0 = b0 at K0 B0 TE ⊢
  generalize ig x 1 = b1 at K0 B0 TE ⊢
  generalize ig x 2 = b2 at K0 B0 TE ⊢
  generalize ig x 3 = b3 at K0 B0 TE ⊢
  generalize ig x 4 = b4 at K0 B0 TE ⊢
  generalize ig x 5 = b5 at K0 B0 TE ⊢
  generalize ig x 6 = b6 at K0 B0 TE ⊢
  generalize ig x 7 = b7 at K0 B0 TE ⊢
  go_enter Tryz.func87, Tryz.ntmps87
  go_wp2_with fail
  generalize w.alloc (.cells #[.int .u8 b0, .int .u8 b1, .int .u8 b2, .int .u8 b3, .int .u8 b4, .int .u8 b5, .int .u8 b6, .int .u8 b7] 107) = w0 at K0 B0 ⊢
  go_wp2
  obtain ⟨n, hn'⟩ : ∃ n, n = l.length := ⟨_, rfl⟩
  rw [← hn'] at hn ⊢
  have HN' := Lib.hid hn'
  clear hn'
  go_loopw [8] (fun iv wr => ∃ j : Nat, j ≤ n ∧ iv = .int .i64 (j : Int) ∧ (∀ i, i < j → tn8 l i ≠ x) ∧ Below w0.heap.size w0 wr) (fun iv _ => n - (intOf iv).toNat)
  case atStart => exact ⟨0, Nat.zero_le _, rfl, fun i hi => absurd hi (by omega), Below.refl _ _⟩
  case round =>
    obtain ⟨j, hj, rfl, hno, hbel⟩ := hrel
    have HB := Lib.hid (B0.out.trans (hbel.mono B0.out.size))
    have HX := Lib.hid hbel
    have HN := Lib.hid hno
    obtain ⟨k0, k1, k2, k3, k4, k5, k6, k7, k8⟩ := (K0.out.below hbel K0.out.lt).eight
    clear hno hbel
    by_cases hjn : j < n
    · obtain ⟨g1, o1, rfl, hb1, c0, c1, c2, c3, c4, c5, c6, c7⟩ := (H.out.below HB.out).eight (k := j) (by rw [← HN'.out]; exact hjn)
      have EQ := TE.out j (by rw [← HN'.out]; exact hjn)
      have FS1 := Lib.hid (FS.out j (by rw [← HN'.out]; exact hjn) HN.out)
      have HS := Lib.hid (show tn8 l j ≠ x → ∀ i, i < j + 1 → tn8 l i ≠ x from fun h i hi => by
        by_cases e : i < j
        · exact HN.out i e
        · obtain rfl : i = j := by omega
          exact h)
      have QE : decide (x = tn8 l j) = true ↔ tn8 l j = x := by rw [decide_eq_true_iff]; exact eq_comm
      generalize decide (x = tn8 l j) = q at EQ QE
      generalize ig (tn8 l j) 0 = a0 at EQ c0
      generalize ig (tn8 l j) 1 = a1 at EQ c1
      generalize ig (tn8 l j) 2 = a2 at EQ c2
      generalize ig (tn8 l j) 3 = a3 at EQ c3
      generalize ig (tn8 l j) 4 = a4 at EQ c4
      generalize ig (tn8 l j) 5 = a5 at EQ c5
      generalize ig (tn8 l j) 6 = a6 at EQ c6
      generalize ig (tn8 l j) 7 = a7 at EQ c7
      cases q with
      | true =>
        have HF := Lib.hid (FS1.out (QE.1 rfl))
        clear QE
        go_wp2_with fail
        go_quiet (fail)
        go_wp2
        go_ret
        exact ⟨ret_int HF.out.symm, below_drewN HB.out _⟩
      | false =>
        have HT := Lib.hid (HS.out fun e => by have := QE.2 e; cases this)
        clear QE
        go_wp2_with fail
        go_quiet (fail)
        go_wp2
        go_roundw
        case rel => exact ⟨j + 1, by omega, by go_num, HT.out, below_drewN HX.out _⟩
        case measure => simp [intOf]; omega
    · obtain rfl : j = n := by omega
      have HF := Lib.hid (FN.out fun i hi => HN.out i (by rw [← HN'.out] at hi; exact hi))
      go_wp2
      go_ret
      exact ⟨ret_int HF.out.symm, HB.out⟩
theorem tcontains_any (A : Option Addr) (c : Nat) (l : List (List Int)) (x : List Int) (w : World) (h : TReads w w.heap.size A l) (hk : ∀ y, y ∈ l → Tk y) (hx : Tk x) (hn : l.length ≤ 4611686018427387904) :
    Calls Tryz.prog 75 #[.slice A l.length c, .agg (tg x)] w fun e w' => e = .returned (.bool (decide (x ∈ l))) ∧ Below w.heap.size w w' := by
  have IX := Lib.hid (fun w1 (hb : Below w.heap.size w w1) => tindex_any A c l x w1 (h.later hb) hk hx hn)
  have K0 := Lib.hid (Blk.new w 107 (tg x))
  have B0 := Lib.hid ((Below.refl w.heap.size w).alloc (Nat.le_refl _) (.cells (tg x) 107))
  have Q : (x ∈ l ∧ ∃ j : Nat, fx (fun i => decide (tn8 l i = x)) l.length = (j : Int)) ∨ (x ∉ l ∧ fx (fun i => decide (tn8 l i = x)) l.length = -1) := by
    rcases fx_cases (fun i => decide (tn8 l i = x)) l.length with ⟨j, hj, e, h1, _⟩ | ⟨e, h1⟩
    · exact .inl ⟨by rw [← of_decide_eq_true h1]; exact tn8_mem hj, j, e⟩
    · exact .inr ⟨fun hm => by
        obtain ⟨j, hj, e⟩ := mem_tn8 hm
        exact of_decide_eq_false (h1 j hj) e, e⟩
  generalize fx (fun i => decide (tn8 l i = x)) l.length = r at IX Q
  have QR : decide (x ∈ l) = decide (0 ≤ r) := by
    rcases Q with ⟨h1, j, rfl⟩ | ⟨h1, rfl⟩
    · rw [decide_eq_true h1, decide_eq_true (by omega)]
    · rw [decide_eq_false h1]; rfl
  rw [QR]
  clear h hk hx Q QR
  unfold tg at *
  generalize ig x 0 = b0 at K0 B0 IX ⊢
  generalize ig x 1 = b1 at K0 B0 IX ⊢
  generalize ig x 2 = b2 at K0 B0 IX ⊢
  generalize ig x 3 = b3 at K0 B0 IX ⊢
  generalize ig x 4 = b4 at K0 B0 IX ⊢
  generalize ig x 5 = b5 at K0 B0 IX ⊢
  generalize ig x 6 = b6 at K0 B0 IX ⊢
  generalize ig x 7 = b7 at K0 B0 IX ⊢
  go_enter Tryz.func75, Tryz.ntmps75
  go_wp2_with fail
  generalize w.alloc (.cells #[.int .u8 b0, .int .u8 b1, .int .u8 b2, .int .u8 b3, .int .u8 b4, .int .u8 b5, .int .u8 b6, .int .u8 b7] 107) = w0 at K0 B0 ⊢
  obtain ⟨k0, k1, k2, k3, k4, k5, k6, k7, k8⟩ := K0.out.eight
  go_wp2_with (go_at_call 87; (with_reducible refine (IX.out _ B0.out).mono ?_); rintro e w1 ⟨rfl, hb⟩; have B1 := Lib.hid (B0.out.trans (hb.mono B0.out.size)); clear hb)
  go_ret
  exact ⟨rfl, B1.out⟩
/-- how often a number stands in a list -/
def cnt (l : List Int) (k : Int) : Nat → Int
  | 0 => 0
  | n + 1 => cnt l k n + if ig l n = k then 1 else 0
theorem cnt_bd (l : List Int) (k : Int) (n : Nat) : 0 ≤ cnt l k n ∧ cnt l k n ≤ n := by
  induction n with
  | zero => exact ⟨Int.le_refl _, Int.le_refl _⟩
  | succ n ih => rw [cnt]; split <;> omega
set_option maxRecDepth 100000 in
theorem count_any (A : Option Addr) (n c B : Nat) (l : List Int) (k : Int) (w : World) (h : Reads w B A n (il l)) (hn : n ≤ 200) :
    Calls Tryz.prog 60 #[.slice A n c, .int .i64 k] w fun e w' => e = .returned (.int .u8 (cnt l k n)) ∧ w = w' := by
  have HL := Lib.hid (reads_len h)
  have H := Lib.hid h
  clear h
  go_enter Tryz.func60, Tryz.ntmps60
  go_wp2
  go_loop [5, 10] (fun rv iv => ∃ (j : Nat) (r : Int), j ≤ n ∧ iv = .int .i64 (j : Int) ∧ rv = .int .u8 r ∧ r = cnt l k j ∧ 0 ≤ r ∧ r ≤ j) (fun _ iv => n - (intOf iv).toNat)
  case atStart => exact ⟨0, 0, Nat.zero_le _, rfl, rfl, rfl, by decide, by decide⟩
  case round =>
    obtain ⟨j, r, hj, rfl, rfl, hr, h0, h1⟩ := hrel
    have HR := Lib.hid hr
    clear hr
    by_cases hlt : j < n
    · obtain ⟨ad, rfl, hb, hc⟩ := il_at H.out hlt
      have CS := Lib.hid (show cnt l k (j + 1) = cnt l k j + if ig l j = k then 1 else 0 from rfl)
      generalize ig l j = x at hc CS
      by_cases hxk : x = k
      · have CT := Lib.hid (show r + 1 = cnt l k (j + 1) by rw [CS.out, if_pos hxk, HR.out])
        have ht : (x == k) = true := by rw [beq_iff_eq]; exact hxk
        clear hxk
        go_wp2
        go_round
        case rel => exact ⟨j + 1, r + 1, by omega, by go_num, by go_num, CT.out, by omega, by omega⟩
        case measure => simp [intOf]; omega
      · have CT := Lib.hid (show r = cnt l k (j + 1) by rw [CS.out, if_neg hxk, HR.out, Int.add_zero])
        have ht : (x == k) = false := by rw [beq_eq_false_iff_ne]; exact hxk
        clear hxk
        go_wp2
        go_round
        case rel => exact ⟨j + 1, r, by omega, by go_num, rfl, CT.out, by omega, by omega⟩
        case measure => simp [intOf]; omega
    · obtain rfl : j = n := by omega
      go_wp2
      go_ret
      exact ⟨ret_int HR.out, rfl⟩
end Go.Proofs.YtedjjhaopohibaaGreatDoor
namespace Go.Proofs.YtedjjhaopohibaaGreatDoor
open Go.RowKit

/-- one tally, one state: what is left is added, if it is new -/
def wo1 (c : Int) (r : List (List Int)) (x : List Int) (s : Nat) : List (List Int) :=
  if ig x s < c then r else if x.set s (ig x s - c) ∈ r then r else r ++ [x.set s (ig x s - c)]
/-- one tally, the first i states -/
def wi (c : Int) (x : List Int) (ss : List Int) (r : List (List Int)) : Nat → List (List Int)
  | 0 => r
  | i + 1 => wo1 c (wi c x ss r i) x (ig ss i).toNat
/-- the first j tallies, all states -/
def wo (c : Int) (l : List (List Int)) (ss : List Int) : Nat → List (List Int)
  | 0 => []
  | j + 1 => wi c (tn8 l j) ss (wo c l ss j) ss.length
theorem ig_set {x : List Int} {s i : Nat} {v : Int} (hs : s < x.length) : ig (x.set s v) i = if i = s then v else ig x i := by
  unfold ig
  simp only [List.getD_eq_getElem?_getD, List.getElem?_set]
  by_cases h : s = i
  · subst h; simp [hs]
  · rw [if_neg h, if_neg (fun e => h e.symm)]
theorem Tk.set {x : List Int} (h : Tk x) {s : Nat} (hs : s < 8) {v : Int} (h0 : 0 ≤ v) (h1 : v < 256) : Tk (x.set s v) := by
  refine ⟨by rw [List.length_set]; exact h.1, fun i hi => ?_⟩
  rw [ig_set (by rw [h.1]; exact hs)]
  split
  · exact ⟨h0, h1⟩
  · exact h.2 i hi
theorem wo1_tk {c : Int} {r : List (List Int)} {x : List Int} {s : Nat} (hr : ∀ y, y ∈ r → Tk y) (hx : Tk x) (hs : s < 8) (h0 : 0 ≤ c) : ∀ y, y ∈ wo1 c r x s → Tk y := by
  intro y hy
  unfold wo1 at hy
  split at hy
  · exact hr y hy
  · split at hy
    · exact hr y hy
    · rcases List.mem_append.1 hy with h | h
      · exact hr y h
      · rw [List.mem_singleton] at h
        rw [h]
        have := hx.2 s hs
        exact hx.set hs (by omega) (by omega)
theorem wo1_len (c : Int) (r : List (List Int)) (x : List Int) (s : Nat) : (wo1 c r x s).length ≤ r.length + 1 := by
  unfold wo1
  split
  · omega
  · split
    · omega
    · simp
theorem wi_tk {c : Int} {r : List (List Int)} {x : List Int} {ss : List Int} (hr : ∀ y, y ∈ r → Tk y) (hx : Tk x) (h0 : 0 ≤ c) (i : Nat) (hs : ∀ k, k < i → (ig ss k).toNat < 8) : ∀ y, y ∈ wi c x ss r i → Tk y := by
  induction i with
  | zero => exact hr
  | succ i ih => exact wo1_tk (ih fun k hk => hs k (by omega)) hx (hs i (by omega)) h0
theorem wi_len (c : Int) (r : List (List Int)) (x ss : List Int) (i : Nat) : (wi c x ss r i).length ≤ r.length + i := by
  induction i with
  | zero => exact Nat.le_refl _
  | succ i ih => have := wo1_len c (wi c x ss r i) x (ig ss i).toNat; rw [wi]; omega
theorem wo_tk {c : Int} {l : List (List Int)} {ss : List Int} (hl : ∀ y, y ∈ l → Tk y) (h0 : 0 ≤ c) (hs : ∀ k, k < ss.length → (ig ss k).toNat < 8) (j : Nat) (hj : j ≤ l.length) : ∀ y, y ∈ wo c l ss j → Tk y := by
  induction j with
  | zero => intro y hy; cases hy
  | succ j ih => exact wi_tk (ih (by omega)) (hl _ (tn8_mem (by omega))) h0 _ hs
theorem wo_len (c : Int) (l : List (List Int)) (ss : List Int) (j : Nat) : (wo c l ss j).length ≤ j * ss.length := by
  induction j with
  | zero => simp [wo]
  | succ j ih => have := wi_len c (wo c l ss j) (tn8 l j) ss ss.length; rw [wo, Nat.succ_mul]; omega
theorem wo_nil (c : Int) (ss : List Int) : wo c [] ss 0 = [] := rfl
theorem lift_tcs (x : List Int) (s : Nat) (v : Int) (h : x.length = 8) (hs : s < 8) : tg (x.set s v) = (tg x).setIfInBounds s (.int .u8 v) := (tg_set x s v h hs).symm

/-- what the call owns stays owned behind a store elsewhere -/
theorem own_set8 {w : World} {base : Nat} {e : TypeId} {v : Value} {n : Nat} {xs : List Value} {p : Addr} (h : w.ownsRow base e 8 v n xs) (hp : v.ownBlock ≠ some p.block) (u : Value) : (w.setCell p u).ownsRow base e 8 v n xs := by
  refine ⟨h.1, ?_⟩
  rcases h.2 with hn | ⟨g, cap, cur, rfl, hb', hg, rest⟩
  · exact .inl hn
  · refine .inr ⟨g, cap, cur, rfl, hb', ?_, rest⟩
    have hne : g ≠ p.block := fun e => hp (by rw [e]; rfl)
    rw [Below.heap_setCell w p u g hne]; exact hg
theorem own_lt8 {w : World} {base : Nat} {e : TypeId} {v : Value} {n : Nat} {xs : List Value} (h : w.ownsRow base e 8 v n xs) {b : Nat} (hb : w.heap.size ≤ b) : v.ownBlock ≠ some b := by
  rcases h.2 with ⟨rfl, _⟩ | ⟨g, cap, cur, rfl, hb', hg, rest⟩
  · simp [Value.ownBlock]
  · have := (Array.getElem?_eq_some_iff.1 hg).1
    simp only [Value.ownBlock, ne_eq, Option.some.injEq]
    omega
/-- append of one tally onto a row of the call's own; another block stays as it was -/
theorem wpList_append8b {P : Program} {w : World} {ops : Array Oper} {rest : List Oper} {o : Oper} {a : Act} {Q : Exit → Act → World → Prop} (hgd : o.guard = none) (s x : Operand) (t : TypeId)
    (ho : o.op = .call { callee := .builtin .append, args := #[s, x], argTypes := #[t, t] })
    (base : Nat) (e : TypeId) (i : TypeInfo) (z : Value) (bytes : Nat) (ht : P.underlying t = some (.slice e)) (hi : P.info? e = some i) (hz : i.zero = some z)
    (hsize : i.size = 8) (hby : i.bytes = bytes) (hzs : z.cells.size = 8)
    (A : Option Addr) (n c : Nat) (xs : List Value) (hs : a.eval s = .slice A n c) (hown : w.ownsRow base e 8 (.slice A n c) n xs) (a0 a1 a2 a3 a4 a5 a6 a7 : Int)
    (hx : a.eval x = .slice (some ⟨w.heap.size, 0, none⟩) 1 1) (h63 : n + 1 ≤ maxLen) (hbytes : (n + 1) * bytes ≤ 140737488355328) (hbase : base ≤ w.heap.size)
    (b : Nat) (T : TypeId) (cs : Array Value) (hB : Blk w b T cs) (hAP : (Value.slice A n c).ownBlock ≠ some b)
    (h : ∀ g' c' w', w'.ownsRow base e 8 (.slice (some ⟨g', 0, none⟩) (n + 1) c') (n + 1) (xs ++ [.int .u8 a0, .int .u8 a1, .int .u8 a2, .int .u8 a3, .int .u8 a4, .int .u8 a5, .int .u8 a6, .int .u8 a7]) → Below base w w' → Blk w' b T cs → (Value.slice (some ⟨g', 0, none⟩) (n + 1) c').ownBlock ≠ some b → wpList P ops Q rest (a.put o.dst (.slice (some ⟨g', 0, none⟩) (n + 1) c')) w') :
    wpList P ops Q (o :: rest) a (w.alloc (.cells #[.int .u8 a0, .int .u8 a1, .int .u8 a2, .int .u8 a3, .int .u8 a4, .int .u8 a5, .int .u8 a6, .int .u8 a7] e)) := by
  refine wpList_append_lies _ hgd s x t ho base e i z 8 bytes ht hi hz hsize hby hzs (by decide) _ n xs hs (hown.alloc _) ⟨w.heap.size, 0, none⟩ 1 1 [.int .u8 a0, .int .u8 a1, .int .u8 a2, .int .u8 a3, .int .u8 a4, .int .u8 a5, .int .u8 a6, .int .u8 a7] hx rfl ?_ ?_ (by decide) h63 hbytes (by simp; omega) (w.heap.size + 1) (by simp) ?_
  · intro j y hj
    match j, hj with
    | 0, hj | 1, hj | 2, hj | 3, hj | 4, hj | 5, hj | 6, hj | 7, hj => simp at hj; subst hj; simp [Addr.add]
  · intro y hy; simp at hy; rcases hy with rfl | rfl | rfl | rfl | rfl | rfl | rfl | rfl <;> rfl
  · intro g' c' w' hown' hg hl hlt
    have hbl := hB.lt
    refine h g' c' w' hown' (Below.grown ((Below.refl base w).alloc hbase _) hg (by simp; omega) ?_) ?_ ?_
    · intro k hk
      exact (hown.lt k hk).1
    · exact (hg.block b (by simp; omega) (fun e => hAP e.symm)).trans (hB.alloc _)
    · simp only [Value.ownBlock, ne_eq, Option.some.injEq]
      intro e
      subst e
      rcases hl with hl | hl
      · exact hAP hl
      · omega
/-- a list of tallies came back -/
def TalOut (L : List (List Int)) (w : World) (e : Ending) (w' : World) : Prop := ∃ A' c', e = .returned (.slice A' L.length c') ∧ TReads w' w'.heap.size A' L ∧ Below w.heap.size w w'

set_option maxRecDepth 100000 in
set_option maxHeartbeats 4000000 in
theorem without_any (A : Option Addr) (cA : Nat) (l : List (List Int)) (AS : Option Addr) (m cS : Nat) (ss : List Int) (c : Int) (w : World) (h : TReads w w.heap.size A l) (hk : ∀ y, y ∈ l → Tk y)
    (hS : Reads w w.heap.size AS m (il ss)) (hs : ∀ k, k < ss.length → 0 ≤ ig ss k ∧ ig ss k < 8) (h0 : 0 ≤ c) (h1 : c < 256) (hl : l.length ≤ 1000000000) (hm : l.length * ss.length ≤ 1000000000) (hm2 : m ≤ 1000) :
    Calls Tryz.prog 58 #[.slice A l.length cA, .slice AS m cS, .int .u8 c] w fun e w' => TalOut (wo c l ss l.length) w e w' := by
  obtain ⟨i0, hi, hz0, hz1, hz2⟩ := info_parts Tryz.info_tally
  have HS := Lib.hid hS
  have H := Lib.hid h
  have HL := Lib.hid (reads_len hS)
  have HK := Lib.hid hk
  have HSS := Lib.hid hs
  have HM := Lib.hid hm
  obtain ⟨n, hn'⟩ : ∃ n, n = l.length := ⟨_, rfl⟩
  rw [← hn'] at hl ⊢
  have HN := Lib.hid hn'
  clear h hk hS hs hm hn'
  go_enter Tryz.func58, Tryz.ntmps58
  go_wp2
  go_loopw [7, 15] (fun lv jv wr => ∃ (j : Nat) (r : List (List Int)) (A' : Option Addr) (c' : Nat), j ≤ n ∧ jv = .int .i64 (j : Int) ∧ r = wo c l ss j ∧ lv = .slice A' r.length c' ∧ wr.ownsRow w.heap.size 107 8 (.slice A' r.length c') r.length (tcl r) ∧ Below w.heap.size w wr) (fun _ jv _ => n - (intOf jv).toNat)
  case atStart => exact ⟨0, [], none, 0, Nat.zero_le _, rfl, rfl, rfl, World.ownsRow_nil _ _ _ _, Below.refl _ _⟩
  case round =>
    obtain ⟨j, r, A', c', hj, rfl, hr, rfl, hown, hbel⟩ := hrel
    have HB := Lib.hid hbel
    have HW := Lib.hid hown
    have HR := Lib.hid hr
    have hsz := hbel.size
    clear hown hr hbel
    by_cases hjn : j < n
    · have hjl : j < l.length := by rw [← HN.out]; exact hjn
      obtain ⟨g1, o1, rfl, hb1, c0, c1, c2, c3, c4, c5, c6, c7⟩ := (H.out.below HB.out).eight hjl
      have TX := Lib.hid (HK.out _ (tn8_mem hjl))
      have RS := Lib.hid (show wi c (tn8 l j) ss r ss.length = wo c l ss (j + 1) by rw [HR.out]; rfl)
      obtain ⟨x, hx⟩ : ∃ x, x = tn8 l j := ⟨_, rfl⟩
      rw [← hx] at c0 c1 c2 c3 c4 c5 c6 c7 TX RS
      clear hx
      have RT := Lib.hid (show ∀ y, y ∈ r → Tk y by rw [HR.out]; exact wo_tk HK.out h0 (fun k hk => by have := HSS.out k hk; omega) j (by omega))
      have RL := Lib.hid (show r.length ≤ j * ss.length by rw [HR.out]; exact wo_len c l ss j)
      have K1 := Lib.hid (Blk.new wr 107 (tg x))
      have B1 := Lib.hid ((Below.refl wr.heap.size wr).alloc (Nat.le_refl _) (.cells (tg x) 107))
      have XG := Lib.hid (show #[Value.int .u8 (ig x 0), .int .u8 (ig x 1), .int .u8 (ig x 2), .int .u8 (ig x 3), .int .u8 (ig x 4), .int .u8 (ig x 5), .int .u8 (ig x 6), .int .u8 (ig x 7)] = tg x from rfl)
      go_upto_region 5 with (fail)
      rw [XG.out]
      generalize wr.alloc (.cells (tg x) 107) = w1 at K1 B1 ⊢
      obtain ⟨b, hb⟩ : ∃ b, b = wr.heap.size := ⟨_, rfl⟩
      have HBB := Lib.hid hb
      rw [← hb] at K1 ⊢
      clear hb
      go_wp2_with fail
      obtain ⟨w0, rfl⟩ : ∃ w0, w0 = wr := ⟨_, rfl⟩
      have B2 := Lib.hid (HB.out.trans (B1.out.mono hsz))
      have W1 := Lib.hid (own_below8 HW.out B1.out)
      have A1 := Lib.hid (own_lt8 (b := b) HW.out (by rw [HBB.out]; exact Nat.le_refl _))
      have hwb : w.heap.size ≤ b := by rw [HBB.out]; exact hsz
      clear c0 c1 c2 c3 c4 c5 c6 c7
      go_loopw [7, 21] (fun lv iv wr => ∃ (i : Nat) (r2 : List (List Int)) (A2 : Option Addr) (c2 : Nat), i ≤ m ∧ iv = .int .i64 (i : Int) ∧ r2 = wi c x ss r i ∧ lv = .slice A2 r2.length c2 ∧ (wr.ownsRow w.heap.size 107 8 (.slice A2 r2.length c2) r2.length (tcl r2) ∧ Blk wr b 107 (tg x) ∧ (Value.slice A2 r2.length c2).ownBlock ≠ some b) ∧ Below w.heap.size w wr) (fun _ iv _ => m - (intOf iv).toNat)
      case atStart => exact ⟨0, r, A', c', Nat.zero_le _, rfl, rfl, rfl, ⟨W1.out, K1.out, A1.out⟩, B2.out⟩
      case round =>
        obtain ⟨i, r2, A2, c2, hi', rfl, hr2, rfl, ⟨hown2, hk2, hap⟩, hbel2⟩ := hrel
        have HB2 := Lib.hid hbel2
        have hsz2 := hbel2.size
        have HW2 := Lib.hid hown2
        have HR2 := Lib.hid hr2
        have K2 := Lib.hid hk2
        have AP2 := Lib.hid hap
        have RT2 := Lib.hid (show ∀ y, y ∈ r2 → Tk y by rw [HR2.out]; exact wi_tk RT.out TX.out h0 i (fun k hk => by have := HSS.out k (by rw [HL.out]; omega); omega))
        have RL2 := Lib.hid (show r2.length ≤ r.length + i by rw [HR2.out]; exact wi_len c r x ss i)
        have hr2b : r2.length ≤ 1000001000 := by
          have a1 := RL2.out
          have a2 := RL.out
          have a3 := HM.out
          have a4 : j * ss.length ≤ l.length * ss.length := Nat.mul_le_mul_right _ (by omega)
          omega
        clear hown2 hk2 hap hbel2 hr2 W1 K1 A1 B2
        by_cases him : i < m
        · obtain ⟨ad, rfl, hbd, hc⟩ := il_at (HS.out.below HB2.out) him
          have hs8 := HSS.out i (by rw [HL.out]; exact him)
          have ST := Lib.hid (show wi c x ss r (i + 1) = wo1 c r2 x (ig ss i).toNat by rw [HR2.out]; rfl)
          obtain ⟨s, hse⟩ : ∃ s : Nat, ig ss i = (s : Int) := ⟨(ig ss i).toNat, by omega⟩
          rw [hse, show ((s : Int)).toNat = s from rfl] at ST
          rw [hse] at hc hs8
          have hs : s < 8 := by omega
          clear hse hs8
          have hcs : wr.cell? ⟨b, s, none⟩ = some (.int .u8 (ig x s)) := by rw [K2.out.cell, tg_at x s hs]
          have hy := TX.out.2 s hs
          have STN := Lib.hid (fun (h : ig x s < c) => show r2 = wi c x ss r (i + 1) by rw [ST.out, wo1, if_pos h])
          have STM := Lib.hid (fun (h : ¬ ig x s < c) (h2 : x.set s (ig x s - c) ∈ r2) => show r2 = wi c x ss r (i + 1) by rw [ST.out, wo1, if_neg h, if_pos h2])
          have STA := Lib.hid (fun (h : ¬ ig x s < c) (h2 : x.set s (ig x s - c) ∉ r2) => show r2 ++ [x.set s (ig x s - c)] = wi c x ss r (i + 1) by rw [ST.out, wo1, if_neg h, if_neg h2])
          clear ST
          have TA := Lib.hid (tg_at x s hs)
          have ZT := Lib.hid (fun (v : Int) (h1 : 0 ≤ v) (h2 : v < 256) => TX.out.set hs h1 h2)
          have ZS := Lib.hid (fun (v : Int) => tg_set x s v TX.out.1 hs)
          generalize ig x s = y at hcs hy STN STM STA TA
          by_cases hyc : y < c
          · have HT := Lib.hid (STN.out hyc)
            go_wp2
            go_roundw
            case rel => exact ⟨i + 1, r2, A2, c2, by omega, by go_num, HT.out, rfl, ⟨HW2.out, K2.out, AP2.out⟩, HB2.out⟩
            case measure => simp [intOf]; omega
          · have hcy : c ≤ y := by omega
            obtain ⟨k0, k1, k2, k3, k4, k5, k6, k7, k8⟩ := K2.out.eight
            have K3 := Lib.hid (K2.out.alloc (.cells (tg x) 107))
            have N3 := Lib.hid (Blk.new wr 107 (tg x))
            have W3 := Lib.hid (HW2.out.alloc (.cells (tg x) 107))
            have B3 := Lib.hid (HB2.out.alloc hsz2 (.cells (tg x) 107))
            have AP3 := Lib.hid (own_lt8 HW2.out (Nat.le_refl _))
            have hbw : b < wr.heap.size := k8
            go_upto_region 10 with (fail)
            rw [XG.out]
            clear k0 k1 k2 k3 k4 k5 k6 k7 k8 hcs
            generalize wr.alloc (.cells (tg x) 107) = w3 at K3 N3 W3 B3 ⊢
            obtain ⟨d, hd⟩ : ∃ d, d = wr.heap.size := ⟨_, rfl⟩
            rw [← hd] at N3 AP3 hbw hsz2 ⊢
            clear hd
            have cd : w3.cell? ⟨d, s, none⟩ = some (.int .u8 y) := by rw [N3.out.cell, TA.out]
            have fd := N3.out.frozen s
            have hdb : b ≠ d := by omega
            have hwd : w.heap.size ≤ d := by omega
            have hzy := Lib.hid (show 0 ≤ y - c ∧ y - c < 256 by omega)
            obtain ⟨z, hz⟩ : ∃ z, z = x.set s (y - c) := ⟨_, rfl⟩
            have N4 := Lib.hid (show Blk (w3.setCell ⟨d, s, none⟩ (.int .u8 (y - c))) d 107 (tg z) by rw [hz, ← ZS.out]; exact N3.out.set_ s _)
            have K4 := Lib.hid (K3.out.far (p := ⟨d, s, none⟩) hdb (.int .u8 (y - c)))
            have W4 := Lib.hid (own_set8 (p := ⟨d, s, none⟩) W3.out AP3.out (.int .u8 (y - c)))
            have B4 := Lib.hid (B3.out.setCell (p := ⟨d, s, none⟩) hwd (.int .u8 (y - c)))
            have ZK := Lib.hid (show Tk z by rw [hz]; exact ZT.out _ hzy.out.1 hzy.out.2)
            rw [← hz] at STM STA
            clear hz
            go_upto_region 11 with (fail)
            generalize w3.setCell ⟨d, s, none⟩ (.int .u8 (y - c)) = w4 at N4 K4 W4 B4 ⊢
            clear cd fd
            have TC := tcontains_any A2 c2 r2 z w4 (TReads.of_own W4.out) RT2.out ZK.out (by omega)
            obtain ⟨k0, k1, k2, k3, k4, k5, k6, k7, k8⟩ := N4.out.eight
            have ZC := Lib.hid (tcl_add r2 z)
            unfold tg at TC
            unfold tcs at ZC
            by_cases hq : z ∈ r2
            · have HT := Lib.hid (STM.out hyc hq)
              rw [decide_eq_true hq] at TC
              have TC := Lib.hid TC
              clear hq
              go_wp2_with (go_at_call 75; (with_reducible refine TC.out.mono ?_); rintro e w5 ⟨rfl, hb⟩; have B5 := Lib.hid (B4.out.trans (hb.mono B4.out.size)); have W5 := own_below8 W4.out hb; have K5 := K4.out.below hb K4.out.lt; clear hb)
              go_roundw
              case rel => exact ⟨i + 1, r2, A2, c2, by omega, by go_num, HT.out, rfl, ⟨W5, K5, AP2.out⟩, B5.out⟩
              case measure => simp [intOf]; omega
            · have HT := Lib.hid (STA.out hyc hq)
              rw [decide_eq_false hq] at TC
              have TC := Lib.hid TC
              clear hq
              go_wp2_with (first
                | (go_at_call 75; (with_reducible refine TC.out.mono ?_); rintro e w5 ⟨rfl, hb⟩; have B5 := Lib.hid (B4.out.trans (hb.mono B4.out.size)); have W5 := own_below8 W4.out hb; have K5 := K4.out.below hb K4.out.lt; have hs5 := B5.out.size; obtain ⟨m0, m1, m2, m3, m4, m5, m6, m7, m8⟩ := (N4.out.below hb N4.out.lt).eight; clear hb)
                | (at_builtin; refine wpList_append8b rfl _ _ 108 rfl w.heap.size 107 i0 (.agg #[.int .u8 0, .int .u8 0, .int .u8 0, .int .u8 0, .int .u8 0, .int .u8 0, .int .u8 0, .int .u8 0]) 8 Tryz.underlying108 hi hz0 hz1 hz2 rfl A2 r2.length c2 _ rfl W5 (ig z 0) (ig z 1) (ig z 2) (ig z 3) (ig z 4) (ig z 5) (ig z 6) (ig z 7) rfl (by unfold maxLen; omega) (by omega) hs5 b _ _ K5 AP2.out ?_; intro g6 c6 w6 hown6 hbel6 hk6 hap6))
              go_roundw
              case rel => exact ⟨i + 1, r2 ++ [z], some ⟨g6, 0, none⟩, c6, by omega, by go_num, HT.out, by simp, ⟨by rw [ZC.out]; simpa using hown6, hk6, by simpa using hap6⟩, B5.out.trans hbel6⟩
              case measure => simp [intOf]; omega
        · obtain rfl : i = m := by omega
          have HT := Lib.hid (show r2 = wo c l ss (j + 1) by rw [HR2.out, ← RS.out, HL.out])
          go_wp2
          go_roundw
          case rel => exact ⟨j + 1, r2, A2, c2, by omega, by go_num, HT.out, rfl, HW2.out, HB2.out⟩
          case measure => simp [intOf]; omega
    · obtain rfl : j = n := by omega
      have HX := HR.out
      go_wp2
      go_ret
      exact ⟨A', c', by rw [← HX]; rfl, by rw [← HX]; exact TReads.of_own HW.out, HB.out⟩
end Go.Proofs.YtedjjhaopohibaaGreatDoor
namespace Go.Proofs.YtedjjhaopohibaaGreatDoor
open Go.RowKit

set_option maxRecDepth 100000 in
set_option maxHeartbeats 2000000 in
theorem pindex_any (A : Option Addr) (n c : Nat) (f : Nat → P2) (u v : Int) (w : World) (h : QReads w w.heap.size A n f) (hn : n ≤ 1000) :
    Calls Tryz.prog 53 #[.slice A n c, .agg #[.int .i64 u, .int .i64 v]] w fun e w' => e = .returned (.int .i64 (px f n (u, v))) ∧ Below w.heap.size w w' := by
  have H := Lib.hid h
  have K0 := Lib.hid (Blk.new w 74 #[.int .i64 u, .int .i64 v])
  have B0 := Lib.hid ((Below.refl w.heap.size w).alloc (Nat.le_refl _) (.cells #[.int .i64 u, .int .i64 v] 74))
  clear h
  go_enter Tryz.func53, Tryz.ntmps53
  go_wp2_with fail
  generalize w.alloc (.cells #[.int .i64 u, .int .i64 v] 74) = w0 at K0 B0 ⊢
  go_wp2
  go_loopw [8] (fun iv wr => ∃ j : Nat, j ≤ n ∧ iv = .int .i64 (j : Int) ∧ (∀ i, i < j → f i ≠ (u, v)) ∧ Below w0.heap.size w0 wr) (fun iv _ => n - (intOf iv).toNat)
  case atStart => exact ⟨0, Nat.zero_le _, rfl, fun i hi => absurd hi (by omega), Below.refl _ _⟩
  case round =>
    obtain ⟨j, hj, rfl, hno, hbel⟩ := hrel
    have HB := Lib.hid (B0.out.trans (hbel.mono B0.out.size))
    have HX := Lib.hid hbel
    have HN := Lib.hid hno
    obtain ⟨k0, k1, k2, k3, k4⟩ := (K0.out.below hbel K0.out.lt).two
    clear hno hbel
    by_cases hjn : j < n
    · obtain ⟨g1, o1, rfl, hb1, hc1⟩ := H.out.below HB.out (by omega)
      obtain ⟨c0, c1⟩ := hc1 j hjn
      clear hc1
      obtain ⟨⟨x, y⟩, hx⟩ : ∃ x, x = f j := ⟨_, rfl⟩
      rw [← hx] at c0 c1
      simp only at c0 c1
      by_cases he : (x, y) = (u, v)
      · have HF := Lib.hid (show px f n (u, v) = (j : Int) from fx_some hjn (fun i hi => decide_eq_false (HN.out i hi)) (decide_eq_true (by rw [← hx]; exact he)))
        obtain ⟨rfl, rfl⟩ : x = u ∧ y = v := by injection he with h1 h2; exact ⟨h1, h2⟩
        clear hx he
        go_wp2_with fail
        go_quiet (fail)
        go_wp2
        go_ret
        exact ⟨ret_int HF.out.symm, below_drewN HB.out _⟩
      · have HS := Lib.hid (show ∀ i, i < j + 1 → f i ≠ (u, v) from fun i hi => by
          by_cases e : i < j
          · exact HN.out i e
          · obtain rfl : i = j := by omega
            rw [← hx]; exact he)
        clear hx
        by_cases e1 : u = x
        · subst e1
          have e2 : (v == y) = false := by rw [beq_eq_false_iff_ne]; intro e; exact he (by rw [e])
          clear he
          go_wp2_with fail
          go_quiet (fail)
          go_wp2
          go_roundw
          case rel => exact ⟨j + 1, by omega, by go_num, HS.out, below_drewN HX.out _⟩
          case measure => simp [intOf]; omega
        · have e1 : (u == x) = false := by rw [beq_eq_false_iff_ne]; intro e; exact e1 (by rw [e])
          clear he
          go_wp2_with fail
          go_quiet (fail)
          go_wp2
          go_roundw
          case rel => exact ⟨j + 1, by omega, by go_num, HS.out, below_drewN HX.out _⟩
          case measure => simp [intOf]; omega
    · obtain rfl : j = n := by omega
      have HF := Lib.hid (show px f j (u, v) = -1 from fx_none fun i hi => decide_eq_false (HN.out i hi))
      go_wp2
      go_ret
      exact ⟨ret_int HF.out.symm, HB.out⟩
theorem hcentre_any (A : Option Addr) (n c : Nat) (f : Nat → P2) (w : World) (h : QReads w w.heap.size A n f) (hd : Hd f n) :
    Calls Tryz.prog 35 #[.slice A n c] w fun e w' => e = .returned (.int .i64 (px f n (0, 0))) ∧ Below w.heap.size w w' := by
  have RI := Lib.hid (hright_any A n c f w h hd)
  have hn := hd.1.2
  have IX := Lib.hid (fun w1 (hb : Below w.heap.size w w1) => pindex_any A n c f 0 0 w1 (h.later hb) (by omega))
  clear h hd
  go_enter Tryz.func35, Tryz.ntmps35
  go_wp2_with (first
    | (go_at_call 25; (with_reducible refine RI.out.mono ?_); rintro e w1 ⟨rfl, hb⟩; have B1 := Lib.hid hb; clear hb)
    | (go_at_call 53; (with_reducible refine (IX.out _ B1.out).mono ?_); rintro e w2 ⟨rfl, hb⟩; have B2 := Lib.hid (B1.out.trans (hb.mono B1.out.size)); clear hb))
  go_ret
  exact ⟨rfl, B2.out⟩
end Go.Proofs.YtedjjhaopohibaaGreatDoor
namespace Go.Proofs.YtedjjhaopohibaaGreatDoor
open Go.RowKit

/-- an element matches a state -/
def ac (v : Nat → List Int) (e s : Int) : Bool := if 0 ≤ e then decide (e = s) else decide (s ∈ v (-1 - e).toNat)
theorem VR.at_ {w : World} {B n k : Nat} {A : Option Addr} {v : Nat → List Int} (h : VR w B A n v) (hk : k < n) : ∃ ad A' c', A = some ad ∧ ad.block < B ∧ w.cell? (ad.add k) = some (.slice A' (v k).length c') ∧ Reads w B A' (v k).length (il (v k)) := by
  obtain ⟨ad, e, hg, hc⟩ := h (by omega)
  obtain ⟨A', c', h1, h2⟩ := hc k hk
  exact ⟨ad, A', c', e, hg, h1, h2⟩
set_option maxRecDepth 100000 in
theorem accepts_any (g : Nat) (AV : Option Addr) (nv cV B : Nat) (v : Nat → List Int) (e s : Int) (w : World) (hc : w.cell? ⟨g, 3, none⟩ = some (.slice AV nv cV)) (hV : VR w B AV nv v) (he : -(nv : Int) ≤ e) (hn : nv ≤ 1000) (hl : ∀ k, k < nv → (v k).length ≤ 1000) :
    Calls Tryz.prog 76 #[.pointer (some ⟨g, 0, none⟩), .int .i64 e, .int .i64 s] w fun e' w' => e' = .returned (.bool (ac v e s)) ∧ w = w' := by
  by_cases h0 : 0 ≤ e
  · have HF := Lib.hid (show ac v e s = decide (e = s) by rw [ac, if_pos h0])
    clear hV hl he
    by_cases hs : e = s
    · have ht : (e == s) = true := by rw [beq_iff_eq]; exact hs
      rw [decide_eq_true hs] at HF
      clear hs
      go_enter Tryz.func76, Tryz.ntmps76
      go_wp2
      go_ret
      exact ⟨ret_bool HF.out.symm, rfl⟩
    · have ht : (e == s) = false := by rw [beq_eq_false_iff_ne]; exact hs
      rw [decide_eq_false hs] at HF
      clear hs
      go_enter Tryz.func76, Tryz.ntmps76
      go_wp2
      go_ret
      exact ⟨ret_bool HF.out.symm, rfl⟩
  · obtain ⟨k, hk⟩ : ∃ k : Nat, -1 - e = (k : Int) := ⟨(-1 - e).toNat, by omega⟩
    have HF := Lib.hid (show ac v e s = decide (s ∈ v k) by rw [ac, if_neg h0, hk]; rfl)
    have hkn : k < nv := by omega
    obtain ⟨ad, A', c', rfl, hb, hc2, hr⟩ := hV.at_ hkn
    have CO := Lib.hid (contains_any A' (v k).length c' B (v k) s w hr (by have := hl k hkn; omega))
    have e0 : decide (0 ≤ e) = false := decide_eq_false h0
    generalize decide (s ∈ v k) = q at CO HF
    generalize (v k).length = m at hc2 CO
    clear hV hl hr
    go_enter Tryz.func76, Tryz.ntmps76
    go_wp2_with (go_at_call 50; (with_reducible refine CO.out.mono ?_); rintro e w' ⟨rfl, rfl⟩)
    go_ret
    exact ⟨ret_bool HF.out.symm, rfl⟩
theorem ix_self {l : List Int} {i : Nat} (hi : i < l.length) : ∃ k : Nat, k ≤ i ∧ ix l (ig l i) = (k : Int) := by
  rcases fx_cases (fun j => decide (ig l j = ig l i)) l.length with ⟨j, hj, e, h1, h2⟩ | ⟨e, h1⟩
  · refine ⟨j, ?_, e⟩
    rcases Nat.lt_or_ge i j with h | h
    · have := h2 i h
      simp at this
    · exact h
  · have := h1 i hi
    simp at this
/-- element i matches -/
def mi (v : Nat → List Int) (l vw : List Int) (i : Nat) : Bool := decide (ig vw i = ig vw (ix l (ig l i)).toNat) && (decide ((ix l (ig l i)).toNat ≠ i) || ac v (ig l i) (ig vw i))
/-- the row, as it is, matches -/
def mt (v : Nat → List Int) (l vw : List Int) : Bool := (List.range l.length).all fun i => mi v l vw i
theorem mt_iff (v : Nat → List Int) (l vw : List Int) : mt v l vw = true ↔ ∀ i, i < l.length → mi v l vw i = true := by simp [mt, List.all_eq_true]
theorem mt_no {v : Nat → List Int} {l vw : List Int} {i : Nat} (hi : i < l.length) (h : mi v l vw i = false) : mt v l vw = false := by
  rw [← Bool.not_eq_true, mt_iff]
  intro h'
  rw [h' i hi] at h
  cases h

set_option maxRecDepth 100000 in
set_option maxHeartbeats 4000000 in
theorem matches_any (g : Nat) (AV : Option Addr) (nv cV : Nat) (v : Nat → List Int) (AI : Option Addr) (n cI : Nat) (l : List Int) (o : Int) (AW : Option Addr) (cW : Nat) (vw : List Int) (w : World)
    (hg : g < w.heap.size) (hc : w.cell? ⟨g, 3, none⟩ = some (.slice AV nv cV)) (hV : VR w w.heap.size AV nv v) (hI : Reads w w.heap.size AI n (il l)) (hW : Reads w w.heap.size AW n (il vw)) (he : ∀ i, i < n → -(nv : Int) ≤ ig l i)
    (hn : n ≤ 1000) (hnv : nv ≤ 1000) (hl : ∀ k, k < nv → (v k).length ≤ 1000) :
    Calls Tryz.prog 61 #[.pointer (some ⟨g, 0, none⟩), .agg #[.slice AI n cI, .int .i64 o], .slice AW n cW] w fun e w' => e = .returned (.bool (mt v l vw)) ∧ Below w.heap.size w w' := by
  have HL := Lib.hid (reads_len hI)
  have HI := Lib.hid hI
  have HW := Lib.hid hW
  have HE := Lib.hid he
  have K1 := Lib.hid (Blk.new w 47 #[.slice AI n cI, .int .i64 o])
  have B1 := Lib.hid ((Below.refl w.heap.size w).alloc (Nat.le_refl _) (.cells #[.slice AI n cI, .int .i64 o] 47))
  have AC := Lib.hid (fun e s w' (hb : Below w.heap.size w w') (he : -(nv : Int) ≤ e) => accepts_any g AV nv cV w.heap.size v e s w' ((hb.cell (p := ⟨g, 3, none⟩) hg).trans hc) (hV.below hb) he hnv hl)
  have MN := Lib.hid (fun i hi h => mt_no (v := v) (l := l) (vw := vw) (i := i) hi h)
  have MY := Lib.hid (mt_iff v l vw).2
  generalize mt v l vw = q at MN MY ⊢
  clear hI hW he hc hV hl
  go_enter Tryz.func61, Tryz.ntmps61
  go_wp2_with fail
  generalize w.alloc (.cells #[.slice AI n cI, .int .i64 o] 47) = w0 at K1 B1 ⊢
  obtain ⟨k0, k1, k2, k3, k4⟩ := K1.out.two
  go_wp2
  go_loopw [13] (fun jv wr => ∃ j : Nat, j ≤ n ∧ jv = .int .i64 (j : Int) ∧ (∀ i, i < j → mi v l vw i = true) ∧ Below w0.heap.size w0 wr) (fun jv _ => n - (intOf jv).toNat)
  case atStart => exact ⟨0, Nat.zero_le _, rfl, fun i hi => absurd hi (by omega), Below.refl _ _⟩
  case round =>
    obtain ⟨j, hj, rfl, hno, hbel⟩ := hrel
    have HX := Lib.hid hbel
    have HB := Lib.hid (B1.out.trans (hbel.mono B1.out.size))
    have HN := Lib.hid hno
    clear hno k0 k1 k2 k3 k4
    obtain ⟨k0, k1, k2, k3, k4⟩ := (K1.out.below hbel K1.out.lt).two
    clear hbel
    by_cases hjn : j < n
    · have hjl : j < l.length := by rw [HL.out]; exact hjn
      obtain ⟨ad, rfl, hb1, c1⟩ := il_at (HI.out.below HB.out) hjn
      obtain ⟨k, hkj, hk⟩ := ix_self hjl
      obtain ⟨ad2, rfl, hb2, c2⟩ := il_at (HW.out.below HB.out) hjn
      obtain ⟨ad3, h3, hb3, c3⟩ := il_at (HW.out.below HB.out) (show k < n by omega)
      obtain rfl : ad2 = ad3 := by injection h3
      have hkn : k < n := by omega
      have IX := fun w' (hb : Below w.heap.size w w') => index_int (some ad) n cI w.heap.size l w' (ig l j) (HI.out.below hb) (by omega)
      have hmi : mi v l vw j = (decide (ig vw j = ig vw k) && (decide (k ≠ j) || ac v (ig l j) (ig vw j))) := by rw [mi, hk]; rfl
      have MN1 := Lib.hid (fun h => MN.out j hjl h)
      have NX := Lib.hid (fun (h : mi v l vw j = true) (i : Nat) (hi : i < j + 1) => show mi v l vw i = true from by
        by_cases e : i < j
        · exact HN.out i e
        · obtain rfl : i = j := by omega
          exact h)
      have AC1 := fun m => AC.out (ig l j) (ig vw j) (wr.drewN m) (below_drewN HB.out m) (HE.out j hjn)
      rw [hk] at IX
      generalize ac v (ig l j) (ig vw j) = qa at AC1 hmi
      generalize mi v l vw j = qm at MN1 NX hmi
      obtain ⟨x, hx⟩ : ∃ x, x = ig l j := ⟨_, rfl⟩
      rw [← hx] at c1 AC1 IX
      have IXH := Lib.hid IX
      clear IX
      obtain ⟨y, hy⟩ : ∃ y, y = ig vw j := ⟨_, rfl⟩
      rw [← hy] at c2 AC1 hmi
      obtain ⟨z, hz⟩ : ∃ z, z = ig vw k := ⟨_, rfl⟩
      rw [← hz] at c3 hmi
      clear h3 hk
      by_cases hyz : y = z
      · by_cases hkj2 : k = j
        · subst hkj2
          rw [decide_eq_true hyz, decide_eq_false (fun h => h rfl)] at hmi
          have HMI := Lib.hid hmi
          have hne : (y != z) = false := by rw [bne_eq_false_iff_eq]; exact hyz
          have hne2 : (y != y) = false := by rw [bne_eq_false_iff_eq]
          have AC1H := Lib.hid AC1
          clear AC1
          clear hx hy hz hmi c3
          subst hyz
          cases qa with
          | true =>
            have HT := Lib.hid (NX.out (by rw [HMI.out]; rfl))
            go_wp2_with (go_at_call 57; (with_reducible refine (IXH.out _ HB.out).mono ?_); rintro e w' ⟨rfl, rfl⟩)
            go_quiet ((go_at_call 76; exact Calls.quiet_of_same ((AC1H.out _).mono fun _ _ h => ⟨h.1, h.2.symm⟩)))
            go_wp2
            go_roundw
            case rel => exact ⟨k + 1, by omega, by go_num, HT.out, below_drewN HX.out _⟩
            case measure => simp [intOf]; omega
          | false =>
            have HF := Lib.hid (MN1.out (by rw [HMI.out]; rfl))
            go_wp2_with (go_at_call 57; (with_reducible refine (IXH.out _ HB.out).mono ?_); rintro e w' ⟨rfl, rfl⟩)
            go_quiet ((go_at_call 76; exact Calls.quiet_of_same ((AC1H.out _).mono fun _ _ h => ⟨h.1, h.2.symm⟩)))
            go_wp2
            go_ret
            exact ⟨ret_bool HF.out.symm, below_drewN HB.out _⟩
        · have hkje : ((k : Int) == (j : Int)) = false := by rw [beq_eq_false_iff_ne]; omega
          have hkje2 : (k == j) = false := by rw [beq_eq_false_iff_ne]; exact hkj2
          rw [decide_eq_true hyz, decide_eq_true hkj2] at hmi
          have HT := Lib.hid (NX.out (by rw [hmi]; rfl))
          have hne2 : (y != y) = false := by rw [bne_eq_false_iff_eq]
          clear hx hy hz hmi AC1
          subst hyz
          go_wp2_with (go_at_call 57; (with_reducible refine (IXH.out _ HB.out).mono ?_); rintro e w' ⟨rfl, rfl⟩)
          go_quiet (fail)
          go_wp2
          go_roundw
          case rel => exact ⟨j + 1, by omega, by go_num, HT.out, below_drewN HX.out _⟩
          case measure => simp [intOf]; omega
      · rw [decide_eq_false hyz] at hmi
        have HF := Lib.hid (MN1.out (by rw [hmi]; rfl))
        have hne : (y != z) = true := by rw [bne_iff_ne]; exact hyz
        clear hx hy hz hmi AC1 hyz
        go_wp2_with (go_at_call 57; (with_reducible refine (IXH.out _ HB.out).mono ?_); rintro e w' ⟨rfl, rfl⟩)
        go_quiet (fail)
        go_wp2
        go_ret
        exact ⟨ret_bool HF.out.symm, below_drewN HB.out _⟩
    · obtain rfl : j = n := by omega
      have HT := Lib.hid (MY.out fun i hi => HN.out i (by rw [HL.out] at hi; exact hi))
      go_wp2
      go_ret
      exact ⟨ret_bool HT.out.symm, HB.out⟩
end Go.Proofs.YtedjjhaopohibaaGreatDoor
namespace Go.Proofs.YtedjjhaopohibaaGreatDoor
open Go.RowKit

/-- a question in block g -/
def QR (w : World) (g : Nat) (T : Tab) (l : List Int) (ce : Int) (nw : Nat) (vs : Nat → List Int) : Prop :=
  ∃ AH cH AV cV AR cR AI cI AW cW, Blk w g 51 #[.int .i64 T.st, .int .i64 T.sy, .slice AH T.n cH, .slice AV T.nv cV, .slice AR T.nr cR, .slice AI l.length cI, .int .i64 ce, .slice AW nw cW] ∧ TR w AH AV AR T ∧ (Reads w w.heap.size AI l.length (il l) ∧ l.length ≤ cI) ∧ VR w w.heap.size AW nw vs
theorem QR.later {w w' : World} {g : Nat} {T : Tab} {l : List Int} {ce : Int} {nw : Nat} {vs : Nat → List Int} (h : QR w g T l ce nw vs) (hb : Below w.heap.size w w') : QR w' g T l ce nw vs := by
  obtain ⟨AH, cH, AV, cV, AR, cR, AI, cI, AW, cW, hk, ht, hi, hv⟩ := h
  exact ⟨AH, cH, AV, cV, AR, cR, AI, cI, AW, cW, hk.below hb hk.lt, ht.later hb, ⟨(hi.1.below hb).more hb.size, hi.2⟩, hv.later hb⟩
/-- the new state of a row that matches a view -/
def so (l : List Int) (o : Int) (vw : List Int) : Int := if o < 0 then ig vw (ix l o).toNat else o
/-- the least of the new states of the first k views that match -/
def tl (st : Int) (v : Nat → List Int) (l : List Int) (o : Int) (vs : Nat → List Int) : Nat → Int
  | 0 => st
  | k + 1 => if mt v l (vs k) = true then (if so l o (vs k) < tl st v l o vs k then so l o (vs k) else tl st v l o vs k) else tl st v l o vs k
/-- the answer -/
def ta (st : Int) (v : Nat → List Int) (l : List Int) (o : Int) (vs : Nat → List Int) (m : Nat) : Int × Bool := if tl st v l o vs m = st then (0, false) else (tl st v l o vs m, true)
/-- a row of a table whose elements are known -/
structure Rw (n nv : Nat) (st : Int) (l : List Int) (o : Int) : Prop where
  len : l.length = n
  els : ∀ i, i < n → -(nv : Int) ≤ ig l i ∧ ig l i < st
  out : (0 ≤ o ∧ o < st) ∨ o ∈ l
theorem rw_of {n nv : Nat} {st : Int} {l : List Int} {o : Int} (h : rr n st nv l o = true) : Rw n nv st l o := by
  simp only [rr, Bool.and_eq_true, Bool.or_eq_true, decide_eq_true_eq, els_iff, sta_iff] at h
  obtain ⟨⟨h1, h2⟩, h3⟩ := h
  exact ⟨h1, by rw [← h1]; exact h2, h3⟩
theorem ix_mem {l : List Int} {o : Int} (h : o ∈ l) : ∃ k : Nat, k < l.length ∧ ix l o = (k : Int) ∧ ig l k = o := by
  rcases fx_cases (fun j => decide (ig l j = o)) l.length with ⟨j, hj, e, h1, h2⟩ | ⟨e, h1⟩
  · exact ⟨j, hj, e, of_decide_eq_true h1⟩
  · obtain ⟨j, hj, e⟩ := mem_ig h
    exact absurd e (of_decide_eq_false (h1 j hj))
/-- a state and a bool came back -/
def AnsOut (p : Int × Bool) (w : World) (e : Ending) (w' : World) : Prop := e = .returned (.tuple #[.int .i64 p.1, .bool p.2]) ∧ Below w.heap.size w w'

set_option maxRecDepth 100000 in
set_option maxHeartbeats 4000000 in
theorem turned_any (g : Nat) (T : Tab) (li : List Int) (ce : Int) (m : Nat) (vs : Nat → List Int) (AI : Option Addr) (cI : Nat) (l : List Int) (o : Int) (w : World)
    (h : QR w g T li ce m vs) (hI : Reads w w.heap.size AI T.n (il l)) (hr : Rw T.n T.nv T.st l o) (hv : ∀ k, k < m → (vs k).length = T.n) (hm : m ≤ 8) (hn : T.n ≤ 1000) (hnv : T.nv ≤ 1000) (hl : ∀ k, k < T.nv → (T.v k).length ≤ 1000) :
    Calls Tryz.prog 39 #[.pointer (some ⟨g, 0, none⟩), .agg #[.slice AI T.n cI, .int .i64 o]] w fun e w' => AnsOut (ta T.st T.v l o vs m) w e w' := by
  obtain ⟨AH, cH, AV, cV, AR, cR, AQ, cQ, AW, cW, hk, ht, hi, hw⟩ := h
  obtain ⟨st, ky, n, f, nv, v, nr, ri, ro⟩ := T
  simp only at *
  have HV := Lib.hid (fun w' (hb : Below w.heap.size w w') => ht.2.1.later hb)
  have HI := Lib.hid hI
  have HW := Lib.hid hw
  have HK := Lib.hid hk
  have HVL := Lib.hid hv
  have HLL := Lib.hid hl
  have HR := Lib.hid hr
  have K1 := Lib.hid (Blk.new w 47 #[.slice AI n cI, .int .i64 o])
  have KA := Lib.hid (hk.alloc (.cells #[.slice AI n cI, .int .i64 o] 47))
  have B1 := Lib.hid ((Below.refl w.heap.size w).alloc (Nat.le_refl _) (.cells #[.slice AI n cI, .int .i64 o] 47))
  have hgw : g < w.heap.size := hk.lt
  have TS := Lib.hid (fun k => show tl st v l o vs (k + 1) = if mt v l (vs k) = true then (if so l o (vs k) < tl st v l o vs k then so l o (vs k) else tl st v l o vs k) else tl st v l o vs k from rfl)
  have TA := Lib.hid (show ta st v l o vs m = if tl st v l o vs m = st then (0, false) else (tl st v l o vs m, true) from rfl)
  have T0 := Lib.hid (show tl st v l o vs 0 = st from rfl)
  generalize ta st v l o vs m = p at TA ⊢
  clear hI hw hk hv hl ht hi hr
  go_enter Tryz.func39, Tryz.ntmps39
  go_upto_region 1 with (fail)
  obtain ⟨rb, hrb⟩ : ∃ rb, rb = w.heap.size := ⟨_, rfl⟩
  rw [← hrb] at K1 ⊢
  have HRB := Lib.hid hrb
  clear hrb
  generalize w.alloc (.cells #[.slice AI n cI, .int .i64 o] 47) = w0 at K1 B1 KA ⊢
  obtain ⟨q0, q1, q2, q3, q4, q5, q6, q7, q8⟩ := KA.out.eight
  obtain ⟨k0, k1, k2, k3, k4⟩ := K1.out.two
  go_wp2
  go_loopw [6, 20] (fun lv jv wr => ∃ (j : Nat) (a : Int), j ≤ m ∧ jv = .int .i64 (j : Int) ∧ lv = .int .i64 a ∧ a = tl st v l o vs j ∧ Below w0.heap.size w0 wr) (fun _ jv _ => m - (intOf jv).toNat)
  case atStart => exact ⟨0, st, Nat.zero_le _, rfl, rfl, T0.out.symm, Below.refl _ _⟩
  case round =>
    obtain ⟨j, a, hj, rfl, rfl, ha, hbel⟩ := hrel
    have HX := Lib.hid hbel
    have HB := Lib.hid (B1.out.trans (hbel.mono B1.out.size))
    have HA := Lib.hid ha
    clear ha k0 k1 k2 k3 k4 q0 q1 q2 q3 q4 q5 q6 q7 q8
    have KB := Lib.hid (KA.out.below hbel KA.out.lt)
    have KR := Lib.hid (K1.out.below hbel K1.out.lt)
    obtain ⟨q0, q1, q2, q3, q4, q5, q6, q7, q8⟩ := KB.out.eight
    obtain ⟨k0, k1, k2, k3, k4⟩ := KR.out.two
    clear hbel
    by_cases hjm : j < m
    · obtain ⟨ad, A', c', rfl, hb1, c1, hr1⟩ := (HW.out.below HB.out).at_ hjm
      have hvl := HVL.out j hjm
      rw [hvl] at c1 hr1
      have MA := matches_any g AV nv cV v AI n cI l o A' c' (vs j) wr (Nat.lt_of_lt_of_le hgw HB.out.size) q3 (HV.out _ HB.out) ((HI.out.below HB.out).more HB.out.size) (hr1.more HB.out.size) (fun i hi => (HR.out.els i hi).1) hn hnv HLL.out
      have TJ := TS.out j
      by_cases hmt : mt v l (vs j) = true
      · rw [if_pos hmt] at TJ
        rw [hmt] at MA
        have MAH := Lib.hid MA
        clear MA hmt
        by_cases ho : o < 0
        · have hmem : o ∈ l := by
            rcases HR.out.out with h | h
            · omega
            · exact h
          obtain ⟨i, hi, hix, -⟩ := ix_mem hmem
          have hin : i < n := by rw [← HR.out.len]; exact hi
          rw [show so l o (vs j) = ig (vs j) i by rw [so, if_pos ho, hix]; rfl] at TJ
          have IX := fun w' (hb : Below w.heap.size w w') => index_int AI n cI w.heap.size l w' o (HI.out.below hb) (by omega)
          rw [hix] at IX
          have IXH := Lib.hid IX
          have AT := Lib.hid (fun w' (hb : Below wr.heap.size wr w') => il_at (hr1.more HB.out.size |>.below hb) hin)
          rw [← HA.out] at TJ
          obtain ⟨s, hs⟩ : ∃ s, s = ig (vs j) i := ⟨_, rfl⟩
          rw [← hs] at TJ AT
          clear hs hix hmem IX hr1
          by_cases hsa : s < a
          · rw [if_pos hsa] at TJ
            have HT := Lib.hid TJ
            clear TJ
            go_wp2_with (first
              | (go_at_call 61; (with_reducible refine MAH.out.mono ?_); rintro e w2 ⟨rfl, hb⟩; have B2 := Lib.hid (HX.out.trans (hb.mono HX.out.size)); have D2 := Lib.hid (HB.out.trans (hb.mono HB.out.size)); obtain ⟨m0, m1, m2, m3, m4⟩ := (KR.out.below hb KR.out.lt).two; obtain ⟨ad2, he2, hd2, hc2⟩ := AT.out w2 hb; clear hb; subst he2)
              | (go_at_call 57; (with_reducible refine (IXH.out _ D2.out).mono ?_); rintro e w' ⟨rfl, rfl⟩))
            go_roundw
            case rel => exact ⟨j + 1, s, by omega, by go_num, congrArg (Value.int .i64) (by omega), HT.out.symm, B2.out⟩
            case measure => simp [intOf]; omega
          · rw [if_neg hsa] at TJ
            have HT := Lib.hid TJ
            clear TJ
            go_wp2_with (first
              | (go_at_call 61; (with_reducible refine MAH.out.mono ?_); rintro e w2 ⟨rfl, hb⟩; have B2 := Lib.hid (HX.out.trans (hb.mono HX.out.size)); have D2 := Lib.hid (HB.out.trans (hb.mono HB.out.size)); obtain ⟨m0, m1, m2, m3, m4⟩ := (KR.out.below hb KR.out.lt).two; obtain ⟨ad2, he2, hd2, hc2⟩ := AT.out w2 hb; clear hb; subst he2)
              | (go_at_call 57; (with_reducible refine (IXH.out _ D2.out).mono ?_); rintro e w' ⟨rfl, rfl⟩))
            go_roundw
            case rel => exact ⟨j + 1, a, by omega, by go_num, congrArg (Value.int .i64) (by omega), HT.out.symm, B2.out⟩
            case measure => simp [intOf]; omega
        · rw [show so l o (vs j) = o by rw [so, if_neg ho], ← HA.out] at TJ
          have ho2 : decide (o < 0) = false := decide_eq_false ho
          by_cases hsa : o < a
          · rw [if_pos hsa] at TJ
            have HT := Lib.hid TJ
            clear TJ
            go_wp2_with (go_at_call 61; (with_reducible refine MAH.out.mono ?_); rintro e w2 ⟨rfl, hb⟩; have B2 := Lib.hid (HX.out.trans (hb.mono HX.out.size)); obtain ⟨m0, m1, m2, m3, m4⟩ := (KR.out.below hb KR.out.lt).two; clear hb)
            go_roundw
            case rel => exact ⟨j + 1, o, by omega, by go_num, congrArg (Value.int .i64) (by omega), HT.out.symm, B2.out⟩
            case measure => simp [intOf]; omega
          · rw [if_neg hsa] at TJ
            have HT := Lib.hid TJ
            clear TJ
            go_wp2_with (go_at_call 61; (with_reducible refine MAH.out.mono ?_); rintro e w2 ⟨rfl, hb⟩; have B2 := Lib.hid (HX.out.trans (hb.mono HX.out.size)); obtain ⟨m0, m1, m2, m3, m4⟩ := (KR.out.below hb KR.out.lt).two; clear hb)
            go_roundw
            case rel => exact ⟨j + 1, a, by omega, by go_num, congrArg (Value.int .i64) (by omega), HT.out.symm, B2.out⟩
            case measure => simp [intOf]; omega
      · rw [if_neg hmt, ← HA.out] at TJ
        have HT := Lib.hid TJ
        rw [Bool.not_eq_true] at hmt
        rw [hmt] at MA
        have MAH := Lib.hid MA
        clear MA hmt TJ
        go_wp2_with (go_at_call 61; (with_reducible refine MAH.out.mono ?_); rintro e w2 ⟨rfl, hb⟩; have B2 := Lib.hid (HX.out.trans (hb.mono HX.out.size)); clear hb)
        go_roundw
        case rel => exact ⟨j + 1, a, by omega, by go_num, rfl, HT.out.symm, B2.out⟩
        case measure => simp [intOf]; omega
    · obtain rfl : j = m := by omega
      have HP := TA.out
      rw [← HA.out] at HP
      by_cases has : a = st
      · rw [if_pos has] at HP
        have HPH := Lib.hid HP
        have e1 : (a == st) = true := by rw [beq_iff_eq]; exact has
        clear HP has
        go_wp2
        go_ret2
        exact ⟨by rw [HPH.out]; rfl, HB.out⟩
      · rw [if_neg has] at HP
        have HPH := Lib.hid HP
        have e1 : (a == st) = false := by rw [beq_eq_false_iff_ne]; exact has
        clear HP has
        go_wp2
        go_ret2
        exact ⟨by rw [HPH.out]; rfl, HB.out⟩
end Go.Proofs.YtedjjhaopohibaaGreatDoor
namespace Go.Proofs.YtedjjhaopohibaaGreatDoor
open Go.RowKit

/-- what an element may stand for -/
def ch0 (v : Nat → List Int) (e : Int) : List Int := if e < 0 then v (-1 - e).toNat else [e]
def ch (v : Nat → List Int) (l : List Int) (e ce sc : Int) : List Int := if ce < 0 then ch0 v e else if ig l ce.toNat = e then (if sc ∈ ch0 v e then [sc] else []) else ch0 v e
/-- a list of numbers came back -/
def IntsOut (L : List Int) (w : World) (e : Ending) (w' : World) : Prop := ∃ A' c', e = .returned (.slice A' L.length c') ∧ Reads w' w'.heap.size A' L.length (il L) ∧ Below w.heap.size w w'
theorem Reads.one {w : World} {B : Nat} {ad : Addr} {x : Int} (hb : ad.block < B) (h : w.cell? ad = some (.int .i64 x)) : Reads w B (some ad) 1 (il [x]) := by
  refine ⟨rfl, fun _ => ⟨ad, rfl, hb, fun j u hu => ?_⟩⟩
  match j, hu with
  | 0, hu =>
    simp [il] at hu
    subst hu
    simpa [Addr.add] using h
  | j + 1, hu => simp [il] at hu

set_option maxRecDepth 100000 in
set_option maxHeartbeats 4000000 in
theorem choices_any (g : Nat) (T : Tab) (li : List Int) (ce : Int) (m : Nat) (vs : Nat → List Int) (AI : Option Addr) (cI : Nat) (l : List Int) (o e : Int) (w : World)
    (h : QR w g T li ce m vs) (hI : Reads w w.heap.size AI T.n (il l)) (he : -(T.nv : Int) ≤ e) (hc : ce < T.n) (hc1 : -1 ≤ ce) (hli : li.length = T.n) (hn : T.n ≤ 1000) (hnv : T.nv ≤ 1000) (hl : ∀ k, k < T.nv → (T.v k).length ≤ 1000) :
    Calls Tryz.prog 59 #[.pointer (some ⟨g, 0, none⟩), .agg #[.slice AI T.n cI, .int .i64 o], .int .i64 e] w fun e' w' => IntsOut (ch T.v l e ce (ig li ce.toNat)) w e' w' := by
  obtain ⟨AH, cH, AV, cV, AR, cR, AQ, cQ, AW, cW, hk, ht, hi, hw⟩ := h
  obtain ⟨st, ky, n, f, nv, v, nr, ri, ro⟩ := T
  simp only at *
  have HLE := Lib.hid (reads_len hI)
  have K1 := (Blk.new w 47 #[.slice AI n cI, .int .i64 o]).alloc (.cells #[.int .i64 e] 3)
  have K2 := Blk.new (w.alloc (.cells #[.slice AI n cI, .int .i64 o] 47)) 3 #[.int .i64 e]
  rw [show (w.alloc (.cells #[.slice AI n cI, .int .i64 o] 47)).heap.size = w.heap.size + 1 by simp] at K2
  have KA := (hk.alloc (.cells #[.slice AI n cI, .int .i64 o] 47)).alloc (.cells #[.int .i64 e] 3)
  have B2 : Below w.heap.size w ((w.alloc (.cells #[.slice AI n cI, .int .i64 o] 47)).alloc (.cells #[.int .i64 e] 3)) := ((Below.refl _ _).alloc (Nat.le_refl _) _).alloc (by simp) _
  have HV := Lib.hid ht.2.1
  have HI := Lib.hid hI
  have HQ := Lib.hid hi.1
  have hcap := hi.2
  rw [hli] at hcap
  have HLL := Lib.hid hl
  have HLI := Lib.hid hli
  clear hI hk hw hl ht hi hli
  by_cases h0 : e < 0
  · obtain ⟨kv, hkv⟩ : ∃ k : Nat, -1 - e = (k : Int) := ⟨(-1 - e).toNat, by omega⟩
    have hkn : kv < nv := by omega
    have HC0 := Lib.hid (show ch0 v e = v kv by rw [ch0, if_pos h0, hkv]; rfl)
    have hvl := HLL.out kv hkn
    by_cases hce : ce < 0
    · have HF := Lib.hid (show ch v l e ce (ig li ce.toNat) = v kv by rw [ch, if_pos hce, HC0.out])
      rw [HF.out]
      have d0 : decide (ce < 0) = true := decide_eq_true hce
      go_enter Tryz.func59, Tryz.ntmps59
      go_upto_region 2 with (fail)
      generalize (w.alloc (.cells #[.slice AI n cI, .int .i64 o] 47)).alloc (.cells #[.int .i64 e] 3) = w0 at K1 K2 KA B2 ⊢
      obtain ⟨q0, q1, q2, q3, q4, q5, q6, q7, q8⟩ := KA.eight
      obtain ⟨k0, k1, k2, k3, k4⟩ := K1.two
      have k20 := K2.cell 0
      have K20 := Lib.hid (show w0.cell? ⟨w.heap.size + 1, 0, none⟩ = some (.int .i64 e) from k20)
      clear k20
      have KLT := Lib.hid K2.lt
      obtain ⟨ad, A', c', rfl, hbv, cv, rv⟩ := (HV.out.below B2).at_ hkn
      have RV := Lib.hid rv
      go_wp2_with fail
      go_quiet (fail)
      go_wp2
      go_ret
      exact ⟨_, _, rfl, (RV.out.more B2.size), below_drewN B2 _⟩
    · obtain ⟨c, hcc⟩ : ∃ c : Nat, ce = (c : Int) := ⟨ce.toNat, by omega⟩
      subst hcc
      rw [show ((c : Int)).toNat = c from rfl]
      have hcn : c < n := by omega
      have hcn1 : c < cQ := by omega
      have hcn2 : (c : Int) + 1 ≤ (cQ : Int) := by omega
      have d0 : decide ((c : Int) < 0) = false := by rw [decide_eq_false_iff_not]; omega
      obtain ⟨x, hx⟩ : ∃ x, x = ig l c := ⟨_, rfl⟩
      obtain ⟨sc, hsc⟩ : ∃ sc, sc = ig li c := ⟨_, rfl⟩
      rw [← hsc]
      by_cases hxe : x = e
      · have HX := Lib.hid (show ch v l e (c : Int) sc = (if sc ∈ v kv then [sc] else []) by rw [ch, if_neg hce, show ((c : Int)).toNat = c from rfl, ← hx, if_pos hxe, HC0.out])
        rw [HX.out]
        have hne : (x != e) = false := by rw [bne_eq_false_iff_eq]; exact hxe
        have hne2 : (e != e) = false := by rw [bne_eq_false_iff_eq]
        by_cases hsm : sc ∈ v kv
        · rw [if_pos hsm]
          go_enter Tryz.func59, Tryz.ntmps59
          go_upto_region 2 with (fail)
          generalize (w.alloc (.cells #[.slice AI n cI, .int .i64 o] 47)).alloc (.cells #[.int .i64 e] 3) = w0 at K1 K2 KA B2 ⊢
          obtain ⟨q0, q1, q2, q3, q4, q5, q6, q7, q8⟩ := KA.eight
          obtain ⟨k0, k1, k2, k3, k4⟩ := K1.two
          have k20 := K2.cell 0
          have K20 := Lib.hid (show w0.cell? ⟨w.heap.size + 1, 0, none⟩ = some (.int .i64 e) from k20)
          clear k20
          have KLT := Lib.hid K2.lt
          obtain ⟨ad, A', c', rfl, hbv, cv, rv⟩ := (HV.out.below B2).at_ hkn
          have RV := Lib.hid rv
          obtain ⟨ai, rfl, hbi, ci⟩ := il_at (HI.out.below B2) hcn
          obtain ⟨aq, rfl, hbq, cq⟩ := il_at (HQ.out.below B2) (show c < li.length by rw [HLI.out]; exact hcn)
          rw [← hx] at ci
          rw [← hsc] at cq
          have HBQ := Lib.hid hbq
          rw [HLI.out] at q5
          have RVW := Lib.hid (show Reads w0 w0.heap.size A' (v kv).length (il (v kv)) from ((RV.out).more B2.size))
          have CO := fun (w1 : World) (a : Nat) (h : Reads w1 w1.heap.size A' (v kv).length (il (v kv))) => contains_any A' (v kv).length c' w1.heap.size (v kv) sc (w1.drewN a) (h.drewN a) (by omega)
          rw [decide_eq_true hsm] at CO
          have COH := Lib.hid CO
          clear CO hce hx hsc hsm
          subst hxe
          go_wp2_with fail
          go_quiet (fail)
          go_wp2_with fail
          have KA2 := KA.drewN nq
          have B3 := below_drewN B2 nq
          have RVX := Lib.hid (RVW.out.drewN nq)
          have cq2 : (w0.drewN nq).cell? (aq.add c) = some (.int .i64 sc) := cq
          have hs2 : w.heap.size ≤ (w0.drewN nq).heap.size := B2.size
          rw [show w0.heap.size = (w0.drewN nq).heap.size from rfl] at RVX
          generalize w0.drewN nq = w1 at KA2 B3 RVX cq2 hs2 ⊢
          clear q0 q1 q2 q3 q4 q5 q6 q7 q8 cq
          obtain ⟨q0, q1, q2, q3, q4, q5, q6, q7, q8⟩ := KA2.eight
          rw [HLI.out] at q5
          have COW := Lib.hid (fun a => COH.out w1 a RVX.out)
          go_quiet ((go_at_call 50; exact Calls.quiet_of_same ((COW.out _).mono fun _ _ h => ⟨h.1, h.2.symm⟩)))
          go_wp2_with fail
          have KA3 := KA2.drewN nq
          have B4 := below_drewN B3 nq
          have cq3 : (w1.drewN nq).cell? (aq.add c) = some (.int .i64 sc) := cq2
          have hs3 : w.heap.size ≤ (w1.drewN nq).heap.size := hs2
          generalize w1.drewN nq = w2 at KA3 B4 cq3 hs3 ⊢
          clear q0 q1 q2 q3 q4 q5 q6 q7 q8 cq2
          obtain ⟨q0, q1, q2, q3, q4, q5, q6, q7, q8⟩ := KA3.eight
          rw [HLI.out] at q5
          have CQH := Lib.hid cq3
          go_quiet (fail)
          go_wp2
          go_ret
          exact ⟨_, _, rfl, Reads.one (ad := aq.add c) (by rw [block_of_add]; exact Nat.lt_of_lt_of_le HBQ.out hs3) CQH.out, below_drewN B4 _⟩
        · rw [if_neg hsm]
          go_enter Tryz.func59, Tryz.ntmps59
          go_upto_region 2 with (fail)
          generalize (w.alloc (.cells #[.slice AI n cI, .int .i64 o] 47)).alloc (.cells #[.int .i64 e] 3) = w0 at K1 K2 KA B2 ⊢
          obtain ⟨q0, q1, q2, q3, q4, q5, q6, q7, q8⟩ := KA.eight
          obtain ⟨k0, k1, k2, k3, k4⟩ := K1.two
          have k20 := K2.cell 0
          have K20 := Lib.hid (show w0.cell? ⟨w.heap.size + 1, 0, none⟩ = some (.int .i64 e) from k20)
          clear k20
          have KLT := Lib.hid K2.lt
          obtain ⟨ad, A', c', rfl, hbv, cv, rv⟩ := (HV.out.below B2).at_ hkn
          have RV := Lib.hid rv
          obtain ⟨ai, rfl, hbi, ci⟩ := il_at (HI.out.below B2) hcn
          obtain ⟨aq, rfl, hbq, cq⟩ := il_at (HQ.out.below B2) (show c < li.length by rw [HLI.out]; exact hcn)
          rw [← hx] at ci
          rw [← hsc] at cq
          have HBQ := Lib.hid hbq
          rw [HLI.out] at q5
          have RVW := Lib.hid (show Reads w0 w0.heap.size A' (v kv).length (il (v kv)) from ((RV.out).more B2.size))
          have CO := fun (w1 : World) (a : Nat) (h : Reads w1 w1.heap.size A' (v kv).length (il (v kv))) => contains_any A' (v kv).length c' w1.heap.size (v kv) sc (w1.drewN a) (h.drewN a) (by omega)
          rw [decide_eq_false hsm] at CO
          have COH := Lib.hid CO
          clear CO hce hx hsc hsm
          subst hxe
          go_wp2_with fail
          go_quiet (fail)
          go_wp2_with fail
          have KA2 := KA.drewN nq
          have B3 := below_drewN B2 nq
          have RVX := Lib.hid (RVW.out.drewN nq)
          have cq2 : (w0.drewN nq).cell? (aq.add c) = some (.int .i64 sc) := cq
          have hs2 : w.heap.size ≤ (w0.drewN nq).heap.size := B2.size
          rw [show w0.heap.size = (w0.drewN nq).heap.size from rfl] at RVX
          generalize w0.drewN nq = w1 at KA2 B3 RVX cq2 hs2 ⊢
          clear q0 q1 q2 q3 q4 q5 q6 q7 q8 cq
          obtain ⟨q0, q1, q2, q3, q4, q5, q6, q7, q8⟩ := KA2.eight
          rw [HLI.out] at q5
          have COW := Lib.hid (fun a => COH.out w1 a RVX.out)
          go_quiet ((go_at_call 50; exact Calls.quiet_of_same ((COW.out _).mono fun _ _ h => ⟨h.1, h.2.symm⟩)))
          go_wp2
          go_ret
          exact ⟨_, _, rfl, Reads.none_, below_drewN B3 _⟩
      · have HX := Lib.hid (show ch v l e (c : Int) sc = v kv by rw [ch, if_neg hce, show ((c : Int)).toNat = c from rfl, ← hx, if_neg hxe, HC0.out])
        rw [HX.out]
        have hne : (x != e) = true := by rw [bne_iff_ne]; exact hxe
        go_enter Tryz.func59, Tryz.ntmps59
        go_upto_region 2 with (fail)
        generalize (w.alloc (.cells #[.slice AI n cI, .int .i64 o] 47)).alloc (.cells #[.int .i64 e] 3) = w0 at K1 K2 KA B2 ⊢
        obtain ⟨q0, q1, q2, q3, q4, q5, q6, q7, q8⟩ := KA.eight
        obtain ⟨k0, k1, k2, k3, k4⟩ := K1.two
        have k20 := K2.cell 0
        have K20 := Lib.hid (show w0.cell? ⟨w.heap.size + 1, 0, none⟩ = some (.int .i64 e) from k20)
        clear k20
        have KLT := Lib.hid K2.lt
        obtain ⟨ad, A', c', rfl, hbv, cv, rv⟩ := (HV.out.below B2).at_ hkn
        have RV := Lib.hid rv
        obtain ⟨ai, rfl, hbi, ci⟩ := il_at (HI.out.below B2) hcn
        obtain ⟨aq, rfl, hbq, cq⟩ := il_at (HQ.out.below B2) (show c < li.length by rw [HLI.out]; exact hcn)
        rw [← hx] at ci
        rw [← hsc] at cq
        have HBQ := Lib.hid hbq
        rw [HLI.out] at q5
        clear hce hx hsc hxe
        go_wp2_with fail
        go_quiet (fail)
        go_wp2
        go_ret
        exact ⟨_, _, rfl, (RV.out.more B2.size), below_drewN B2 _⟩
  · have e0 : decide (e < 0) = false := decide_eq_false h0
    have HC0 := Lib.hid (show ch0 v e = [e] by rw [ch0, if_neg h0])
    by_cases hce : ce < 0
    · have HF := Lib.hid (show ch v l e ce (ig li ce.toNat) = [e] by rw [ch, if_pos hce, HC0.out])
      rw [HF.out]
      have d0 : decide (ce < 0) = true := decide_eq_true hce
      go_enter Tryz.func59, Tryz.ntmps59
      go_upto_region 2 with (fail)
      generalize (w.alloc (.cells #[.slice AI n cI, .int .i64 o] 47)).alloc (.cells #[.int .i64 e] 3) = w0 at K1 K2 KA B2 ⊢
      obtain ⟨q0, q1, q2, q3, q4, q5, q6, q7, q8⟩ := KA.eight
      obtain ⟨k0, k1, k2, k3, k4⟩ := K1.two
      have k20 := K2.cell 0
      have K20 := Lib.hid (show w0.cell? ⟨w.heap.size + 1, 0, none⟩ = some (.int .i64 e) from k20)
      clear k20
      have KLT := Lib.hid K2.lt
      go_wp2_with fail
      go_quiet (fail)
      go_wp2
      go_ret
      exact ⟨_, _, rfl, (Reads.one (ad := ⟨w.heap.size + 1, 0, none⟩) KLT.out K20.out), below_drewN B2 _⟩
    · obtain ⟨c, hcc⟩ : ∃ c : Nat, ce = (c : Int) := ⟨ce.toNat, by omega⟩
      subst hcc
      rw [show ((c : Int)).toNat = c from rfl]
      have hcn : c < n := by omega
      have hcn1 : c < cQ := by omega
      have hcn2 : (c : Int) + 1 ≤ (cQ : Int) := by omega
      have d0 : decide ((c : Int) < 0) = false := by rw [decide_eq_false_iff_not]; omega
      obtain ⟨x, hx⟩ : ∃ x, x = ig l c := ⟨_, rfl⟩
      obtain ⟨sc, hsc⟩ : ∃ sc, sc = ig li c := ⟨_, rfl⟩
      rw [← hsc]
      by_cases hxe : x = e
      · have HX := Lib.hid (show ch v l e (c : Int) sc = (if sc ∈ [e] then [sc] else []) by rw [ch, if_neg hce, show ((c : Int)).toNat = c from rfl, ← hx, if_pos hxe, HC0.out])
        rw [HX.out]
        have hne : (x != e) = false := by rw [bne_eq_false_iff_eq]; exact hxe
        have hne2 : (e != e) = false := by rw [bne_eq_false_iff_eq]
        by_cases hsm : sc ∈ [e]
        · rw [if_pos hsm]
          go_enter Tryz.func59, Tryz.ntmps59
          go_upto_region 2 with (fail)
          generalize (w.alloc (.cells #[.slice AI n cI, .int .i64 o] 47)).alloc (.cells #[.int .i64 e] 3) = w0 at K1 K2 KA B2 ⊢
          obtain ⟨q0, q1, q2, q3, q4, q5, q6, q7, q8⟩ := KA.eight
          obtain ⟨k0, k1, k2, k3, k4⟩ := K1.two
          have k20 := K2.cell 0
          have K20 := Lib.hid (show w0.cell? ⟨w.heap.size + 1, 0, none⟩ = some (.int .i64 e) from k20)
          clear k20
          have KLT := Lib.hid K2.lt
          obtain ⟨ai, rfl, hbi, ci⟩ := il_at (HI.out.below B2) hcn
          obtain ⟨aq, rfl, hbq, cq⟩ := il_at (HQ.out.below B2) (show c < li.length by rw [HLI.out]; exact hcn)
          rw [← hx] at ci
          rw [← hsc] at cq
          have HBQ := Lib.hid hbq
          rw [HLI.out] at q5
          have RVW := Lib.hid (show Reads w0 w0.heap.size (some ⟨w.heap.size + 1, 0, none⟩) 1 (il ([e])) from ((Reads.one (ad := ⟨w.heap.size + 1, 0, none⟩) KLT.out K20.out)))
          have CO := fun (w1 : World) (a : Nat) (h : Reads w1 w1.heap.size (some ⟨w.heap.size + 1, 0, none⟩) 1 (il ([e]))) => contains_any (some ⟨w.heap.size + 1, 0, none⟩) 1 1 w1.heap.size ([e]) sc (w1.drewN a) (h.drewN a) (by decide)
          rw [decide_eq_true hsm] at CO
          have COH := Lib.hid CO
          clear CO hce hx hsc hsm
          subst hxe
          go_wp2_with fail
          go_quiet (fail)
          go_wp2_with fail
          have KA2 := KA.drewN nq
          have B3 := below_drewN B2 nq
          have RVX := Lib.hid (RVW.out.drewN nq)
          have cq2 : (w0.drewN nq).cell? (aq.add c) = some (.int .i64 sc) := cq
          have hs2 : w.heap.size ≤ (w0.drewN nq).heap.size := B2.size
          rw [show w0.heap.size = (w0.drewN nq).heap.size from rfl] at RVX
          generalize w0.drewN nq = w1 at KA2 B3 RVX cq2 hs2 ⊢
          clear q0 q1 q2 q3 q4 q5 q6 q7 q8 cq
          obtain ⟨q0, q1, q2, q3, q4, q5, q6, q7, q8⟩ := KA2.eight
          rw [HLI.out] at q5
          have COW := Lib.hid (fun a => COH.out w1 a RVX.out)
          go_quiet ((go_at_call 50; exact Calls.quiet_of_same ((COW.out _).mono fun _ _ h => ⟨h.1, h.2.symm⟩)))
          go_wp2_with fail
          have KA3 := KA2.drewN nq
          have B4 := below_drewN B3 nq
          have cq3 : (w1.drewN nq).cell? (aq.add c) = some (.int .i64 sc) := cq2
          have hs3 : w.heap.size ≤ (w1.drewN nq).heap.size := hs2
          generalize w1.drewN nq = w2 at KA3 B4 cq3 hs3 ⊢
          clear q0 q1 q2 q3 q4 q5 q6 q7 q8 cq2
          obtain ⟨q0, q1, q2, q3, q4, q5, q6, q7, q8⟩ := KA3.eight
          rw [HLI.out] at q5
          have CQH := Lib.hid cq3
          go_quiet (fail)
          go_wp2
          go_ret
          exact ⟨_, _, rfl, Reads.one (ad := aq.add c) (by rw [block_of_add]; exact Nat.lt_of_lt_of_le HBQ.out hs3) CQH.out, below_drewN B4 _⟩
        · rw [if_neg hsm]
          go_enter Tryz.func59, Tryz.ntmps59
          go_upto_region 2 with (fail)
          generalize (w.alloc (.cells #[.slice AI n cI, .int .i64 o] 47)).alloc (.cells #[.int .i64 e] 3) = w0 at K1 K2 KA B2 ⊢
          obtain ⟨q0, q1, q2, q3, q4, q5, q6, q7, q8⟩ := KA.eight
          obtain ⟨k0, k1, k2, k3, k4⟩ := K1.two
          have k20 := K2.cell 0
          have K20 := Lib.hid (show w0.cell? ⟨w.heap.size + 1, 0, none⟩ = some (.int .i64 e) from k20)
          clear k20
          have KLT := Lib.hid K2.lt
          obtain ⟨ai, rfl, hbi, ci⟩ := il_at (HI.out.below B2) hcn
          obtain ⟨aq, rfl, hbq, cq⟩ := il_at (HQ.out.below B2) (show c < li.length by rw [HLI.out]; exact hcn)
          rw [← hx] at ci
          rw [← hsc] at cq
          have HBQ := Lib.hid hbq
          rw [HLI.out] at q5
          have RVW := Lib.hid (show Reads w0 w0.heap.size (some ⟨w.heap.size + 1, 0, none⟩) 1 (il ([e])) from ((Reads.one (ad := ⟨w.heap.size + 1, 0, none⟩) KLT.out K20.out)))
          have CO := fun (w1 : World) (a : Nat) (h : Reads w1 w1.heap.size (some ⟨w.heap.size + 1, 0, none⟩) 1 (il ([e]))) => contains_any (some ⟨w.heap.size + 1, 0, none⟩) 1 1 w1.heap.size ([e]) sc (w1.drewN a) (h.drewN a) (by decide)
          rw [decide_eq_false hsm] at CO
          have COH := Lib.hid CO
          clear CO hce hx hsc hsm
          subst hxe
          go_wp2_with fail
          go_quiet (fail)
          go_wp2_with fail
          have KA2 := KA.drewN nq
          have B3 := below_drewN B2 nq
          have RVX := Lib.hid (RVW.out.drewN nq)
          have cq2 : (w0.drewN nq).cell? (aq.add c) = some (.int .i64 sc) := cq
          have hs2 : w.heap.size ≤ (w0.drewN nq).heap.size := B2.size
          rw [show w0.heap.size = (w0.drewN nq).heap.size from rfl] at RVX
          generalize w0.drewN nq = w1 at KA2 B3 RVX cq2 hs2 ⊢
          clear q0 q1 q2 q3 q4 q5 q6 q7 q8 cq
          obtain ⟨q0, q1, q2, q3, q4, q5, q6, q7, q8⟩ := KA2.eight
          rw [HLI.out] at q5
          have COW := Lib.hid (fun a => COH.out w1 a RVX.out)
          go_quiet ((go_at_call 50; exact Calls.quiet_of_same ((COW.out _).mono fun _ _ h => ⟨h.1, h.2.symm⟩)))
          go_wp2
          go_ret
          exact ⟨_, _, rfl, Reads.none_, below_drewN B3 _⟩
      · have HX := Lib.hid (show ch v l e (c : Int) sc = [e] by rw [ch, if_neg hce, show ((c : Int)).toNat = c from rfl, ← hx, if_neg hxe, HC0.out])
        rw [HX.out]
        have hne : (x != e) = true := by rw [bne_iff_ne]; exact hxe
        go_enter Tryz.func59, Tryz.ntmps59
        go_upto_region 2 with (fail)
        generalize (w.alloc (.cells #[.slice AI n cI, .int .i64 o] 47)).alloc (.cells #[.int .i64 e] 3) = w0 at K1 K2 KA B2 ⊢
        obtain ⟨q0, q1, q2, q3, q4, q5, q6, q7, q8⟩ := KA.eight
        obtain ⟨k0, k1, k2, k3, k4⟩ := K1.two
        have k20 := K2.cell 0
        have K20 := Lib.hid (show w0.cell? ⟨w.heap.size + 1, 0, none⟩ = some (.int .i64 e) from k20)
        clear k20
        have KLT := Lib.hid K2.lt
        obtain ⟨ai, rfl, hbi, ci⟩ := il_at (HI.out.below B2) hcn
        obtain ⟨aq, rfl, hbq, cq⟩ := il_at (HQ.out.below B2) (show c < li.length by rw [HLI.out]; exact hcn)
        rw [← hx] at ci
        rw [← hsc] at cq
        have HBQ := Lib.hid hbq
        rw [HLI.out] at q5
        clear hce hx hsc hxe
        go_wp2_with fail
        go_quiet (fail)
        go_wp2
        go_ret
        exact ⟨_, _, rfl, (Reads.one (ad := ⟨w.heap.size + 1, 0, none⟩) KLT.out K20.out), below_drewN B2 _⟩
end Go.Proofs.YtedjjhaopohibaaGreatDoor
