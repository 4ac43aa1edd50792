/- The walk of permits on valid neighbourhoods. -/
/- The walk of ruletable.Right. -/
import Derived.Test.YtcgkkppidkkjiaaGreatDoorMaa
import Derived.Test.YtcgkkppidkkjiaaGreatDoorMab
import Derived.Test.YtcgkkppidkkjiaaGreatDoorMaf
import Derived.Test.YtcgkkppidkkjiaaGreatDoorMac
import Derived.Test.YtcgkkppidkkjiaaGreatDoorMak
import Derived.Below
import Derived.BigQuiet
import Derived.Deep.AppendLies
import Derived.Deep.CutRange
import Derived.Deep.Draws
import Derived.Deep.QuietTactic
import Derived.IntWalk
import Derived.Laws.BitsLemmas
import Derived.Laws.OwnMore
import Derived.Laws.Rows
import Derived.Lib.Hide
import Derived.Lib.SliceRun
import Derived.LoopN
import Derived.OwnWalk
import Derived.Shelf.SlLaysF0
import Derived.Sort.Grow
import Derived.Sort.Statements
import Derived.StillTail
import Derived.StillTailTactics
import Derived.Test.YtcgkkppidkkjiaaGreatDoorRows
import Derived.WalkKit
import Derived.Test.YtcgkkppidkkjiaaGreatDoorMae
import Derived.Test.YtcgkkppidkkjiaaGreatDoorMad
namespace Go.Proofs.YtcgkkppidkkjiaaGreatDoor
open Go.RowKit
theorem ints_il (l : List Nat) : ints l = il (l.map fun (d : Nat) => (d : Int)) := by simp [ints, il, List.map_map]
theorem mem_cast (j : Nat) (l : List Nat) : decide ((j : Int) ∈ l.map fun (d : Nat) => (d : Int)) = decide (j ∈ l) := by
  rw [decide_eq_decide]
  simp only [List.mem_map]
  exact ⟨fun ⟨a, h1, h2⟩ => by rw [show j = a by omega]; exact h1, fun h => ⟨j, h, rfl⟩⟩
/-- the first m symmetries map the neighbourhood to itself -/
def own (f : Nat → P2) (n m : Nat) : Bool := (List.range m).all fun i => decide (i ∈ sy f n 8)
theorem own_iff (f : Nat → P2) (n m : Nat) : own f n m = true ↔ ∀ i, i < m → i ∈ sy f n 8 := by
  simp [own, List.all_eq_true]
/-- whether a neighbourhood may have a kind of symmetry -/
def pmt (f : Nat → P2) (n : Nat) (k : Int) : Bool := if k = 0 then true else if k = 3 then decide (n ≤ 9) else if k = 1 ∨ k = 2 then own f n (ns k) else false

set_option maxRecDepth 100000 in
set_option maxHeartbeats 2000000 in
theorem permits_sym (k : Int) (m : Nat) (A : Option Addr) (n c : Nat) (f : Nat → P2) (w : World) (hM : Mat w) (h : QReads w w.heap.size A n f) (hd : Hd f n) (hk : k = 1 ∧ m = 4 ∨ k = 2 ∧ m = 8) :
    Calls Tryz.prog 38 #[.slice A n c, .int .i64 k] w fun e w' => e = .returned (.bool (own f n m)) ∧ Below w.heap.size w w' := by
  have SY := Lib.hid (syms_any A n c f w hM h hd)
  have hns : (ns k : Int) = (m : Int) := by rcases hk with ⟨rfl, rfl⟩ | ⟨rfl, rfl⟩ <;> decide
  have SN := fun w => symmetries_any k w
  rw [hns] at SN
  have SN := Lib.hid SN
  have OI := Lib.hid (own_iff f n m)
  have hm : m ≤ 8 := by omega
  have HLL := Lib.hid (show (sy f n 8).length ≤ 1000000 by have := sy_len f n 8; omega)
  generalize own f n m = q at OI ⊢
  generalize sy f n 8 = l at SY OI HLL
  have k0 : (k == 0) = false := by rw [beq_eq_false_iff_ne]; omega
  have k3 : (k == 3) = false := by rw [beq_eq_false_iff_ne]; omega
  clear h hM hd hns
  rcases hk with ⟨rfl, rfl⟩ | ⟨rfl, rfl⟩
  · go_enter Tryz.func38, Tryz.ntmps38
    go_wp2_with (first
      | (go_at_call 66; (with_reducible refine SY.out.mono ?_); rintro e w1 ⟨A', c', rfl, h1, hb⟩; have B1 := Lib.hid hb; have R1 := Lib.hid h1; clear h1 hb)
      | (go_at_call 67; (with_reducible refine (SN.out _).mono ?_); rintro e w2 ⟨rfl, rfl⟩))
    go_loop [22] (fun iv => ∃ j : Nat, j ≤ 4 ∧ iv = .int .i64 (j : Int) ∧ ∀ i, i < j → i ∈ l) (fun iv => 4 - (intOf iv).toNat)
    case atStart => exact ⟨0, Nat.zero_le _, rfl, fun i hi => absurd hi (by omega)⟩
    case round =>
      obtain ⟨j, hj, rfl, hno⟩ := hrel
      have HN := Lib.hid hno
      clear hno
      by_cases hlt : j < 4
      · have CO := contains_any A' l.length c' _ _ (j : Int) w1 (by have h := R1.out; rw [ints_il] at h; exact h) HLL.out
        rw [mem_cast] at CO
        by_cases hq : j ∈ l
        · have HQ := Lib.hid hq
          rw [decide_eq_true hq] at CO
          have CO := Lib.hid CO
          clear hq
          go_wp2_with (go_at_call 68; (with_reducible refine CO.out.mono ?_); rintro e w2 ⟨rfl, rfl⟩)
          go_round
          case rel => exact ⟨j + 1, by omega, by go_num, fun i hi => by
            by_cases e : i < j
            · exact HN.out i e
            · obtain rfl : i = j := by omega
              exact HQ.out⟩
          case measure => simp [intOf]; omega
        · have HF := Lib.hid (show q = false by rw [← Bool.not_eq_true, OI.out]; exact fun h => hq (h j hlt))
          rw [decide_eq_false hq] at CO
          have CO := Lib.hid CO
          clear hq
          go_wp2_with (go_at_call 68; (with_reducible refine CO.out.mono ?_); rintro e w2 ⟨rfl, rfl⟩)
          go_ret
          exact ⟨ret_bool HF.out.symm, B1.out⟩
      · obtain rfl : j = 4 := by omega
        have HF := Lib.hid (show q = true by rw [OI.out]; exact HN.out)
        go_wp2
        go_ret
        exact ⟨ret_bool HF.out.symm, B1.out⟩
  · go_enter Tryz.func38, Tryz.ntmps38
    go_wp2_with (first
      | (go_at_call 66; (with_reducible refine SY.out.mono ?_); rintro e w1 ⟨A', c', rfl, h1, hb⟩; have B1 := Lib.hid hb; have R1 := Lib.hid h1; clear h1 hb)
      | (go_at_call 67; (with_reducible refine (SN.out _).mono ?_); rintro e w2 ⟨rfl, rfl⟩))
    go_loop [22] (fun iv => ∃ j : Nat, j ≤ 8 ∧ iv = .int .i64 (j : Int) ∧ ∀ i, i < j → i ∈ l) (fun iv => 8 - (intOf iv).toNat)
    case atStart => exact ⟨0, Nat.zero_le _, rfl, fun i hi => absurd hi (by omega)⟩
    case round =>
      obtain ⟨j, hj, rfl, hno⟩ := hrel
      have HN := Lib.hid hno
      clear hno
      by_cases hlt : j < 8
      · have CO := contains_any A' l.length c' _ _ (j : Int) w1 (by have h := R1.out; rw [ints_il] at h; exact h) HLL.out
        rw [mem_cast] at CO
        by_cases hq : j ∈ l
        · have HQ := Lib.hid hq
          rw [decide_eq_true hq] at CO
          have CO := Lib.hid CO
          clear hq
          go_wp2_with (go_at_call 68; (with_reducible refine CO.out.mono ?_); rintro e w2 ⟨rfl, rfl⟩)
          go_round
          case rel => exact ⟨j + 1, by omega, by go_num, fun i hi => by
            by_cases e : i < j
            · exact HN.out i e
            · obtain rfl : i = j := by omega
              exact HQ.out⟩
          case measure => simp [intOf]; omega
        · have HF := Lib.hid (show q = false by rw [← Bool.not_eq_true, OI.out]; exact fun h => hq (h j hlt))
          rw [decide_eq_false hq] at CO
          have CO := Lib.hid CO
          clear hq
          go_wp2_with (go_at_call 68; (with_reducible refine CO.out.mono ?_); rintro e w2 ⟨rfl, rfl⟩)
          go_ret
          exact ⟨ret_bool HF.out.symm, B1.out⟩
      · obtain rfl : j = 8 := by omega
        have HF := Lib.hid (show q = true by rw [OI.out]; exact HN.out)
        go_wp2
        go_ret
        exact ⟨ret_bool HF.out.symm, B1.out⟩
theorem permits_any (k : Int) (A : Option Addr) (n c : Nat) (f : Nat → P2) (w : World) (hM : Mat w) (h : QReads w w.heap.size A n f) (hd : Hd f n) :
    Calls Tryz.prog 38 #[.slice A n c, .int .i64 k] w fun e w' => e = .returned (.bool (pmt f n k)) ∧ Below w.heap.size w w' := by
  have hn : n ≤ 25 := hd.1.2
  by_cases h0 : k = 0
  · subst h0
    rw [show pmt f n 0 = true by rfl]
    clear h hM hd
    go_enter Tryz.func38, Tryz.ntmps38
    go_wp2
    go_ret
    exact ⟨rfl, Below.refl _ _⟩
  · by_cases h3 : k = 3
    · subst h3
      rw [show pmt f n 3 = decide (n ≤ 9) by rfl]
      clear h hM hd h0
      by_cases h9 : n ≤ 9
      · have d : decide ((n : Int) ≤ 9) = true := by rw [decide_eq_true_iff]; omega
        rw [decide_eq_true h9]
        go_enter Tryz.func38, Tryz.ntmps38
        go_wp2
        go_ret
        exact ⟨ret_bool (by first | (simp; done) | (simp; omega)), Below.refl _ _⟩
      · rw [decide_eq_false h9]
        go_enter Tryz.func38, Tryz.ntmps38
        go_wp2
        go_ret
        exact ⟨ret_bool (by first | (simp; done) | (simp; omega)), Below.refl _ _⟩
    · by_cases h12 : k = 1 ∨ k = 2
      · rw [pmt, if_neg h0, if_neg h3, if_pos h12]
        rcases h12 with rfl | rfl
        · exact permits_sym 1 4 A n c f w hM h hd (by omega)
        · exact permits_sym 2 8 A n c f w hM h hd (by omega)
      · rw [pmt, if_neg h0, if_neg h3, if_neg h12]
        have k0 : (k == 0) = false := by rw [beq_eq_false_iff_ne]; omega
        have k1 : (k == 1) = false := by rw [beq_eq_false_iff_ne]; omega
        have k2 : (k == 2) = false := by rw [beq_eq_false_iff_ne]; omega
        have k3 : (k == 3) = false := by rw [beq_eq_false_iff_ne]; omega
        clear h hM hd h0 h3 h12
        go_enter Tryz.func38, Tryz.ntmps38
        go_wp2
        go_ret
        exact ⟨rfl, Below.refl _ _⟩
end Go.Proofs.YtcgkkppidkkjiaaGreatDoor
namespace Go.Proofs.YtcgkkppidkkjiaaGreatDoor
open Go.RowKit
/-- the states of a variable -/
def vv (st : Int) (l : List Int) : Bool := decide (l.length ≠ 0) && als st l && ups l
/-- a valid table -/
def rt (T : Tab) : Bool := decide (2 ≤ T.st) && decide (T.st ≤ 8) && decide (Hd T.f T.n) && pmt T.f T.n T.sy && decide (T.nv ≤ 40) && decide (T.nr ≤ 400) && ((List.range T.nv).all fun i => vv T.st (T.v i)) && ((List.range T.nr).all fun i => rr T.n T.st T.nv (T.ri i) (T.ro i))
/-- what a valid table is -/
structure Rt (T : Tab) : Prop where
  s1 : 2 ≤ T.st
  s2 : T.st ≤ 8
  hd : Hd T.f T.n
  pm : pmt T.f T.n T.sy = true
  v1 : T.nv ≤ 40
  r1 : T.nr ≤ 400
  vs : ∀ i, i < T.nv → vv T.st (T.v i) = true
  rs : ∀ i, i < T.nr → rr T.n T.st T.nv (T.ri i) (T.ro i) = true
theorem rt_iff (T : Tab) : rt T = true ↔ Rt T := by
  simp only [rt, Bool.and_eq_true, decide_eq_true_eq, List.all_eq_true, List.mem_range]
  exact ⟨fun ⟨⟨⟨⟨⟨⟨⟨a, b⟩, c⟩, d⟩, e⟩, f⟩, g⟩, h⟩ => ⟨a, b, c, d, e, f, g, h⟩, fun h => ⟨⟨⟨⟨⟨⟨⟨h.s1, h.s2⟩, h.hd⟩, h.pm⟩, h.v1⟩, h.r1⟩, h.vs⟩, h.rs⟩⟩
theorem rt_no {T : Tab} (h : ¬ Rt T) : rt T = false := by rw [← Bool.not_eq_true, rt_iff]; exact h

set_option maxRecDepth 100000 in
set_option maxHeartbeats 4000000 in
theorem rt_any (AH : Option Addr) (cH : Nat) (AV : Option Addr) (cV : Nat) (AR : Option Addr) (cR : Nat) (T : Tab) (w : World) (hM : Mat w) (h : TR w AH AV AR T) (hb : Bd T) :
    Calls Tryz.prog 17 #[.agg #[.int .i64 T.st, .int .i64 T.sy, .slice AH T.n cH, .slice AV T.nv cV, .slice AR T.nr cR]] w fun e w' => e = .returned (.bool (rt T)) ∧ Below w.heap.size w w' := by
  obtain ⟨hH, hV, hR⟩ := h
  obtain ⟨h1, h2, h3, h4, h5⟩ := hb
  have RY := Lib.hid (rt_iff T).2
  have RN := Lib.hid (rt_no (T := T))
  have RF := Lib.hid (fun (h : Rt T) => h)
  have K1 := Blk.new w 26 #[.int .i64 T.st, .int .i64 T.sy, .slice AH T.n cH, .slice AV T.nv cV, .slice AR T.nr cR]
  have B1 : Below w.heap.size w (w.alloc (.cells #[.int .i64 T.st, .int .i64 T.sy, .slice AH T.n cH, .slice AV T.nv cV, .slice AR T.nr cR] 26)) := (Below.refl _ _).alloc (Nat.le_refl _) _
  have HR1 := Lib.hid (fun w' (hb : Below w.heap.size w w') => hright_all AH T.n cH T.f w' (hH.later hb) h1)
  have PM := Lib.hid (fun w' (hb : Below w.heap.size w w') (hd : Hd T.f T.n) => permits_any T.sy AH T.n cH T.f w' (hM.below hb hM.1) (hH.later hb) hd)
  have HV := Lib.hid (fun w' (hb : Below w.heap.size w w') => hV.later hb)
  have HR := Lib.hid (fun w' (hb : Below w.heap.size w w') => hR.later hb)
  have H4 := Lib.hid h4
  have H5 := Lib.hid h5
  have F1 := Lib.hid (fun (h : Rt T) => h.s1)
  have F2 := Lib.hid (fun (h : Rt T) => h.s2)
  have F3 := Lib.hid (fun (h : Rt T) => h.hd)
  have F4 := Lib.hid (fun (h : Rt T) => h.pm)
  have F5 := Lib.hid (fun (h : Rt T) => h.v1)
  have F6 := Lib.hid (fun (h : Rt T) => h.r1)
  have F7 := Lib.hid (fun (h : Rt T) => h.vs)
  have F8 := Lib.hid (fun (h : Rt T) => h.rs)
  have F9 := Lib.hid (fun (a : 2 ≤ T.st) (b : T.st ≤ 8) (c : Hd T.f T.n) (d : pmt T.f T.n T.sy = true) (e : T.nv ≤ 40) (f : T.nr ≤ 400) (g : ∀ i, i < T.nv → vv T.st (T.v i) = true) (h : ∀ i, i < T.nr → rr T.n T.st T.nv (T.ri i) (T.ro i) = true) => RY.out ⟨a, b, c, d, e, f, g, h⟩)
  generalize Rt T = RTT at RY RN RF F1 F2 F3 F4 F5 F6 F7 F8
  generalize rt T = q at RY RN F9 ⊢
  obtain ⟨st, k, n, f, nv, v, nr, ri, ro⟩ := T
  simp only at *
  clear hH hV hR h4 h5 RF
  by_cases s1 : 2 ≤ st
  · by_cases s2 : st ≤ 8
    · by_cases hd : Hd f n
      · have PM2 := fun w' hb => PM.out w' hb hd
        have HR2 := HR1.out
        have HD := Lib.hid hd
        rw [decide_eq_true hd] at HR2
        have HR2 := Lib.hid HR2
        clear hd
        generalize hpm : pmt f n k = pq at PM2 F4 F9
        have PM2 := Lib.hid PM2
        cases pq with
        | true =>
          by_cases v1 : nv ≤ 40
          · by_cases r1 : nr ≤ 400
            · have V9 := Lib.hid (fun g h => F9.out s1 s2 HD.out rfl v1 r1 g h)
              have e1 : decide (st < 2) = false := by rw [decide_eq_false_iff_not]; omega
              have e2 : decide (8 < st) = false := by rw [decide_eq_false_iff_not]; omega
              have d1 : decide (40 < (nv : Int)) = false := by rw [decide_eq_false_iff_not]; omega
              have d2 : decide (400 < (nr : Int)) = false := by rw [decide_eq_false_iff_not]; omega
              go_enter Tryz.func17, Tryz.ntmps17
              go_wp2_with fail
              generalize w.alloc (.cells #[.int .i64 st, .int .i64 k, .slice AH n cH, .slice AV nv cV, .slice AR nr cR] 26) = w0 at K1 B1 ⊢
              obtain ⟨a0, a1, a2, a3, a4, a5⟩ := K1.five
              have K1 := Lib.hid K1
              have B1 := Lib.hid B1
              go_wp2_with (first
                | (go_at_call 37; (with_reducible refine (HR2.out _ B1.out).mono ?_); rintro e w1 ⟨rfl, hb⟩; have B2 := Lib.hid (B1.out.trans (hb.mono B1.out.size)); have K2 := Lib.hid (K1.out.below hb K1.out.lt); obtain ⟨b0, b1, b2, b3, b4, b5⟩ := K2.out.five; clear hb)
                | (go_at_call 38; (with_reducible refine (PM2.out _ B2.out).mono ?_); rintro e w2 ⟨rfl, hb⟩; have B3 := Lib.hid (B2.out.trans (hb.mono B2.out.size)); have K3 := Lib.hid (K2.out.below hb K2.out.lt); obtain ⟨c0, c1, c2, c3, c4, c5⟩ := K3.out.five; clear hb))
              go_loopw [42] (fun iv wr => ∃ j : Nat, j ≤ nv ∧ iv = .int .i64 (j : Int) ∧ (∀ i, i < j → vv st (v i) = true) ∧ Below w2.heap.size w2 wr) (fun iv _ => nv - (intOf iv).toNat)
              case atStart => exact ⟨0, Nat.zero_le _, rfl, fun i hi => absurd hi (by omega), Below.refl _ _⟩
              case round =>
                obtain ⟨j, hj, rfl, hno, hbel⟩ := hrel
                have HN := Lib.hid hno
                have B4 := Lib.hid (B3.out.trans (hbel.mono B3.out.size))
                have K4 := Lib.hid (K3.out.below hbel K3.out.lt)
                obtain ⟨d0, d1', d2', d3', d4', d5'⟩ := K4.out.five
                clear hno b0 b1 b2 b3 b4 b5 c0 c1 c2 c3 c4 c5 a0 a1 a2 a3 a4 a5
                by_cases hlt : j < nv
                · obtain ⟨ad, rfl, hb, hc⟩ := HV.out _ B4.out (by omega)
                  obtain ⟨A', c', hc, hr⟩ := hc j hlt
                  have hl := H4.out j hlt
                  have NO := Lib.hid (fun (h : vv st (v j) = false) => RN.out fun hrt => by have := F7.out hrt j hlt; rw [h] at this; cases this)
                  have NX := Lib.hid (fun (h : vv st (v j) = true) (i : Nat) (hi : i < j + 1) => show vv st (v i) = true from by
                    by_cases e : i < j
                    · exact HN.out i e
                    · obtain rfl : i = j := by omega
                      exact h)
                  have hvd : vv st (v j) = (decide ((v j).length ≠ 0) && als st (v j) && ups (v j)) := rfl
                  generalize vv st (v j) = qv at NO NX hvd
                  have AL := Lib.hid (allStates_any A' (v j).length c' _ (v j) wr st hr (by omega))
                  have UP := Lib.hid (ascends_any A' (v j).length c' (v j) wr hr (by omega))
                  generalize als st (v j) = q1 at AL hvd
                  generalize ups (v j) = q2 at UP hvd
                  generalize (v j).length = m at hc hl AL UP hvd
                  clear hr
                  by_cases hm : m = 0
                  · subst hm
                    have HF := Lib.hid (NO.out (by rw [hvd]; rfl))
                    clear hvd
                    go_wp2
                    go_ret
                    exact ⟨ret_bool HF.out.symm, B4.out⟩
                  · have hm0 : ((m : Int) == 0) = false := by rw [beq_eq_false_iff_ne]; omega
                    rw [decide_eq_true hm] at hvd
                    have HVD := Lib.hid hvd
                    clear hvd hm
                    cases q1 with
                    | false =>
                      have HF := Lib.hid (NO.out (by rw [HVD.out]; rfl))
                      go_wp2_with (go_at_call 39; (with_reducible refine AL.out.mono ?_); rintro e w' ⟨rfl, rfl⟩)
                      go_ret
                      exact ⟨ret_bool HF.out.symm, B4.out⟩
                    | true =>
                      cases q2 with
                      | false =>
                        have HF := Lib.hid (NO.out (by rw [HVD.out]; rfl))
                        go_wp2_with (first
                          | (go_at_call 39; (with_reducible refine AL.out.mono ?_); rintro e w' ⟨rfl, rfl⟩)
                          | (go_at_call 40; (with_reducible refine UP.out.mono ?_); rintro e w5 ⟨rfl, hb⟩; have B5 := Lib.hid (B4.out.trans (hb.mono B4.out.size)); clear hb))
                        go_ret
                        exact ⟨ret_bool HF.out.symm, B5.out⟩
                      | true =>
                        have HT := Lib.hid (NX.out (by rw [HVD.out]; rfl))
                        have HBL := Lib.hid hbel
                        go_wp2_with (first
                          | (go_at_call 39; (with_reducible refine AL.out.mono ?_); rintro e w' ⟨rfl, rfl⟩)
                          | (go_at_call 40; (with_reducible refine UP.out.mono ?_); rintro e w5 ⟨rfl, hb⟩; have B5 := Lib.hid (HBL.out.trans (hb.mono HBL.out.size)); clear hb))
                        go_roundw
                        case rel => exact ⟨j + 1, by omega, by go_num, HT.out, B5.out⟩
                        case measure => simp [intOf]; omega
                · obtain rfl : j = nv := by omega
                  clear hlt hbel
                  obtain ⟨w3, hw3⟩ : ∃ w3, w3 = wr := ⟨_, rfl⟩
                  subst hw3
                  go_wp2
                  go_loopw [65] (fun iv wr => ∃ i : Nat, i ≤ nr ∧ iv = .int .i64 (i : Int) ∧ (∀ i', i' < i → rr n st j (ri i') (ro i') = true) ∧ Below w3.heap.size w3 wr) (fun iv _ => nr - (intOf iv).toNat)
                  case atStart => exact ⟨0, Nat.zero_le _, rfl, fun i hi => absurd hi (by omega), Below.refl _ _⟩
                  case round =>
                    obtain ⟨i, hi, rfl, hno, hbel⟩ := hrel
                    have HM := Lib.hid hno
                    have B5 := Lib.hid (B4.out.trans (hbel.mono B4.out.size))
                    have K5 := Lib.hid (K4.out.below hbel K4.out.lt)
                    have HBL := Lib.hid hbel
                    obtain ⟨e0, e1', e2', e3', e4', e5'⟩ := K5.out.five
                    clear hno d0 d1' d2' d3' d4' d5' hbel
                    by_cases hlt : i < nr
                    · obtain ⟨g1, o1, rfl, hb1, hc⟩ := HR.out _ B5.out (by omega)
                      obtain ⟨A', c', hc, hr, hc2⟩ := hc i hlt
                      have hl := H5.out i hlt
                      have NO := Lib.hid (fun (h : rr n st j (ri i) (ro i) = false) => RN.out fun hrt => by have := F8.out hrt i hlt; rw [h] at this; cases this)
                      have NX := Lib.hid (fun (h : rr n st j (ri i) (ro i) = true) (i' : Nat) (hi : i' < i + 1) => show rr n st j (ri i') (ro i') = true from by
                        by_cases e : i' < i
                        · exact HM.out i' e
                        · obtain rfl : i' = i := by omega
                          exact h)
                      have RW := fun w' (hb : Below wr.heap.size wr w') => rightRow_any st k AH n cH AV j cV (some ⟨g1, o1, none⟩) nr cR A' (ri i).length c' (ri i) (ro i) w' (hr.later hb) hl h1 h2 (by omega) s2
                      generalize rr n st j (ri i) (ro i) = qr at NO NX RW
                      generalize (ri i).length = m at hc hl RW
                      generalize ro i = o at hc2 RW
                      have RW := Lib.hid RW
                      have K6 := Lib.hid (Blk.new wr 41 #[.slice A' m c', .int .i64 o])
                      have B6 := Lib.hid ((Below.refl wr.heap.size wr).alloc (Nat.le_refl _) (.cells #[.slice A' m c', .int .i64 o] 41))
                      have K7 := Lib.hid (K5.out.alloc (.cells #[.slice A' m c', .int .i64 o] 41))
                      clear hr
                      cases qr with
                      | false =>
                        have HF := Lib.hid (NO.out rfl)
                        go_upto_region 14 with (fail)
                        generalize wr.alloc (.cells #[.slice A' m c', .int .i64 o] 41) = w5 at K6 B6 K7 ⊢
                        obtain ⟨r0, r1, r2, r3, r4⟩ := K6.out.two
                        obtain ⟨e0, e1', e2', e3', e4', e5'⟩ := K7.out.five
                        go_wp2_with (go_at_call 41; (with_reducible refine (RW.out _ B6.out).mono ?_); rintro e w6 ⟨rfl, hb⟩; have B7 := Lib.hid (B5.out.trans ((B6.out.trans (hb.mono B6.out.size)).mono B5.out.size)); clear hb)
                        go_ret
                        exact ⟨ret_bool HF.out.symm, B7.out⟩
                      | true =>
                        have HT := Lib.hid (NX.out rfl)
                        go_upto_region 14 with (fail)
                        generalize wr.alloc (.cells #[.slice A' m c', .int .i64 o] 41) = w5 at K6 B6 K7 ⊢
                        obtain ⟨r0, r1, r2, r3, r4⟩ := K6.out.two
                        obtain ⟨e0, e1', e2', e3', e4', e5'⟩ := K7.out.five
                        go_wp2_with (go_at_call 41; (with_reducible refine (RW.out _ B6.out).mono ?_); rintro e w6 ⟨rfl, hb⟩; have B7 := Lib.hid (HBL.out.trans ((B6.out.trans (hb.mono B6.out.size)).mono HBL.out.size)); clear hb)
                        go_roundw
                        case rel => exact ⟨i + 1, by omega, by go_num, HT.out, B7.out⟩
                        case measure => simp [intOf]; omega
                    · obtain rfl : i = nr := by omega
                      have HF := Lib.hid (V9.out HN.out HM.out)
                      go_wp2
                      go_ret
                      exact ⟨ret_bool HF.out.symm, B5.out⟩
            · have e1 : decide (st < 2) = false := by rw [decide_eq_false_iff_not]; omega
              have e2 : decide (8 < st) = false := by rw [decide_eq_false_iff_not]; omega
              have d1 : decide (40 < (nv : Int)) = false := by rw [decide_eq_false_iff_not]; omega
              have d2 : decide (400 < (nr : Int)) = true := by rw [decide_eq_true_iff]; omega
              have HF := Lib.hid (RN.out fun h => r1 (F6.out h))
              go_enter Tryz.func17, Tryz.ntmps17
              go_wp2_with fail
              generalize w.alloc (.cells #[.int .i64 st, .int .i64 k, .slice AH n cH, .slice AV nv cV, .slice AR nr cR] 26) = w0 at K1 B1 ⊢
              obtain ⟨a0, a1, a2, a3, a4, a5⟩ := K1.five
              have K1 := Lib.hid K1
              have B1 := Lib.hid B1
              go_wp2_with (first
                | (go_at_call 37; (with_reducible refine (HR2.out _ B1.out).mono ?_); rintro e w1 ⟨rfl, hb⟩; have B2 := Lib.hid (B1.out.trans (hb.mono B1.out.size)); have K2 := Lib.hid (K1.out.below hb K1.out.lt); obtain ⟨b0, b1, b2, b3, b4, b5⟩ := K2.out.five; clear hb)
                | (go_at_call 38; (with_reducible refine (PM2.out _ B2.out).mono ?_); rintro e w2 ⟨rfl, hb⟩; have B3 := Lib.hid (B2.out.trans (hb.mono B2.out.size)); have K3 := Lib.hid (K2.out.below hb K2.out.lt); obtain ⟨c0, c1, c2, c3, c4, c5⟩ := K3.out.five; clear hb))
              go_ret
              exact ⟨ret_bool HF.out.symm, B3.out⟩
          · have e1 : decide (st < 2) = false := by rw [decide_eq_false_iff_not]; omega
            have e2 : decide (8 < st) = false := by rw [decide_eq_false_iff_not]; omega
            have d1 : decide (40 < (nv : Int)) = true := by rw [decide_eq_true_iff]; omega
            have HF := Lib.hid (RN.out fun h => v1 (F5.out h))
            go_enter Tryz.func17, Tryz.ntmps17
            go_wp2_with fail
            generalize w.alloc (.cells #[.int .i64 st, .int .i64 k, .slice AH n cH, .slice AV nv cV, .slice AR nr cR] 26) = w0 at K1 B1 ⊢
            obtain ⟨a0, a1, a2, a3, a4, a5⟩ := K1.five
            have K1 := Lib.hid K1
            have B1 := Lib.hid B1
            go_wp2_with (first
              | (go_at_call 37; (with_reducible refine (HR2.out _ B1.out).mono ?_); rintro e w1 ⟨rfl, hb⟩; have B2 := Lib.hid (B1.out.trans (hb.mono B1.out.size)); have K2 := Lib.hid (K1.out.below hb K1.out.lt); obtain ⟨b0, b1, b2, b3, b4, b5⟩ := K2.out.five; clear hb)
              | (go_at_call 38; (with_reducible refine (PM2.out _ B2.out).mono ?_); rintro e w2 ⟨rfl, hb⟩; have B3 := Lib.hid (B2.out.trans (hb.mono B2.out.size)); have K3 := Lib.hid (K2.out.below hb K2.out.lt); obtain ⟨c0, c1, c2, c3, c4, c5⟩ := K3.out.five; clear hb))
            go_ret
            exact ⟨ret_bool HF.out.symm, B3.out⟩
        | false =>
          have e1 : decide (st < 2) = false := by rw [decide_eq_false_iff_not]; omega
          have e2 : decide (8 < st) = false := by rw [decide_eq_false_iff_not]; omega
          have HF := Lib.hid (RN.out fun h => by have := F4.out h; cases this)
          go_enter Tryz.func17, Tryz.ntmps17
          go_wp2_with fail
          generalize w.alloc (.cells #[.int .i64 st, .int .i64 k, .slice AH n cH, .slice AV nv cV, .slice AR nr cR] 26) = w0 at K1 B1 ⊢
          obtain ⟨a0, a1, a2, a3, a4, a5⟩ := K1.five
          have K1 := Lib.hid K1
          have B1 := Lib.hid B1
          go_wp2_with (first
            | (go_at_call 37; (with_reducible refine (HR2.out _ B1.out).mono ?_); rintro e w1 ⟨rfl, hb⟩; have B2 := Lib.hid (B1.out.trans (hb.mono B1.out.size)); have K2 := Lib.hid (K1.out.below hb K1.out.lt); obtain ⟨b0, b1, b2, b3, b4, b5⟩ := K2.out.five; clear hb)
            | (go_at_call 38; (with_reducible refine (PM2.out _ B2.out).mono ?_); rintro e w2 ⟨rfl, hb⟩; have B3 := Lib.hid (B2.out.trans (hb.mono B2.out.size)); have K3 := Lib.hid (K2.out.below hb K2.out.lt); obtain ⟨c0, c1, c2, c3, c4, c5⟩ := K3.out.five; clear hb))
          go_ret
          exact ⟨ret_bool HF.out.symm, B3.out⟩
      · have HR2 := HR1.out
        rw [decide_eq_false hd] at HR2
        have HR2 := Lib.hid HR2
        have e1 : decide (st < 2) = false := by rw [decide_eq_false_iff_not]; omega
        have e2 : decide (8 < st) = false := by rw [decide_eq_false_iff_not]; omega
        have HF := Lib.hid (RN.out fun h => hd (F3.out h))
        go_enter Tryz.func17, Tryz.ntmps17
        go_wp2_with fail
        generalize w.alloc (.cells #[.int .i64 st, .int .i64 k, .slice AH n cH, .slice AV nv cV, .slice AR nr cR] 26) = w0 at K1 B1 ⊢
        obtain ⟨a0, a1, a2, a3, a4, a5⟩ := K1.five
        have K1 := Lib.hid K1
        have B1 := Lib.hid B1
        go_wp2_with (first
          | (go_at_call 37; (with_reducible refine (HR2.out _ B1.out).mono ?_); rintro e w1 ⟨rfl, hb⟩; have B2 := Lib.hid (B1.out.trans (hb.mono B1.out.size)); have K2 := Lib.hid (K1.out.below hb K1.out.lt); obtain ⟨b0, b1, b2, b3, b4, b5⟩ := K2.out.five; clear hb))
        go_ret
        exact ⟨ret_bool HF.out.symm, B2.out⟩
    · have e1 : decide (st < 2) = false := by rw [decide_eq_false_iff_not]; omega
      have e2 : decide (8 < st) = true := by rw [decide_eq_true_iff]; omega
      have HF := Lib.hid (RN.out fun h => s2 (F2.out h))
      go_enter Tryz.func17, Tryz.ntmps17
      go_wp2
      go_ret
      exact ⟨ret_bool HF.out.symm, B1⟩
  · have e1 : decide (st < 2) = true := by rw [decide_eq_true_iff]; omega
    have HF := Lib.hid (RN.out fun h => s1 (F1.out h))
    go_enter Tryz.func17, Tryz.ntmps17
    go_wp2
    go_ret
    exact ⟨ret_bool HF.out.symm, B1⟩
end Go.Proofs.YtcgkkppidkkjiaaGreatDoor
