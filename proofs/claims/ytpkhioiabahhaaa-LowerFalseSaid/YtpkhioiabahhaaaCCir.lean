/- Circuits as values; the walks of Right and fits. -/
import Derived.Test.YtpkhioiabahhaaaCGate
import Derived.Test.YtpkhioiabahhaaaCPCell
import Derived.Test.YtpkhioiabahhaaaCTUr
import Derived.Test.YtpkhioiabahhaaaTInts
import Derived.Test.YtpkhioiabahhaaaTMem
import Derived.Test.YtpkhioiabahhaaaTSmall
import Derived.Below
import Derived.BigQuiet
import Derived.Deep.AppendLies
import Derived.Deep.CutRange
import Derived.Deep.Draws
import Derived.Deep.OwnRows
import Derived.Deep.QuietTactic
import Derived.IntWalk
import Derived.Laws.CopyOwn
import Derived.Laws.OwnMore
import Derived.Laws.Rows
import Derived.Lib.Hide
import Derived.Lib.SliceRun
import Derived.LoopN
import Derived.OwnWalk
import Derived.StillTail
import Derived.StillTailTactics
import Derived.Test.YtpkhioiabahhaaaRows
import Derived.WalkKit
namespace Go.Proofs.Ytpkhioiabahhaaa
open Go.RowKit
/-- a circuit: its inputs, n gates, its outputs -/
structure Cr where
  ins : Int
  n : Nat
  g : Nat → C3
  o : List Int
/-- a circuit in memory -/
def CS (w : World) (AG AO : Option Addr) (C : Cr) : Prop := CReads w w.heap.size AG C.n C.g ∧ Reads w w.heap.size AO C.o.length (il C.o)
theorem CS.later {w w' : World} {AG AO : Option Addr} {C : Cr} (h : CS w AG AO C) (hb : Below w.heap.size w w') : CS w' AG AO C := ⟨CReads.later h.1 hb, Reads.later h.2 hb⟩
/-- whether a circuit is valid -/
def rt (C : Cr) : Bool := decide (0 ≤ C.ins ∧ C.ins ≤ 1000 ∧ C.n ≤ 20000 ∧ C.o.length ≤ 1000) && (List.range C.n).all (fun k => rg (C.g k) (C.ins + (k : Int))) && (List.range C.o.length).all (fun k => isw (ig C.o k) (C.ins + (C.n : Int)))
theorem rt_iff (C : Cr) : rt C = true ↔ (0 ≤ C.ins ∧ C.ins ≤ 1000 ∧ C.n ≤ 20000 ∧ C.o.length ≤ 1000) ∧ (∀ k, k < C.n → rg (C.g k) (C.ins + (k : Int)) = true) ∧ ∀ k, k < C.o.length → isw (ig C.o k) (C.ins + (C.n : Int)) = true := by
  simp only [rt, Bool.and_eq_true, decide_eq_true_eq, List.all_eq_true, List.mem_range, and_assoc]
theorem rt_no {C : Cr} (h : ¬ (0 ≤ C.ins ∧ C.ins ≤ 1000 ∧ C.n ≤ 20000 ∧ C.o.length ≤ 1000)) : rt C = false := by
  rw [← Bool.not_eq_true, rt_iff]; exact fun h' => h h'.1
theorem rt_gate {C : Cr} {k : Nat} (hk : k < C.n) (h : rg (C.g k) (C.ins + (k : Int)) = false) : rt C = false := by
  rw [← Bool.not_eq_true, rt_iff]; intro h'; rw [h'.2.1 k hk] at h; cases h
theorem rt_out {C : Cr} {k : Nat} (hk : k < C.o.length) (h : isw (ig C.o k) (C.ins + (C.n : Int)) = false) : rt C = false := by
  rw [← Bool.not_eq_true, rt_iff]; intro h'; rw [h'.2.2 k hk] at h; cases h

set_option maxRecDepth 100000 in
set_option maxHeartbeats 1000000 in
theorem right_bad (AG AO : Option Addr) (cG cO : Nat) (C : Cr) (w : World) (h : ¬ (0 ≤ C.ins ∧ C.ins ≤ 1000 ∧ C.n ≤ 20000 ∧ C.o.length ≤ 1000)) (hm : C.n ≤ 1000000) (hl : C.o.length ≤ 1000000) :
    Calls Try.prog 55 #[.agg #[.int .i64 C.ins, .slice AG C.n cG, .slice AO C.o.length cO]] w fun e w' => e = .returned (.bool false) ∧ Below w.heap.size w w' := by
  obtain ⟨I, n, g, o⟩ := C
  simp only at *
  generalize o.length = q at *
  have B1 := Lib.hid ((Below.refl w.heap.size w).alloc (Nat.le_refl _) (.cells #[.int .i64 I, .slice AG n cG, .slice AO q cO] 34))
  by_cases h0 : I < 0
  · clear h
    go_enter Try.func55, Try.ntmps55
    go_wp2
    go_ret
    exact ⟨rfl, B1.out⟩
  by_cases h1 : 1000 < I
  · clear h
    go_enter Try.func55, Try.ntmps55
    go_wp2
    go_ret
    exact ⟨rfl, B1.out⟩
  by_cases h2 : (20000 : Int) < (n : Int)
  · clear h
    go_enter Try.func55, Try.ntmps55
    go_wp2
    go_ret
    exact ⟨rfl, B1.out⟩
  have h3 : (1000 : Int) < (q : Int) := by omega
  clear h
  go_enter Try.func55, Try.ntmps55
  go_wp2
  go_ret
  exact ⟨rfl, B1.out⟩
set_option maxRecDepth 100000 in
set_option maxHeartbeats 2000000 in
theorem right_any (AG AO : Option Addr) (cG cO : Nat) (C : Cr) (w : World) (h : CS w AG AO C) (hm : C.n ≤ 1000000) (hl : C.o.length ≤ 1000000) :
    Calls Try.prog 55 #[.agg #[.int .i64 C.ins, .slice AG C.n cG, .slice AO C.o.length cO]] w fun e w' => e = .returned (.bool (rt C)) ∧ Below w.heap.size w w' := by
  by_cases hok : 0 ≤ C.ins ∧ C.ins ≤ 1000 ∧ C.n ≤ 20000 ∧ C.o.length ≤ 1000
  · have RG := Lib.hid (fun k hk he => rt_gate (C := C) (k := k) hk he)
    have RO := Lib.hid (fun k hk he => rt_out (C := C) (k := k) hk he)
    have RY := Lib.hid (fun h1 h2 => (rt_iff C).2 ⟨hok, h1, h2⟩)
    obtain ⟨b, hb⟩ : ∃ b, b = rt C := ⟨_, rfl⟩
    rw [← hb] at RG RO RY ⊢
    clear hb
    obtain ⟨HG, HO⟩ := h
    obtain ⟨I, n, g, o⟩ := C
    simp only at *
    obtain ⟨q, hq⟩ : ∃ q, q = o.length := ⟨_, rfl⟩
    rw [← hq] at RO RY HO hok ⊢
    clear hq hl
    obtain ⟨h0, h1, h2, h3⟩ := hok
    obtain ⟨i, rfl⟩ : ∃ i : Nat, I = (i : Int) := ⟨I.toNat, by omega⟩
    have g0 : ¬ ((i : Int) < 0) := by omega
    have g1 : ¬ ((1000 : Int) < (i : Int)) := by omega
    have g2 : ¬ ((20000 : Int) < (n : Int)) := by omega
    have g3 : ¬ ((1000 : Int) < (q : Int)) := by omega
    have B1 := (Below.refl w.heap.size w).alloc (Nat.le_refl _) (.cells #[.int .i64 (i : Int), .slice AG n cG, .slice AO q cO] 34)
    have K1 := Lib.hid (Blk.new w 34 #[.int .i64 (i : Int), .slice AG n cG, .slice AO q cO])
    have HG := Lib.hid (CReads.later HG B1)
    have HO := Lib.hid (Reads.later HO B1)
    have B1 := Lib.hid B1
    go_enter Try.func55, Try.ntmps55
    go_upto_region 1 with (fail)
    generalize w.alloc (.cells #[.int .i64 (i : Int), .slice AG n cG, .slice AO q cO] 34) = w1 at *
    obtain ⟨a0, a1, a2, _, _, _, a6⟩ := K1.out.three6
    go_wp2
    go_loopw [30] (fun iv wr => ∃ j : Nat, j ≤ n ∧ iv = .int .i64 (j : Int) ∧ Hid (∀ k, k < j → rg (g k) ((i : Int) + (k : Int)) = true) ∧ Below w1.heap.size w1 wr) (fun iv _ => n - (intOf iv).toNat)
    case atStart => exact ⟨0, Nat.zero_le _, rfl, Lib.hid (fun k hk => absurd hk (by omega)), Below.refl _ _⟩
    case round =>
      obtain ⟨j, hj, rfl, HJ, hbel⟩ := hrel
      have K2 := K1.out.below hbel a6
      clear a0 a1 a2 a6
      obtain ⟨a0, a1, a2, _, _, _, a6⟩ := K2.three6
      have K2 := Lib.hid K2
      have HG2 := HG.out.below hbel
      by_cases hk : j < n
      · obtain ⟨gg, o1, rfl, hb1, hc1⟩ := HG2 (by omega)
        obtain ⟨c0, c1, c2⟩ := hc1 j hk
        have HB := Lib.hid hbel
        have hgj := Lib.hid (RG.out j hk)
        clear hc1 HG2 hbel
        obtain ⟨⟨op, a, b⟩, hx⟩ : ∃ x, x = g j := ⟨_, rfl⟩
        rw [← hx] at c0 c1 c2 hgj
        have HX := Lib.hid hx
        clear hx
        simp only at c0 c1 c2
        have BY := Lib.hid ((Below.refl wr.heap.size wr).alloc (Nat.le_refl _) (.cells #[.int .i64 op, .int .i64 a, .int .i64 b] 53))
        have CALL := Lib.hid (fun w => rgate_any a b ((i : Int) + (j : Int)) w op)
        obtain ⟨v, hv⟩ : ∃ v, v = rg (op, a, b) ((i : Int) + (j : Int)) := ⟨_, rfl⟩
        rw [← hv] at CALL hgj
        have HV := Lib.hid hv
        clear hv
        have hgw : gg < wr.heap.size := Nat.lt_of_lt_of_le hb1 HB.out.size
        cases v with
        | true =>
          go_wp2_with (go_at_call 78; (with_reducible refine (CALL.out _).mono ?_); rintro e w3 ⟨rfl, hb⟩; have B3 := Lib.hid (BY.out.trans (hb.mono BY.out.size)); clear hb)
          go_roundw
          case rel => exact ⟨j + 1, by omega, by go_num, Lib.hid (fun k hk => by
            by_cases e : k < j
            · exact HJ.out k e
            · obtain rfl : k = j := by omega
              rw [← HX.out]; exact HV.out.symm), HB.out.trans (B3.out.mono HB.out.size)⟩
          case measure => simp [intOf]; omega
        | false =>
          have hbf : b = b := rfl
          go_wp2_with (go_at_call 78; (with_reducible refine (CALL.out _).mono ?_); rintro e w3 ⟨rfl, hb⟩; have B3 := Lib.hid (BY.out.trans (hb.mono BY.out.size)); clear hb)
          go_ret
          exact ⟨ret_bool (hgj.out (by trivial)).symm, B1.out.trans ((HB.out.trans (B3.out.mono HB.out.size)).mono B1.out.size)⟩
      · obtain rfl : j = n := by omega
        have HB := Lib.hid hbel
        clear HG2 hbel
        go_wp2
        go_loopw [46] (fun iv wq => ∃ s : Nat, s ≤ q ∧ iv = .int .i64 (s : Int) ∧ Hid (∀ k, k < s → isw (ig o k) ((i : Int) + (j : Int)) = true) ∧ wq = wr) (fun iv _ => q - (intOf iv).toNat)
        case atStart => exact ⟨0, Nat.zero_le _, rfl, Lib.hid (fun k hk => absurd hk (by omega)), by trivial⟩
        case round =>
          obtain ⟨s, hs, rfl, HS, rfl⟩ := hrel
          by_cases hsq : s < q
          · obtain ⟨ad, rfl, hbo, hc⟩ := il_at (HO.out.below HB.out) hsq
            have hgj := Lib.hid (RO.out s hsq)
            have CALL := Lib.hid (fun w => isWire_any (ig o s) ((i : Int) + (j : Int)) w)
            obtain ⟨v, hv⟩ : ∃ v, v = isw (ig o s) ((i : Int) + (j : Int)) := ⟨_, rfl⟩
            rw [← hv] at CALL hgj
            have HV := Lib.hid hv
            clear hv
            obtain ⟨x, hx⟩ : ∃ x, x = ig o s := ⟨_, rfl⟩
            rw [← hx] at hc CALL HV
            have HX := Lib.hid hx
            clear hx
            cases v with
            | true =>
              go_wp2_with (go_at_call 79; (with_reducible refine (CALL.out _).mono ?_); rintro e w3 ⟨rfl, rfl⟩)
              go_roundw
              case rel => exact ⟨s + 1, by omega, by go_num, Lib.hid (fun k hk => by
                by_cases e : k < s
                · exact HS.out k e
                · obtain rfl : k = s := by omega
                  rw [← HX.out]; exact HV.out.symm), by trivial⟩
              case measure => simp [intOf]; omega
            | false =>
              go_wp2_with (go_at_call 79; (with_reducible refine (CALL.out _).mono ?_); rintro e w3 ⟨rfl, rfl⟩)
              go_ret
              exact ⟨ret_bool (hgj.out (by trivial)).symm, B1.out.trans (HB.out.mono B1.out.size)⟩
          · obtain rfl : s = q := by omega
            have hy := RY.out HJ.out HS.out
            have HY := Lib.hid hy
            clear hy
            go_wp2
            go_ret
            exact ⟨ret_bool HY.out.symm, B1.out.trans (HB.out.mono B1.out.size)⟩
  · rw [rt_no hok]
    exact right_bad AG AO cG cO C w hok hm hl
theorem fits_any (AG AO : Option Addr) (cG cO : Nat) (C : Cr) (k : Int) (w : World) (h : CS w AG AO C) (hm : C.n ≤ 1000000) (hl : C.o.length ≤ 1000000) :
    Calls Try.prog 35 #[.agg #[.int .i64 C.ins, .slice AG C.n cG, .slice AO C.o.length cO], .int .i64 k] w fun e w' => e = .returned (.bool (decide (C.ins = k) && rt C)) ∧ Below w.heap.size w w' := by
  have B1 := Lib.hid ((Below.refl w.heap.size w).alloc (Nat.le_refl _) (.cells #[.int .i64 C.ins, .slice AG C.n cG, .slice AO C.o.length cO] 34))
  have R := Lib.hid (right_any AG AO cG cO C _ (h.later B1.out) hm hl)
  generalize rt C = b at *
  obtain ⟨I, n, g, o⟩ := C
  simp only at *
  generalize o.length = q at *
  by_cases e : I = k
  · subst e
    go_enter Try.func35, Try.ntmps35
    go_wp2_with (go_at_call 55; (with_reducible refine R.out.mono ?_); rintro e w3 ⟨rfl, hb⟩; have B3 := Lib.hid (B1.out.trans (hb.mono B1.out.size)); clear hb)
    go_ret
    exact ⟨ret_bool (by simp), B3.out⟩
  · rw [decide_eq_false e]
    have e' : (I == k) = false := by rw [beq_eq_false_iff_ne]; exact e
    clear e
    go_enter Try.func35, Try.ntmps35
    go_wp2
    go_ret
    exact ⟨rfl, B1.out⟩
end Go.Proofs.Ytpkhioiabahhaaa
