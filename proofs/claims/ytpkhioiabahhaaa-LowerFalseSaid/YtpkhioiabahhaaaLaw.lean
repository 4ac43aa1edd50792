/- The walk of the law. -/
import Derived.Test.YtpkhioiabahhaaaAwk
import Derived.Test.YtpkhioiabahhaaaTRr
import Derived.Test.YtpkhioiabahhaaaTFew
namespace Go.Proofs.Ytpkhioiabahhaaa
open Go.RowKit

/-- numbers that fit -/
def Fits (T : Tr) : Prop := T.n < 9223372036854775808 ∧ T.m < 9223372036854775808 ∧ ∀ k, k < T.m → (T.nx k).length < 9223372036854775808
set_option maxRecDepth 100000 in
set_option maxHeartbeats 4000000 in
theorem few18_any (AH AN : Option Addr) (cH cN : Nat) (T : Tr) (w : World) (h : TS w AH AN T) (hf : Fits T) :
    Calls Try.prog 5 #[.agg #[.int .i64 T.st, .slice AH T.n cH, .slice AN T.m cN]] w fun e w' => BoolThat (Sm T ∧ T.m ≤ 60) w e w' := by
  have FW := Lib.hid (fun w' (hb : Below w.heap.size w w') => few_any AH cH AN cN T w' (h.later hb) hf.1 hf.2.1 hf.2.2)
  have h63 := hf.2.1
  clear h hf
  generalize Sm T = SMT at *
  obtain ⟨st, n, f, m, lv, nx⟩ := T
  simp only at *
  have K0 := Blk.new w 25 #[.int .i64 st, .slice AH n cH, .slice AN m cN]
  have B0 : Below w.heap.size w (w.alloc (.cells #[.int .i64 st, .slice AH n cH, .slice AN m cN] 25)) := (Below.refl _ _).alloc (Nat.le_refl _) _
  go_enter Try.func5, Try.ntmps5
  go_upto_region 1 with (fail)
  generalize w.alloc (.cells #[.int .i64 st, .slice AH n cH, .slice AN m cN] 25) = w0 at *
  obtain ⟨t0, t1, t2, _, _, _, t3⟩ := K0.three6
  have K0 := Lib.hid K0
  have B0 := Lib.hid B0
  go_wp2_with fail
  go_at_call 13
  refine (FW.out _ B0.out).mono ?_
  rintro e w1 ⟨b, rfl, hq1, hb⟩
  have B1 := Lib.hid (B0.out.trans (hb.mono B0.out.size))
  have K1 := Lib.hid (K0.out.below hb K0.out.lt)
  have HQ := Lib.hid hq1
  clear hb t0 t1 t2 t3 hq1
  obtain ⟨t0, t1, t2, _, _, _, t3⟩ := K1.out.three6
  cases b with
  | false =>
    go_wp2
    go_ret
    exact ⟨false, rfl, fun h => absurd h (by decide), B1.out⟩
  | true =>
    by_cases hm : m ≤ 60
    · have hm' : (m : Int) ≤ 60 := by omega
      go_wp2
      go_ret
      exact ⟨_, rfl, fun _ => ⟨HQ.out (by trivial), hm⟩, B1.out⟩
    · have hm' : ¬ (m : Int) ≤ 60 := by omega
      go_wp2
      go_ret
      exact ⟨false, ret_bool (by simp; omega), fun h => absurd h (by decide), B1.out⟩
/-- a position ahead of i has no state -/
def wrongF (l : List Bool) (b st i : Nat) : Bool := (List.range i).any fun p => decide (st ≤ nmv ((l.drop (p * b)).take b))
/-- what the law wants of a rule -/
def Wants (T : Tr) (AH AN : Option Addr) (cH cN nL : Nat) (l : List Bool) (w : World) (st b : Nat) : Prop := T.st = (st : Int) ∧ bs st = b ∧ 2 ≤ st ∧ st ≤ 8 ∧ 1 ≤ b ∧ b ≤ 3 ∧ 1 ≤ T.n ∧ T.n ≤ 40 ∧ (nL = T.n * b → ∃ C : Cr, rt C = true ∧ C.ins = (nL : Int) ∧ C.o.length = b ∧
    (∀ w', Below w.heap.size w w' → Calls Try.prog 10 #[.agg #[.int .i64 T.st, .slice AH T.n cH, .slice AN T.m cN]] w' fun e w'' => LowOut C w' e w'') ∧ (wrongF l b st T.n = true → bo17 (bvn C.g l C.n) C.o = List.replicate b false))
theorem wants_any (AH AN : Option Addr) (cH cN nL : Nat) (T : Tr) (l : List Bool) (w : World) (h : TS w AH AN T) (hl : l.length = nL) (hs : Sm T ∧ T.m ≤ 60) (ht : Rt T) : ∃ st b, Wants T AH AN cH cN nL l w st b := by
  have s1 := ht.s1
  have s2 := ht.s2
  obtain ⟨st, hst⟩ : ∃ st : Nat, T.st = (st : Int) := ⟨T.st.toNat, by omega⟩
  have hb3 : bs st ≤ 3 := by unfold bs; split <;> (try split) <;> omega
  have hb1 : 1 ≤ bs st := by unfold bs; split <;> (try split) <;> omega
  have n1 : 1 ≤ T.n := by
    have m1 := ht.m1
    obtain ⟨q1, q2, _, _⟩ := ht.nd 0 (by omega)
    omega
  refine ⟨st, bs st, hst, rfl, by omega, by omega, hb1, hb3, n1, hs.1.1, fun hn => ?_⟩
  obtain ⟨r1, r2⟩ := crO_sem ht hst hs.1.1 hs.2 l (by rw [hl]; exact hn)
  refine ⟨crO T st, r1, by rw [hn]; rfl, crO_outs ht st, fun w' hb => lower_ok AH AN cH cN T st w' (h.later hb) ht hst hs.1.1 hs.2, fun hw => ?_⟩
  rw [r2]
  rw [wrongF, List.any_eq_true] at hw
  obtain ⟨i, hi, hw⟩ := hw
  rw [List.mem_range] at hi
  refine crO_wrong ht hst l i hi fun s hs' => te_wrong l st i (by omega) (by omega) ?_ (by simpa using hw) s hs'
  rw [hl, hn, ← Nat.succ_mul]
  exact Nat.mul_le_mul_right _ hi
end Go.Proofs.Ytpkhioiabahhaaa
