/- The walk of the law where it answers by the examples alone. -/
import Derived.Test.YtbcihgimflljoaaGreatDoorSym
import Derived.Test.YtbcihgimflljoaaGreatDoorFew
import Derived.Test.YtbcihgimflljoaaGreatDoorCen
import Derived.Laws.CopyOwn
namespace Go.Proofs.YtbcihgimflljoaaGreatDoor
open Go.RowKit

theorem Reads.of_blk {w : World} {g : Nat} {t : TypeId} {xs : List Value} (h : Blk w g t xs.toArray) : Reads w w.heap.size (some ⟨g, 0, none⟩) xs.length xs := by
  refine ⟨rfl, fun _ => ⟨_, rfl, h.lt, fun j u hu => ?_⟩⟩
  rw [show (⟨g, 0, none⟩ : Addr).add j = ⟨g, j, none⟩ by unfold Addr.add; split <;> simp_all, h.cell]
  simpa using hu
/-- the examples hold in every later world -/
def Aw (w : World) : Prop := ∀ w', Below w.heap.size w w' → Calls Tryz.prog 6 #[] w' fun e w'' => e = .returned (.bool true) ∧ Below w'.heap.size w' w''
/-- the arguments are no greater than memory -/
def Fits (T : Tab) : Prop := T.n < 9223372036854775808 ∧ T.nv < 9223372036854775808 ∧ T.nr < 9223372036854775808 ∧ (∀ k, k < T.nv → (T.v k).length < 9223372036854775808) ∧ ∀ k, k < T.nr → (T.ri k).length < 9223372036854775808

section
variable (AH : Option Addr) (cH : Nat) (AV : Option Addr) (cV : Nat) (AR : Option Addr) (cR : Nat) (T : Tab) (AI : Option Addr) (m cI : Nat) (l : List Int) (kv : Int) (w : World)
set_option maxRecDepth 100000 in
set_option maxHeartbeats 4000000 in
theorem law_no (hM : Mat w) (h : TR w AH AV AR T) (hI : Reads w w.heap.size AI m (il l)) (hf : Fits T) (hm : m < 9223372036854775808) (hAw : Aw w) (hno : ¬ (Sm T ∧ Rt T ∧ m = T.n ∧ T.sy ≠ 0 ∧ als T.st l = true)) :
    Calls Tryz.prog 3 #[.agg #[.int .i64 T.st, .int .i64 T.sy, .slice AH T.n cH, .slice AV T.nv cV, .slice AR T.nr cR], .slice AI m cI, .int .u8 kv] w fun e w' => e = .returned (.bool true) ∧ Below w.heap.size w w' := by
  have FW := Lib.hid (fun w' (hb : Below w.heap.size w w') => few_any AH cH AV cV AR cR T w' (h.later hb) hf.1 hf.2.1 hf.2.2.1 hf.2.2.2.1 hf.2.2.2.2)
  have RT := Lib.hid (fun w' (hb : Below w.heap.size w w') (hs : Sm T) => rt_any AH cH AV cV AR cR T w' (hM.below hb hM.1) (h.later hb) hs.bd)
  have NS := Lib.hid (fun w' (hb : Below w.heap.size w w') (hs : Sm T) (ht : Rt T) (e : m = T.n) (ha : als T.st l = false) => next_state AH cH AV cV AR cR T AI cI l w' (hM.below hb hM.1) (h.later hb) hs.bd ht (by rw [← e]; exact (hI.below hb).more hb.size) ha)
  have AW := Lib.hid (fun w' hb => hAw w' hb)
  have K0 := Blk.new w 26 #[.int .i64 T.st, .int .i64 T.sy, .slice AH T.n cH, .slice AV T.nv cV, .slice AR T.nr cR]
  have B0 := (Below.refl w.heap.size w).alloc (Nat.le_refl _) (.cells #[.int .i64 T.st, .int .i64 T.sy, .slice AH T.n cH, .slice AV T.nv cV, .slice AR T.nr cR] 26)
  have HNO := Lib.hid hno
  have hfn := hf.1
  clear h hI hM hAw hno hf
  go_enter Tryz.func3, Tryz.ntmps3
  go_upto_region 1 with (fail)
  generalize w.alloc (.cells #[.int .i64 T.st, .int .i64 T.sy, .slice AH T.n cH, .slice AV T.nv cV, .slice AR T.nr cR] 26) = w0 at K0 B0 ⊢
  obtain ⟨t0, t1, t2, t3, t4, t5⟩ := K0.five
  have K0 := Lib.hid K0
  have B0 := Lib.hid B0
  go_wp2_with fail
  go_at_call 4
  refine (FW.out _ B0.out).mono ?_
  rintro e w1 ⟨q, rfl, hq, hb⟩
  have B1 := Lib.hid (B0.out.trans (hb.mono B0.out.size))
  have K1 := Lib.hid (K0.out.below hb K0.out.lt)
  clear hb t0 t1 t2 t3 t4 t5
  obtain ⟨t0, t1, t2, t3, t4, t5⟩ := K1.out.five
  cases q with
  | false =>
    go_wp2_with (go_at_call 6; (with_reducible refine (AW.out _ B1.out).mono ?_); rintro e w2 ⟨rfl, hb⟩; have B2 := Lib.hid (B1.out.trans (hb.mono B1.out.size)); clear hb)
    go_ret
    exact ⟨rfl, B2.out⟩
  | true =>
    have hs := hq rfl
    have R1 := RT.out w1 B1.out hs
    clear hq
    cases hrt : rt T with
    | false =>
      rw [hrt] at R1
      have R1H := Lib.hid R1
      clear R1 hrt hs
      go_wp2_with (first
        | (go_at_call 5; (with_reducible refine R1H.out.mono ?_); rintro e w2 ⟨rfl, hb⟩; have B2 := Lib.hid (B1.out.trans (hb.mono B1.out.size)); clear hb)
        | (go_at_call 6; (with_reducible refine (AW.out _ B2.out).mono ?_); rintro e w3 ⟨rfl, hb⟩; have B3 := Lib.hid (B2.out.trans (hb.mono B2.out.size)); clear hb))
      go_ret
      exact ⟨rfl, B3.out⟩
    | true =>
      have ht := (rt_iff T).1 hrt
      rw [hrt] at R1
      have R1H := Lib.hid R1
      clear R1 hrt
      by_cases hmn : m = T.n
      · by_cases h0 : T.sy = 0
        · have e1 : ((m : Int) != (T.n : Int)) = false := by rw [bne_eq_false_iff_eq]; omega
          have R1Z := R1H.out
          rw [h0] at t1 R1Z
          have R1Y := Lib.hid R1Z
          clear R1Z
          have K1S := Lib.hid (fun w' (hb : Below w1.heap.size w1 w') => by have := (K1.out.below hb K1.out.lt).five; rw [h0] at this; exact this)
          clear hmn h0 hs ht
          go_wp2_with (first
            | (go_at_call 5; (with_reducible refine R1Y.out.mono ?_); rintro e w2 ⟨rfl, hb⟩; have B2 := Lib.hid (B1.out.trans (hb.mono B1.out.size)); obtain ⟨u0, u1, u2, u3, u4, u5⟩ := K1S.out _ hb; clear hb)
            | (go_at_call 6; (with_reducible refine (AW.out _ B2.out).mono ?_); rintro e w3 ⟨rfl, hb⟩; have B3 := Lib.hid (B2.out.trans (hb.mono B2.out.size)); clear hb))
          go_ret
          exact ⟨rfl, B3.out⟩
        · have ha : als T.st l = false := by
            rw [← Bool.not_eq_true]
            exact fun ha => HNO.out ⟨hs, ht, hmn, h0, ha⟩
          have NX := Lib.hid (fun w' hb => NS.out w' hb hs ht hmn ha)
          have e2 : (T.sy == 0) = false := by rw [beq_eq_false_iff_ne]; exact h0
          have hnn : ((T.n : Int) != (T.n : Int)) = false := by rw [bne_eq_false_iff_eq]
          clear h0 hs ht ha
          subst hmn
          go_wp2_with (first
            | (go_at_call 5; (with_reducible refine R1H.out.mono ?_); rintro e w2 ⟨rfl, hb⟩; have B2 := Lib.hid (B1.out.trans (hb.mono B1.out.size)); obtain ⟨u0, u1, u2, u3, u4, u5⟩ := (K1.out.below hb K1.out.lt).five; clear hb)
            | (go_at_call 7; (with_reducible refine (NX.out _ B2.out).mono ?_); rintro e w3 ⟨rfl, hb⟩; have B3 := Lib.hid (B2.out.trans (hb.mono B2.out.size)); clear hb)
            | (go_at_call 6; (with_reducible refine (AW.out _ B3.out).mono ?_); rintro e w4 ⟨rfl, hb⟩; have B4 := Lib.hid (B3.out.trans (hb.mono B3.out.size)); clear hb))
          go_ret
          exact ⟨rfl, B4.out⟩
      · have e1 : ((m : Int) != (T.n : Int)) = true := by rw [bne_iff_ne]; omega
        clear hmn hs ht
        go_wp2_with (first
          | (go_at_call 5; (with_reducible refine R1H.out.mono ?_); rintro e w2 ⟨rfl, hb⟩; have B2 := Lib.hid (B1.out.trans (hb.mono B1.out.size)); obtain ⟨u0, u1, u2, u3, u4, u5⟩ := (K1.out.below hb K1.out.lt).five; clear hb)
          | (go_at_call 6; (with_reducible refine (AW.out _ B2.out).mono ?_); rintro e w3 ⟨rfl, hb⟩; have B3 := Lib.hid (B2.out.trans (hb.mono B2.out.size)); clear hb))
        go_ret
        exact ⟨rfl, B3.out⟩
end
end Go.Proofs.YtbcihgimflljoaaGreatDoor
