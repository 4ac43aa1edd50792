/- The walk of rightRow. -/
import Derived.Test.YtbcihgimflljoaaGreatDoorStat
namespace Go.Proofs.YtbcihgimflljoaaGreatDoor
open Go.RowKit

/-- the elements of a row are states or variables -/
def els (st : Int) (nv : Nat) (l : List Int) : Bool := (List.range l.length).all fun i => decide (-(nv : Int) ≤ ig l i) && decide (ig l i < st)
theorem els_iff (st : Int) (nv : Nat) (l : List Int) : els st nv l = true ↔ ∀ i, i < l.length → -(nv : Int) ≤ ig l i ∧ ig l i < st := by
  simp only [els, List.all_eq_true, List.mem_range, Bool.and_eq_true, decide_eq_true_eq]
/-- a row of a table -/
def rr (n : Nat) (st : Int) (nv : Nat) (l : List Int) (o : Int) : Bool := decide (l.length = n) && els st nv l && (sta st o || decide (o ∈ l))

set_option maxRecDepth 100000 in
set_option maxHeartbeats 2000000 in
theorem rightRow_any (st k : Int) (AH : Option Addr) (n cH : Nat) (AV : Option Addr) (nv cV : Nat) (AR : Option Addr) (nr cR : Nat) (AI : Option Addr) (m cI : Nat) (l : List Int) (o : Int) (w : World)
    (h : Reads w w.heap.size AI m (il l)) (hm : m ≤ 1000) (hn : n ≤ 1000) (hv : nv ≤ 1000) (hs1 : 0 ≤ st) (hs2 : st ≤ 8) :
    Calls Tryz.prog 15 #[.agg #[.int .i64 st, .int .i64 k, .slice AH n cH, .slice AV nv cV, .slice AR nr cR], .agg #[.slice AI m cI, .int .i64 o]] w fun e w' => e = .returned (.bool (rr n st nv l o)) ∧ Below w.heap.size w w' := by
  have HL := Lib.hid (reads_len h)
  have K1 := (Blk.new w 26 #[.int .i64 st, .int .i64 k, .slice AH n cH, .slice AV nv cV, .slice AR nr cR]).alloc (.cells #[.slice AI m cI, .int .i64 o] 40)
  have K2 := Blk.new (w.alloc (.cells #[.int .i64 st, .int .i64 k, .slice AH n cH, .slice AV nv cV, .slice AR nr cR] 26)) 40 #[.slice AI m cI, .int .i64 o]
  rw [show (w.alloc (.cells #[.int .i64 st, .int .i64 k, .slice AH n cH, .slice AV nv cV, .slice AR nr cR] 26)).heap.size = w.heap.size + 1 by simp] at K2
  have B2 : Below w.heap.size w ((w.alloc (.cells #[.int .i64 st, .int .i64 k, .slice AH n cH, .slice AV nv cV, .slice AR nr cR] 26)).alloc (.cells #[.slice AI m cI, .int .i64 o] 40)) := ((Below.refl _ _).alloc (Nat.le_refl _) _).alloc (by simp) _
  by_cases hmn : m = n
  · subst hmn
    have RB := Lib.hid (show rr m st nv l o = (els st nv l && (sta st o || decide (o ∈ l))) by rw [rr, HL.out, decide_eq_true rfl]; simp)
    have IS := Lib.hid (fun w => isState_any st o w)
    have CO := fun w (h : Reads w w.heap.size AI m (il l)) => contains_any AI m cI _ l o w h (by omega)
    generalize hq : sta st o = q at RB IS
    generalize hp : decide (o ∈ l) = p at RB CO
    have CO := Lib.hid CO
    have H := Lib.hid h
    clear h hq hp
    go_enter Tryz.func15, Tryz.ntmps15
    go_wp2_with fail
    generalize (w.alloc (.cells #[.int .i64 st, .int .i64 k, .slice AH m cH, .slice AV nv cV, .slice AR nr cR] 26)).alloc (.cells #[.slice AI m cI, .int .i64 o] 40) = w0 at K1 K2 B2 ⊢
    obtain ⟨a0, a1, a2, a3, a4, a5⟩ := K1.five
    obtain ⟨b0, b1, b2, b3, b4⟩ := K2.two
    have R := H.out.below B2
    have R0 := Lib.hid ((H.out.below B2).more B2.size)
    have B2 := Lib.hid B2
    clear K1 K2
    go_wp2
    go_loop [17] (fun iv => ∃ j : Nat, j ≤ m ∧ iv = .int .i64 (j : Int) ∧ ∀ i, i < j → -(nv : Int) ≤ ig l i ∧ ig l i < st) (fun iv => m - (intOf iv).toNat)
    case atStart => exact ⟨0, Nat.zero_le _, rfl, fun i hi => absurd hi (by omega)⟩
    case round =>
      obtain ⟨j, hj, rfl, hno⟩ := hrel
      have HN := Lib.hid hno
      clear hno
      by_cases hlt : j < m
      · obtain ⟨ad, rfl, hb, hc⟩ := il_at R hlt
        have HF := Lib.hid (show ¬ (-(nv : Int) ≤ ig l j ∧ ig l j < st) → rr m st nv l o = false from fun h => by
          rw [RB.out, show els st nv l = false by rw [← Bool.not_eq_true, els_iff]; exact fun h' => h (h' j (by rw [HL.out]; exact hlt))]
          rfl)
        obtain ⟨x, hx⟩ : ∃ x, x = ig l j := ⟨_, rfl⟩
        rw [← hx] at hc HF
        have HX := Lib.hid hx
        clear hx R
        by_cases h1 : -(nv : Int) ≤ x
        · by_cases h2 : x < st
          · have HQ := Lib.hid (show -(nv : Int) ≤ x ∧ x < st from ⟨h1, h2⟩)
            go_wp2
            go_round
            case rel => exact ⟨j + 1, by omega, by go_num, fun i hi => by
              by_cases e : i < j
              · exact HN.out i e
              · obtain rfl : i = j := by omega
                rw [← HX.out]; exact HQ.out⟩
            case measure => simp [intOf]; omega
          · have HG := Lib.hid (HF.out fun h => h2 h.2)
            have d := decide_eq_false h2
            have d2 : decide (st ≤ x) = true := by rw [decide_eq_true_iff]; omega
            go_wp2
            go_ret
            exact ⟨ret_bool HG.out.symm, B2.out⟩
        · have HG := Lib.hid (HF.out fun h => h1 h.1)
          have d2 : decide (x < -(nv : Int)) = true := by rw [decide_eq_true_iff]; omega
          go_wp2
          go_ret
          exact ⟨ret_bool HG.out.symm, B2.out⟩
      · obtain rfl : j = m := by omega
        have HG := Lib.hid (show rr j st nv l o = (q || p) by rw [RB.out, show els st nv l = true by rw [els_iff, HL.out]; exact HN.out]; rfl)
        have CW := Lib.hid (CO.out w0 R0.out)
        clear R
        cases q with
        | true =>
          go_wp2_with (go_at_call 33; (with_reducible refine (IS.out _).mono ?_); rintro e w' ⟨rfl, rfl⟩)
          go_ret
          exact ⟨ret_bool HG.out.symm, B2.out⟩
        | false =>
          go_wp2_with (first
            | (go_at_call 33; (with_reducible refine (IS.out _).mono ?_); rintro e w' ⟨rfl, rfl⟩)
            | (go_at_call 32; (with_reducible refine CW.out.mono ?_); rintro e w' ⟨rfl, rfl⟩))
          go_ret
          exact ⟨ret_bool HG.out.symm, B2.out⟩
  · have HF := Lib.hid (show rr n st nv l o = false by rw [rr, HL.out, decide_eq_false hmn]; rfl)
    have e1 : ((m : Int) != (n : Int)) = true := by rw [bne_iff_ne]; omega
    clear h
    go_enter Tryz.func15, Tryz.ntmps15
    go_wp2_with fail
    generalize (w.alloc (.cells #[.int .i64 st, .int .i64 k, .slice AH n cH, .slice AV nv cV, .slice AR nr cR] 26)).alloc (.cells #[.slice AI m cI, .int .i64 o] 40) = w0 at K1 K2 B2 ⊢
    obtain ⟨a0, a1, a2, a3, a4, a5⟩ := K1.five
    obtain ⟨b0, b1, b2, b3, b4⟩ := K2.two
    have B2 := Lib.hid B2
    clear K1 K2
    go_wp2
    go_ret
    exact ⟨ret_bool HF.out.symm, B2.out⟩
end Go.Proofs.YtbcihgimflljoaaGreatDoor
