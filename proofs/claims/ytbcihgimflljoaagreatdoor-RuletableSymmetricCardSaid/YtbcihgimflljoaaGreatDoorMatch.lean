/- The walk of Match at a valid table, and the two tables of the examples. -/
import Derived.Test.YtbcihgimflljoaaGreatDoorAns
import Derived.Test.YtbcihgimflljoaaGreatDoorFew
import Derived.Test.YtbcihgimflljoaaGreatDoorUsual
namespace Go.Proofs.YtbcihgimflljoaaGreatDoor
open Go.RowKit

set_option maxRecDepth 100000 in
set_option maxHeartbeats 4000000 in
theorem match_any (AH : Option Addr) (cH : Nat) (AV : Option Addr) (cV : Nat) (AR : Option Addr) (cR : Nat) (T : Tab) (AI : Option Addr) (cI k : Nat) (l : List Int) (w : World) (hM : Mat w) (h : TR w AH AV AR T) (hb : Bd T) (ht : Rt T) (hI : Reads w w.heap.size AI T.n (il l)) (hcI : T.n ≤ cI) (hst : als T.st l = true) (hk : k < T.nr) :
    Calls Tryz.prog 18 #[.agg #[.int .i64 T.st, .int .i64 T.sy, .slice AH T.n cH, .slice AV T.nv cV, .slice AR T.nr cR], .int .i64 (k : Int), .slice AI T.n cI] w fun e w' => AnsOut (av T l (T.ri k) (T.ro k)) w e w' := by
  have hli := reads_len hI
  have RT := Lib.hid (fun w' (hb' : Below w.heap.size w w') => rt_any AH cH AV cV AR cR T w' (hM.below hb' hM.1) (h.later hb') hb)
  rw [(rt_iff T).2 ht] at RT
  have AL := Lib.hid (fun w' (hb' : Below w.heap.size w w') => allStates_any AI T.n cI w'.heap.size l w' T.st ((hI.below hb').more hb'.size) (by have := hb.1; omega))
  rw [hst] at AL
  have AS := Lib.hid (fun w' (hb' : Below w.heap.size w w') => ask_any AH cH AV cV AR cR T AI cI l w' (hM.below hb' hM.1) (h.later hb') ht.hd ((hI.below hb').more hb'.size) hcI ht.keeps)
  have RW := rw_of (ht.rs k hk)
  obtain ⟨g1, o1, hAR, hg1, hc⟩ := h.2.2 (by omega)
  obtain ⟨A', c', hc1, hr1, hc2⟩ := hc k hk
  rw [RW.len] at hc1 hr1
  have AN := Lib.hid (fun w' g (hb' : Below w.heap.size w w') (hq : QR w' g T l (px T.f T.n (0, 0)) (nwv T.sy) (fun k => vw T.f T.n l k T.n)) => answer_any g T l A' c' (T.ri k) (T.ro k) w' hq ht ((hr1.below hb').more hb'.size) (ht.rs k hk) hli hst)
  subst hAR
  have HC1 := Lib.hid hc1
  have HC2 := Lib.hid hc2
  have hnr := hb.2.2.1
  have K0 := Blk.new w 26 #[.int .i64 T.st, .int .i64 T.sy, .slice AH T.n cH, .slice AV T.nv cV, .slice (some ⟨g1, o1, none⟩) T.nr cR]
  have B0 := (Below.refl w.heap.size w).alloc (Nat.le_refl _) (.cells #[.int .i64 T.st, .int .i64 T.sy, .slice AH T.n cH, .slice AV T.nv cV, .slice (some ⟨g1, o1, none⟩) T.nr cR] 26)
  generalize av T l (T.ri k) (T.ro k) = p at AN ⊢
  have hnn : ((T.n : Int) != (T.n : Int)) = false := by rw [bne_eq_false_iff_eq]
  have d1 : decide ((k : Int) < 0) = false := by rw [decide_eq_false_iff_not]; omega
  have d2 : decide (T.nr ≤ k) = false := by rw [decide_eq_false_iff_not]; omega
  generalize T.ro k = o at HC2 AN
  clear h hb ht hI hst hM hli hc hc1 hc2 hr1 RW
  go_enter Tryz.func18, Tryz.ntmps18
  go_upto_region 1 with (fail)
  generalize w.alloc (.cells #[.int .i64 T.st, .int .i64 T.sy, .slice AH T.n cH, .slice AV T.nv cV, .slice (some ⟨g1, o1, none⟩) T.nr cR] 26) = w0 at K0 B0 ⊢
  obtain ⟨t0, t1, t2, t3, t4, t5⟩ := K0.five
  have K0 := Lib.hid K0
  have B0 := Lib.hid B0
  go_wp2_with (first
    | (go_at_call 13; (with_reducible refine (AL.out _ B0.out).mono ?_); rintro e w2 ⟨rfl, rfl⟩)
    | (go_at_call 5; (with_reducible refine (RT.out _ B0.out).mono ?_); rintro e w1 ⟨rfl, hb⟩; have B1 := Lib.hid (B0.out.trans (hb.mono B0.out.size)); have K1 := Lib.hid (K0.out.below hb K0.out.lt); clear hb))
  clear t0 t1 t2 t3 t4 t5
  obtain ⟨t0, t1, t2, t3, t4, t5⟩ := K1.out.five
  have hs1 := B1.out.size
  have r1 : w1.cell? ⟨g1, o1 + k * 2, none⟩ = some (.slice A' T.n c') := (B1.out.cell hg1).trans HC1.out
  have r2 : w1.cell? ⟨g1, o1 + k * 2 + 1, none⟩ = some (.int .i64 o) := (B1.out.cell hg1).trans HC2.out
  have KP := Lib.hid (show ∀ w', Below w1.heap.size w1 w' → (w'.cell? ⟨w.heap.size, 0, none⟩ = some (.int .i64 T.st) ∧ w'.cell? ⟨w.heap.size, 1, none⟩ = some (.int .i64 T.sy) ∧ w'.cell? ⟨w.heap.size, 2, none⟩ = some (.slice AH T.n cH) ∧ w'.cell? ⟨w.heap.size, 3, none⟩ = some (.slice AV T.nv cV) ∧ w'.cell? ⟨w.heap.size, 4, none⟩ = some (.slice (some ⟨g1, o1, none⟩) T.nr cR)) ∧ w'.cell? ⟨g1, o1 + k * 2, none⟩ = some (.slice A' T.n c') ∧ w'.cell? ⟨g1, o1 + k * 2 + 1, none⟩ = some (.int .i64 o) from fun w' hb => by
    have hk := (K1.out.below hb K1.out.lt).five
    exact ⟨⟨hk.1, hk.2.1, hk.2.2.1, hk.2.2.2.1, hk.2.2.2.2.1⟩, (hb.cell (Nat.lt_of_lt_of_le hg1 hs1)).trans r1, (hb.cell (Nat.lt_of_lt_of_le hg1 hs1)).trans r2⟩)
  have AS2 := Lib.hid (fun w' (hb : Below w1.heap.size w1 w') => (AS.out w' (B1.out.trans (hb.mono hs1))).mono (R' := fun e w'' => ∃ g, e = .returned (.pointer (some ⟨g, 0, none⟩)) ∧ QR w'' g T l (px T.f T.n (0, 0)) (nwv T.sy) (fun k => vw T.f T.n l k T.n) ∧ Below w1.heap.size w1 w'') fun e w'' ⟨g, he, hq, hb2⟩ => ⟨g, he, hq, hb.trans (hb2.mono hb.size)⟩)
  have AN2 := Lib.hid (fun w' g (hb : Below w1.heap.size w1 w') hq => (AN.out w' g (B1.out.trans (hb.mono hs1)) hq).mono (R' := fun e w'' => e = .returned (.tuple #[.int .i64 p.1, .bool p.2]) ∧ Below w1.heap.size w1 w'') fun e w'' ⟨he, hb2⟩ => ⟨he, hb.trans (hb2.mono hb.size)⟩)
  have hk0 : (0 : Int) ≤ (k : Int) := Int.natCast_nonneg _
  have hk1 : (k : Int) < (T.nr : Int) := by omega
  go_region_held3 (fun w' => w'.cell? ⟨w.heap.size, 0, none⟩ = some (.int .i64 T.st) ∧ w'.cell? ⟨w.heap.size, 1, none⟩ = some (.int .i64 T.sy) ∧ w'.cell? ⟨w.heap.size, 2, none⟩ = some (.slice AH T.n cH) ∧ w'.cell? ⟨w.heap.size, 3, none⟩ = some (.slice AV T.nv cV) ∧ w'.cell? ⟨w.heap.size, 4, none⟩ = some (.slice (some ⟨g1, o1, none⟩) T.nr cR) ∧ w'.cell? ⟨g1, o1 + k * 2, none⟩ = some (.slice A' T.n c') ∧ w'.cell? ⟨g1, o1 + k * 2 + 1, none⟩ = some (.int .i64 o))
    (first | (refine (fun h => ⟨h.1.1, h.1.2.1, h.1.2.2.1, h.1.2.2.2.1, h.1.2.2.2.2, h.2.1, h.2.2⟩) (KP.out _ ?_); (with_reducible (repeat (first | assumption | exact Below.refl _ _ | refine Below.drew' ?_ | refine Below.alloc' ?_ _))); done) | go_keep)
    (first
      | (go_at_call 22; (with_reducible refine (AS2.out _ ?_).mono ?_); (with_reducible (repeat (first | assumption | exact Below.refl _ _ | refine Below.drew' ?_ | refine Below.alloc' ?_ _))); rintro e wa ⟨g, rfl, hq, ha⟩)
      | (go_at_call 23; (with_reducible refine (AN2.out _ g ha hq).mono ?_); rintro e wb ⟨rfl, hb2⟩))
  all_goals go_wp2
  all_goals go_ret2
  all_goals exact ⟨rfl, B1.out.trans (hb2.mono hs1)⟩
end Go.Proofs.YtbcihgimflljoaaGreatDoor
