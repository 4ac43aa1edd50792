/- The chapter's examples: the calls of awake. -/
import Derived.Test.YtpkhioiabahhaaaInp
import Derived.Test.YtpkhioiabahhaaaCSam
namespace Go.Proofs.Ytpkhioiabahhaaa
open Go.RowKit

instance (st : Int) (lv : Nat → Int) (i : Nat) (l k : Int) : Decidable (El st lv i l k) := by unfold El; exact inferInstance
instance (st : Int) (n : Nat) (lv : Nat → Int) (i : Nat) (l : Int) (e : List Int) : Decidable (Nd st n lv i l e) := by unfold Nd; exact inferInstance
/-- positions in a list -/
def pf (l : List P2) (k : Nat) : P2 := l.getD k (0, 0)
/-- the rule that keeps the state, the constant 0, and one with three states -/
def keepT : Tr := ⟨2, 1, pf [(0, 0)], 1, fun _ => 1, fun _ => [0, 1]⟩
def zeroT : Tr := ⟨2, 1, pf [(0, 0)], 1, fun _ => 1, fun _ => [0, 0]⟩
def threeT : Tr := ⟨3, 2, pf [(0, 0), (1, 0)], 2, fun k => (k : Int) + 1, fun _ => [0, 0, 0]⟩
theorem keep_rt : Rt keepT := ⟨by decide, by decide, by decide +kernel, by decide, by decide, by decide +kernel, by decide⟩
theorem zero_rt : Rt zeroT := ⟨by decide, by decide, by decide +kernel, by decide, by decide, by decide +kernel, by decide⟩
theorem three_rt : Rt threeT := ⟨by decide, by decide, by decide +kernel, by decide, by decide, by decide +kernel, by decide⟩
theorem keep_rs : crRS keepT 2 = ([[0]], [(2, 0, 0)]) := by decide +kernel
theorem zero_rs : crRS zeroT 2 = ([[2]], [(2, 0, 0), (0, 0, 0)]) := by decide +kernel
section
variable (AH AN : Option Addr) (cH cN : Nat) (w : World)
theorem low_keep (h : TS w AH AN keepT) : Calls Try.prog 10 #[.agg #[.int .i64 2, .slice AH 1 cH, .slice AN 1 cN]] w fun e w' => ∃ A AO c cO, e = .returned (.tuple #[.agg #[.int .i64 1, .slice A 1 c, .slice AO 1 cO], .int .i64 0]) ∧ CS w' A AO (crO keepT 2) ∧ Below w.heap.size w w' := by
  have := lower_ok AH AN cH cN keepT 2 w h keep_rt rfl (by decide) (by decide)
  refine this.mono fun e w' ⟨A, AO, c, cO, he, h1, h2⟩ => ⟨A, AO, c, cO, ?_, h1, h2⟩
  have e1 : (crO keepT 2).n = 1 := by show (crRS keepT 2).2.length = 1; rw [keep_rs]; rfl
  have e2 : (crO keepT 2).o.length = 1 := by show ((crRS keepT 2).1.getD 0 []).length = 1; rw [keep_rs]; rfl
  rw [he, e1, e2]
  rfl
theorem low_zero (h : TS w AH AN zeroT) : Calls Try.prog 10 #[.agg #[.int .i64 2, .slice AH 1 cH, .slice AN 1 cN]] w fun e w' => ∃ A AO c cO, e = .returned (.tuple #[.agg #[.int .i64 1, .slice A 2 c, .slice AO 1 cO], .int .i64 0]) ∧ CS w' A AO (crO zeroT 2) ∧ Below w.heap.size w w' := by
  have := lower_ok AH AN cH cN zeroT 2 w h zero_rt rfl (by decide) (by decide)
  refine this.mono fun e w' ⟨A, AO, c, cO, he, h1, h2⟩ => ⟨A, AO, c, cO, ?_, h1, h2⟩
  have e1 : (crO zeroT 2).n = 2 := by show (crRS zeroT 2).2.length = 2; rw [zero_rs]; rfl
  have e2 : (crO zeroT 2).o.length = 1 := by show ((crRS zeroT 2).1.getD 0 []).length = 1; rw [zero_rs]; rfl
  rw [he, e1, e2]
  rfl
theorem inp_21 (g cI : Nat) (h : TS w AH AN threeT) (hI : Blk w g 3 #[.int .i64 2, .int .i64 1]) : Calls Try.prog 16 #[.agg #[.int .i64 3, .slice AH 2 cH, .slice AN 2 cN], .slice (some ⟨g, 0, none⟩) 2 cI] w fun e w' => ∃ A c, e = .returned (.tuple #[.slice A 4 c, .int .i64 0]) ∧ Reads w' w'.heap.size A 4 (bl [false, true, true, false]) ∧ Below w.heap.size w w' := by
  have hr : Reads w w.heap.size (some ⟨g, 0, none⟩) 2 (il (nl [2, 1])) := Reads.of_blk (xs := il (nl [2, 1])) hI
  have := linp_ok AH AN cH cN threeT 3 w (some ⟨g, 0, none⟩) cI [2, 1] h three_rt rfl rfl (by decide) hr
  have e : bitsl (bs 3) [2, 1] = [false, true, true, false] := by decide
  rw [e] at this
  exact this
theorem inp_31 (g cI : Nat) (h : TS w AH AN threeT) (hI : Blk w g 3 #[.int .i64 3, .int .i64 1]) : Calls Try.prog 16 #[.agg #[.int .i64 3, .slice AH 2 cH, .slice AN 2 cN], .slice (some ⟨g, 0, none⟩) 2 cI] w fun e w' => e = .returned (.tuple #[.slice none 0 0, .int .i64 10]) ∧ Below w.heap.size w w' := by
  have hr : Reads w w.heap.size (some ⟨g, 0, none⟩) 2 (il [3, 1]) := Reads.of_blk (xs := il [3, 1]) hI
  exact linp_err AH AN cH cN threeT w (some ⟨g, 0, none⟩) cI 2 [3, 1] 10 h three_rt hr (by decide) (by decide +kernel) (by decide)
end
theorem poss_0 (w : World) : Calls Try.prog 41 #[.int .i64 0, .slice none 0 0] w fun e w' => e = .returned (.bool false) ∧ w = w' := by
  go_enter Try.func41, Try.ntmps41
  go_wp2
  go_ret
  exact ⟨rfl, rfl⟩
theorem tright_0 (w : World) : Calls Try.prog 23 #[.agg #[.int .i64 0, .slice none 0 0, .slice none 0 0]] w fun e w' => e = .returned (.bool false) ∧ Below w.heap.size w w' := by
  have PO := Lib.hid (fun w' => poss_0 w')
  have B1 := Lib.hid ((Below.refl w.heap.size w).alloc (Nat.le_refl _) (.cells #[.int .i64 0, .slice none 0 0, .slice none 0 0] 25))
  go_enter Try.func23, Try.ntmps23
  go_wp2_with (go_at_call 41; (with_reducible refine (PO.out _).mono ?_); rintro e w1 ⟨rfl, rfl⟩)
  go_ret
  exact ⟨rfl, B1.out⟩
set_option maxRecDepth 100000 in
set_option maxHeartbeats 4000000 in
theorem low_none (w : World) : Calls Try.prog 10 #[.agg #[.int .i64 0, .slice none 0 0, .slice none 0 0]] w fun e w' => e = .returned (.tuple #[.agg #[.int .i64 0, .slice none 0 0, .slice none 0 0], .int .i64 11]) ∧ Below w.heap.size w w' := by
  have RI := Lib.hid (fun w' => tright_0 w')
  have K1 := Blk.new (w.alloc (.cells #[.int .i64 0, .slice none 0 0, .slice none 0 0] 25)) 34 #[.int .i64 0, .slice none 0 0, .slice none 0 0]
  have B2 : Below w.heap.size w ((w.alloc (.cells #[.int .i64 0, .slice none 0 0, .slice none 0 0] 25)).alloc (.cells #[.int .i64 0, .slice none 0 0, .slice none 0 0] 34)) := ((Below.refl _ w).alloc (Nat.le_refl _) _).alloc (by simp) _
  have K0 := (Blk.new w 25 #[.int .i64 0, .slice none 0 0, .slice none 0 0]).alloc (.cells #[.int .i64 0, .slice none 0 0, .slice none 0 0] 34)
  rw [World.size_alloc] at K1
  go_enter Try.func10, Try.ntmps10
  go_upto_region 1 with (fail)
  generalize (w.alloc (.cells #[.int .i64 0, .slice none 0 0, .slice none 0 0] 25)).alloc (.cells #[.int .i64 0, .slice none 0 0, .slice none 0 0] 34) = w2 at K0 K1 B2 ⊢
  obtain ⟨k0, k1, k2, _, _, _, k6⟩ := K0.three6
  have KC := Lib.hid K1
  have BB := Lib.hid B2
  clear K0 K1 B2
  go_upto_region 2 with (go_at_call 23; (with_reducible refine (RI.out _).mono ?_); rintro e w3 ⟨rfl, hb⟩; have B3 := Lib.hid (BB.out.trans (hb.mono BB.out.size)); have K3 := Lib.hid (KC.out.below hb KC.out.lt); clear hb)
  obtain ⟨r0, r1, r2, r3, r4, r5, r6⟩ := K3.out.three6
  clear k0 k1 k2
  go_wp2
  have KZ := K3.out.tri (.int .i64 0) (.slice none 0 0) (.slice none 0 0)
  obtain ⟨z0', z1', z2', _, _, _, _⟩ := KZ.three6
  have BZ := ((B3.out.setCell (p := ⟨w.heap.size + 1, 0, none⟩) (Nat.le_succ _) (.int .i64 0)).setCell (p := ⟨w.heap.size + 1, 1, none⟩) (Nat.le_succ _) (.slice none 0 0)).setCell (p := ⟨w.heap.size + 1, 2, none⟩) (Nat.le_succ _) (.slice none 0 0)
  exact bodyPost_ret (v := .tuple #[.agg #[.int .i64 0, .slice none 0 0, .slice none 0 0], .int .i64 11]) (by simp [results, Try.results10, go_sem, z0', z1', z2']) rfl ⟨rfl, BZ⟩
set_option maxRecDepth 100000 in
set_option maxHeartbeats 4000000 in
/-- two equal lists -/
theorem lbools_yes (B B' n cA cB : Nat) (A A' : Option Addr) (l : List Bool) (w : World) (hn : n ≤ 1000) (h : Reads w B A n (bl l)) (h' : Reads w B' A' n (bl l)) : Calls Try.prog 21 #[.slice A n cA, .slice A' n cB] w fun e w' => e = .returned (.bool true) ∧ Below w.heap.size w w' := by
  have H := Lib.hid h
  have H' := Lib.hid h'
  clear h h'
  go_enter Try.func21, Try.ntmps21
  go_wp2_with fail
  go_loopw [13] (fun iv wr => ∃ j : Nat, j ≤ n ∧ iv = .int .i64 (j : Int) ∧ Hid ((∀ p, wr.cell? p = w.cell? p) ∧ Below w.heap.size w wr)) (fun iv _ => n - (intOf iv).toNat)
  case atStart => exact ⟨0, Nat.zero_le _, rfl, Lib.hid ⟨fun _ => rfl, Below.refl _ _⟩⟩
  case round =>
    obtain ⟨j, hj, rfl, HD⟩ := hrel
    by_cases hk : j < n
    · obtain ⟨ad, rfl, _, c1⟩ := bl_at H.out hk
      obtain ⟨ad', rfl, _, c2⟩ := bl_at H'.out hk
      generalize bg l j = x at c1 c2
      have d1 : wr.cell? (ad.add j) = some (.bool x) := (HD.out.1 _).trans c1
      have d2 : wr.cell? (ad'.add j) = some (.bool x) := (HD.out.1 _).trans c2
      have ex : (x != x) = false := by cases x <;> rfl
      clear c1 c2
      go_wp2_with fail
      go_quiet (fail)
      go_wp2
      go_roundw
      case rel => exact ⟨j + 1, by omega, by go_num, Lib.hid ⟨fun p => (show _ = _ from HD.out.1 p), below_drewN HD.out.2 _⟩⟩
      case measure => simp [intOf]; omega
    · obtain rfl : j = n := by omega
      go_wp2
      go_ret
      exact ⟨rfl, HD.out.2⟩
end Go.Proofs.Ytpkhioiabahhaaa
