/- The walk of Next on valid rules, at the states 0, 1 and 2. -/
/- Plain mathematics: the numbers of a strictly ascending list lie in its bounds. -/
/- The walk of Text on rules of two states. -/
/- The walks of both Index functions on positions, and of both Centre functions. -/
/- The closures of totaltree.Totals at a valid rule of two states. -/
import Derived.Test.YtjekpmkghpjamaaGreatDoorMbc
import Derived.Test.YtjekpmkghpjamaaGreatDoorMbb
import Derived.Test.YtjekpmkghpjamaaGreatDoorMab
import Derived.Test.YtjekpmkghpjamaaGreatDoorMaa
import Derived.Below
import Derived.BigQuiet
import Derived.Deep.AppendLies
import Derived.Deep.CutRange
import Derived.Deep.Draws
import Derived.Deep.QuietTactic
import Derived.IntWalk
import Derived.Laws.OwnMore
import Derived.Laws.Rows
import Derived.Lib.Hide
import Derived.Lib.Strings
import Derived.LoopN
import Derived.OwnWalk
import Derived.Shelf.Abstract
import Derived.Sort.Statements
import Derived.StillTail
import Derived.StillTailTactics
import Derived.Test.YtjekpmkghpjamaaGreatDoorRows
import Derived.WalkKit
import Derived.Deep.DrawnRows
import Derived.Deep.RegionHeld3
import Derived.Lib.SliceRun
import Derived.Test.YtjekpmkghpjamaaGreatDoorMaw
import Derived.Test.YtjekpmkghpjamaaGreatDoorMau
import Derived.Test.YtjekpmkghpjamaaGreatDoorMav
import Derived.Test.YtjekpmkghpjamaaGreatDoorMak
import Derived.Test.YtjekpmkghpjamaaGreatDoorMap
import Derived.Test.YtjekpmkghpjamaaGreatDoorMbq
namespace Go.Proofs.YtjekpmkghpjamaaGreatDoor
open Go.RowKit
/-- the new states of the state 0, and of the state 1 -/
def nx0 (n : Nat) (b : List Int) (k : Int) : Int := if 0 ≤ k ∧ k < (n : Int) ∧ k ∈ b then 1 else 0
def nx1 (n : Nat) (l : List Int) (s k : Int) : Int := if 0 ≤ k ∧ k < (n : Int) then (if k ∈ l then 1 else 2 % s) else 0
theorem rt_st {f : Nat → P2} {n : Nat} {s : Int} {b l : List Int} (h : rt f n s b l = true) : 2 ≤ s ∧ s ≤ 8 := by
  simp only [rt, Bool.and_eq_true, decide_eq_true_eq] at h
  exact ⟨h.2.1, h.2.2.1⟩
section
variable (A : Option Addr) (n c : Nat) (f : Nat → P2) (s : Int) (Ab : Option Addr) (nb cb : Nat) (b : List Int) (As : Option Addr) (ns cs : Nat) (l : List Int)
set_option maxRecDepth 100000 in
set_option maxHeartbeats 2000000 in
theorem next0_any (k : Int) (w : World) (h : TR w A n f Ab nb b As ns l) (hn : n ≤ 1000) (hnb : nb ≤ 1000) (hns : ns ≤ 1000) (hq : rt f n s b l = true) :
    Calls Tryz.prog 68 #[.agg #[.slice A n c, .int .i64 s, .slice Ab nb cb, .slice As ns cs], .int .i64 0, .int .i64 k] w fun e w' => e = .returned (.int .i64 (nx0 n b k)) ∧ Below w.heap.size w w' := by
  obtain ⟨s2, s8⟩ := rt_st hq
  have RI := fun w' (hb : Below w.heap.size w w') => right_any A n c f s Ab nb cb b As ns cs l w' (h.later hb) hn hnb hns
  rw [hq] at RI
  have CO := fun w' (hb : Below w.heap.size w w') => contains_any Ab nb cb _ b k w' (h.later hb).2.1 (by omega)
  have K := Lib.hid (Blk.new w 44 #[.slice A n c, .int .i64 s, .slice Ab nb cb, .slice As ns cs])
  have B0 := Lib.hid ((Below.refl w.heap.size w).alloc (Nat.le_refl _) (.cells #[.slice A n c, .int .i64 s, .slice Ab nb cb, .slice As ns cs] 44))
  have hst : ¬ s ≤ 0 := by omega
  clear h hq
  have zz := Lib.hid RI
  (try clear RI)
  have RI := zz
  clear zz
  by_cases h1 : k < 0
  · have e1 : nx0 n b k = 0 := if_neg (by omega)
    rw [e1]
    clear CO
    go_enter Tryz.func68, Tryz.ntmps68
    go_wp2_with (first
      | (go_at_call 37; (with_reducible refine (RI.out _ B0.out).mono ?_); rintro e w1 ⟨rfl, hb⟩; have B1 := Lib.hid (B0.out.trans (hb.mono B0.out.size)); obtain ⟨k0, k1, k2, k3, k4⟩ := (K.out.below hb K.out.lt).four; clear hb)
      | (go_at_call 120; (with_reducible refine (CO.out _ B1.out).mono ?_); rintro e w2 ⟨rfl, rfl⟩))
    go_ret
    exact ⟨rfl, B1.out⟩
  · by_cases h2 : (n : Int) ≤ k
    · have e1 : nx0 n b k = 0 := if_neg (by omega)
      rw [e1]
      clear CO
      go_enter Tryz.func68, Tryz.ntmps68
      go_wp2_with (first
        | (go_at_call 37; (with_reducible refine (RI.out _ B0.out).mono ?_); rintro e w1 ⟨rfl, hb⟩; have B1 := Lib.hid (B0.out.trans (hb.mono B0.out.size)); obtain ⟨k0, k1, k2, k3, k4⟩ := (K.out.below hb K.out.lt).four; clear hb)
        | (go_at_call 120; (with_reducible refine (CO.out _ B1.out).mono ?_); rintro e w2 ⟨rfl, rfl⟩))
      go_ret
      exact ⟨rfl, B1.out⟩
    · have e1 : nx0 n b k = if decide (k ∈ b) = true then 1 else 0 := by
        unfold nx0
        by_cases hk : k ∈ b
        · rw [if_pos ⟨by omega, by omega, hk⟩, if_pos (by simpa using hk)]
        · rw [if_neg (fun h => hk h.2.2), if_neg (by simpa using hk)]
      rw [e1]
      generalize decide (k ∈ b) = q at CO
      have zz := Lib.hid CO
      (try clear CO)
      have CO := zz
      clear zz
      cases q
      · rw [if_neg (by decide)]
        go_enter Tryz.func68, Tryz.ntmps68
        go_wp2_with (first
          | (go_at_call 37; (with_reducible refine (RI.out _ B0.out).mono ?_); rintro e w1 ⟨rfl, hb⟩; have B1 := Lib.hid (B0.out.trans (hb.mono B0.out.size)); obtain ⟨k0, k1, k2, k3, k4⟩ := (K.out.below hb K.out.lt).four; clear hb)
          | (go_at_call 120; (with_reducible refine (CO.out _ B1.out).mono ?_); rintro e w2 ⟨rfl, rfl⟩))
        go_ret
        exact ⟨rfl, B1.out⟩
      · rw [if_pos rfl]
        go_enter Tryz.func68, Tryz.ntmps68
        go_wp2_with (first
          | (go_at_call 37; (with_reducible refine (RI.out _ B0.out).mono ?_); rintro e w1 ⟨rfl, hb⟩; have B1 := Lib.hid (B0.out.trans (hb.mono B0.out.size)); obtain ⟨k0, k1, k2, k3, k4⟩ := (K.out.below hb K.out.lt).four; clear hb)
          | (go_at_call 120; (with_reducible refine (CO.out _ B1.out).mono ?_); rintro e w2 ⟨rfl, rfl⟩))
        go_ret
        exact ⟨rfl, B1.out⟩
set_option maxRecDepth 100000 in
set_option maxHeartbeats 2000000 in
theorem next1_any (k : Int) (w : World) (h : TR w A n f Ab nb b As ns l) (hn : n ≤ 1000) (hnb : nb ≤ 1000) (hns : ns ≤ 1000) (hq : rt f n s b l = true) :
    Calls Tryz.prog 68 #[.agg #[.slice A n c, .int .i64 s, .slice Ab nb cb, .slice As ns cs], .int .i64 1, .int .i64 k] w fun e w' => e = .returned (.int .i64 (nx1 n l s k)) ∧ Below w.heap.size w w' := by
  obtain ⟨s2, s8⟩ := rt_st hq
  have RI := fun w' (hb : Below w.heap.size w w') => right_any A n c f s Ab nb cb b As ns cs l w' (h.later hb) hn hnb hns
  rw [hq] at RI
  have CO := fun w' (hb : Below w.heap.size w w') => contains_any As ns cs _ l k w' (h.later hb).2.2 (by omega)
  have K := Lib.hid (Blk.new w 44 #[.slice A n c, .int .i64 s, .slice Ab nb cb, .slice As ns cs])
  have B0 := Lib.hid ((Below.refl w.heap.size w).alloc (Nat.le_refl _) (.cells #[.slice A n c, .int .i64 s, .slice Ab nb cb, .slice As ns cs] 44))
  have hst : ¬ s ≤ 1 := by omega
  clear h hq
  have zz := Lib.hid RI
  (try clear RI)
  have RI := zz
  clear zz
  by_cases h1 : k < 0
  · have e1 : nx1 n l s k = 0 := if_neg (by omega)
    rw [e1]
    clear CO
    go_enter Tryz.func68, Tryz.ntmps68
    go_wp2_with (first
      | (go_at_call 37; (with_reducible refine (RI.out _ B0.out).mono ?_); rintro e w1 ⟨rfl, hb⟩; have B1 := Lib.hid (B0.out.trans (hb.mono B0.out.size)); obtain ⟨k0, k1, k2, k3, k4⟩ := (K.out.below hb K.out.lt).four; clear hb)
      | (go_at_call 120; (with_reducible refine (CO.out _ B1.out).mono ?_); rintro e w2 ⟨rfl, rfl⟩))
    go_ret
    exact ⟨rfl, B1.out⟩
  · by_cases h2 : (n : Int) ≤ k
    · have e1 : nx1 n l s k = 0 := if_neg (by omega)
      rw [e1]
      clear CO
      go_enter Tryz.func68, Tryz.ntmps68
      go_wp2_with (first
        | (go_at_call 37; (with_reducible refine (RI.out _ B0.out).mono ?_); rintro e w1 ⟨rfl, hb⟩; have B1 := Lib.hid (B0.out.trans (hb.mono B0.out.size)); obtain ⟨k0, k1, k2, k3, k4⟩ := (K.out.below hb K.out.lt).four; clear hb)
        | (go_at_call 120; (with_reducible refine (CO.out _ B1.out).mono ?_); rintro e w2 ⟨rfl, rfl⟩))
      go_ret
      exact ⟨rfl, B1.out⟩
    · have e1 : nx1 n l s k = if decide (k ∈ l) = true then 1 else 2 % s := by
        unfold nx1
        rw [if_pos ⟨by omega, by omega⟩]
        by_cases hk : k ∈ l
        · rw [if_pos hk, if_pos (by simpa using hk)]
        · rw [if_neg hk, if_neg (by simpa using hk)]
      rw [e1]
      generalize decide (k ∈ l) = q at CO
      have zz := Lib.hid CO
      (try clear CO)
      have CO := zz
      clear zz
      cases q
      · rw [if_neg (by decide)]
        have hs : s = 2 ∨ s = 3 ∨ s = 4 ∨ s = 5 ∨ s = 6 ∨ s = 7 ∨ s = 8 := by omega
        clear hst s2 s8
        rcases hs with rfl | rfl | rfl | rfl | rfl | rfl | rfl
        all_goals
          go_enter Tryz.func68, Tryz.ntmps68
          go_wp2_with (first
            | (go_at_call 37; (with_reducible refine (RI.out _ B0.out).mono ?_); rintro e w1 ⟨rfl, hb⟩; have B1 := Lib.hid (B0.out.trans (hb.mono B0.out.size)); obtain ⟨k0, k1, k2, k3, k4⟩ := (K.out.below hb K.out.lt).four; clear hb)
            | (go_at_call 120; (with_reducible refine (CO.out _ B1.out).mono ?_); rintro e w2 ⟨rfl, rfl⟩))
          go_ret
          exact ⟨rfl, B1.out⟩
      · rw [if_pos rfl]
        go_enter Tryz.func68, Tryz.ntmps68
        go_wp2_with (first
          | (go_at_call 37; (with_reducible refine (RI.out _ B0.out).mono ?_); rintro e w1 ⟨rfl, hb⟩; have B1 := Lib.hid (B0.out.trans (hb.mono B0.out.size)); obtain ⟨k0, k1, k2, k3, k4⟩ := (K.out.below hb K.out.lt).four; clear hb)
          | (go_at_call 120; (with_reducible refine (CO.out _ B1.out).mono ?_); rintro e w2 ⟨rfl, rfl⟩))
        go_ret
        exact ⟨rfl, B1.out⟩
end
end Go.Proofs.YtjekpmkghpjamaaGreatDoor
namespace Go.Proofs.YtjekpmkghpjamaaGreatDoor
theorem asc_bd {l : List Int} {m : Int} (h : asc l m = true) : ∀ a ∈ l, 0 ≤ a ∧ a < m := by
  intro a ha
  obtain ⟨i, hi, rfl⟩ := mem_ig ha
  have := (asc_iff l m).1 h i hi
  exact ⟨this.1, this.2.1⟩
end Go.Proofs.YtjekpmkghpjamaaGreatDoor
namespace Go.Proofs.YtjekpmkghpjamaaGreatDoor
open Go.RowKit
/-- the notation -/
def tt (k : Nat) (b l : List Int) : List UInt8 := [66] ++ dgs b ++ [47, 83] ++ dgs l ++ lt k
theorem kd_len {f : Nat → P2} {n : Nat} (h : kd f n < 3) : n = 9 ∨ n = 5 ∨ n = 7 := by
  unfold kd at h
  split at h
  · next h1 => exact .inl ((sm_iff _ _ _ _).1 h1).1.symm
  · split at h
    · next h1 => exact .inr (.inl ((sm_iff _ _ _ _).1 h1).1.symm)
    · split at h
      · next h1 => exact .inr (.inr ((sm_iff _ _ _ _).1 h1).1.symm)
      · omega
theorem rt_parts {f : Nat → P2} {n : Nat} {s : Int} {b l : List Int} (h : rt f n s b l = true) : kd f n < 3 ∧ asc b (n : Int) = true ∧ asc l (n : Int) = true := by
  simp only [rt, Bool.and_eq_true, decide_eq_true_eq] at h
  exact ⟨h.1, h.2.2.2.1, h.2.2.2.2⟩
set_option maxRecDepth 100000 in
set_option maxHeartbeats 2000000 in
theorem text_any (A : Option Addr) (n c : Nat) (f : Nat → P2) (Ab : Option Addr) (nb cb : Nat) (b : List Int) (As : Option Addr) (ns cs : Nat) (l : List Int) (w : World) (h : TR w A n f Ab nb b As ns l) (hn : n ≤ 1000) (hnb : nb ≤ 60) (hns : ns ≤ 60) (hq : rt f n 2 b l = true) :
    Calls Tryz.prog 59 #[.agg #[.slice A n c, .int .i64 2, .slice Ab nb cb, .slice As ns cs]] w fun e w' => e = .returned (.string (tx (tt (kd f n) b l))) ∧ Below w.heap.size w w' := by
  obtain ⟨hk, ab, al⟩ := rt_parts hq
  have h9 : n ≤ 9 := by rcases kd_len hk with h | h | h <;> omega
  have PL := fun w' (hb : Below w.heap.size w w') => plain_any A n c f 2 Ab nb cb b As ns cs l w' (h.later hb) hn (by omega) (by omega)
  rw [hq] at PL
  have LO := fun w' (hb : Below w.heap.size w w') => letterOf_any A n c f w' (h.later hb).1 (by omega)
  have DB := fun w' (hb : Below w.heap.size w w') => digits_anyG Ab nb cb _ b w' (h.later hb).2.1 (by omega) (fun x hx => by have := asc_bd ab x hx; omega)
  have DS := fun w' (hb : Below w.heap.size w w') => digits_anyG As ns cs _ l w' (h.later hb).2.2 (by omega) (fun x hx => by have := asc_bd al x hx; omega)
  have z1 : (tx (dgs b)).size ≤ 60 := by rw [tx_size, dgs_len, reads_len h.2.1]; omega
  have z2 : (tx (dgs l)).size ≤ 60 := by rw [tx_size, dgs_len, reads_len h.2.2]; omega
  have z3 : (tx (lt (kd f n))).size ≤ 1 := by
    rw [tx_size]; unfold lt; split
    · decide
    · split <;> decide
  have HT := Lib.hid (show (((((⟨#[66]⟩ : ByteArray) ++ tx (dgs b)) ++ ⟨#[47, 83]⟩) ++ tx (dgs l)) ++ tx (lt (kd f n))) = tx (tt (kd f n) b l) by
    show (((tx [66] ++ tx (dgs b)) ++ tx [47, 83]) ++ tx (dgs l)) ++ tx (lt (kd f n)) = _
    rw [tx_addG, tx_addG, tx_addG, tx_addG]; rfl)
  have K := Lib.hid (Blk.new w 44 #[.slice A n c, .int .i64 2, .slice Ab nb cb, .slice As ns cs])
  have B0 := Lib.hid ((Below.refl w.heap.size w).alloc (Nat.le_refl _) (.cells #[.slice A n c, .int .i64 2, .slice Ab nb cb, .slice As ns cs] 44))
  clear h hq ab al
  rw [← HT.out]
  generalize tx (dgs b) = u1 at DB z1 HT ⊢
  generalize tx (dgs l) = u2 at DS z2 HT ⊢
  generalize tx (lt (kd f n)) = u3 at LO z3 HT ⊢
  rw [decide_eq_true hk] at LO
  obtain ⟨v1, hv1⟩ : ∃ v1, v1 = (⟨#[66]⟩ : ByteArray) ++ u1 := ⟨_, rfl⟩
  obtain ⟨v2, hv2⟩ : ∃ v2, v2 = v1 ++ (⟨#[47, 83]⟩ : ByteArray) := ⟨_, rfl⟩
  obtain ⟨v3, hv3⟩ : ∃ v3, v3 = v2 ++ u2 := ⟨_, rfl⟩
  obtain ⟨v4, hv4⟩ : ∃ v4, v4 = v3 ++ u3 := ⟨_, rfl⟩
  rw [← hv1, ← hv2, ← hv3, ← hv4]
  have y1 : v1.size ≤ 61 := by rw [hv1, ByteArray.size_append, show (⟨#[66]⟩ : ByteArray).size = 1 from rfl]; omega
  have y2 : v2.size ≤ 63 := by rw [hv2, ByteArray.size_append, show (⟨#[47, 83]⟩ : ByteArray).size = 2 from rfl]; omega
  have y3 : v3.size ≤ 123 := by rw [hv3, ByteArray.size_append]; omega
  have P1 : ∀ w : World, (Op.stringOp .add (⟨#[66]⟩ : ByteArray) u1).run Tryz.prog w = .ok (.string v1) w := fun w => by rw [hv1]; exact run_string_add_sum w _ _ (by rw [show (⟨#[66]⟩ : ByteArray).size = 1 from rfl]; omega)
  have P2 : ∀ w : World, (Op.stringOp .add v1 (⟨#[47, 83]⟩ : ByteArray)).run Tryz.prog w = .ok (.string v2) w := fun w => by rw [hv2]; exact run_string_add_sum w _ _ (by rw [show (⟨#[47, 83]⟩ : ByteArray).size = 2 from rfl]; omega)
  have P3 : ∀ w : World, (Op.stringOp .add v2 u2).run Tryz.prog w = .ok (.string v3) w := fun w => by rw [hv3]; exact run_string_add_sum w _ _ (by omega)
  have P4 : ∀ w : World, (Op.stringOp .add v3 u3).run Tryz.prog w = .ok (.string v4) w := fun w => by rw [hv4]; exact run_string_add_sum w _ _ (by omega)
  clear hv1 hv2 hv3 hv4 y1 y2 y3 z1 z2 z3
  have zz := Lib.hid PL
  (try clear PL)
  have PL := zz
  clear zz
  have zz := Lib.hid LO
  (try clear LO)
  have LO := zz
  clear zz
  have zz := Lib.hid DB
  (try clear DB)
  have DB := zz
  clear zz
  have zz := Lib.hid DS
  (try clear DS)
  have DS := zz
  clear zz
  clear HT hk
  go_enter Tryz.func59, Tryz.ntmps59
  go_wp2_with (first
    | (go_at_call 108; (with_reducible refine (PL.out _ B0.out).mono ?_); rintro e w1 ⟨rfl, hb⟩; have B1 := Lib.hid (B0.out.trans (hb.mono B0.out.size)); have K1 := Lib.hid (K.out.below hb K.out.lt); obtain ⟨k0, k1, k2, k3, k4⟩ := K1.out.four; clear hb)
    | (go_at_call 74; (with_reducible refine (LO.out _ B1.out).mono ?_); rintro e w2 ⟨rfl, hb⟩; have B2 := Lib.hid (B1.out.trans (hb.mono B1.out.size)); have K2 := Lib.hid (K1.out.below hb K1.out.lt); obtain ⟨x0, x1, x2, x3, x4⟩ := K2.out.four; clear hb)
    | (go_at_call 109; fail))
  have q0 := fun p : LowW w2.heap.size w2 => (K2.out.below p.below K2.out.lt).four.2.2.1
  have q1 := fun p : LowW w2.heap.size w2 => (K2.out.below p.below K2.out.lt).four.2.2.2.1
  have D1 := Lib.hid (fun p : LowW w2.heap.size w2 => below_quiet (DB.out p.w (B2.out.trans (p.below.mono B2.out.size))))
  have D2 := Lib.hid (fun p : LowW w2.heap.size w2 => below_quiet (DS.out p.w (B2.out.trans (p.below.mono B2.out.size))))
  clear DB DS PL LO x0 x1 x2 x3 x4 k0 k1 k2 k3 k4
  refine wp_region_low w2.heap.size w2 (by kernel_rfl) (by kernel_rfl) (Below.refl _ _) ?_
  quiet_step (fail)
  quiet_step (fail)
  quiet_step (first | (go_at_call 109; with_reducible exact LowW.of_call _ (Nat.le_refl _) (D1.out _)) | (go_at_call 109; with_reducible exact LowW.of_call _ (Nat.le_refl _) (D2.out _)))
  repeat (quiet_step (first | (go_at_call 109; with_reducible exact LowW.of_call _ (Nat.le_refl _) (D1.out _)) | (go_at_call 109; with_reducible exact LowW.of_call _ (Nat.le_refl _) (D2.out _))))
  refine wpQuiet_nil ?_
  rintro w' ⟨p, rfl⟩
  have B3 := Lib.hid (B2.out.trans (p.below.mono B2.out.size))
  clear q0 q1
  generalize p.w = w3 at B3 ⊢
  go_wp2
  go_ret
  exact ⟨rfl, B3.out⟩
end Go.Proofs.YtjekpmkghpjamaaGreatDoor
namespace Go.Proofs.YtjekpmkghpjamaaGreatDoor
open Go.RowKit
theorem hcentre_any (A : Option Addr) (n c : Nat) (f : Nat → P2) (w : World) (h : QReads w w.heap.size A n f) (hd : Hd f n) :
    Calls Tryz.prog 64 #[.slice A n c] w fun e w' => e = .returned (.int .i64 (px f n (0, 0))) ∧ Below w.heap.size w w' := by
  have RI := Lib.hid (hright_any A n c f w h hd)
  have hn := hd.1.2
  have IX := Lib.hid (fun w1 (hb : Below w.heap.size w w1) => pindex_any A n c f 0 0 w1 (h.later hb) (by omega))
  clear h hd
  go_enter Tryz.func64, Tryz.ntmps64
  go_wp2_with (first
    | (go_at_call 98; (with_reducible refine RI.out.mono ?_); rintro e w1 ⟨rfl, hb⟩; have B1 := Lib.hid hb; clear hb)
    | (go_at_call 100; (with_reducible refine (IX.out _ B1.out).mono ?_); rintro e w2 ⟨rfl, hb⟩; have B2 := Lib.hid (B1.out.trans (hb.mono B1.out.size)); clear hb))
  go_ret
  exact ⟨rfl, B2.out⟩
end Go.Proofs.YtjekpmkghpjamaaGreatDoor
namespace Go.Proofs.YtjekpmkghpjamaaGreatDoor
open Go.RowKit

/-- the weight of a level -/
def wtT (n cen l : Nat) : Nat := if n - l = cen then n else 1
/-- the new state by the sum -/
def rbT (n : Nat) (b l : List Int) (s : Nat) : Int := if s < n then nx0 n b (s : Int) else nx1 n l 2 ((s - n : Nat) : Int)
theorem nx0_bd (n : Nat) (b : List Int) (k : Int) : 0 ≤ nx0 n b k ∧ nx0 n b k < 2 := by unfold nx0; split <;> omega
theorem nx1_bd (n : Nat) (b : List Int) (k : Int) : 0 ≤ nx1 n b 2 k ∧ nx1 n b 2 k < 2 := by
  unfold nx1
  split
  · split
    · omega
    · decide
  · omega
set_option maxRecDepth 100000 in
theorem amount_T {w : World} {gc gp n cen l s : Nat} (hc : Blk w gc 3 #[.int .i64 (cen : Int)]) (hp : Blk w gp 3 #[.int .i64 (n : Int)]) (hn : n ≤ 9) (hl : l ≤ n) (hs : s < 2) :
    Calls Tryz.prog 65 #[.int .i64 ((n : Int) - (l : Int)), .int .i64 (s : Int), .pointer (some ⟨gc, 0, none⟩), .pointer (some ⟨gp, 0, none⟩)] w fun e w' => e = .returned (.int .i64 ((s * wtT n cen l : Nat) : Int)) ∧ w' = w := by
  obtain ⟨k0, k1, k2⟩ := hc.one
  obtain ⟨m0, m1, m2⟩ := hp.one
  have hnI : (n : Int) ≤ 9 := by omega
  have e1 : IntKind.i64.wrap (n : Int) = (n : Int) := IntWalk.i64_in _ ⟨by omega, by omega⟩
  clear hc hp
  by_cases h : n - l = cen
  · have hb : (((n : Int) - (l : Int)) == (cen : Int)) = true := by rw [beq_iff_eq]; omega
    have hw : wtT n cen l = n := by unfold wtT; rw [if_pos h]
    rw [hw]
    clear hw
    obtain rfl | rfl : s = 0 ∨ s = 1 := by omega
    all_goals
      go_enter Tryz.func65, Tryz.ntmps65
      go_wp2
      go_ret
      exact ⟨by simp [e1], rfl⟩
  · have hb : (((n : Int) - (l : Int)) == (cen : Int)) = false := by rw [beq_eq_false_iff_ne]; omega
    have hw : wtT n cen l = 1 := by unfold wtT; rw [if_neg h]
    rw [hw]
    clear hw
    obtain rfl | rfl : s = 0 ∨ s = 1 := by omega
    all_goals
      go_enter Tryz.func65, Tryz.ntmps65
      go_wp2
      go_ret
      exact ⟨by simp, rfl⟩
set_option maxRecDepth 100000 in
set_option maxHeartbeats 2000000 in
theorem result_T {w : World} {gx gp n s : Nat} {A Ab As : Option Addr} {c nb cb ns cs : Nat} {f : Nat → P2} {b l : List Int} (hx : Blk w gx 44 #[.slice A n c, .int .i64 2, .slice Ab nb cb, .slice As ns cs]) (hp : Blk w gp 3 #[.int .i64 (n : Int)])
    (h : TR w A n f Ab nb b As ns l) (hn : n ≤ 9) (hn1 : 1 ≤ n) (hnb : nb ≤ 1000) (hns : ns ≤ 1000) (hq : rt f n 2 b l = true) (hs : s ≤ 2 * n - 1) :
    Calls Tryz.prog 67 #[.int .i64 (s : Int), .pointer (some ⟨gx, 0, none⟩), .pointer (some ⟨gp, 0, none⟩)] w fun e w' => e = .returned (.int .i64 (rbT n b l s)) ∧ Below w.heap.size w w' := by
  obtain ⟨q, r, V, hqr, hr, NX⟩ : ∃ (q r : Nat) (V : Int), (s = q * n + r ∧ q < 2 ∧ r < n) ∧ rbT n b l s = V ∧ ∀ w', Below w.heap.size w w' → Calls Tryz.prog 68 #[.agg #[.slice A n c, .int .i64 2, .slice Ab nb cb, .slice As ns cs], .int .i64 (q : Int), .int .i64 (r : Int)] w' fun e w2 => e = .returned (.int .i64 V) ∧ Below w'.heap.size w' w2 := by
    by_cases hsn : s < n
    · exact ⟨0, s, _, ⟨by omega, by omega, hsn⟩, by rw [rbT, if_pos hsn], fun w' hb => next0_any A n c f 2 Ab nb cb b As ns cs l (s : Int) w' (h.later hb) (by omega) hnb hns hq⟩
    · exact ⟨1, s - n, _, ⟨by omega, by omega, by omega⟩, by rw [rbT, if_neg hsn], fun w' hb => next1_any A n c f 2 Ab nb cb b As ns cs l ((s - n : Nat) : Int) w' (h.later hb) (by omega) hnb hns hq⟩
  obtain ⟨h1, h2, h3⟩ := hqr
  rw [hr]
  have hd : (s : Int).tdiv (n : Int) = (q : Int) := by
    rw [Int.tdiv_eq_ediv_of_nonneg (by omega), h1]
    have : ((q * n + r : Nat) : Int) / (n : Int) = (((q * n + r) / n : Nat) : Int) := by norm_cast
    rw [this, Nat.mul_comm q n, Nat.mul_add_div (by omega), Nat.div_eq_of_lt h3, Nat.add_zero]
  have hm : (s : Int).tmod (n : Int) = (r : Int) := by
    rw [Int.tmod_eq_emod_of_nonneg (by omega), h1]
    have : ((q * n + r : Nat) : Int) % (n : Int) = (((q * n + r) % n : Nat) : Int) := by norm_cast
    rw [this, Nat.mul_comm q n, Nat.mul_add_mod, Nat.mod_eq_of_lt h3]
  have hdw : IntKind.i64.wrap ((s : Int) / (n : Int)) = (q : Int) := by rw [← Int.tdiv_eq_ediv_of_nonneg (by omega), hd]; exact IntWalk.i64_in _ ⟨by omega, by omega⟩
  have hmw : IntKind.i64.wrap ((s : Int).tmod (n : Int)) = (r : Int) := by rw [hm]; exact IntWalk.i64_in _ ⟨by omega, by omega⟩
  have hn0' : ¬ n = 0 := by omega
  have hn0 : ((n : Int) == 0) = false := by rw [beq_eq_false_iff_ne]; omega
  have KX := Lib.hid hx
  have KP := Lib.hid hp
  have NXH := Lib.hid NX
  clear hx hp h hq NX hr h1 h2 h3 hs hd hmw
  go_enter Tryz.func67, Tryz.ntmps67
  go_upto_region 1 with (fail)
  have q0 := fun p : LowW w.heap.size w => (KX.out.below p.below KX.out.lt).four.1
  have q1 := fun p : LowW w.heap.size w => (KX.out.below p.below KX.out.lt).four.2.1
  have q2 := fun p : LowW w.heap.size w => (KX.out.below p.below KX.out.lt).four.2.2.1
  have q3 := fun p : LowW w.heap.size w => (KX.out.below p.below KX.out.lt).four.2.2.2.1
  have m0 := fun p : LowW w.heap.size w => (KP.out.below p.below KP.out.lt).one.1
  have D := Lib.hid (fun p : LowW w.heap.size w => NXH.out p.w p.below)
  refine wp_region_low w.heap.size w (by kernel_rfl) (by kernel_rfl) (Below.refl _ _) ?_
  repeat (quiet_step (first | (go_at_call 68; with_reducible exact LowW.of_call _ (Nat.le_refl _) (D.out _))))
  refine wpQuiet_nil ?_
  rintro w' ⟨p, rfl⟩
  have B1 := Lib.hid p.below
  clear q0 q1 q2 q3 m0
  generalize p.w = w3 at B1 ⊢
  go_wp2
  go_ret
  exact ⟨rfl, B1.out⟩
/-- the rule's closures promise what collect asks of them -/
theorem tq_of {w : World} {gc gp gx n cen : Nat} {A Ab As : Option Addr} {c nb cb ns cs : Nat} {f : Nat → P2} {b l : List Int} (hc : Blk w gc 3 #[.int .i64 (cen : Int)]) (hx : Blk w gx 44 #[.slice A n c, .int .i64 2, .slice Ab nb cb, .slice As ns cs]) (hp : Blk w gp 3 #[.int .i64 (n : Int)])
    (h : TR w A n f Ab nb b As ns l) (hn : n ≤ 9) (hn1 : 1 ≤ n) (hnb : nb ≤ 1000) (hns : ns ≤ 1000) (hq : rt f n 2 b l = true) : TQ w gc gp gx n (2 * n - 1) (wtT n cen) (rbT n b l) where
  hb := fun s _ => by
    unfold rbT
    split
    · exact nx0_bd _ _ _
    · exact nx1_bd _ _ _
  hn := ⟨hn1, hn⟩
  hS := by omega
  hw := fun l _ _ => by unfold wtT; split <;> omega
  hA := fun W l s hb h1 h2 h3 => amount_T (hc.below hb hc.lt) (hp.below hb hp.lt) hn h2 h3
  hR := fun W s hb h1 => result_T (hx.below hb hx.lt) (hp.below hb hp.lt) (h.later hb) hn hn1 hnb hns hq h1
theorem ws_T {n cen : Nat} (hc : cen < n) : ws (wtT n cen) n ≤ 2 * n - 1 := by
  have h : ∀ k, k ≤ n → ws (wtT n cen) k ≤ k + (if n - cen ≤ k then n - 1 else 0) := by
    intro k
    induction k with
    | zero => intro _; simp [ws]
    | succ k ih =>
      intro hk
      have := ih (by omega)
      rw [ws]
      by_cases e : n - (k + 1) = cen
      · rw [wtT, if_pos e]
        rw [if_neg (by omega)] at this
        rw [if_pos (by omega)]
        omega
      · rw [wtT, if_neg e]
        by_cases e2 : n - cen ≤ k
        · rw [if_pos e2] at this
          rw [if_pos (by omega)]
          omega
        · rw [if_neg e2] at this
          rw [if_neg (by omega)]
          omega
  have := h n (Nat.le_refl _)
  rw [if_pos (by omega)] at this
  omega
end Go.Proofs.YtjekpmkghpjamaaGreatDoor
