/- The walk of Next on valid rules, at the states 0, 1 and 2. -/
import Derived.Test.YtbdgfegafckkbaaGreatDoorTot
namespace Go.Proofs.YtbdgfegafckkbaaGreatDoor
open Go.RowKit

/-- the new states of the state 0, and of the state 1 -/
def nx0 (n : Nat) (b : List Int) (k : Int) : Int := if 0 ≤ k ∧ k < (n : Int) ∧ k ∈ b then 1 else 0
def nx1 (n : Nat) (l : List Int) (s k : Int) : Int := if 0 ≤ k ∧ k < (n : Int) then (if k ∈ l then 1 else 2 % s) else 0
theorem rt_st {f : Nat → P2} {n : Nat} {s : Int} {b l : List Int} (h : rt f n s b l = true) : 2 ≤ s ∧ s ≤ 8 := by
  simp only [rt, Bool.and_eq_true, decide_eq_true_eq] at h
  exact ⟨h.2.1, h.2.2.1⟩
section
variable (A : Option Addr) (n c : Nat) (f : Nat → P2) (s : Int) (Ab : Option Addr) (nb cb : Nat) (b : List Int) (As : Option Addr) (ns cs : Nat) (l : List Int)
set_option maxRecDepth 100000 in
set_option maxHeartbeats 2000000 in
theorem next0_any (k : Int) (w : World) (h : TR w A n f Ab nb b As ns l) (hn : n ≤ 1000) (hnb : nb ≤ 1000) (hns : ns ≤ 1000) (hq : rt f n s b l = true) :
    Calls Tryz.prog 8 #[.agg #[.slice A n c, .int .i64 s, .slice Ab nb cb, .slice As ns cs], .int .i64 0, .int .i64 k] w fun e w' => e = .returned (.int .i64 (nx0 n b k)) ∧ Below w.heap.size w w' := by
  obtain ⟨s2, s8⟩ := rt_st hq
  have RI := fun w' (hb : Below w.heap.size w w') => right_any A n c f s Ab nb cb b As ns cs l w' (h.later hb) hn hnb hns
  rw [hq] at RI
  have CO := fun w' (hb : Below w.heap.size w w') => contains_any Ab nb cb _ b k w' (h.later hb).2.1 (by omega)
  have K := Lib.hid (Blk.new w 25 #[.slice A n c, .int .i64 s, .slice Ab nb cb, .slice As ns cs])
  have B0 := Lib.hid ((Below.refl w.heap.size w).alloc (Nat.le_refl _) (.cells #[.slice A n c, .int .i64 s, .slice Ab nb cb, .slice As ns cs] 25))
  have hst : ¬ s ≤ 0 := by omega
  clear h hq
  have zz := Lib.hid RI
  (try clear RI)
  have RI := zz
  clear zz
  by_cases h1 : k < 0
  · have e1 : nx0 n b k = 0 := if_neg (by omega)
    rw [e1]
    clear CO
    go_enter Tryz.func8, Tryz.ntmps8
    go_wp2_with (first
      | (go_at_call 15; (with_reducible refine (RI.out _ B0.out).mono ?_); rintro e w1 ⟨rfl, hb⟩; have B1 := Lib.hid (B0.out.trans (hb.mono B0.out.size)); obtain ⟨k0, k1, k2, k3, k4⟩ := (K.out.below hb K.out.lt).four; clear hb)
      | (go_at_call 18; (with_reducible refine (CO.out _ B1.out).mono ?_); rintro e w2 ⟨rfl, rfl⟩))
    go_ret
    exact ⟨rfl, B1.out⟩
  · by_cases h2 : (n : Int) ≤ k
    · have e1 : nx0 n b k = 0 := if_neg (by omega)
      rw [e1]
      clear CO
      go_enter Tryz.func8, Tryz.ntmps8
      go_wp2_with (first
        | (go_at_call 15; (with_reducible refine (RI.out _ B0.out).mono ?_); rintro e w1 ⟨rfl, hb⟩; have B1 := Lib.hid (B0.out.trans (hb.mono B0.out.size)); obtain ⟨k0, k1, k2, k3, k4⟩ := (K.out.below hb K.out.lt).four; clear hb)
        | (go_at_call 18; (with_reducible refine (CO.out _ B1.out).mono ?_); rintro e w2 ⟨rfl, rfl⟩))
      go_ret
      exact ⟨rfl, B1.out⟩
    · have e1 : nx0 n b k = if decide (k ∈ b) = true then 1 else 0 := by
        unfold nx0
        by_cases hk : k ∈ b
        · rw [if_pos ⟨by omega, by omega, hk⟩, if_pos (by simpa using hk)]
        · rw [if_neg (fun h => hk h.2.2), if_neg (by simpa using hk)]
      rw [e1]
      generalize decide (k ∈ b) = q at CO
      have zz := Lib.hid CO
      (try clear CO)
      have CO := zz
      clear zz
      cases q
      · rw [if_neg (by decide)]
        go_enter Tryz.func8, Tryz.ntmps8
        go_wp2_with (first
          | (go_at_call 15; (with_reducible refine (RI.out _ B0.out).mono ?_); rintro e w1 ⟨rfl, hb⟩; have B1 := Lib.hid (B0.out.trans (hb.mono B0.out.size)); obtain ⟨k0, k1, k2, k3, k4⟩ := (K.out.below hb K.out.lt).four; clear hb)
          | (go_at_call 18; (with_reducible refine (CO.out _ B1.out).mono ?_); rintro e w2 ⟨rfl, rfl⟩))
        go_ret
        exact ⟨rfl, B1.out⟩
      · rw [if_pos rfl]
        go_enter Tryz.func8, Tryz.ntmps8
        go_wp2_with (first
          | (go_at_call 15; (with_reducible refine (RI.out _ B0.out).mono ?_); rintro e w1 ⟨rfl, hb⟩; have B1 := Lib.hid (B0.out.trans (hb.mono B0.out.size)); obtain ⟨k0, k1, k2, k3, k4⟩ := (K.out.below hb K.out.lt).four; clear hb)
          | (go_at_call 18; (with_reducible refine (CO.out _ B1.out).mono ?_); rintro e w2 ⟨rfl, rfl⟩))
        go_ret
        exact ⟨rfl, B1.out⟩
set_option maxRecDepth 100000 in
set_option maxHeartbeats 2000000 in
theorem next1_any (k : Int) (w : World) (h : TR w A n f Ab nb b As ns l) (hn : n ≤ 1000) (hnb : nb ≤ 1000) (hns : ns ≤ 1000) (hq : rt f n s b l = true) :
    Calls Tryz.prog 8 #[.agg #[.slice A n c, .int .i64 s, .slice Ab nb cb, .slice As ns cs], .int .i64 1, .int .i64 k] w fun e w' => e = .returned (.int .i64 (nx1 n l s k)) ∧ Below w.heap.size w w' := by
  obtain ⟨s2, s8⟩ := rt_st hq
  have RI := fun w' (hb : Below w.heap.size w w') => right_any A n c f s Ab nb cb b As ns cs l w' (h.later hb) hn hnb hns
  rw [hq] at RI
  have CO := fun w' (hb : Below w.heap.size w w') => contains_any As ns cs _ l k w' (h.later hb).2.2 (by omega)
  have K := Lib.hid (Blk.new w 25 #[.slice A n c, .int .i64 s, .slice Ab nb cb, .slice As ns cs])
  have B0 := Lib.hid ((Below.refl w.heap.size w).alloc (Nat.le_refl _) (.cells #[.slice A n c, .int .i64 s, .slice Ab nb cb, .slice As ns cs] 25))
  have hst : ¬ s ≤ 1 := by omega
  clear h hq
  have zz := Lib.hid RI
  (try clear RI)
  have RI := zz
  clear zz
  by_cases h1 : k < 0
  · have e1 : nx1 n l s k = 0 := if_neg (by omega)
    rw [e1]
    clear CO
    go_enter Tryz.func8, Tryz.ntmps8
    go_wp2_with (first
      | (go_at_call 15; (with_reducible refine (RI.out _ B0.out).mono ?_); rintro e w1 ⟨rfl, hb⟩; have B1 := Lib.hid (B0.out.trans (hb.mono B0.out.size)); obtain ⟨k0, k1, k2, k3, k4⟩ := (K.out.below hb K.out.lt).four; clear hb)
      | (go_at_call 18; (with_reducible refine (CO.out _ B1.out).mono ?_); rintro e w2 ⟨rfl, rfl⟩))
    go_ret
    exact ⟨rfl, B1.out⟩
  · by_cases h2 : (n : Int) ≤ k
    · have e1 : nx1 n l s k = 0 := if_neg (by omega)
      rw [e1]
      clear CO
      go_enter Tryz.func8, Tryz.ntmps8
      go_wp2_with (first
        | (go_at_call 15; (with_reducible refine (RI.out _ B0.out).mono ?_); rintro e w1 ⟨rfl, hb⟩; have B1 := Lib.hid (B0.out.trans (hb.mono B0.out.size)); obtain ⟨k0, k1, k2, k3, k4⟩ := (K.out.below hb K.out.lt).four; clear hb)
        | (go_at_call 18; (with_reducible refine (CO.out _ B1.out).mono ?_); rintro e w2 ⟨rfl, rfl⟩))
      go_ret
      exact ⟨rfl, B1.out⟩
    · have e1 : nx1 n l s k = if decide (k ∈ l) = true then 1 else 2 % s := by
        unfold nx1
        rw [if_pos ⟨by omega, by omega⟩]
        by_cases hk : k ∈ l
        · rw [if_pos hk, if_pos (by simpa using hk)]
        · rw [if_neg hk, if_neg (by simpa using hk)]
      rw [e1]
      generalize decide (k ∈ l) = q at CO
      have zz := Lib.hid CO
      (try clear CO)
      have CO := zz
      clear zz
      cases q
      · rw [if_neg (by decide)]
        have hs : s = 2 ∨ s = 3 ∨ s = 4 ∨ s = 5 ∨ s = 6 ∨ s = 7 ∨ s = 8 := by omega
        clear hst s2 s8
        rcases hs with rfl | rfl | rfl | rfl | rfl | rfl | rfl
        all_goals
          go_enter Tryz.func8, Tryz.ntmps8
          go_wp2_with (first
            | (go_at_call 15; (with_reducible refine (RI.out _ B0.out).mono ?_); rintro e w1 ⟨rfl, hb⟩; have B1 := Lib.hid (B0.out.trans (hb.mono B0.out.size)); obtain ⟨k0, k1, k2, k3, k4⟩ := (K.out.below hb K.out.lt).four; clear hb)
            | (go_at_call 18; (with_reducible refine (CO.out _ B1.out).mono ?_); rintro e w2 ⟨rfl, rfl⟩))
          go_ret
          exact ⟨rfl, B1.out⟩
      · rw [if_pos rfl]
        go_enter Tryz.func8, Tryz.ntmps8
        go_wp2_with (first
          | (go_at_call 15; (with_reducible refine (RI.out _ B0.out).mono ?_); rintro e w1 ⟨rfl, hb⟩; have B1 := Lib.hid (B0.out.trans (hb.mono B0.out.size)); obtain ⟨k0, k1, k2, k3, k4⟩ := (K.out.below hb K.out.lt).four; clear hb)
          | (go_at_call 18; (with_reducible refine (CO.out _ B1.out).mono ?_); rintro e w2 ⟨rfl, rfl⟩))
        go_ret
        exact ⟨rfl, B1.out⟩
set_option maxRecDepth 100000 in
set_option maxHeartbeats 2000000 in
theorem next2_any (w : World) (h : TR w A n f Ab nb b As ns l) (hn : n ≤ 1000) (hnb : nb ≤ 1000) (hns : ns ≤ 1000) (hq : rt f n s b l = true) (h3 : s = 3) (hn3 : 2 < n) :
    Calls Tryz.prog 8 #[.agg #[.slice A n c, .int .i64 s, .slice Ab nb cb, .slice As ns cs], .int .i64 2, .int .i64 2] w fun e w' => e = .returned (.int .i64 0) ∧ Below w.heap.size w w' := by
  subst h3
  obtain ⟨s2, s8⟩ := rt_st hq
  have RI := fun w' (hb : Below w.heap.size w w') => right_any A n c f 3 Ab nb cb b As ns cs l w' (h.later hb) hn hnb hns
  rw [hq] at RI
  have K := Lib.hid (Blk.new w 25 #[.slice A n c, .int .i64 3, .slice Ab nb cb, .slice As ns cs])
  have B0 := Lib.hid ((Below.refl w.heap.size w).alloc (Nat.le_refl _) (.cells #[.slice A n c, .int .i64 3, .slice Ab nb cb, .slice As ns cs] 25))
  have h2 : ¬ (n : Int) ≤ 2 := by omega
  clear h hq
  have zz := Lib.hid RI
  (try clear RI)
  have RI := zz
  clear zz
  go_enter Tryz.func8, Tryz.ntmps8
  go_wp2_with (first
    | (go_at_call 15; (with_reducible refine (RI.out _ B0.out).mono ?_); rintro e w1 ⟨rfl, hb⟩; have B1 := Lib.hid (B0.out.trans (hb.mono B0.out.size)); obtain ⟨k0, k1, k2, k3, k4⟩ := (K.out.below hb K.out.lt).four; clear hb)
    | (go_at_call 18; (with_reducible refine (CO.out _ B1.out).mono ?_); rintro e w2 ⟨rfl, rfl⟩))
  go_ret
  exact ⟨rfl, B1.out⟩
end
end Go.Proofs.YtbdgfegafckkbaaGreatDoor
