/- The walks of Right, plain and the reference's Right on any rule. -/
import Derived.Test.YtbdgfegafckkbaaGreatDoorKind
import Derived.Test.YtbdgfegafckkbaaGreatDoorAsc
namespace Go.Proofs.YtbdgfegafckkbaaGreatDoor
open Go.RowKit

/-- what a rule's lists read as -/
def TR (w : World) (A : Option Addr) (n : Nat) (f : Nat → P2) (Ab : Option Addr) (nb : Nat) (b : List Int) (As : Option Addr) (ns : Nat) (l : List Int) : Prop :=
  QReads w w.heap.size A n f ∧ Reads w w.heap.size Ab nb (il b) ∧ Reads w w.heap.size As ns (il l)
theorem TR.later {w w' : World} {A : Option Addr} {n : Nat} {f : Nat → P2} {Ab : Option Addr} {nb : Nat} {b : List Int} {As : Option Addr} {ns : Nat} {l : List Int} (h : TR w A n f Ab nb b As ns l) (hb : Below w.heap.size w w') : TR w' A n f Ab nb b As ns l :=
  ⟨h.1.later hb, h.2.1.later hb, h.2.2.later hb⟩
/-- whether a rule is valid -/
def rt (f : Nat → P2) (n : Nat) (s : Int) (b l : List Int) : Bool := decide (kd f n < 3) && (decide (2 ≤ s) && (decide (s ≤ 8) && (asc b (n : Int) && asc l (n : Int))))

section
variable (A : Option Addr) (n c : Nat) (f : Nat → P2) (s : Int) (Ab : Option Addr) (nb cb : Nat) (b : List Int) (As : Option Addr) (ns cs : Nat) (l : List Int)
set_option maxRecDepth 100000 in
set_option maxHeartbeats 2000000 in
theorem right_any (w : World) (h : TR w A n f Ab nb b As ns l) (hn : n ≤ 1000) (hnb : nb ≤ 1000) (hns : ns ≤ 1000) :
    Calls Tryz.prog 15 #[.agg #[.slice A n c, .int .i64 s, .slice Ab nb cb, .slice As ns cs]] w fun e w' => e = .returned (.bool (rt f n s b l)) ∧ Below w.heap.size w w' := by
  have LO := fun w' (hb : Below w.heap.size w w') => letterOf_any A n c f w' (h.later hb).1 (by omega)
  have AB := fun w' (hb : Below w.heap.size w w') => ascends_any Ab nb cb _ b (n : Int) w' (h.later hb).2.1 (by omega)
  have AS := fun w' (hb : Below w.heap.size w w') => ascends_any As ns cs _ l (n : Int) w' (h.later hb).2.2 (by omega)
  have K := Lib.hid (Blk.new w 25 #[.slice A n c, .int .i64 s, .slice Ab nb cb, .slice As ns cs])
  have B0 := Lib.hid ((Below.refl w.heap.size w).alloc (Nat.le_refl _) (.cells #[.slice A n c, .int .i64 s, .slice Ab nb cb, .slice As ns cs] 25))
  clear h
  unfold rt
  generalize tx (lt (kd f n)) = letter at LO
  generalize decide (kd f n < 3) = q0 at LO ⊢
  generalize asc b (n : Int) = q1 at AB ⊢
  generalize asc l (n : Int) = q2 at AS ⊢
  have zz := Lib.hid LO
  (try clear LO)
  have LO := zz
  clear zz
  have zz := Lib.hid AB
  (try clear AB)
  have AB := zz
  clear zz
  have zz := Lib.hid AS
  (try clear AS)
  have AS := zz
  clear zz
  cases q0 with
  | false =>
    go_enter Tryz.func15, Tryz.ntmps15
    go_wp2_with (go_at_call 20; (with_reducible refine (LO.out _ B0.out).mono ?_); rintro e w1 ⟨rfl, hb⟩; have B1 := Lib.hid (B0.out.trans (hb.mono B0.out.size)); obtain ⟨k0, k1, k2, k3, k4⟩ := (K.out.below hb K.out.lt).four; clear hb)
    go_ret
    exact ⟨rfl, B1.out⟩
  | true =>
    by_cases h1 : 2 ≤ s
    · by_cases h2 : s ≤ 8
      · have h3 : ¬ s < 2 := by omega
        have h4 : ¬ 8 < s := by omega
        rw [decide_eq_true h1, decide_eq_true h2]
        cases q1
        all_goals cases q2
        all_goals
          go_enter Tryz.func15, Tryz.ntmps15
          go_wp2_with (first
            | (go_at_call 20; (with_reducible refine (LO.out _ B0.out).mono ?_); rintro e w1 ⟨rfl, hb⟩; have B1 := Lib.hid (B0.out.trans (hb.mono B0.out.size)); obtain ⟨k0, k1, k2, k3, k4⟩ := (K.out.below hb K.out.lt).four; clear hb)
            | (go_at_call 32; (with_reducible refine (AB.out _ B1.out).mono ?_); rintro e w2 ⟨rfl, rfl⟩)
            | (go_at_call 32; (with_reducible refine (AS.out _ B1.out).mono ?_); rintro e w2 ⟨rfl, rfl⟩))
          go_ret
          exact ⟨rfl, B1.out⟩
      · have h3 : ¬ s < 2 := by omega
        have h4 : 8 < s := by omega
        rw [decide_eq_true h1, decide_eq_false h2]
        go_enter Tryz.func15, Tryz.ntmps15
        go_wp2_with (go_at_call 20; (with_reducible refine (LO.out _ B0.out).mono ?_); rintro e w1 ⟨rfl, hb⟩; have B1 := Lib.hid (B0.out.trans (hb.mono B0.out.size)); obtain ⟨k0, k1, k2, k3, k4⟩ := (K.out.below hb K.out.lt).four; clear hb)
        go_ret
        exact ⟨rfl, B1.out⟩
    · have h3 : s < 2 := by omega
      rw [decide_eq_false h1]
      go_enter Tryz.func15, Tryz.ntmps15
      go_wp2_with (go_at_call 20; (with_reducible refine (LO.out _ B0.out).mono ?_); rintro e w1 ⟨rfl, hb⟩; have B1 := Lib.hid (B0.out.trans (hb.mono B0.out.size)); obtain ⟨k0, k1, k2, k3, k4⟩ := (K.out.below hb K.out.lt).four; clear hb)
      go_ret
      exact ⟨rfl, B1.out⟩
set_option maxRecDepth 100000 in
set_option maxHeartbeats 2000000 in
theorem rright_any (w : World) (h : TR w A n f Ab nb b As ns l) (hn : n ≤ 1000) (hnb : nb ≤ 1000) (hns : ns ≤ 1000) :
    Calls Tryz.prog 5 #[.agg #[.slice A n c, .int .i64 s, .slice Ab nb cb, .slice As ns cs]] w fun e w' => e = .returned (.bool (rt f n s b l)) ∧ Below w.heap.size w w' := by
  have LO := fun w' (hb : Below w.heap.size w w') => known_any A n c f w' (h.later hb).1 (by omega)
  have e9 : (n : Int) - 1 + 1 = (n : Int) := by omega
  have AB := fun w' (hb : Below w.heap.size w w') => numbers_any Ab nb cb b ((n : Int) - 1) w' (h.later hb).2.1 (by omega)
  have AS := fun w' (hb : Below w.heap.size w w') => numbers_any As ns cs l ((n : Int) - 1) w' (h.later hb).2.2 (by omega)
  rw [e9] at AB AS
  have K := Lib.hid (Blk.new w 25 #[.slice A n c, .int .i64 s, .slice Ab nb cb, .slice As ns cs])
  have B0 := Lib.hid ((Below.refl w.heap.size w).alloc (Nat.le_refl _) (.cells #[.slice A n c, .int .i64 s, .slice Ab nb cb, .slice As ns cs] 25))
  clear h e9
  unfold rt
  generalize decide (kd f n < 3) = q0 at LO ⊢
  generalize asc b (n : Int) = q1 at AB ⊢
  generalize asc l (n : Int) = q2 at AS ⊢
  have zz := Lib.hid LO
  (try clear LO)
  have LO := zz
  clear zz
  have zz := Lib.hid AB
  (try clear AB)
  have AB := zz
  clear zz
  have zz := Lib.hid AS
  (try clear AS)
  have AS := zz
  clear zz
  cases q0 with
  | false =>
    go_enter Tryz.func5, Tryz.ntmps5
    go_wp2_with (go_at_call 11; (with_reducible refine (LO.out _ B0.out).mono ?_); rintro e w1 ⟨rfl, hb⟩; have B1 := Lib.hid (B0.out.trans (hb.mono B0.out.size)); obtain ⟨k0, k1, k2, k3, k4⟩ := (K.out.below hb K.out.lt).four; clear hb)
    go_ret
    exact ⟨rfl, B1.out⟩
  | true =>
    by_cases h1 : 2 ≤ s
    · by_cases h2 : s ≤ 8
      · rw [decide_eq_true h1, decide_eq_true h2]
        cases q1 with
        | false =>
          go_enter Tryz.func5, Tryz.ntmps5
          go_wp2_with (first
            | (go_at_call 11; (with_reducible refine (LO.out _ B0.out).mono ?_); rintro e w1 ⟨rfl, hb⟩; have B1 := Lib.hid (B0.out.trans (hb.mono B0.out.size)); have K1 := Lib.hid (K.out.below hb K.out.lt); obtain ⟨k0, k1, k2, k3, k4⟩ := (K.out.below hb K.out.lt).four; clear hb)
            | (go_at_call 12; (with_reducible refine (AB.out _ B1.out).mono ?_); rintro e w2 ⟨rfl, hb⟩; have B2 := Lib.hid (B1.out.trans (hb.mono B1.out.size)); obtain ⟨k0, k1, k2, k3, k4⟩ := (K1.out.below hb K1.out.lt).four; clear hb))
          go_ret
          exact ⟨rfl, B2.out⟩
        | true =>
          cases q2
          all_goals
            go_enter Tryz.func5, Tryz.ntmps5
            go_wp2_with (first
              | (go_at_call 11; (with_reducible refine (LO.out _ B0.out).mono ?_); rintro e w1 ⟨rfl, hb⟩; have B1 := Lib.hid (B0.out.trans (hb.mono B0.out.size)); have K1 := Lib.hid (K.out.below hb K.out.lt); obtain ⟨k0, k1, k2, k3, k4⟩ := (K.out.below hb K.out.lt).four; clear hb)
              | (go_at_call 12; (with_reducible refine (AS.out _ B2.out).mono ?_); rintro e w3 ⟨rfl, hb⟩; have B3 := Lib.hid (B2.out.trans (hb.mono B2.out.size)); clear hb)
              | (go_at_call 12; (with_reducible refine (AB.out _ B1.out).mono ?_); rintro e w2 ⟨rfl, hb⟩; have B2 := Lib.hid (B1.out.trans (hb.mono B1.out.size)); obtain ⟨k0, k1, k2, k3, k4⟩ := (K1.out.below hb K1.out.lt).four; clear hb))
            go_ret
            exact ⟨rfl, B3.out⟩
      · rw [decide_eq_true h1, decide_eq_false h2]
        go_enter Tryz.func5, Tryz.ntmps5
        go_wp2_with (go_at_call 11; (with_reducible refine (LO.out _ B0.out).mono ?_); rintro e w1 ⟨rfl, hb⟩; have B1 := Lib.hid (B0.out.trans (hb.mono B0.out.size)); obtain ⟨k0, k1, k2, k3, k4⟩ := (K.out.below hb K.out.lt).four; clear hb)
        go_ret
        exact ⟨rfl, B1.out⟩
    · rw [decide_eq_false h1]
      go_enter Tryz.func5, Tryz.ntmps5
      go_wp2_with (go_at_call 11; (with_reducible refine (LO.out _ B0.out).mono ?_); rintro e w1 ⟨rfl, hb⟩; have B1 := Lib.hid (B0.out.trans (hb.mono B0.out.size)); obtain ⟨k0, k1, k2, k3, k4⟩ := (K.out.below hb K.out.lt).four; clear hb)
      go_ret
      exact ⟨rfl, B1.out⟩
set_option maxRecDepth 100000 in
set_option maxHeartbeats 2000000 in
theorem plain_any (w : World) (h : TR w A n f Ab nb b As ns l) (hn : n ≤ 1000) (hnb : nb ≤ 1000) (hns : ns ≤ 1000) :
    Calls Tryz.prog 19 #[.agg #[.slice A n c, .int .i64 s, .slice Ab nb cb, .slice As ns cs]] w fun e w' => e = .returned (.bool (rt f n s b l && (s == 2))) ∧ Below w.heap.size w w' := by
  have RI := fun w' (hb : Below w.heap.size w w') => right_any A n c f s Ab nb cb b As ns cs l w' (h.later hb) hn hnb hns
  have K := Lib.hid (Blk.new w 25 #[.slice A n c, .int .i64 s, .slice Ab nb cb, .slice As ns cs])
  have B0 := Lib.hid ((Below.refl w.heap.size w).alloc (Nat.le_refl _) (.cells #[.slice A n c, .int .i64 s, .slice Ab nb cb, .slice As ns cs] 25))
  clear h
  generalize rt f n s b l = q at RI ⊢
  have zz := Lib.hid RI
  (try clear RI)
  have RI := zz
  clear zz
  cases q
  all_goals
    go_enter Tryz.func19, Tryz.ntmps19
    go_wp2_with (go_at_call 15; (with_reducible refine (RI.out _ B0.out).mono ?_); rintro e w1 ⟨rfl, hb⟩; have B1 := Lib.hid (B0.out.trans (hb.mono B0.out.size)); obtain ⟨k0, k1, k2, k3, k4⟩ := (K.out.below hb K.out.lt).four; clear hb)
    go_ret
    exact ⟨rfl, B1.out⟩
end
end Go.Proofs.YtbdgfegafckkbaaGreatDoor
