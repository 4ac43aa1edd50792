/- The walk of the law: what the examples' walk says is handed in. -/
import Derived.Test.YtegednbebmkmhaaPCmp
import Derived.Test.YtegednbebmkmhaaShift
namespace Go.Proofs.Ytegednbebmkmhaa
open Go.RowKit

def AwakeSays : Prop := ∀ w, Calls Try.prog 5 #[] w fun e w' => e = .returned (.bool true) ∧ Below w.heap.size w w'

/-- all moved cells of a valid pattern are at valid positions -/
def OkM (dx dy : Int) (f : Nat → C3) (n : Nat) : Prop := OkL f n ∧ ∀ i, i < n → OkP (mv dx dy f i)
section
variable (A : Option Addr) (n c : Nat) (f : Nat → C3) (dx dy : Int) (w : World)
theorem first_bad {p : Nat → Prop} (n : Nat) (h : ¬ ∀ i, i < n → p i) : ∃ k, k < n ∧ (∀ i, i < k → p i) ∧ ¬ p k := by
  induction n with
  | zero => exact absurd (fun i hi => absurd hi (by omega)) h
  | succ n ih =>
    by_cases hn : ∀ i, i < n → p i
    · refine ⟨n, by omega, hn, fun hp => h fun i hi => ?_⟩
      by_cases e : i = n
      · rw [e]; exact hp
      · exact hn i (by omega)
    · obtain ⟨k, a, b, d⟩ := ih hn
      exact ⟨k, by omega, b, d⟩
theorem shift_ok (h : CReads w w.heap.size A n f) (x1 : -2097152 ≤ dx) (x2 : dx ≤ 2097152) (y1 : -2097152 ≤ dy) (y2 : dy ≤ 2097152) (hok : OkM dx dy f n) :
    Calls Try.prog 8 #[.slice A n c, .int .i64 dx, .int .i64 dy] w fun e w' => ∃ g, e = .returned (.tuple #[.slice (some ⟨g, 0, none⟩) n n, .int .i64 0]) ∧ CReads w' w'.heap.size (some ⟨g, 0, none⟩) n (mv dx dy f) ∧ Below w.heap.size w w' := by
  refine (shift_by A n c f dx dy w h hok.1 x1 x2 y1 y2 n (Nat.le_refl _) hok.2 (fun h => absurd h (by omega))).mono fun e w' ⟨h1, h2⟩ => ?_
  rcases h1 with ⟨h1, _⟩ | ⟨_, g, h3, h4⟩
  · omega
  · exact ⟨g, h3, h4, h2⟩
theorem shift_no (h : CReads w w.heap.size A n f) (hn : n ≤ 1000000) (x1 : -2097152 ≤ dx) (x2 : dx ≤ 2097152) (y1 : -2097152 ≤ dy) (y2 : dy ≤ 2097152) (hok : ¬ OkM dx dy f n) :
    Calls Try.prog 8 #[.slice A n c, .int .i64 dx, .int .i64 dy] w fun e w' => ∃ r : Int, e = .returned (.tuple #[.slice none 0 0, .int .i64 r]) ∧ (r != 0) = true ∧ Below w.heap.size w w' := by
  by_cases hl : OkL f n
  · obtain ⟨k, k1, k2, k3⟩ := first_bad n (fun h' => hok ⟨hl, h'⟩)
    refine (shift_by A n c f dx dy w h hl x1 x2 y1 y2 k (Nat.le_of_lt k1) k2 (fun _ => k3)).mono fun e w' ⟨h1, h2⟩ => ?_
    rcases h1 with ⟨_, h1⟩ | ⟨h1, _⟩
    · exact ⟨5, h1, by decide, h2⟩
    · omega
  · exact (shift_bad A n c f dx dy w h hn hl).mono fun e w' ⟨h1, h2⟩ => ⟨2, h1, by decide, h2⟩
theorem shift_some (h : CReads w w.heap.size A n f) (hn : n ≤ 1000000) (x1 : -2097152 ≤ dx) (x2 : dx ≤ 2097152) (y1 : -2097152 ≤ dy) (y2 : dy ≤ 2097152) :
    Calls Try.prog 8 #[.slice A n c, .int .i64 dx, .int .i64 dy] w fun e w' => ∃ v r, e = .returned (.tuple #[v, .int .i64 r]) ∧ Below w.heap.size w w' := by
  by_cases hok : OkM dx dy f n
  · exact (shift_ok A n c f dx dy w h x1 x2 y1 y2 hok).mono fun e w' ⟨g, h1, _, h2⟩ => ⟨_, _, h1, h2⟩
  · exact (shift_no A n c f dx dy w h hn x1 x2 y1 y2 hok).mono fun e w' ⟨r, h1, _, h2⟩ => ⟨_, _, h1, h2⟩
end

theorem sg_bound (a b : Int) : -1 ≤ sg a b ∧ sg a b ≤ 1 := by unfold sg; split <;> (try split) <;> omega
theorem cl_bound (f : Nat → C3) (n : Nat) (g : Nat → C3) (m : Nat) : -1 ≤ cl f n g m ∧ cl f n g m ≤ 1 := by
  unfold cl
  split
  · exact sg_bound _ _
  · unfold cc cp or2
    split <;> (try split) <;> exact sg_bound _ _

section
variable (A1 A2 A3 : Option Addr) (n1 n2 n3 c1 c2 c3 : Nat) (w : World)
theorem law_long (HA : AwakeSays) (h : ¬ (n1 ≤ 800 ∧ n2 ≤ 800 ∧ n3 ≤ 800)) :
    Calls Try.prog 3 #[.slice A1 n1 c1, .slice A2 n2 c2, .slice A3 n3 c3] w fun e w' => e = .returned (.bool true) ∧ Below w.heap.size w w' := by
  have HA := Lib.hid (show ∀ w, Calls Try.prog 5 #[] w (fun e w' => e = .returned (.bool true) ∧ Below w.heap.size w w') from HA)
  by_cases h1 : n1 ≤ 800
  · have G1 := fun w => few_any A1 n1 c1 w
    rw [decide_eq_true h1] at G1
    have G1 := Lib.hid G1
    by_cases h2 : n2 ≤ 800
    · have G2 := fun w => few_any A2 n2 c2 w
      rw [decide_eq_true h2] at G2
      have G2 := Lib.hid G2
      have G3 := fun w => few_any A3 n3 c3 w
      rw [decide_eq_false (fun h3 => h ⟨h1, h2, h3⟩)] at G3
      have G3 := Lib.hid G3
      clear h h1 h2
      go_enter Try.func3, Try.ntmps3
      go_wp2_with (first
        | (go_at_call 4; (with_reducible refine (G1.out _).mono ?_); rintro e w' ⟨rfl, rfl⟩)
        | (go_at_call 4; (with_reducible refine (G2.out _).mono ?_); rintro e w' ⟨rfl, rfl⟩)
        | (go_at_call 4; (with_reducible refine (G3.out _).mono ?_); rintro e w' ⟨rfl, rfl⟩)
        | (go_at_call 5; (with_reducible refine (HA.out _).mono ?_); rintro e w' ⟨rfl, hb⟩; have HB := Lib.hid hb; clear hb))
      go_ret
      exact ⟨rfl, HB.out⟩
    · have G2 := fun w => few_any A2 n2 c2 w
      rw [decide_eq_false h2] at G2
      have G2 := Lib.hid G2
      clear h h1 h2
      go_enter Try.func3, Try.ntmps3
      go_wp2_with (first
        | (go_at_call 4; (with_reducible refine (G1.out _).mono ?_); rintro e w' ⟨rfl, rfl⟩)
        | (go_at_call 4; (with_reducible refine (G2.out _).mono ?_); rintro e w' ⟨rfl, rfl⟩)
        | (go_at_call 5; (with_reducible refine (HA.out _).mono ?_); rintro e w' ⟨rfl, hb⟩; have HB := Lib.hid hb; clear hb))
      go_ret
      exact ⟨rfl, HB.out⟩
  · have G1 := fun w => few_any A1 n1 c1 w
    rw [decide_eq_false h1] at G1
    have G1 := Lib.hid G1
    clear h h1
    go_enter Try.func3, Try.ntmps3
    go_wp2_with (first
      | (go_at_call 4; (with_reducible refine (G1.out _).mono ?_); rintro e w' ⟨rfl, rfl⟩)
      | (go_at_call 5; (with_reducible refine (HA.out _).mono ?_); rintro e w' ⟨rfl, hb⟩; have HB := Lib.hid hb; clear hb))
    go_ret
    exact ⟨rfl, HB.out⟩

variable (f1 f2 f3 : Nat → C3)
set_option maxRecDepth 100000 in
set_option maxHeartbeats 4000000 in
theorem law_few (HA : AwakeSays) (h1 : CReads w w.heap.size A1 n1 f1) (h2 : CReads w w.heap.size A2 n2 f2) (h3 : CReads w w.heap.size A3 n3 f3) (l1 : n1 ≤ 800) (l2 : n2 ≤ 800) (l3 : n3 ≤ 800) :
    Calls Try.prog 3 #[.slice A1 n1 c1, .slice A2 n2 c2, .slice A3 n3 c3] w fun e w' => e = .returned (.bool true) ∧ Below w.heap.size w w' := by
  have HA := Lib.hid (show ∀ w, Calls Try.prog 5 #[] w (fun e w' => e = .returned (.bool true) ∧ Below w.heap.size w w') from HA)
  have G1 := fun w => few_any A1 n1 c1 w
  have G2 := fun w => few_any A2 n2 c2 w
  have G3 := fun w => few_any A3 n3 c3 w
  rw [decide_eq_true l1] at G1
  rw [decide_eq_true l2] at G2
  rw [decide_eq_true l3] at G3
  have m1 : n1 ≤ 1000000 := by omega
  have m2 : n2 ≤ 1000000 := by omega
  have m3 : n3 ≤ 1000000 := by omega
  have X := fun w' (hb : Below w.heap.size w w') => (compare_any A1 A2 n1 n2 c1 c2 f1 f2 w' (h1.later hb) (h2.later hb) m1 m2).mono fun e w'' h => And.intro h.1 (hb.trans (h.2.mono hb.size))
  have Y := fun w' (hb : Below w.heap.size w w') => (compare_any A2 A3 n2 n3 c2 c3 f2 f3 w' (h2.later hb) (h3.later hb) m2 m3).mono fun e w'' h => And.intro h.1 (hb.trans (h.2.mono hb.size))
  have Z := fun w' (hb : Below w.heap.size w w') => (compare_any A1 A3 n1 n3 c1 c3 f1 f3 w' (h1.later hb) (h3.later hb) m1 m3).mono fun e w'' h => And.intro h.1 (hb.trans (h.2.mono hb.size))
  have V := fun w' (hb : Below w.heap.size w w') => (compare_any A2 A1 n2 n1 c2 c1 f2 f1 w' (h2.later hb) (h1.later hb) m2 m1).mono fun e w'' h => And.intro h.1 (hb.trans (h.2.mono hb.size))
  have S := fun w' (hb : Below w.heap.size w w') => (same_any A1 A2 n1 n2 c1 c2 f1 f2 w' (h1.later hb) (h2.later hb) m1 m2).mono fun e w'' h => And.intro h.1 (hb.trans (h.2.mono hb.size))
  have hse : decide (n1 = n2 ∧ com f1 n1 f2 n2 = n1) = (cl f1 n1 f2 n2 == 0) := by
    have := cl_zero f1 n1 f2 n2
    by_cases h : cl f1 n1 f2 n2 = 0
    · rw [decide_eq_true (this.1 h), h]; rfl
    · rw [decide_eq_false (fun h' => h (this.2 h'))]; symm; rw [beq_eq_false_iff_ne]; exact h
  simp only [hse, cl_anti f1 n1 f2 n2] at S V
  have ht := cl_trans f1 f2 f3 n1 n2 n3
  have hb := cl_bound f1 n1 f2 n2
  have W := fun w' (p q : Option Addr) (c c' : Nat) (hp : CReads w' w'.heap.size p n1 (mv 5 (-7) f1)) (hq : CReads w' w'.heap.size q n2 (mv 5 (-7) f2)) => compare_any p q n1 n2 c c' _ _ w' hp hq m1 m2
  simp only [cl_move] at W
  generalize cl f1 n1 f2 n2 = x at X S V W ht hb
  generalize cl f2 n2 f3 n3 = y at Y ht
  generalize cl f1 n1 f3 n3 = z at Z ht
  obtain ⟨hb1, hb2⟩ := hb
  have H1 := Lib.hid h1
  have H2 := Lib.hid h2
  have G1 := Lib.hid G1
  have G2 := Lib.hid G2
  have G3 := Lib.hid G3
  have X := Lib.hid X
  have Y := Lib.hid Y
  have Z := Lib.hid Z
  have V := Lib.hid V
  have S := Lib.hid S
  have W := Lib.hid W
  have B0 := Lib.hid (Below.refl w.heap.size w)
  have M1 := Lib.hid m1
  have M2 := Lib.hid m2
  clear h1 h2 h3 l1 l2 l3 m1 m2 m3 hse
  by_cases o1 : OkM 5 (-7) f1 n1
  · by_cases o2 : OkM 5 (-7) f2 n2
    · have SA := Lib.hid (show ∀ w', Below w.heap.size w w' → Calls Try.prog 8 #[.slice A1 n1 c1, .int .i64 5, .int .i64 (-7)] w' (fun e w'' => ∃ g, e = .returned (.tuple #[.slice (some ⟨g, 0, none⟩) n1 n1, .int .i64 0]) ∧ CReads w'' w''.heap.size (some ⟨g, 0, none⟩) n1 (mv 5 (-7) f1) ∧ Below w'.heap.size w' w'' ∧ Below w.heap.size w w'') from fun w' hb => (shift_ok A1 n1 c1 f1 5 (-7) w' (H1.out.later hb) (by decide) (by decide) (by decide) (by decide) o1).mono fun e w'' ⟨g, a1, a2, a3⟩ => ⟨g, a1, a2, a3, hb.trans (a3.mono hb.size)⟩)
      have SB := Lib.hid (show ∀ w', Below w.heap.size w w' → Calls Try.prog 8 #[.slice A2 n2 c2, .int .i64 5, .int .i64 (-7)] w' (fun e w'' => ∃ g, e = .returned (.tuple #[.slice (some ⟨g, 0, none⟩) n2 n2, .int .i64 0]) ∧ CReads w'' w''.heap.size (some ⟨g, 0, none⟩) n2 (mv 5 (-7) f2) ∧ Below w'.heap.size w' w'' ∧ Below w.heap.size w w'') from fun w' hb => (shift_ok A2 n2 c2 f2 5 (-7) w' (H2.out.later hb) (by decide) (by decide) (by decide) (by decide) o2).mono fun e w'' ⟨g, a1, a2, a3⟩ => ⟨g, a1, a2, a3, hb.trans (a3.mono hb.size)⟩)
      clear o1 o2
      by_cases hx : x ≤ 0
      · by_cases hy : y ≤ 0
        · have hz := ht hx hy
          clear ht
          go_enter Try.func3, Try.ntmps3
          go_wp2_with (first
            | (go_at_call 4; (with_reducible refine (G1.out _).mono ?_); rintro e w' ⟨rfl, rfl⟩)
            | (go_at_call 4; (with_reducible refine (G2.out _).mono ?_); rintro e w' ⟨rfl, rfl⟩)
            | (go_at_call 4; (with_reducible refine (G3.out _).mono ?_); rintro e w' ⟨rfl, rfl⟩)
            | (go_at_call 6; (with_reducible refine (X.out _ B0.out).mono ?_); rintro e wa ⟨rfl, hb⟩; have B1 := Lib.hid hb; clear hb)
            | (go_at_call 6; (with_reducible refine (Y.out _ B1.out).mono ?_); rintro e wb ⟨rfl, hb⟩; have B2 := Lib.hid hb; clear hb)
            | (go_at_call 6; (with_reducible refine (Z.out _ B2.out).mono ?_); rintro e wc ⟨rfl, hb⟩; have B3 := Lib.hid hb; clear hb)
            | (go_at_call 6; (with_reducible refine (V.out _ B3.out).mono ?_); rintro e wd ⟨rfl, hb⟩; have B4 := Lib.hid hb; clear hb)
            | (go_at_call 7; (with_reducible refine (S.out _ B4.out).mono ?_); rintro e we ⟨rfl, hb⟩; have B5 := Lib.hid hb; clear hb)
            | (go_at_call 8; (with_reducible refine (SA.out _ B5.out).mono ?_); rintro e wf ⟨gp, rfl, hp, hb1, hb⟩; have B6 := Lib.hid hb; have P6 := Lib.hid hp; clear hb hb1 hp)
            | (go_at_call 8; (with_reducible refine (SB.out _ B6.out).mono ?_); rintro e wg ⟨gq, rfl, hq, hb1, hb⟩; have B7 := Lib.hid hb; have P7 := Lib.hid (P6.out.later hb1); have Q7 := Lib.hid hq; clear hb hb1 hq)
            | (go_at_call 6; (with_reducible refine (W.out _ _ _ _ _ P7.out Q7.out).mono ?_); rintro e wh ⟨rfl, hb⟩; have B8 := Lib.hid (B7.out.trans (hb.mono B7.out.size)); clear hb)
            | (go_at_call 5; (with_reducible refine (HA.out _).mono ?_); rintro e w' ⟨rfl, hb⟩; have HB := Lib.hid (B8.out.trans (hb.mono B8.out.size)); clear hb))
          go_ret
          exact ⟨rfl, HB.out⟩
        · clear ht
          go_enter Try.func3, Try.ntmps3
          go_wp2_with (first
            | (go_at_call 4; (with_reducible refine (G1.out _).mono ?_); rintro e w' ⟨rfl, rfl⟩)
            | (go_at_call 4; (with_reducible refine (G2.out _).mono ?_); rintro e w' ⟨rfl, rfl⟩)
            | (go_at_call 4; (with_reducible refine (G3.out _).mono ?_); rintro e w' ⟨rfl, rfl⟩)
            | (go_at_call 6; (with_reducible refine (X.out _ B0.out).mono ?_); rintro e wa ⟨rfl, hb⟩; have B1 := Lib.hid hb; clear hb)
            | (go_at_call 6; (with_reducible refine (Y.out _ B1.out).mono ?_); rintro e wb ⟨rfl, hb⟩; have B2 := Lib.hid hb; clear hb)
            | (go_at_call 6; (with_reducible refine (Z.out _ B2.out).mono ?_); rintro e wc ⟨rfl, hb⟩; have B3 := Lib.hid hb; clear hb)
            | (go_at_call 6; (with_reducible refine (V.out _ B3.out).mono ?_); rintro e wd ⟨rfl, hb⟩; have B4 := Lib.hid hb; clear hb)
            | (go_at_call 7; (with_reducible refine (S.out _ B4.out).mono ?_); rintro e we ⟨rfl, hb⟩; have B5 := Lib.hid hb; clear hb)
            | (go_at_call 8; (with_reducible refine (SA.out _ B5.out).mono ?_); rintro e wf ⟨gp, rfl, hp, hb1, hb⟩; have B6 := Lib.hid hb; have P6 := Lib.hid hp; clear hb hb1 hp)
            | (go_at_call 8; (with_reducible refine (SB.out _ B6.out).mono ?_); rintro e wg ⟨gq, rfl, hq, hb1, hb⟩; have B7 := Lib.hid hb; have P7 := Lib.hid (P6.out.later hb1); have Q7 := Lib.hid hq; clear hb hb1 hq)
            | (go_at_call 6; (with_reducible refine (W.out _ _ _ _ _ P7.out Q7.out).mono ?_); rintro e wh ⟨rfl, hb⟩; have B8 := Lib.hid (B7.out.trans (hb.mono B7.out.size)); clear hb)
            | (go_at_call 5; (with_reducible refine (HA.out _).mono ?_); rintro e w' ⟨rfl, hb⟩; have HB := Lib.hid (B8.out.trans (hb.mono B8.out.size)); clear hb))
          go_ret
          exact ⟨rfl, HB.out⟩
      · clear ht
        go_enter Try.func3, Try.ntmps3
        go_wp2_with (first
          | (go_at_call 4; (with_reducible refine (G1.out _).mono ?_); rintro e w' ⟨rfl, rfl⟩)
          | (go_at_call 4; (with_reducible refine (G2.out _).mono ?_); rintro e w' ⟨rfl, rfl⟩)
          | (go_at_call 4; (with_reducible refine (G3.out _).mono ?_); rintro e w' ⟨rfl, rfl⟩)
          | (go_at_call 6; (with_reducible refine (X.out _ B0.out).mono ?_); rintro e wa ⟨rfl, hb⟩; have B1 := Lib.hid hb; clear hb)
          | (go_at_call 6; (with_reducible refine (Y.out _ B1.out).mono ?_); rintro e wb ⟨rfl, hb⟩; have B2 := Lib.hid hb; clear hb)
          | (go_at_call 6; (with_reducible refine (Z.out _ B2.out).mono ?_); rintro e wc ⟨rfl, hb⟩; have B3 := Lib.hid hb; clear hb)
          | (go_at_call 6; (with_reducible refine (V.out _ B3.out).mono ?_); rintro e wd ⟨rfl, hb⟩; have B4 := Lib.hid hb; clear hb)
          | (go_at_call 7; (with_reducible refine (S.out _ B4.out).mono ?_); rintro e we ⟨rfl, hb⟩; have B5 := Lib.hid hb; clear hb)
          | (go_at_call 8; (with_reducible refine (SA.out _ B5.out).mono ?_); rintro e wf ⟨gp, rfl, hp, hb1, hb⟩; have B6 := Lib.hid hb; have P6 := Lib.hid hp; clear hb hb1 hp)
          | (go_at_call 8; (with_reducible refine (SB.out _ B6.out).mono ?_); rintro e wg ⟨gq, rfl, hq, hb1, hb⟩; have B7 := Lib.hid hb; have P7 := Lib.hid (P6.out.later hb1); have Q7 := Lib.hid hq; clear hb hb1 hq)
          | (go_at_call 6; (with_reducible refine (W.out _ _ _ _ _ P7.out Q7.out).mono ?_); rintro e wh ⟨rfl, hb⟩; have B8 := Lib.hid (B7.out.trans (hb.mono B7.out.size)); clear hb)
          | (go_at_call 5; (with_reducible refine (HA.out _).mono ?_); rintro e w' ⟨rfl, hb⟩; have HB := Lib.hid (B8.out.trans (hb.mono B8.out.size)); clear hb))
        go_ret
        exact ⟨rfl, HB.out⟩
    · have SA := Lib.hid (show ∀ w', Below w.heap.size w w' → Calls Try.prog 8 #[.slice A1 n1 c1, .int .i64 5, .int .i64 (-7)] w' (fun e w'' => ∃ g, e = .returned (.tuple #[.slice (some ⟨g, 0, none⟩) n1 n1, .int .i64 0]) ∧ CReads w'' w''.heap.size (some ⟨g, 0, none⟩) n1 (mv 5 (-7) f1) ∧ Below w'.heap.size w' w'' ∧ Below w.heap.size w w'') from fun w' hb => (shift_ok A1 n1 c1 f1 5 (-7) w' (H1.out.later hb) (by decide) (by decide) (by decide) (by decide) o1).mono fun e w'' ⟨g, a1, a2, a3⟩ => ⟨g, a1, a2, a3, hb.trans (a3.mono hb.size)⟩)
      have SB := Lib.hid (show ∀ w', Below w.heap.size w w' → Calls Try.prog 8 #[.slice A2 n2 c2, .int .i64 5, .int .i64 (-7)] w' (fun e w'' => ∃ r : Int, e = .returned (.tuple #[.slice none 0 0, .int .i64 r]) ∧ (r != 0) = true ∧ Below w.heap.size w w'') from fun w' hb => (shift_no A2 n2 c2 f2 5 (-7) w' (H2.out.later hb) M2.out (by decide) (by decide) (by decide) (by decide) o2).mono fun e w'' ⟨r, a1, a2, a3⟩ => ⟨r, a1, a2, hb.trans (a3.mono hb.size)⟩)
      clear o1 o2
      by_cases hx : x ≤ 0
      · by_cases hy : y ≤ 0
        · have hz := ht hx hy
          clear ht
          go_enter Try.func3, Try.ntmps3
          go_wp2_with (first
            | (go_at_call 4; (with_reducible refine (G1.out _).mono ?_); rintro e w' ⟨rfl, rfl⟩)
            | (go_at_call 4; (with_reducible refine (G2.out _).mono ?_); rintro e w' ⟨rfl, rfl⟩)
            | (go_at_call 4; (with_reducible refine (G3.out _).mono ?_); rintro e w' ⟨rfl, rfl⟩)
            | (go_at_call 6; (with_reducible refine (X.out _ B0.out).mono ?_); rintro e wa ⟨rfl, hb⟩; have B1 := Lib.hid hb; clear hb)
            | (go_at_call 6; (with_reducible refine (Y.out _ B1.out).mono ?_); rintro e wb ⟨rfl, hb⟩; have B2 := Lib.hid hb; clear hb)
            | (go_at_call 6; (with_reducible refine (Z.out _ B2.out).mono ?_); rintro e wc ⟨rfl, hb⟩; have B3 := Lib.hid hb; clear hb)
            | (go_at_call 6; (with_reducible refine (V.out _ B3.out).mono ?_); rintro e wd ⟨rfl, hb⟩; have B4 := Lib.hid hb; clear hb)
            | (go_at_call 7; (with_reducible refine (S.out _ B4.out).mono ?_); rintro e we ⟨rfl, hb⟩; have B5 := Lib.hid hb; clear hb)
            | (go_at_call 8; (with_reducible refine (SA.out _ B5.out).mono ?_); rintro e wf ⟨gp, rfl, hp, hb1, hb⟩; have B6 := Lib.hid hb; clear hb hb1 hp)
            | (go_at_call 8; (with_reducible refine (SB.out _ B6.out).mono ?_); rintro e wg ⟨r2, rfl, hr2, hb⟩; have B7 := Lib.hid hb; clear hb)
            | (go_at_call 5; (with_reducible refine (HA.out _).mono ?_); rintro e w' ⟨rfl, hb⟩; have HB := Lib.hid (B7.out.trans (hb.mono B7.out.size)); clear hb))
          go_ret
          exact ⟨rfl, HB.out⟩
        · clear ht
          go_enter Try.func3, Try.ntmps3
          go_wp2_with (first
            | (go_at_call 4; (with_reducible refine (G1.out _).mono ?_); rintro e w' ⟨rfl, rfl⟩)
            | (go_at_call 4; (with_reducible refine (G2.out _).mono ?_); rintro e w' ⟨rfl, rfl⟩)
            | (go_at_call 4; (with_reducible refine (G3.out _).mono ?_); rintro e w' ⟨rfl, rfl⟩)
            | (go_at_call 6; (with_reducible refine (X.out _ B0.out).mono ?_); rintro e wa ⟨rfl, hb⟩; have B1 := Lib.hid hb; clear hb)
            | (go_at_call 6; (with_reducible refine (Y.out _ B1.out).mono ?_); rintro e wb ⟨rfl, hb⟩; have B2 := Lib.hid hb; clear hb)
            | (go_at_call 6; (with_reducible refine (Z.out _ B2.out).mono ?_); rintro e wc ⟨rfl, hb⟩; have B3 := Lib.hid hb; clear hb)
            | (go_at_call 6; (with_reducible refine (V.out _ B3.out).mono ?_); rintro e wd ⟨rfl, hb⟩; have B4 := Lib.hid hb; clear hb)
            | (go_at_call 7; (with_reducible refine (S.out _ B4.out).mono ?_); rintro e we ⟨rfl, hb⟩; have B5 := Lib.hid hb; clear hb)
            | (go_at_call 8; (with_reducible refine (SA.out _ B5.out).mono ?_); rintro e wf ⟨gp, rfl, hp, hb1, hb⟩; have B6 := Lib.hid hb; clear hb hb1 hp)
            | (go_at_call 8; (with_reducible refine (SB.out _ B6.out).mono ?_); rintro e wg ⟨r2, rfl, hr2, hb⟩; have B7 := Lib.hid hb; clear hb)
            | (go_at_call 5; (with_reducible refine (HA.out _).mono ?_); rintro e w' ⟨rfl, hb⟩; have HB := Lib.hid (B7.out.trans (hb.mono B7.out.size)); clear hb))
          go_ret
          exact ⟨rfl, HB.out⟩
      · clear ht
        go_enter Try.func3, Try.ntmps3
        go_wp2_with (first
          | (go_at_call 4; (with_reducible refine (G1.out _).mono ?_); rintro e w' ⟨rfl, rfl⟩)
          | (go_at_call 4; (with_reducible refine (G2.out _).mono ?_); rintro e w' ⟨rfl, rfl⟩)
          | (go_at_call 4; (with_reducible refine (G3.out _).mono ?_); rintro e w' ⟨rfl, rfl⟩)
          | (go_at_call 6; (with_reducible refine (X.out _ B0.out).mono ?_); rintro e wa ⟨rfl, hb⟩; have B1 := Lib.hid hb; clear hb)
          | (go_at_call 6; (with_reducible refine (Y.out _ B1.out).mono ?_); rintro e wb ⟨rfl, hb⟩; have B2 := Lib.hid hb; clear hb)
          | (go_at_call 6; (with_reducible refine (Z.out _ B2.out).mono ?_); rintro e wc ⟨rfl, hb⟩; have B3 := Lib.hid hb; clear hb)
          | (go_at_call 6; (with_reducible refine (V.out _ B3.out).mono ?_); rintro e wd ⟨rfl, hb⟩; have B4 := Lib.hid hb; clear hb)
          | (go_at_call 7; (with_reducible refine (S.out _ B4.out).mono ?_); rintro e we ⟨rfl, hb⟩; have B5 := Lib.hid hb; clear hb)
          | (go_at_call 8; (with_reducible refine (SA.out _ B5.out).mono ?_); rintro e wf ⟨gp, rfl, hp, hb1, hb⟩; have B6 := Lib.hid hb; clear hb hb1 hp)
          | (go_at_call 8; (with_reducible refine (SB.out _ B6.out).mono ?_); rintro e wg ⟨r2, rfl, hr2, hb⟩; have B7 := Lib.hid hb; clear hb)
          | (go_at_call 5; (with_reducible refine (HA.out _).mono ?_); rintro e w' ⟨rfl, hb⟩; have HB := Lib.hid (B7.out.trans (hb.mono B7.out.size)); clear hb))
        go_ret
        exact ⟨rfl, HB.out⟩
  · have SA := Lib.hid (show ∀ w', Below w.heap.size w w' → Calls Try.prog 8 #[.slice A1 n1 c1, .int .i64 5, .int .i64 (-7)] w' (fun e w'' => ∃ r : Int, e = .returned (.tuple #[.slice none 0 0, .int .i64 r]) ∧ (r != 0) = true ∧ Below w.heap.size w w'') from fun w' hb => (shift_no A1 n1 c1 f1 5 (-7) w' (H1.out.later hb) M1.out (by decide) (by decide) (by decide) (by decide) o1).mono fun e w'' ⟨r, a1, a2, a3⟩ => ⟨r, a1, a2, hb.trans (a3.mono hb.size)⟩)
    have SB := Lib.hid (show ∀ w', Below w.heap.size w w' → Calls Try.prog 8 #[.slice A2 n2 c2, .int .i64 5, .int .i64 (-7)] w' (fun e w'' => ∃ v r, e = .returned (.tuple #[v, .int .i64 r]) ∧ Below w.heap.size w w'') from fun w' hb => (shift_some A2 n2 c2 f2 5 (-7) w' (H2.out.later hb) M2.out (by decide) (by decide) (by decide) (by decide)).mono fun e w'' ⟨v, r, a1, a3⟩ => ⟨v, r, a1, hb.trans (a3.mono hb.size)⟩)
    clear o1
    by_cases hx : x ≤ 0
    · by_cases hy : y ≤ 0
      · have hz := ht hx hy
        clear ht
        go_enter Try.func3, Try.ntmps3
        go_wp2_with (first
          | (go_at_call 4; (with_reducible refine (G1.out _).mono ?_); rintro e w' ⟨rfl, rfl⟩)
          | (go_at_call 4; (with_reducible refine (G2.out _).mono ?_); rintro e w' ⟨rfl, rfl⟩)
          | (go_at_call 4; (with_reducible refine (G3.out _).mono ?_); rintro e w' ⟨rfl, rfl⟩)
          | (go_at_call 6; (with_reducible refine (X.out _ B0.out).mono ?_); rintro e wa ⟨rfl, hb⟩; have B1 := Lib.hid hb; clear hb)
          | (go_at_call 6; (with_reducible refine (Y.out _ B1.out).mono ?_); rintro e wb ⟨rfl, hb⟩; have B2 := Lib.hid hb; clear hb)
          | (go_at_call 6; (with_reducible refine (Z.out _ B2.out).mono ?_); rintro e wc ⟨rfl, hb⟩; have B3 := Lib.hid hb; clear hb)
          | (go_at_call 6; (with_reducible refine (V.out _ B3.out).mono ?_); rintro e wd ⟨rfl, hb⟩; have B4 := Lib.hid hb; clear hb)
          | (go_at_call 7; (with_reducible refine (S.out _ B4.out).mono ?_); rintro e we ⟨rfl, hb⟩; have B5 := Lib.hid hb; clear hb)
          | (go_at_call 8; (with_reducible refine (SA.out _ B5.out).mono ?_); rintro e wf ⟨r, rfl, hr, hb⟩; have B6 := Lib.hid hb; clear hb)
          | (go_at_call 8; (with_reducible refine (SB.out _ B6.out).mono ?_); rintro e wg ⟨v, r2, rfl, hb⟩; have B7 := Lib.hid hb; clear hb)
          | (go_at_call 5; (with_reducible refine (HA.out _).mono ?_); rintro e w' ⟨rfl, hb⟩; have HB := Lib.hid (B7.out.trans (hb.mono B7.out.size)); clear hb))
        go_ret
        exact ⟨rfl, HB.out⟩
      · clear ht
        go_enter Try.func3, Try.ntmps3
        go_wp2_with (first
          | (go_at_call 4; (with_reducible refine (G1.out _).mono ?_); rintro e w' ⟨rfl, rfl⟩)
          | (go_at_call 4; (with_reducible refine (G2.out _).mono ?_); rintro e w' ⟨rfl, rfl⟩)
          | (go_at_call 4; (with_reducible refine (G3.out _).mono ?_); rintro e w' ⟨rfl, rfl⟩)
          | (go_at_call 6; (with_reducible refine (X.out _ B0.out).mono ?_); rintro e wa ⟨rfl, hb⟩; have B1 := Lib.hid hb; clear hb)
          | (go_at_call 6; (with_reducible refine (Y.out _ B1.out).mono ?_); rintro e wb ⟨rfl, hb⟩; have B2 := Lib.hid hb; clear hb)
          | (go_at_call 6; (with_reducible refine (Z.out _ B2.out).mono ?_); rintro e wc ⟨rfl, hb⟩; have B3 := Lib.hid hb; clear hb)
          | (go_at_call 6; (with_reducible refine (V.out _ B3.out).mono ?_); rintro e wd ⟨rfl, hb⟩; have B4 := Lib.hid hb; clear hb)
          | (go_at_call 7; (with_reducible refine (S.out _ B4.out).mono ?_); rintro e we ⟨rfl, hb⟩; have B5 := Lib.hid hb; clear hb)
          | (go_at_call 8; (with_reducible refine (SA.out _ B5.out).mono ?_); rintro e wf ⟨r, rfl, hr, hb⟩; have B6 := Lib.hid hb; clear hb)
          | (go_at_call 8; (with_reducible refine (SB.out _ B6.out).mono ?_); rintro e wg ⟨v, r2, rfl, hb⟩; have B7 := Lib.hid hb; clear hb)
          | (go_at_call 5; (with_reducible refine (HA.out _).mono ?_); rintro e w' ⟨rfl, hb⟩; have HB := Lib.hid (B7.out.trans (hb.mono B7.out.size)); clear hb))
        go_ret
        exact ⟨rfl, HB.out⟩
    · clear ht
      go_enter Try.func3, Try.ntmps3
      go_wp2_with (first
        | (go_at_call 4; (with_reducible refine (G1.out _).mono ?_); rintro e w' ⟨rfl, rfl⟩)
        | (go_at_call 4; (with_reducible refine (G2.out _).mono ?_); rintro e w' ⟨rfl, rfl⟩)
        | (go_at_call 4; (with_reducible refine (G3.out _).mono ?_); rintro e w' ⟨rfl, rfl⟩)
        | (go_at_call 6; (with_reducible refine (X.out _ B0.out).mono ?_); rintro e wa ⟨rfl, hb⟩; have B1 := Lib.hid hb; clear hb)
        | (go_at_call 6; (with_reducible refine (Y.out _ B1.out).mono ?_); rintro e wb ⟨rfl, hb⟩; have B2 := Lib.hid hb; clear hb)
        | (go_at_call 6; (with_reducible refine (Z.out _ B2.out).mono ?_); rintro e wc ⟨rfl, hb⟩; have B3 := Lib.hid hb; clear hb)
        | (go_at_call 6; (with_reducible refine (V.out _ B3.out).mono ?_); rintro e wd ⟨rfl, hb⟩; have B4 := Lib.hid hb; clear hb)
        | (go_at_call 7; (with_reducible refine (S.out _ B4.out).mono ?_); rintro e we ⟨rfl, hb⟩; have B5 := Lib.hid hb; clear hb)
        | (go_at_call 8; (with_reducible refine (SA.out _ B5.out).mono ?_); rintro e wf ⟨r, rfl, hr, hb⟩; have B6 := Lib.hid hb; clear hb)
        | (go_at_call 8; (with_reducible refine (SB.out _ B6.out).mono ?_); rintro e wg ⟨v, r2, rfl, hb⟩; have B7 := Lib.hid hb; clear hb)
        | (go_at_call 5; (with_reducible refine (HA.out _).mono ?_); rintro e w' ⟨rfl, hb⟩; have HB := Lib.hid (B7.out.trans (hb.mono B7.out.size)); clear hb))
      go_ret
      exact ⟨rfl, HB.out⟩
end
end Go.Proofs.Ytegednbebmkmhaa
