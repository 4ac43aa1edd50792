/- The walks of slices.Equal and hood.Same on any two lists. -/
/- Lists of numbers: what they read as; their comparison. -/
/- Rule tables as values: what a list of lists, a list of rows and a table read as; the first number that has a property. -/
/- Numbers and their digits. -/
import Derived.Test.YtcgkkppidkkjiaaGreatDoorMaa
import Derived.Below
import Derived.BigQuiet
import Derived.Deep.AppendLies
import Derived.Deep.Draws
import Derived.Deep.QuietTactic
import Derived.IntWalk
import Derived.Laws.OwnMore
import Derived.Laws.Rows
import Derived.Lib.Hide
import Derived.LoopN
import Derived.OwnWalk
import Derived.StillTail
import Derived.StillTailTactics
import Derived.Test.YtcgkkppidkkjiaaGreatDoorRows
import Derived.WalkKit
import Derived.Test.YtcgkkppidkkjiaaGreatDoorMab
import Derived.Sort.Statements
namespace Go.Proofs.YtcgkkppidkkjiaaGreatDoor
open Go.RowKit
/-- whether two lists have the same positions in the same order -/
def sm (f : Nat → P2) (n : Nat) (g : Nat → P2) (m : Nat) : Bool := decide (n = m) && (List.range n).all fun i => decide (f i = g i)
theorem sm_iff (f : Nat → P2) (n : Nat) (g : Nat → P2) (m : Nat) : sm f n g m = true ↔ (n = m ∧ ∀ i, i < n → f i = g i) := by
  simp [sm, Bool.and_eq_true, List.all_eq_true]
set_option maxRecDepth 100000 in
set_option maxHeartbeats 1000000 in
theorem equal_any (A A' : Option Addr) (n m c c' : Nat) (f g : Nat → P2) (w : World) (h : QReads w w.heap.size A n f) (h' : QReads w w.heap.size A' m g) (hn : n ≤ 1000000) (hm : m ≤ 1000000) :
    Calls Tryz.prog 110 #[.slice A n c, .slice A' m c'] w fun e w' => e = .returned (.bool (sm f n g m)) ∧ Below w.heap.size w w' := by
  by_cases hnm : n = m
  · subst hnm
    have H := Lib.hid h
    have H' := Lib.hid h'
    clear h h'
    go_enter Tryz.func110, Tryz.ntmps110
    go_wp2
    go_loopw [13] (fun iv wr => ∃ j : Nat, j ≤ n ∧ iv = .int .i64 (j : Int) ∧ (∀ i, i < j → f i = g i) ∧ Below w.heap.size w wr) (fun iv _ => n - (intOf iv).toNat)
    case atStart => exact ⟨0, Nat.zero_le _, rfl, fun i hi => absurd hi (by omega), Below.refl _ _⟩
    case round =>
      obtain ⟨j, hj, rfl, hE, hbel⟩ := hrel
      have R := H.out.below hbel
      have R' := H'.out.below hbel
      have HB := Lib.hid hbel
      have HE := Lib.hid hE
      clear hbel hE
      by_cases hk : j < n
      · obtain ⟨g1, o1, rfl, hb1, hc1⟩ := R (by omega)
        obtain ⟨g2, o2, rfl, hb2, hc2⟩ := R' (by omega)
        obtain ⟨c10, c11⟩ := hc1 j (by omega)
        obtain ⟨c20, c21⟩ := hc2 j (by omega)
        clear hc1 hc2 R R'
        by_cases heq : f j = g j
        · have HQ := Lib.hid heq
          rw [← heq] at c20 c21
          clear heq
          generalize f j = x at c10 c11 c20 c21
          obtain ⟨x1, x2⟩ := x
          simp only at c10 c11 c20 c21
          go_wp2_with fail
          go_quiet (fail)
          go_wp2
          go_roundw
          case rel => exact ⟨j + 1, by omega, by go_num, fun i hi => by
            by_cases e : i < j
            · exact HE.out i e
            · obtain rfl : i = j := by omega
              exact HQ.out, below_drewN HB.out _⟩
          case measure => simp [intOf]; omega
        · have HF := Lib.hid (show sm f n g n = false by rw [← Bool.not_eq_true, sm_iff]; exact fun h => heq (h.2 j hk))
          obtain ⟨⟨x1, x2⟩, hx⟩ : ∃ x, x = f j := ⟨_, rfl⟩
          obtain ⟨⟨y1, y2⟩, hy⟩ : ∃ y, y = g j := ⟨_, rfl⟩
          rw [← hx] at c10 c11 heq
          rw [← hy] at c20 c21 heq
          clear hx hy
          simp only at c10 c11 c20 c21
          by_cases e1 : x1 = y1
          · subst e1
            have e2 : (x2 == y2) = false := by rw [beq_eq_false_iff_ne]; intro e; exact heq (by rw [e])
            clear heq
            go_wp2_with fail
            go_quiet (fail)
            go_wp2
            go_ret
            exact ⟨ret_bool HF.out.symm, below_drewN HB.out _⟩
          · have e1 : (x1 == y1) = false := by rw [beq_eq_false_iff_ne]; exact e1
            clear heq
            go_wp2_with fail
            go_quiet (fail)
            go_wp2
            go_ret
            exact ⟨ret_bool HF.out.symm, below_drewN HB.out _⟩
      · obtain rfl : j = n := by omega
        have HF := Lib.hid (show sm f j g j = true by rw [sm_iff]; exact ⟨rfl, HE.out⟩)
        clear hk R R'
        go_wp2
        go_ret
        exact ⟨ret_bool HF.out.symm, HB.out⟩
  · have HF := Lib.hid (show sm f n g m = false by rw [← Bool.not_eq_true, sm_iff]; exact fun h => hnm h.1)
    have e1 : ((n : Int) != (m : Int)) = true := by rw [bne_iff_ne]; omega
    clear h h'
    go_enter Tryz.func110, Tryz.ntmps110
    go_wp2
    go_ret
    exact ⟨ret_bool HF.out.symm, Below.refl _ _⟩
theorem hsame_any (A A' : Option Addr) (n m c c' : Nat) (f g : Nat → P2) (w : World) (h : QReads w w.heap.size A n f) (h' : QReads w w.heap.size A' m g) (hn : n ≤ 1000000) (hm : m ≤ 1000000) :
    Calls Tryz.prog 92 #[.slice A n c, .slice A' m c'] w fun e w' => e = .returned (.bool (sm f n g m)) ∧ Below w.heap.size w w' := by
  have C := Lib.hid (equal_any A A' n m c c' f g w h h' hn hm)
  clear h h'
  go_enter Tryz.func92, Tryz.ntmps92
  go_wp2_with (go_at_call 110; (with_reducible refine C.out.mono ?_); rintro e w' ⟨rfl, hb⟩; have HB := Lib.hid hb; clear hb)
  go_ret
  exact ⟨rfl, HB.out⟩
end Go.Proofs.YtcgkkppidkkjiaaGreatDoor
namespace Go.Proofs.YtcgkkppidkkjiaaGreatDoor
open Go.RowKit
set_option maxRecDepth 100000 in
set_option maxHeartbeats 1000000 in
theorem lints_yes (A A' : Option Addr) (n c c' : Nat) (l : List Int) (w : World) (h : Reads w w.heap.size A n (il l)) (h' : Reads w w.heap.size A' n (il l)) (hn : n ≤ 1000000) :
    Calls Tryz.prog 16 #[.slice A n c, .slice A' n c'] w fun e w' => e = .returned (.bool true) ∧ Below w.heap.size w w' := by
  have H := Lib.hid h
  have H' := Lib.hid h'
  clear h h'
  go_enter Tryz.func16, Tryz.ntmps16
  go_wp2
  go_loopw [13] (fun iv wr => ∃ j : Nat, j ≤ n ∧ iv = .int .i64 (j : Int) ∧ Below w.heap.size w wr) (fun iv _ => n - (intOf iv).toNat)
  case atStart => exact ⟨0, Nat.zero_le _, rfl, Below.refl _ _⟩
  case round =>
    obtain ⟨j, hj, rfl, hbel⟩ := hrel
    have HB := Lib.hid hbel
    by_cases hk : j < n
    · obtain ⟨a1, rfl, hb1, hc1⟩ := il_at (H.out.below hbel) hk
      obtain ⟨a2, rfl, hb2, hc2⟩ := il_at (H'.out.below hbel) hk
      clear hbel
      generalize ig l j = x at hc1 hc2
      go_wp2_with fail
      go_quiet (fail)
      go_wp2
      go_roundw
      case rel => exact ⟨j + 1, by omega, by go_num, below_drewN HB.out _⟩
      case measure => simp [intOf]; omega
    · obtain rfl : j = n := by omega
      clear hbel
      go_wp2
      go_ret
      exact ⟨rfl, HB.out⟩
end Go.Proofs.YtcgkkppidkkjiaaGreatDoor
namespace Go.Proofs.YtcgkkppidkkjiaaGreatDoor
open Go.RowKit
/-- the first number below n with a property; -1 if there is none -/
def fx (p : Nat → Bool) : Nat → Int
  | 0 => -1
  | n + 1 => if 0 ≤ fx p n then fx p n else if p n = true then (n : Int) else -1
theorem fx_none {p : Nat → Bool} {n : Nat} (h : ∀ i, i < n → p i = false) : fx p n = -1 := by
  induction n with
  | zero => rfl
  | succ n ih => rw [fx, ih (fun i hi => h i (by omega)), h n (by omega)]; simp
theorem fx_some {p : Nat → Bool} {n j : Nat} (hj : j < n) (h : ∀ i, i < j → p i = false) (hp : p j = true) : fx p n = (j : Int) := by
  induction n with
  | zero => omega
  | succ n ih =>
    rw [fx]
    by_cases e : j < n
    · rw [ih e, if_pos (by omega)]
    · obtain rfl : j = n := by omega
      rw [fx_none h, hp]
      simp
theorem fx_cases (p : Nat → Bool) (n : Nat) : (∃ j, j < n ∧ fx p n = (j : Int) ∧ p j = true ∧ ∀ i, i < j → p i = false) ∨ (fx p n = -1 ∧ ∀ i, i < n → p i = false) := by
  induction n with
  | zero => exact .inr ⟨rfl, fun i hi => absurd hi (by omega)⟩
  | succ n ih =>
    rcases ih with ⟨j, hj, e, h1, h2⟩ | ⟨e, h1⟩
    · exact .inl ⟨j, by omega, by rw [fx, e, if_pos (by omega)], h1, h2⟩
    · cases hp : p n with
      | true => exact .inl ⟨n, by omega, by rw [fx, e, hp]; simp, hp, h1⟩
      | false => exact .inr ⟨by rw [fx, e, hp]; simp, fun i hi => by
          by_cases e : i < n
          · exact h1 i e
          · obtain rfl : i = n := by omega
            exact hp⟩
/-- where a number stands first in a list -/
def ix (l : List Int) (k : Int) : Int := fx (fun i => decide (ig l i = k)) l.length
/-- where a position stands first in a list -/
def px (f : Nat → P2) (n : Nat) (a : P2) : Int := fx (fun i => decide (f i = a)) n

/-- a list of lists of numbers -/
def VR (w : World) (B : Nat) (A : Option Addr) (n : Nat) (v : Nat → List Int) : Prop :=
  0 < n → ∃ ad, A = some ad ∧ ad.block < B ∧ ∀ k, k < n → ∃ A' c', w.cell? (ad.add k) = some (.slice A' (v k).length c') ∧ Reads w B A' (v k).length (il (v k))
/-- a list of rows -/
def RR (w : World) (B : Nat) (A : Option Addr) (n : Nat) (ri : Nat → List Int) (ro : Nat → Int) : Prop :=
  0 < n → ∃ g o, A = some ⟨g, o, none⟩ ∧ g < B ∧ ∀ k, k < n → ∃ A' c', w.cell? ⟨g, o + k * 2, none⟩ = some (.slice A' (ri k).length c') ∧ Reads w B A' (ri k).length (il (ri k)) ∧ w.cell? ⟨g, o + k * 2 + 1, none⟩ = some (.int .i64 (ro k))
section
variable {w w' : World} {B B' n : Nat} {A : Option Addr} {v ri : Nat → List Int} {ro : Nat → Int}
theorem VR.below (h : VR w B A n v) (hb : Below B w w') : VR w' B A n v := fun hn => by
  obtain ⟨ad, e, hg, hc⟩ := h hn
  exact ⟨ad, e, hg, fun k hk => by
    obtain ⟨A', c', h1, h2⟩ := hc k hk
    exact ⟨A', c', (hb.cell (by rw [block_of_add]; exact hg)).trans h1, h2.below hb⟩⟩
theorem VR.more (h : VR w B A n v) (hB : B ≤ B') : VR w B' A n v := fun hn => by
  obtain ⟨ad, e, hg, hc⟩ := h hn
  exact ⟨ad, e, Nat.lt_of_lt_of_le hg hB, fun k hk => by
    obtain ⟨A', c', h1, h2⟩ := hc k hk
    exact ⟨A', c', h1, h2.more hB⟩⟩
theorem VR.later (h : VR w w.heap.size A n v) (hb : Below w.heap.size w w') : VR w' w'.heap.size A n v := (h.below hb).more hb.size
theorem RR.below (h : RR w B A n ri ro) (hb : Below B w w') : RR w' B A n ri ro := fun hn => by
  obtain ⟨g, o, e, hg, hc⟩ := h hn
  exact ⟨g, o, e, hg, fun k hk => by
    obtain ⟨A', c', h1, h2, h3⟩ := hc k hk
    exact ⟨A', c', (hb.cell (p := ⟨g, _, none⟩) hg).trans h1, h2.below hb, (hb.cell (p := ⟨g, _, none⟩) hg).trans h3⟩⟩
theorem RR.more (h : RR w B A n ri ro) (hB : B ≤ B') : RR w B' A n ri ro := fun hn => by
  obtain ⟨g, o, e, hg, hc⟩ := h hn
  exact ⟨g, o, e, Nat.lt_of_lt_of_le hg hB, fun k hk => by
    obtain ⟨A', c', h1, h2, h3⟩ := hc k hk
    exact ⟨A', c', h1, h2.more hB, h3⟩⟩
theorem RR.later (h : RR w w.heap.size A n ri ro) (hb : Below w.heap.size w w') : RR w' w'.heap.size A n ri ro := (h.below hb).more hb.size
end
/-- a rule table -/
structure Tab where
  st : Int
  sy : Int
  n : Nat
  f : Nat → P2
  nv : Nat
  v : Nat → List Int
  nr : Nat
  ri : Nat → List Int
  ro : Nat → Int
/-- what its lists read as -/
def TR (w : World) (AH AV AR : Option Addr) (T : Tab) : Prop := QReads w w.heap.size AH T.n T.f ∧ VR w w.heap.size AV T.nv T.v ∧ RR w w.heap.size AR T.nr T.ri T.ro
theorem TR.later {w w' : World} {AH AV AR : Option Addr} {T : Tab} (h : TR w AH AV AR T) (hb : Below w.heap.size w w') : TR w' AH AV AR T := ⟨h.1.later hb, h.2.1.later hb, h.2.2.later hb⟩
/-- no list is great -/
def Bd (T : Tab) : Prop := T.n ≤ 1000 ∧ T.nv ≤ 1000 ∧ T.nr ≤ 1000 ∧ (∀ k, k < T.nv → (T.v k).length < 9223372036854775808) ∧ ∀ k, k < T.nr → (T.ri k).length < 9223372036854775808

theorem Blk.five {w : World} {g : Nat} {t : TypeId} {a b c d e : Value} (h : Blk w g t #[a, b, c, d, e]) : w.cell? ⟨g, 0, none⟩ = some a ∧ w.cell? ⟨g, 1, none⟩ = some b ∧ w.cell? ⟨g, 2, none⟩ = some c ∧ w.cell? ⟨g, 3, none⟩ = some d ∧ w.cell? ⟨g, 4, none⟩ = some e ∧ g < w.heap.size :=
  ⟨by rw [h.cell]; rfl, by rw [h.cell]; rfl, by rw [h.cell]; rfl, by rw [h.cell]; rfl, by rw [h.cell]; rfl, h.lt⟩
theorem Blk.eight {w : World} {g : Nat} {t : TypeId} {a b c d e f i j : Value} (h : Blk w g t #[a, b, c, d, e, f, i, j]) : w.cell? ⟨g, 0, none⟩ = some a ∧ w.cell? ⟨g, 1, none⟩ = some b ∧ w.cell? ⟨g, 2, none⟩ = some c ∧ w.cell? ⟨g, 3, none⟩ = some d ∧ w.cell? ⟨g, 4, none⟩ = some e ∧ w.cell? ⟨g, 5, none⟩ = some f ∧ w.cell? ⟨g, 6, none⟩ = some i ∧ w.cell? ⟨g, 7, none⟩ = some j ∧ g < w.heap.size :=
  ⟨by rw [h.cell]; rfl, by rw [h.cell]; rfl, by rw [h.cell]; rfl, by rw [h.cell]; rfl, by rw [h.cell]; rfl, by rw [h.cell]; rfl, by rw [h.cell]; rfl, by rw [h.cell]; rfl, h.lt⟩
end Go.Proofs.YtcgkkppidkkjiaaGreatDoor
namespace Go.Proofs.YtcgkkppidkkjiaaGreatDoor
open Go.RowKit
theorem ret_int {k : IntKind} {a b : Int} (h : a = b) : Ending.returned (.int k a) = .returned (.int k b) := by rw [h]
/-- a state -/
def sta (s n : Int) : Bool := decide (0 ≤ n) && decide (n < s)
theorem sta_iff (s n : Int) : sta s n = true ↔ 0 ≤ n ∧ n < s := by simp [sta]
theorem isState_any (s n : Int) (w : World) : Calls Tryz.prog 69 #[.int .i64 s, .int .i64 n] w fun e w' => e = .returned (.bool (sta s n)) ∧ w = w' := by
  by_cases h : 0 ≤ n
  · rw [sta, decide_eq_true h]
    go_enter Tryz.func69, Tryz.ntmps69
    go_wp2
    go_ret
    exact ⟨ret_bool (by simp), rfl⟩
  · rw [sta, decide_eq_false h]
    go_enter Tryz.func69, Tryz.ntmps69
    go_wp2
    go_ret
    exact ⟨rfl, rfl⟩
/-- all are states -/
def als (s : Int) (l : List Int) : Bool := (List.range l.length).all fun i => sta s (ig l i)
theorem als_iff (s : Int) (l : List Int) : als s l = true ↔ ∀ i, i < l.length → 0 ≤ ig l i ∧ ig l i < s := by
  simp only [als, List.all_eq_true, List.mem_range, sta_iff]
theorem als_no {s : Int} {l : List Int} {i : Nat} (hi : i < l.length) (h : sta s (ig l i) = false) : als s l = false := by
  rw [← Bool.not_eq_true, als_iff]
  intro h'
  have := (sta_iff s (ig l i)).2 (h' i hi)
  rw [h] at this
  cases this
/-- strictly ascending -/
def ups (l : List Int) : Bool := (List.range l.length).all fun i => decide (i = 0) || decide (ig l (i - 1) < ig l i)
theorem ups_iff (l : List Int) : ups l = true ↔ ∀ i, i < l.length → 0 < i → ig l (i - 1) < ig l i := by
  simp only [ups, List.all_eq_true, List.mem_range, Bool.or_eq_true, decide_eq_true_eq]
  constructor
  · intro h i hi h0
    rcases h i hi with h1 | h1 <;> omega
  · intro h i hi
    exact (Nat.eq_zero_or_pos i).imp id (h i hi)
section
variable (A : Option Addr) (n c B : Nat) (l : List Int) (w : World)
theorem allStates_any (s : Int) (h : Reads w B A n (il l)) (hn : n < 9223372036854775808) :
    Calls Tryz.prog 39 #[.int .i64 s, .slice A n c] w fun e w' => e = .returned (.bool (als s l)) ∧ w = w' := by
  have hl := reads_len h
  have H := Lib.hid h
  have HL := Lib.hid hl
  have IS := Lib.hid (fun x w => isState_any s x w)
  clear h hl
  go_enter Tryz.func39, Tryz.ntmps39
  go_wp2
  go_loop [9] (fun iv => ∃ j : Nat, j ≤ n ∧ iv = .int .i64 (j : Int) ∧ ∀ i, i < j → 0 ≤ ig l i ∧ ig l i < s) (fun iv => n - (intOf iv).toNat)
  case atStart => exact ⟨0, Nat.zero_le _, rfl, fun i hi => absurd hi (by omega)⟩
  case round =>
    obtain ⟨j, hj, rfl, hno⟩ := hrel
    have HN := Lib.hid hno
    clear hno
    by_cases hlt : j < n
    · obtain ⟨ad, rfl, hb, hc⟩ := il_at H.out hlt
      have hno := Lib.hid (fun h => als_no (s := s) (l := l) (i := j) (by rw [HL.out]; exact hlt) h)
      have hyes := Lib.hid ((sta_iff s (ig l j)).1)
      have I := IS.out (ig l j)
      generalize hq : sta s (ig l j) = q at I hno hyes
      generalize ig l j = x at hc I hyes
      have I := Lib.hid I
      cases q with
      | false =>
        have HF := Lib.hid (hno.out rfl)
        go_wp2_with (go_at_call 69; (with_reducible refine (I.out _).mono ?_); rintro e w' ⟨rfl, rfl⟩)
        go_ret
        exact ⟨ret_bool HF.out.symm, rfl⟩
      | true =>
        have HQ := Lib.hid ((sta_iff s (ig l j)).1 hq)
        clear hq
        go_wp2_with (go_at_call 69; (with_reducible refine (I.out _).mono ?_); rintro e w' ⟨rfl, rfl⟩)
        go_round
        case rel =>
          exact ⟨j + 1, by omega, by go_num, fun i hi => by
            by_cases e : i = j
            · subst e; exact HQ.out
            · exact HN.out i (by omega)⟩
        case measure => simp [intOf]; omega
    · obtain rfl : j = n := by omega
      have HF := Lib.hid (show als s l = true by rw [als_iff, HL.out]; exact HN.out)
      go_wp2
      go_ret
      exact ⟨ret_bool HF.out.symm, rfl⟩
set_option maxRecDepth 100000 in
theorem ascends_any (h : Reads w w.heap.size A n (il l)) (hn : n < 9223372036854775808) :
    Calls Tryz.prog 40 #[.slice A n c] w fun e w' => e = .returned (.bool (ups l)) ∧ Below w.heap.size w w' := by
  have hl := reads_len h
  have H := Lib.hid h
  have HL := Lib.hid hl
  clear h hl
  go_enter Tryz.func40, Tryz.ntmps40
  go_wp2
  go_loopw [3] (fun iv wr => ∃ j : Nat, (j ≤ n ∨ j = 1) ∧ 1 ≤ j ∧ iv = .int .i64 (j : Int) ∧ (∀ i, i < j → 0 < i → ig l (i - 1) < ig l i) ∧ Below w.heap.size w wr) (fun iv _ => n - (intOf iv).toNat)
  case atStart => exact ⟨1, .inr rfl, Nat.le_refl _, rfl, fun i hi h0 => absurd hi (by omega), Below.refl _ _⟩
  case round =>
    obtain ⟨j, hj, hj1, rfl, hno, hbel⟩ := hrel
    have HN := Lib.hid hno
    have HB := Lib.hid hbel
    clear hno
    by_cases hlt : j < n
    · obtain ⟨ad, rfl, hb, hc⟩ := il_at (H.out.below hbel) hlt
      obtain ⟨i, hi⟩ : ∃ i, j = i + 1 := ⟨j - 1, by omega⟩
      obtain ⟨ad', he, hb', hc'⟩ := il_at (H.out.below hbel) (show i < n by omega)
      obtain rfl : ad = ad' := by injection he
      have hin : i < n := by omega
      have e1 : (j : Int) - 1 = (i : Int) := by omega
      have hw1 : IntKind.i64.wrap ((j : Int) - 1) = (i : Int) := by rw [e1]; exact IntWalk.i64_in _ (by omega)
      obtain ⟨x, hx⟩ : ∃ x, x = ig l j := ⟨_, rfl⟩
      obtain ⟨y, hy⟩ : ∃ y, y = ig l i := ⟨_, rfl⟩
      rw [← hx] at hc
      rw [← hy] at hc'
      have HX := Lib.hid hx
      have HY := Lib.hid hy
      have HI := Lib.hid hi
      clear hx hy he hi hbel e1
      by_cases h4 : x ≤ y
      · have HF := Lib.hid (show ups l = false by
          rw [← Bool.not_eq_true, ups_iff]
          intro h
          have h := h j (by rw [HL.out]; exact hlt) (by omega)
          rw [HI.out, show i + 1 - 1 = i by omega, ← HY.out, ← HI.out, ← HX.out] at h
          omega)
        go_wp2_with fail
        go_quiet (fail)
        go_wp2
        go_ret
        exact ⟨ret_bool HF.out.symm, below_drewN HB.out _⟩
      · have hs := Lib.hid (show ∀ i, i < j + 1 → 0 < i → ig l (i - 1) < ig l i from fun i' hi' h0 => by
          by_cases e : i' = j
          · subst e
            rw [← HX.out, HI.out, show i + 1 - 1 = i by omega, ← HY.out]
            omega
          · exact HN.out i' (by omega) h0)
        go_wp2_with fail
        go_quiet (fail)
        go_wp2
        go_roundw
        case rel => exact ⟨j + 1, .inl (by omega), by omega, by go_num, hs.out, below_drewN HB.out _⟩
        case measure => simp [intOf]; omega
    · have HF := Lib.hid (show ups l = true by
        rw [ups_iff, HL.out]
        intro i hi h0
        exact HN.out i (by omega) h0)
      clear hbel
      go_wp2
      go_ret
      exact ⟨ret_bool HF.out.symm, HB.out⟩
theorem index_int (k : Int) (h : Reads w B A n (il l)) (hn : n ≤ 1000000) :
    Calls Tryz.prog 94 #[.slice A n c, .int .i64 k] w fun e w' => e = .returned (.int .i64 (ix l k)) ∧ w = w' := by
  have HL := Lib.hid (reads_len h)
  have H := Lib.hid h
  clear h
  go_enter Tryz.func94, Tryz.ntmps94
  go_wp2
  go_loop [8] (fun iv => ∃ j : Nat, j ≤ n ∧ iv = .int .i64 (j : Int) ∧ ∀ i, i < j → ig l i ≠ k) (fun iv => n - (intOf iv).toNat)
  case atStart => exact ⟨0, Nat.zero_le _, rfl, fun i hi => absurd hi (by omega)⟩
  case round =>
    obtain ⟨j, hj, rfl, hno⟩ := hrel
    have HN := Lib.hid hno
    clear hno
    by_cases hlt : j < n
    · obtain ⟨ad, rfl, hb, hc⟩ := il_at H.out hlt
      obtain ⟨x, hx⟩ : ∃ x, x = ig l j := ⟨_, rfl⟩
      rw [← hx] at hc
      have HXX := Lib.hid hx
      clear hx
      by_cases hxk : x = k
      · subst hxk
        have HF := Lib.hid (show ix l x = (j : Int) from fx_some (by rw [HL.out]; exact hlt) (fun i hi => decide_eq_false (HN.out i hi)) (decide_eq_true HXX.out.symm))
        go_wp2
        go_ret
        exact ⟨ret_int HF.out.symm, rfl⟩
      · have ht : (x == k) = false := by rw [beq_eq_false_iff_ne]; exact hxk
        have ht2 : (k == x) = false := by rw [beq_eq_false_iff_ne]; exact fun e => hxk e.symm
        have HK := Lib.hid hxk
        clear hxk
        go_wp2
        go_round
        case rel =>
          exact ⟨j + 1, by omega, by go_num, fun i hi => by
            by_cases e : i = j
            · subst e; rw [← HXX.out]; exact HK.out
            · exact HN.out i (by omega)⟩
        case measure => simp [intOf]; omega
    · obtain rfl : j = n := by omega
      have HF := Lib.hid (show ix l k = -1 from fx_none fun i hi => decide_eq_false (HN.out i (by rw [HL.out] at hi; exact hi)))
      go_wp2
      go_ret
      exact ⟨ret_int HF.out.symm, rfl⟩
end
/-- how many symmetries turn the rows -/
def ns (sy : Int) : Nat := if sy = 1 then 4 else if sy = 2 then 8 else 1
theorem symmetries_any (sy : Int) (w : World) : Calls Tryz.prog 67 #[.int .i64 sy] w fun e w' => e = .returned (.int .i64 (ns sy : Nat)) ∧ w = w' := by
  by_cases h1 : sy = 1
  · subst h1
    go_enter Tryz.func67, Tryz.ntmps67
    go_wp2
    go_ret
    exact ⟨rfl, rfl⟩
  · by_cases h2 : sy = 2
    · subst h2
      go_enter Tryz.func67, Tryz.ntmps67
      go_wp2
      go_ret
      exact ⟨rfl, rfl⟩
    · rw [ns, if_neg h1, if_neg h2]
      have h1 : (sy == 1) = false := by rw [beq_eq_false_iff_ne]; exact h1
      have h2 : (sy == 2) = false := by rw [beq_eq_false_iff_ne]; exact h2
      go_enter Tryz.func67, Tryz.ntmps67
      go_wp2
      go_ret
      exact ⟨rfl, rfl⟩
end Go.Proofs.YtcgkkppidkkjiaaGreatDoor
namespace Go.Proofs.YtcgkkppidkkjiaaGreatDoor
open Go.RowKit
/-- the number of a list of states -/
def nm (S : Nat) : List Int → Nat
  | [] => 0
  | x :: p => x.toNat * S ^ p.length + nm S p
/-- the last j digits of a number -/
def dg (S : Nat) : Nat → Nat → List Int
  | 0, _ => []
  | j + 1, k => ((k / S ^ j % S : Nat) : Int) :: dg S j k
theorem dg_len (S j k : Nat) : (dg S j k).length = j := by
  induction j with
  | zero => rfl
  | succ j ih => simp [dg, ih]
theorem nm_dg (S j k : Nat) : nm S (dg S j k) = k % S ^ j := by
  induction j with
  | zero => simp [dg, nm, Nat.mod_one]
  | succ j ih =>
    rw [dg, nm, ih, dg_len, Int.toNat_natCast, Nat.pow_succ, Nat.mod_mul, Nat.mul_comm]
    omega
/-- all are states, as a plain statement -/
def Sts (S : Nat) (l : List Int) : Prop := ∀ x ∈ l, 0 ≤ x ∧ x < (S : Int)
theorem sts_als {S : Nat} {l : List Int} : Sts S l ↔ als S l = true := by
  rw [als_iff]
  constructor
  · intro h i hi
    exact h _ (ig_mem hi)
  · intro h x hx
    obtain ⟨i, hi, rfl⟩ := mem_ig hx
    exact h i hi
theorem sts_dg {S : Nat} (hS : 0 < S) (j k : Nat) : Sts S (dg S j k) := by
  induction j with
  | zero => intro x hx; simp [dg] at hx
  | succ j ih =>
    intro x hx
    simp only [dg, List.mem_cons] at hx
    rcases hx with rfl | hx
    · have := Nat.mod_lt (k / S ^ j) hS
      omega
    · exact ih x hx
theorem nm_lt {S : Nat} {l : List Int} (h : Sts S l) : nm S l < S ^ l.length := by
  induction l with
  | nil => simp [nm]
  | cons x p ih =>
    have h1 := h x (by simp)
    have h2 := ih (fun y hy => h y (by simp [hy]))
    have h3 : x.toNat + 1 ≤ S := by omega
    have h4 := Nat.mul_le_mul_right (S ^ p.length) h3
    rw [Nat.add_mul, Nat.one_mul] at h4
    simp only [nm, List.length_cons, Nat.pow_succ]
    rw [Nat.mul_comm (S ^ p.length) S]
    omega
theorem dg_mod {S : Nat} (hS : 0 < S) (j i a k : Nat) (hij : j ≤ i) : dg S j (a * S ^ i + k) = dg S j k := by
  induction j with
  | zero => rfl
  | succ j ih =>
    rw [dg, dg, ih (by omega)]
    congr 2
    have e : a * S ^ i = S ^ j * (S * (a * S ^ (i - (j + 1)))) := by
      have : i = j + 1 + (i - (j + 1)) := by omega
      conv => lhs; rw [this, Nat.pow_add, Nat.pow_succ]
      simp [Nat.mul_comm, Nat.mul_left_comm, Nat.mul_assoc]
    rw [e, Nat.mul_add_div (Nat.pow_pos hS), Nat.mul_add_mod]
theorem dg_nm {S : Nat} (hS : 0 < S) {l : List Int} (h : Sts S l) : dg S l.length (nm S l) = l := by
  induction l with
  | nil => rfl
  | cons x p ih =>
    have h1 := h x (by simp)
    have h2 : Sts S p := fun y hy => h y (by simp [hy])
    have h3 := nm_lt h2
    simp only [List.length_cons, dg, nm]
    rw [dg_mod hS _ _ _ _ (Nat.le_refl _), ih h2, Nat.mul_comm, Nat.mul_add_div (Nat.pow_pos hS), Nat.div_eq_of_lt h3, Nat.add_zero, Nat.mod_eq_of_lt (by omega)]
    congr 1
    omega
theorem nm_app (S : Nat) (l : List Int) (x : Int) : nm S (l ++ [x]) = nm S l * S + x.toNat := by
  induction l with
  | nil => simp [nm]
  | cons y l ih =>
    simp only [List.cons_append, nm, ih, List.length_append, List.length_singleton, Nat.pow_succ, Nat.add_mul, Nat.mul_assoc]
    omega
theorem nm_take {S : Nat} {l : List Int} {j : Nat} (hj : j < l.length) : nm S (l.take (j + 1)) = nm S (l.take j) * S + (ig l j).toNat := by
  have e : ig l j = l[j] := by simp [ig, hj]
  rw [List.take_succ_eq_append_getElem hj, nm_app, e]
end Go.Proofs.YtcgkkppidkkjiaaGreatDoor
