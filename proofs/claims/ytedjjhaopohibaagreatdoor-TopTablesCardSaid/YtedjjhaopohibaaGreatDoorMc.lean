/- Rule tables as values: what a list of lists, a list of rows and a table read as; the first number that has a property. -/
/- The walks of isState, allStates, ascends, Index of numbers, symmetries. -/
/- The walk of hood.Right on any list. -/
/- Numbers and their digits. -/
/- Rule trees as values: what a list of nodes and a tree read as; valid trees. -/
/- The walks of possible, rightNode and Right at valid trees. -/
/- The walks of follow and Eval at valid trees. -/
import Derived.Test.YtedjjhaopohibaaGreatDoorMb
import Derived.Deep.CutRange
namespace Go.Proofs.YtedjjhaopohibaaGreatDoor
open Go.RowKit

/-- the first number below n with a property; -1 if there is none -/
def fx (p : Nat → Bool) : Nat → Int
  | 0 => -1
  | n + 1 => if 0 ≤ fx p n then fx p n else if p n = true then (n : Int) else -1
theorem fx_none {p : Nat → Bool} {n : Nat} (h : ∀ i, i < n → p i = false) : fx p n = -1 := by
  induction n with
  | zero => rfl
  | succ n ih => rw [fx, ih (fun i hi => h i (by omega)), h n (by omega)]; simp
theorem fx_some {p : Nat → Bool} {n j : Nat} (hj : j < n) (h : ∀ i, i < j → p i = false) (hp : p j = true) : fx p n = (j : Int) := by
  induction n with
  | zero => omega
  | succ n ih =>
    rw [fx]
    by_cases e : j < n
    · rw [ih e, if_pos (by omega)]
    · obtain rfl : j = n := by omega
      rw [fx_none h, hp]
      simp
theorem fx_cases (p : Nat → Bool) (n : Nat) : (∃ j, j < n ∧ fx p n = (j : Int) ∧ p j = true ∧ ∀ i, i < j → p i = false) ∨ (fx p n = -1 ∧ ∀ i, i < n → p i = false) := by
  induction n with
  | zero => exact .inr ⟨rfl, fun i hi => absurd hi (by omega)⟩
  | succ n ih =>
    rcases ih with ⟨j, hj, e, h1, h2⟩ | ⟨e, h1⟩
    · exact .inl ⟨j, by omega, by rw [fx, e, if_pos (by omega)], h1, h2⟩
    · cases hp : p n with
      | true => exact .inl ⟨n, by omega, by rw [fx, e, hp]; simp, hp, h1⟩
      | false => exact .inr ⟨by rw [fx, e, hp]; simp, fun i hi => by
          by_cases e : i < n
          · exact h1 i e
          · obtain rfl : i = n := by omega
            exact hp⟩
theorem fx_congr {p q : Nat → Bool} {n : Nat} (h : ∀ i, i < n → p i = q i) : fx p n = fx q n := by
  induction n with
  | zero => rfl
  | succ n ih => rw [fx, fx, ih (fun i hi => h i (by omega)), h n (by omega)]

/-- where a number stands first in a list -/
def ix (l : List Int) (k : Int) : Int := fx (fun i => decide (ig l i = k)) l.length
/-- where a position stands first in a list -/
def px (f : Nat → P2) (n : Nat) (a : P2) : Int := fx (fun i => decide (f i = a)) n

/-- a list of lists of numbers -/
def VR (w : World) (B : Nat) (A : Option Addr) (n : Nat) (v : Nat → List Int) : Prop :=
  0 < n → ∃ ad, A = some ad ∧ ad.block < B ∧ ∀ k, k < n → ∃ A' c', w.cell? (ad.add k) = some (.slice A' (v k).length c') ∧ Reads w B A' (v k).length (il (v k))
/-- a list of rows -/
def RR (w : World) (B : Nat) (A : Option Addr) (n : Nat) (ri : Nat → List Int) (ro : Nat → Int) : Prop :=
  0 < n → ∃ g o, A = some ⟨g, o, none⟩ ∧ g < B ∧ ∀ k, k < n → ∃ A' c', w.cell? ⟨g, o + k * 2, none⟩ = some (.slice A' (ri k).length c') ∧ Reads w B A' (ri k).length (il (ri k)) ∧ w.cell? ⟨g, o + k * 2 + 1, none⟩ = some (.int .i64 (ro k))
section
variable {w w' : World} {B B' n : Nat} {A : Option Addr} {v ri : Nat → List Int} {ro : Nat → Int}
theorem VR.below (h : VR w B A n v) (hb : Below B w w') : VR w' B A n v := fun hn => by
  obtain ⟨ad, e, hg, hc⟩ := h hn
  exact ⟨ad, e, hg, fun k hk => by
    obtain ⟨A', c', h1, h2⟩ := hc k hk
    exact ⟨A', c', (hb.cell (by rw [block_of_add]; exact hg)).trans h1, h2.below hb⟩⟩
theorem VR.more (h : VR w B A n v) (hB : B ≤ B') : VR w B' A n v := fun hn => by
  obtain ⟨ad, e, hg, hc⟩ := h hn
  exact ⟨ad, e, Nat.lt_of_lt_of_le hg hB, fun k hk => by
    obtain ⟨A', c', h1, h2⟩ := hc k hk
    exact ⟨A', c', h1, h2.more hB⟩⟩
theorem VR.later (h : VR w w.heap.size A n v) (hb : Below w.heap.size w w') : VR w' w'.heap.size A n v := (h.below hb).more hb.size
theorem RR.below (h : RR w B A n ri ro) (hb : Below B w w') : RR w' B A n ri ro := fun hn => by
  obtain ⟨g, o, e, hg, hc⟩ := h hn
  exact ⟨g, o, e, hg, fun k hk => by
    obtain ⟨A', c', h1, h2, h3⟩ := hc k hk
    exact ⟨A', c', (hb.cell (p := ⟨g, _, none⟩) hg).trans h1, h2.below hb, (hb.cell (p := ⟨g, _, none⟩) hg).trans h3⟩⟩
theorem RR.more (h : RR w B A n ri ro) (hB : B ≤ B') : RR w B' A n ri ro := fun hn => by
  obtain ⟨g, o, e, hg, hc⟩ := h hn
  exact ⟨g, o, e, Nat.lt_of_lt_of_le hg hB, fun k hk => by
    obtain ⟨A', c', h1, h2, h3⟩ := hc k hk
    exact ⟨A', c', h1, h2.more hB, h3⟩⟩
theorem RR.later (h : RR w w.heap.size A n ri ro) (hb : Below w.heap.size w w') : RR w' w'.heap.size A n ri ro := (h.below hb).more hb.size
end

/-- a rule table -/
structure Tab where
  st : Int
  sy : Int
  n : Nat
  f : Nat → P2
  nv : Nat
  v : Nat → List Int
  nr : Nat
  ri : Nat → List Int
  ro : Nat → Int
/-- what its lists read as -/
def TR (w : World) (AH AV AR : Option Addr) (T : Tab) : Prop := QReads w w.heap.size AH T.n T.f ∧ VR w w.heap.size AV T.nv T.v ∧ RR w w.heap.size AR T.nr T.ri T.ro
theorem TR.later {w w' : World} {AH AV AR : Option Addr} {T : Tab} (h : TR w AH AV AR T) (hb : Below w.heap.size w w') : TR w' AH AV AR T := ⟨h.1.later hb, h.2.1.later hb, h.2.2.later hb⟩
/-- no list is great -/
def Bd (T : Tab) : Prop := T.n ≤ 1000 ∧ T.nv ≤ 1000 ∧ T.nr ≤ 1000 ∧ (∀ k, k < T.nv → (T.v k).length < 9223372036854775808) ∧ ∀ k, k < T.nr → (T.ri k).length < 9223372036854775808

theorem Blk.five {w : World} {g : Nat} {t : TypeId} {a b c d e : Value} (h : Blk w g t #[a, b, c, d, e]) : w.cell? ⟨g, 0, none⟩ = some a ∧ w.cell? ⟨g, 1, none⟩ = some b ∧ w.cell? ⟨g, 2, none⟩ = some c ∧ w.cell? ⟨g, 3, none⟩ = some d ∧ w.cell? ⟨g, 4, none⟩ = some e ∧ g < w.heap.size :=
  ⟨by rw [h.cell]; rfl, by rw [h.cell]; rfl, by rw [h.cell]; rfl, by rw [h.cell]; rfl, by rw [h.cell]; rfl, h.lt⟩
theorem Blk.eight {w : World} {g : Nat} {t : TypeId} {a b c d e f i j : Value} (h : Blk w g t #[a, b, c, d, e, f, i, j]) : w.cell? ⟨g, 0, none⟩ = some a ∧ w.cell? ⟨g, 1, none⟩ = some b ∧ w.cell? ⟨g, 2, none⟩ = some c ∧ w.cell? ⟨g, 3, none⟩ = some d ∧ w.cell? ⟨g, 4, none⟩ = some e ∧ w.cell? ⟨g, 5, none⟩ = some f ∧ w.cell? ⟨g, 6, none⟩ = some i ∧ w.cell? ⟨g, 7, none⟩ = some j ∧ g < w.heap.size :=
  ⟨by rw [h.cell]; rfl, by rw [h.cell]; rfl, by rw [h.cell]; rfl, by rw [h.cell]; rfl, by rw [h.cell]; rfl, by rw [h.cell]; rfl, by rw [h.cell]; rfl, by rw [h.cell]; rfl, h.lt⟩
end Go.Proofs.YtedjjhaopohibaaGreatDoor
namespace Go.Proofs.YtedjjhaopohibaaGreatDoor
open Go.RowKit

theorem ret_int {k : IntKind} {a b : Int} (h : a = b) : Ending.returned (.int k a) = .returned (.int k b) := by rw [h]
/-- a state -/
def sta (s n : Int) : Bool := decide (0 ≤ n) && decide (n < s)
theorem sta_iff (s n : Int) : sta s n = true ↔ 0 ≤ n ∧ n < s := by simp [sta]
theorem isState_any (s n : Int) (w : World) : Calls Tryz.prog 34 #[.int .i64 s, .int .i64 n] w fun e w' => e = .returned (.bool (sta s n)) ∧ w = w' := by
  by_cases h : 0 ≤ n
  · rw [sta, decide_eq_true h]
    go_enter Tryz.func34, Tryz.ntmps34
    go_wp2
    go_ret
    exact ⟨ret_bool (by simp), rfl⟩
  · rw [sta, decide_eq_false h]
    go_enter Tryz.func34, Tryz.ntmps34
    go_wp2
    go_ret
    exact ⟨rfl, rfl⟩
/-- all are states -/
def als (s : Int) (l : List Int) : Bool := (List.range l.length).all fun i => sta s (ig l i)
theorem als_iff (s : Int) (l : List Int) : als s l = true ↔ ∀ i, i < l.length → 0 ≤ ig l i ∧ ig l i < s := by
  simp only [als, List.all_eq_true, List.mem_range, sta_iff]
theorem als_no {s : Int} {l : List Int} {i : Nat} (hi : i < l.length) (h : sta s (ig l i) = false) : als s l = false := by
  rw [← Bool.not_eq_true, als_iff]
  intro h'
  have := (sta_iff s (ig l i)).2 (h' i hi)
  rw [h] at this
  cases this
/-- strictly ascending -/
def ups (l : List Int) : Bool := (List.range l.length).all fun i => decide (i = 0) || decide (ig l (i - 1) < ig l i)
theorem ups_iff (l : List Int) : ups l = true ↔ ∀ i, i < l.length → 0 < i → ig l (i - 1) < ig l i := by
  simp only [ups, List.all_eq_true, List.mem_range, Bool.or_eq_true, decide_eq_true_eq]
  constructor
  · intro h i hi h0
    rcases h i hi with h1 | h1 <;> omega
  · intro h i hi
    exact (Nat.eq_zero_or_pos i).imp id (h i hi)
section
variable (A : Option Addr) (n c B : Nat) (l : List Int) (w : World)
theorem allStates_any (s : Int) (h : Reads w B A n (il l)) (hn : n < 9223372036854775808) :
    Calls Tryz.prog 12 #[.int .i64 s, .slice A n c] w fun e w' => e = .returned (.bool (als s l)) ∧ w = w' := by
  have hl := reads_len h
  have H := Lib.hid h
  have HL := Lib.hid hl
  have IS := Lib.hid (fun x w => isState_any s x w)
  clear h hl
  go_enter Tryz.func12, Tryz.ntmps12
  go_wp2
  go_loop [9] (fun iv => ∃ j : Nat, j ≤ n ∧ iv = .int .i64 (j : Int) ∧ ∀ i, i < j → 0 ≤ ig l i ∧ ig l i < s) (fun iv => n - (intOf iv).toNat)
  case atStart => exact ⟨0, Nat.zero_le _, rfl, fun i hi => absurd hi (by omega)⟩
  case round =>
    obtain ⟨j, hj, rfl, hno⟩ := hrel
    have HN := Lib.hid hno
    clear hno
    by_cases hlt : j < n
    · obtain ⟨ad, rfl, hb, hc⟩ := il_at H.out hlt
      have hno := Lib.hid (fun h => als_no (s := s) (l := l) (i := j) (by rw [HL.out]; exact hlt) h)
      have hyes := Lib.hid ((sta_iff s (ig l j)).1)
      have I := IS.out (ig l j)
      generalize hq : sta s (ig l j) = q at I hno hyes
      generalize ig l j = x at hc I hyes
      have I := Lib.hid I
      cases q with
      | false =>
        have HF := Lib.hid (hno.out rfl)
        go_wp2_with (go_at_call 34; (with_reducible refine (I.out _).mono ?_); rintro e w' ⟨rfl, rfl⟩)
        go_ret
        exact ⟨ret_bool HF.out.symm, rfl⟩
      | true =>
        have HQ := Lib.hid ((sta_iff s (ig l j)).1 hq)
        clear hq
        go_wp2_with (go_at_call 34; (with_reducible refine (I.out _).mono ?_); rintro e w' ⟨rfl, rfl⟩)
        go_round
        case rel =>
          exact ⟨j + 1, by omega, by go_num, fun i hi => by
            by_cases e : i = j
            · subst e; exact HQ.out
            · exact HN.out i (by omega)⟩
        case measure => simp [intOf]; omega
    · obtain rfl : j = n := by omega
      have HF := Lib.hid (show als s l = true by rw [als_iff, HL.out]; exact HN.out)
      go_wp2
      go_ret
      exact ⟨ret_bool HF.out.symm, rfl⟩
set_option maxRecDepth 100000 in
theorem ascends_any (h : Reads w w.heap.size A n (il l)) (hn : n < 9223372036854775808) :
    Calls Tryz.prog 27 #[.slice A n c] w fun e w' => e = .returned (.bool (ups l)) ∧ Below w.heap.size w w' := by
  have hl := reads_len h
  have H := Lib.hid h
  have HL := Lib.hid hl
  clear h hl
  go_enter Tryz.func27, Tryz.ntmps27
  go_wp2
  go_loopw [3] (fun iv wr => ∃ j : Nat, (j ≤ n ∨ j = 1) ∧ 1 ≤ j ∧ iv = .int .i64 (j : Int) ∧ (∀ i, i < j → 0 < i → ig l (i - 1) < ig l i) ∧ Below w.heap.size w wr) (fun iv _ => n - (intOf iv).toNat)
  case atStart => exact ⟨1, .inr rfl, Nat.le_refl _, rfl, fun i hi h0 => absurd hi (by omega), Below.refl _ _⟩
  case round =>
    obtain ⟨j, hj, hj1, rfl, hno, hbel⟩ := hrel
    have HN := Lib.hid hno
    have HB := Lib.hid hbel
    clear hno
    by_cases hlt : j < n
    · obtain ⟨ad, rfl, hb, hc⟩ := il_at (H.out.below hbel) hlt
      obtain ⟨i, hi⟩ : ∃ i, j = i + 1 := ⟨j - 1, by omega⟩
      obtain ⟨ad', he, hb', hc'⟩ := il_at (H.out.below hbel) (show i < n by omega)
      obtain rfl : ad = ad' := by injection he
      have hin : i < n := by omega
      have e1 : (j : Int) - 1 = (i : Int) := by omega
      have hw1 : IntKind.i64.wrap ((j : Int) - 1) = (i : Int) := by rw [e1]; exact IntWalk.i64_in _ (by omega)
      obtain ⟨x, hx⟩ : ∃ x, x = ig l j := ⟨_, rfl⟩
      obtain ⟨y, hy⟩ : ∃ y, y = ig l i := ⟨_, rfl⟩
      rw [← hx] at hc
      rw [← hy] at hc'
      have HX := Lib.hid hx
      have HY := Lib.hid hy
      have HI := Lib.hid hi
      clear hx hy he hi hbel e1
      by_cases h4 : x ≤ y
      · have HF := Lib.hid (show ups l = false by
          rw [← Bool.not_eq_true, ups_iff]
          intro h
          have h := h j (by rw [HL.out]; exact hlt) (by omega)
          rw [HI.out, show i + 1 - 1 = i by omega, ← HY.out, ← HI.out, ← HX.out] at h
          omega)
        go_wp2_with fail
        go_quiet (fail)
        go_wp2
        go_ret
        exact ⟨ret_bool HF.out.symm, below_drewN HB.out _⟩
      · have hs := Lib.hid (show ∀ i, i < j + 1 → 0 < i → ig l (i - 1) < ig l i from fun i' hi' h0 => by
          by_cases e : i' = j
          · subst e
            rw [← HX.out, HI.out, show i + 1 - 1 = i by omega, ← HY.out]
            omega
          · exact HN.out i' (by omega) h0)
        go_wp2_with fail
        go_quiet (fail)
        go_wp2
        go_roundw
        case rel => exact ⟨j + 1, .inl (by omega), by omega, by go_num, hs.out, below_drewN HB.out _⟩
        case measure => simp [intOf]; omega
    · have HF := Lib.hid (show ups l = true by
        rw [ups_iff, HL.out]
        intro i hi h0
        exact HN.out i (by omega) h0)
      clear hbel
      go_wp2
      go_ret
      exact ⟨ret_bool HF.out.symm, HB.out⟩
theorem index_int (k : Int) (h : Reads w B A n (il l)) (hn : n ≤ 1000000) :
    Calls Tryz.prog 57 #[.slice A n c, .int .i64 k] w fun e w' => e = .returned (.int .i64 (ix l k)) ∧ w = w' := by
  have HL := Lib.hid (reads_len h)
  have H := Lib.hid h
  clear h
  go_enter Tryz.func57, Tryz.ntmps57
  go_wp2
  go_loop [8] (fun iv => ∃ j : Nat, j ≤ n ∧ iv = .int .i64 (j : Int) ∧ ∀ i, i < j → ig l i ≠ k) (fun iv => n - (intOf iv).toNat)
  case atStart => exact ⟨0, Nat.zero_le _, rfl, fun i hi => absurd hi (by omega)⟩
  case round =>
    obtain ⟨j, hj, rfl, hno⟩ := hrel
    have HN := Lib.hid hno
    clear hno
    by_cases hlt : j < n
    · obtain ⟨ad, rfl, hb, hc⟩ := il_at H.out hlt
      obtain ⟨x, hx⟩ : ∃ x, x = ig l j := ⟨_, rfl⟩
      rw [← hx] at hc
      have HXX := Lib.hid hx
      clear hx
      by_cases hxk : x = k
      · subst hxk
        have HF := Lib.hid (show ix l x = (j : Int) from fx_some (by rw [HL.out]; exact hlt) (fun i hi => decide_eq_false (HN.out i hi)) (decide_eq_true HXX.out.symm))
        go_wp2
        go_ret
        exact ⟨ret_int HF.out.symm, rfl⟩
      · have ht : (x == k) = false := by rw [beq_eq_false_iff_ne]; exact hxk
        have ht2 : (k == x) = false := by rw [beq_eq_false_iff_ne]; exact fun e => hxk e.symm
        have HK := Lib.hid hxk
        clear hxk
        go_wp2
        go_round
        case rel =>
          exact ⟨j + 1, by omega, by go_num, fun i hi => by
            by_cases e : i = j
            · subst e; rw [← HXX.out]; exact HK.out
            · exact HN.out i (by omega)⟩
        case measure => simp [intOf]; omega
    · obtain rfl : j = n := by omega
      have HF := Lib.hid (show ix l k = -1 from fx_none fun i hi => decide_eq_false (HN.out i (by rw [HL.out] at hi; exact hi)))
      go_wp2
      go_ret
      exact ⟨ret_int HF.out.symm, rfl⟩
end
/-- how many symmetries turn the rows -/
def ns (sy : Int) : Nat := if sy = 1 then 4 else if sy = 2 then 8 else 1
theorem symmetries_any (sy : Int) (w : World) : Calls Tryz.prog 36 #[.int .i64 sy] w fun e w' => e = .returned (.int .i64 (ns sy : Nat)) ∧ w = w' := by
  by_cases h1 : sy = 1
  · subst h1
    go_enter Tryz.func36, Tryz.ntmps36
    go_wp2
    go_ret
    exact ⟨rfl, rfl⟩
  · by_cases h2 : sy = 2
    · subst h2
      go_enter Tryz.func36, Tryz.ntmps36
      go_wp2
      go_ret
      exact ⟨rfl, rfl⟩
    · rw [ns, if_neg h1, if_neg h2]
      have h1 : (sy == 1) = false := by rw [beq_eq_false_iff_ne]; exact h1
      have h2 : (sy == 2) = false := by rw [beq_eq_false_iff_ne]; exact h2
      go_enter Tryz.func36, Tryz.ntmps36
      go_wp2
      go_ret
      exact ⟨rfl, rfl⟩
end Go.Proofs.YtedjjhaopohibaaGreatDoor
namespace Go.Proofs.YtedjjhaopohibaaGreatDoor
open Go.RowKit

/-- an offset -/
def ofs (p : P2) : Prop := -2 ≤ p.1 ∧ p.1 ≤ 2 ∧ -2 ≤ p.2 ∧ p.2 ≤ 2
instance (p : P2) : Decidable (ofs p) := by unfold ofs; exact inferInstance
set_option maxHeartbeats 1000000 in
theorem in_no (x y : Int) (w : World) (h : ¬ ofs (x, y)) :
    Calls Tryz.prog 46 #[.agg #[.int .i64 (-2), .int .i64 (-2), .int .i64 5, .int .i64 5], .agg #[.int .i64 x, .int .i64 y]] w fun e w' => e = .returned (.bool false) ∧ Below w.heap.size w w' := by
  have R := Lib.hid (fun w => right_yes (-2) (-2) 5 5 w (by unfold Ok OkS; omega))
  have L := Lib.hid (fun w => by have := last_any (-2) (-2) 5 5 w (by omega) (by omega) (by omega) (by omega) (by omega) (by omega) (by omega) (by omega); rwa [show (-2 : Int) + 5 - 1 = 2 by decide] at this)
  have K1 := (Blk.new w 92 #[.int .i64 (-2), .int .i64 (-2), .int .i64 5, .int .i64 5]).alloc (.cells #[.int .i64 x, .int .i64 y] 74)
  have K2 := Blk.new (w.alloc (.cells #[.int .i64 (-2), .int .i64 (-2), .int .i64 5, .int .i64 5] 92)) 74 #[.int .i64 x, .int .i64 y]
  rw [show (w.alloc (.cells #[.int .i64 (-2), .int .i64 (-2), .int .i64 5, .int .i64 5] 92)).heap.size = w.heap.size + 1 by simp] at K2
  have B2 : Below w.heap.size w ((w.alloc (.cells #[.int .i64 (-2), .int .i64 (-2), .int .i64 5, .int .i64 5] 92)).alloc (.cells #[.int .i64 x, .int .i64 y] 74)) := ((Below.refl _ _).alloc (Nat.le_refl _) _).alloc (by simp) _
  by_cases h1 : -2 ≤ x
  · by_cases h2 : x ≤ 2
    · by_cases h3 : -2 ≤ y
      · by_cases h4 : y ≤ 2
        · exact absurd ⟨h1, h2, h3, h4⟩ h
        · have d := decide_eq_false h4
          clear h
          go_enter Tryz.func46, Tryz.ntmps46
          go_wp2_with fail
          generalize (w.alloc (.cells #[.int .i64 (-2), .int .i64 (-2), .int .i64 5, .int .i64 5] 92)).alloc (.cells #[.int .i64 x, .int .i64 y] 74) = w0 at K1 K2 B2 ⊢
          obtain ⟨a0, a1, a2, a3, a4⟩ := K1.four
          have K1 := Lib.hid K1
          have K2 := Lib.hid K2
          have B2 := Lib.hid B2
          go_wp2_with (first
            | (go_at_call 62; (with_reducible refine (R.out _).mono ?_); rintro e w1 ⟨rfl, hb⟩; have B3 := Lib.hid (B2.out.trans (hb.mono B2.out.size)); have C3 := Lib.hid hb; obtain ⟨b0, b1, b2, b3, b4⟩ := (K1.out.below hb K1.out.lt).four; clear hb)
            | (go_at_call 63; (with_reducible refine (L.out _).mono ?_); rintro e w2 ⟨rfl, hb⟩; have B4 := Lib.hid (B3.out.trans (hb.mono B3.out.size)); have C4 := C3.out.trans (hb.mono C3.out.size); obtain ⟨d0, d1, d2, d3, d4⟩ := ((K1.out.below C4 K1.out.lt).alloc (.cells #[.int .i64 2, .int .i64 2] 74)).four; obtain ⟨e0, e1, e2, e3, e4⟩ := ((K2.out.below C4 K2.out.lt).alloc (.cells #[.int .i64 2, .int .i64 2] 74)).two; have B5 := Lib.hid (B4.out.alloc B4.out.size (.cells #[.int .i64 2, .int .i64 2] 74)); clear hb C4))
          go_ret
          exact ⟨rfl, B5.out⟩
      · have d := decide_eq_false h3
        clear h
        go_enter Tryz.func46, Tryz.ntmps46
        go_wp2_with fail
        generalize (w.alloc (.cells #[.int .i64 (-2), .int .i64 (-2), .int .i64 5, .int .i64 5] 92)).alloc (.cells #[.int .i64 x, .int .i64 y] 74) = w0 at K1 K2 B2 ⊢
        obtain ⟨a0, a1, a2, a3, a4⟩ := K1.four
        have K1 := Lib.hid K1
        have K2 := Lib.hid K2
        have B2 := Lib.hid B2
        go_wp2_with (first
          | (go_at_call 62; (with_reducible refine (R.out _).mono ?_); rintro e w1 ⟨rfl, hb⟩; have B3 := Lib.hid (B2.out.trans (hb.mono B2.out.size)); have C3 := Lib.hid hb; obtain ⟨b0, b1, b2, b3, b4⟩ := (K1.out.below hb K1.out.lt).four; clear hb)
          | (go_at_call 63; (with_reducible refine (L.out _).mono ?_); rintro e w2 ⟨rfl, hb⟩; have B4 := Lib.hid (B3.out.trans (hb.mono B3.out.size)); have C4 := C3.out.trans (hb.mono C3.out.size); obtain ⟨d0, d1, d2, d3, d4⟩ := ((K1.out.below C4 K1.out.lt).alloc (.cells #[.int .i64 2, .int .i64 2] 74)).four; obtain ⟨e0, e1, e2, e3, e4⟩ := ((K2.out.below C4 K2.out.lt).alloc (.cells #[.int .i64 2, .int .i64 2] 74)).two; have B5 := Lib.hid (B4.out.alloc B4.out.size (.cells #[.int .i64 2, .int .i64 2] 74)); clear hb C4))
        go_ret
        exact ⟨rfl, B5.out⟩
    · have d := decide_eq_false h2
      clear h
      go_enter Tryz.func46, Tryz.ntmps46
      go_wp2_with fail
      generalize (w.alloc (.cells #[.int .i64 (-2), .int .i64 (-2), .int .i64 5, .int .i64 5] 92)).alloc (.cells #[.int .i64 x, .int .i64 y] 74) = w0 at K1 K2 B2 ⊢
      obtain ⟨a0, a1, a2, a3, a4⟩ := K1.four
      have K1 := Lib.hid K1
      have K2 := Lib.hid K2
      have B2 := Lib.hid B2
      go_wp2_with (first
        | (go_at_call 62; (with_reducible refine (R.out _).mono ?_); rintro e w1 ⟨rfl, hb⟩; have B3 := Lib.hid (B2.out.trans (hb.mono B2.out.size)); have C3 := Lib.hid hb; obtain ⟨b0, b1, b2, b3, b4⟩ := (K1.out.below hb K1.out.lt).four; clear hb)
        | (go_at_call 63; (with_reducible refine (L.out _).mono ?_); rintro e w2 ⟨rfl, hb⟩; have B4 := Lib.hid (B3.out.trans (hb.mono B3.out.size)); have C4 := C3.out.trans (hb.mono C3.out.size); obtain ⟨d0, d1, d2, d3, d4⟩ := ((K1.out.below C4 K1.out.lt).alloc (.cells #[.int .i64 2, .int .i64 2] 74)).four; obtain ⟨e0, e1, e2, e3, e4⟩ := ((K2.out.below C4 K2.out.lt).alloc (.cells #[.int .i64 2, .int .i64 2] 74)).two; have B5 := Lib.hid (B4.out.alloc B4.out.size (.cells #[.int .i64 2, .int .i64 2] 74)); clear hb C4))
      go_ret
      exact ⟨rfl, B5.out⟩
  · have d := decide_eq_false h1
    clear h
    go_enter Tryz.func46, Tryz.ntmps46
    go_wp2_with fail
    generalize (w.alloc (.cells #[.int .i64 (-2), .int .i64 (-2), .int .i64 5, .int .i64 5] 92)).alloc (.cells #[.int .i64 x, .int .i64 y] 74) = w0 at K1 K2 B2 ⊢
    obtain ⟨a0, a1, a2, a3, a4⟩ := K1.four
    have K1 := Lib.hid K1
    have K2 := Lib.hid K2
    have B2 := Lib.hid B2
    go_wp2_with (first
      | (go_at_call 62; (with_reducible refine (R.out _).mono ?_); rintro e w1 ⟨rfl, hb⟩; have B3 := Lib.hid (B2.out.trans (hb.mono B2.out.size)); have C3 := Lib.hid hb; obtain ⟨b0, b1, b2, b3, b4⟩ := (K1.out.below hb K1.out.lt).four; clear hb)
      | (go_at_call 63; (with_reducible refine (L.out _).mono ?_); rintro e w2 ⟨rfl, hb⟩; have B4 := Lib.hid (B3.out.trans (hb.mono B3.out.size)); have C4 := C3.out.trans (hb.mono C3.out.size); obtain ⟨d0, d1, d2, d3, d4⟩ := ((K1.out.below C4 K1.out.lt).alloc (.cells #[.int .i64 2, .int .i64 2] 74)).four; obtain ⟨e0, e1, e2, e3, e4⟩ := ((K2.out.below C4 K2.out.lt).alloc (.cells #[.int .i64 2, .int .i64 2] 74)).two; have B5 := Lib.hid (B4.out.alloc B4.out.size (.cells #[.int .i64 2, .int .i64 2] 74)); clear hb C4))
    go_ret
    exact ⟨rfl, B5.out⟩

theorem hd_no1 {f : Nat → P2} {n j : Nat} (hj : j < n) (h : ¬ ofs (f j)) : decide (Hd f n) = false := decide_eq_false fun h' => h (h'.2.1 j hj)
theorem hd_no2 {f : Nat → P2} {n j : Nat} (hj : j + 1 < n) (h : ¬ pc (f j) (f (j + 1)) < 0) : decide (Hd f n) = false := decide_eq_false fun h' => h (h'.2.2 j (by omega))

set_option maxRecDepth 100000 in
set_option maxHeartbeats 4000000 in
theorem hright_all (A : Option Addr) (n c : Nat) (f : Nat → P2) (w : World) (h : QReads w w.heap.size A n f) (hn : n ≤ 1000) :
    Calls Tryz.prog 25 #[.slice A n c] w fun e w' => e = .returned (.bool (decide (Hd f n))) ∧ Below w.heap.size w w' := by
  by_cases hn1 : 1 ≤ n
  · by_cases hn2 : n ≤ 25
    · have hl1 : ¬ ((n : Int) < 1) := by omega
      have hl2 : ¬ (25 < (n : Int)) := by omega
      have H := Lib.hid h
      have SQ := Lib.hid (fun w => square_any 2 5 w (by omega) (by omega) (by omega))
      clear h
      go_enter Tryz.func25, Tryz.ntmps25
      go_wp2
      go_loopw [15] (fun iv wr => ∃ j : Nat, j ≤ n ∧ iv = .int .i64 (j : Int) ∧ ((∀ i, i < j → ofs (f i)) ∧ ∀ i, i + 1 < j → pc (f i) (f (i + 1)) < 0) ∧ Below w.heap.size w wr) (fun iv _ => n - (intOf iv).toNat)
      case atStart => exact ⟨0, Nat.zero_le _, rfl, ⟨fun i hi => absurd hi (by omega), fun i hi => absurd hi (by omega)⟩, Below.refl _ _⟩
      case round =>
        obtain ⟨j, hj, rfl, hso, hbel⟩ := hrel
        have R := H.out.below hbel
        have HB := Lib.hid hbel
        have HS := Lib.hid hso
        clear hso
        by_cases hjn : j < n
        · obtain ⟨g1, o1, rfl, hb1, hc1⟩ := R (by omega)
          have c1 := hc1 j hjn
          have hgw : g1 < wr.heap.size := Nat.lt_of_lt_of_le hb1 hbel.size
          clear hbel
          obtain ⟨⟨x1, x2⟩, hx⟩ : ∃ x, x = f j := ⟨_, rfl⟩
          rw [← hx] at c1
          obtain ⟨c10, c11⟩ := c1
          simp only at c10 c11
          have K7 := Lib.hid (Blk.new wr 74 #[.int .i64 x1, .int .i64 x2])
          have B7 := Lib.hid (HB.out.alloc HB.out.size (.cells #[.int .i64 x1, .int .i64 x2] 74))
          have BW := Lib.hid ((Below.refl wr.heap.size wr).alloc (Nat.le_refl _) (.cells #[.int .i64 x1, .int .i64 x2] 74))
          have HX := Lib.hid hx
          have S7 : wr.heap.size < (wr.alloc (.cells #[.int .i64 x1, .int .i64 x2] 74)).heap.size := by simp
          by_cases hof : ofs (x1, x2)
          · have IN := Lib.hid (fun w => in_any x1 x2 w hof.1 hof.2.1 hof.2.2.1 hof.2.2.2)
            have HO := Lib.hid hof
            clear hof
            by_cases hj0 : j = 0
            · subst hj0
              simp only [Nat.zero_mul, Nat.add_zero, Nat.zero_add] at c10 c11
              clear hc1 R hx
              go_wp2_with fail
              generalize wr.alloc (.cells #[.int .i64 x1, .int .i64 x2] 74) = w1 at K7 B7 BW S7 ⊢
              have q0 := fun p : LowW w1.heap.size w1 => (K7.out.below p.below K7.out.lt).two.1
              have q1 := fun p : LowW w1.heap.size w1 => (K7.out.below p.below K7.out.lt).two.2.1
              refine wp_region_low w1.heap.size w1 (by kernel_rfl) (by kernel_rfl) (Below.refl _ _) ?_
              repeat (quiet_step (first | (go_at_call 47; with_reducible exact LowW.of_call _ (Nat.le_refl _) (SQ.out _)) | (go_at_call 46; with_reducible exact LowW.of_call _ (Nat.le_refl _) (IN.out _))))
              refine wpQuiet_nil ?_
              rintro w2 ⟨p, rfl⟩
              have B2 := Lib.hid (B7.out.trans (p.below.mono B7.out.size))
              clear q0 q1
              generalize p.w = w2 at B2 ⊢
              go_wp2_with fail
              go_region
              all_goals go_wp2
              all_goals go_roundw
              case rel => exact ⟨0 + 1, by omega, by go_num, ⟨fun i hi => by
                obtain rfl : i = 0 := by omega
                rw [← HX.out]; exact HO.out, fun i hi => absurd hi (by omega)⟩, B2.out.drew⟩
              case measure => simp [intOf]; omega
            · obtain ⟨i, hi⟩ : ∃ i, j = i + 1 := ⟨j - 1, by omega⟩
              have hin : i < n := by omega
              have e1 : (j : Int) - 1 = (i : Int) := by omega
              have hd1 : decide (0 < (j : Int)) = true := by rw [decide_eq_true_iff]; omega
              have hd2 : decide (0 < j) = true := by rw [decide_eq_true_iff]; omega
              have hw1 : IntKind.i64.wrap ((j : Int) - 1) = (i : Int) := by rw [e1]; exact IntWalk.i64_in _ (by omega)
              have c2 := hc1 i hin
              obtain ⟨⟨y1, y2⟩, hy⟩ : ∃ y, y = f i := ⟨_, rfl⟩
              rw [← hy] at c2
              have P := fun w => pcompare_any y1 y2 x1 x2 w
              have HPC := Lib.hid (show pc (f i) (f (i + 1)) = or2 (sg y2 x2) (sg y1 x1) by rw [← hi, ← hx, ← hy]; rfl)
              generalize or2 (sg y2 x2) (sg y1 x1) = r at P HPC
              have zz := Lib.hid P
              (try clear P)
              have P := zz
              clear zz
              have C2 := Lib.hid c2
              have HI := Lib.hid hi
              by_cases hr : 0 ≤ r
              all_goals
                clear hc1 R hx hy hi hj0 c2 e1
                go_wp2_with fail
                generalize wr.alloc (.cells #[.int .i64 x1, .int .i64 x2] 74) = w1 at K7 B7 BW S7 ⊢
                have q0 := fun p : LowW w1.heap.size w1 => (K7.out.below p.below K7.out.lt).two.1
                have q1 := fun p : LowW w1.heap.size w1 => (K7.out.below p.below K7.out.lt).two.2.1
                refine wp_region_low w1.heap.size w1 (by kernel_rfl) (by kernel_rfl) (Below.refl _ _) ?_
                repeat (quiet_step (first | (go_at_call 47; with_reducible exact LowW.of_call _ (Nat.le_refl _) (SQ.out _)) | (go_at_call 46; with_reducible exact LowW.of_call _ (Nat.le_refl _) (IN.out _))))
                refine wpQuiet_nil ?_
                rintro w2 ⟨p, rfl⟩
                have B2 := Lib.hid (B7.out.trans (p.below.mono B7.out.size))
                have BX := Lib.hid (BW.out.trans (p.below.mono BW.out.size))
                have K8 := Lib.hid (K7.out.below p.below K7.out.lt)
                clear q0 q1
                generalize p.w = w2 at B2 BX K8 ⊢
                go_wp2_with fail
                have d0 := fun p : LowW w2.heap.size w2 => LowW.cell (a := ⟨g1, o1 + i * 2, none⟩) (Nat.lt_of_lt_of_le hgw BX.out.size) ((BX.out.cell hgw).trans C2.out.1) p
                have d1 := fun p : LowW w2.heap.size w2 => LowW.cell (a := ⟨g1, o1 + i * 2 + 1, none⟩) (Nat.lt_of_lt_of_le hgw BX.out.size) ((BX.out.cell hgw).trans C2.out.2) p
                have q0 := fun p : LowW w2.heap.size w2 => (K8.out.below p.below K8.out.lt).two.1
                have q1 := fun p : LowW w2.heap.size w2 => (K8.out.below p.below K8.out.lt).two.2.1
                clear c10 c11
                refine wp_region_low w2.heap.size w2 (by kernel_rfl) (by kernel_rfl) (Below.refl _ _) ?_
                repeat (quiet_step (first | (go_at_call 48; with_reducible exact LowW.of_call _ (Nat.le_refl _) (P.out _))))
                refine wpQuiet_nil ?_
                rintro w3 ⟨p, rfl⟩
                have B3 := Lib.hid (B2.out.trans (p.below.mono B2.out.size))
                clear d0 d1 q0 q1 hw1
                generalize p.w = w3 at B3 ⊢
              · have HF := Lib.hid (hd_no2 (f := f) (n := n) (j := i) (by rw [← HI.out]; exact hjn) (by rw [HPC.out]; omega))
                go_wp2
                go_ret
                exact ⟨ret_bool HF.out.symm, B3.out⟩
              · have HR := Lib.hid (show r < 0 by omega)
                go_wp2
                go_roundw
                case rel => exact ⟨j + 1, by omega, by go_num, ⟨fun i' hi' => by
                  by_cases e : i' < j
                  · exact HS.out.1 i' e
                  · obtain rfl : i' = j := by omega
                    rw [← HX.out]; exact HO.out, fun i' hi' => by
                  by_cases e : i' + 1 < j
                  · exact HS.out.2 i' e
                  · obtain rfl : i' = i := by have := HI.out; omega
                    rw [HPC.out]; exact HR.out⟩, B3.out⟩
                case measure => simp [intOf]; omega
          · have IN := Lib.hid (fun w => in_no x1 x2 w hof)
            have HF := Lib.hid (hd_no1 (f := f) hjn (by rw [← hx]; exact hof))
            clear hof hc1 R hx
            go_wp2_with fail
            generalize wr.alloc (.cells #[.int .i64 x1, .int .i64 x2] 74) = w1 at K7 B7 BW S7 ⊢
            have q0 := fun p : LowW w1.heap.size w1 => (K7.out.below p.below K7.out.lt).two.1
            have q1 := fun p : LowW w1.heap.size w1 => (K7.out.below p.below K7.out.lt).two.2.1
            refine wp_region_low w1.heap.size w1 (by kernel_rfl) (by kernel_rfl) (Below.refl _ _) ?_
            repeat (quiet_step (first | (go_at_call 47; with_reducible exact LowW.of_call _ (Nat.le_refl _) (SQ.out _)) | (go_at_call 46; with_reducible exact LowW.of_call _ (Nat.le_refl _) (IN.out _))))
            refine wpQuiet_nil ?_
            rintro w2 ⟨p, rfl⟩
            have B2 := Lib.hid (B7.out.trans (p.below.mono B7.out.size))
            clear q0 q1
            generalize p.w = w2 at B2 ⊢
            go_wp2
            go_ret
            exact ⟨ret_bool HF.out.symm, B2.out⟩
        · obtain rfl : j = n := by omega
          have HF := Lib.hid (show decide (Hd f j) = true from decide_eq_true ⟨⟨hn1, hn2⟩, HS.out.1, fun i hi => HS.out.2 i (by omega)⟩)
          clear R hbel
          go_wp2
          go_ret
          exact ⟨ret_bool HF.out.symm, HB.out⟩
    · have HF := Lib.hid (show decide (Hd f n) = false from decide_eq_false fun h => hn2 h.1.2)
      have hl1 : ¬ ((n : Int) < 1) := by omega
      have hl2 : 25 < (n : Int) := by omega
      clear h
      go_enter Tryz.func25, Tryz.ntmps25
      go_wp2
      go_ret
      exact ⟨ret_bool HF.out.symm, Below.refl _ _⟩
  · have HF := Lib.hid (show decide (Hd f n) = false from decide_eq_false fun h => hn1 h.1.1)
    have hl1 : (n : Int) < 1 := by omega
    clear h
    go_enter Tryz.func25, Tryz.ntmps25
    go_wp2
    go_ret
    exact ⟨ret_bool HF.out.symm, Below.refl _ _⟩
end Go.Proofs.YtedjjhaopohibaaGreatDoor
namespace Go.Proofs.YtedjjhaopohibaaGreatDoor
open Go.RowKit

/-- the number of a list of states -/
def nm (S : Nat) : List Int → Nat
  | [] => 0
  | x :: p => x.toNat * S ^ p.length + nm S p
/-- the last j digits of a number -/
def dg (S : Nat) : Nat → Nat → List Int
  | 0, _ => []
  | j + 1, k => ((k / S ^ j % S : Nat) : Int) :: dg S j k
theorem dg_len (S j k : Nat) : (dg S j k).length = j := by
  induction j with
  | zero => rfl
  | succ j ih => simp [dg, ih]
theorem nm_dg (S j k : Nat) : nm S (dg S j k) = k % S ^ j := by
  induction j with
  | zero => simp [dg, nm, Nat.mod_one]
  | succ j ih =>
    rw [dg, nm, ih, dg_len, Int.toNat_natCast, Nat.pow_succ, Nat.mod_mul, Nat.mul_comm]
    omega
/-- all are states, as a plain statement -/
def Sts (S : Nat) (l : List Int) : Prop := ∀ x ∈ l, 0 ≤ x ∧ x < (S : Int)
theorem sts_als {S : Nat} {l : List Int} : Sts S l ↔ als S l = true := by
  rw [als_iff]
  constructor
  · intro h i hi
    exact h _ (ig_mem hi)
  · intro h x hx
    obtain ⟨i, hi, rfl⟩ := mem_ig hx
    exact h i hi
theorem sts_dg {S : Nat} (hS : 0 < S) (j k : Nat) : Sts S (dg S j k) := by
  induction j with
  | zero => intro x hx; simp [dg] at hx
  | succ j ih =>
    intro x hx
    simp only [dg, List.mem_cons] at hx
    rcases hx with rfl | hx
    · have := Nat.mod_lt (k / S ^ j) hS
      omega
    · exact ih x hx
theorem nm_lt {S : Nat} {l : List Int} (h : Sts S l) : nm S l < S ^ l.length := by
  induction l with
  | nil => simp [nm]
  | cons x p ih =>
    have h1 := h x (by simp)
    have h2 := ih (fun y hy => h y (by simp [hy]))
    have h3 : x.toNat + 1 ≤ S := by omega
    have h4 := Nat.mul_le_mul_right (S ^ p.length) h3
    rw [Nat.add_mul, Nat.one_mul] at h4
    simp only [nm, List.length_cons, Nat.pow_succ]
    rw [Nat.mul_comm (S ^ p.length) S]
    omega
theorem dg_mod {S : Nat} (hS : 0 < S) (j i a k : Nat) (hij : j ≤ i) : dg S j (a * S ^ i + k) = dg S j k := by
  induction j with
  | zero => rfl
  | succ j ih =>
    rw [dg, dg, ih (by omega)]
    congr 2
    have e : a * S ^ i = S ^ j * (S * (a * S ^ (i - (j + 1)))) := by
      have : i = j + 1 + (i - (j + 1)) := by omega
      conv => lhs; rw [this, Nat.pow_add, Nat.pow_succ]
      simp [Nat.mul_comm, Nat.mul_left_comm, Nat.mul_assoc]
    rw [e, Nat.mul_add_div (Nat.pow_pos hS), Nat.mul_add_mod]
theorem dg_nm {S : Nat} (hS : 0 < S) {l : List Int} (h : Sts S l) : dg S l.length (nm S l) = l := by
  induction l with
  | nil => rfl
  | cons x p ih =>
    have h1 := h x (by simp)
    have h2 : Sts S p := fun y hy => h y (by simp [hy])
    have h3 := nm_lt h2
    simp only [List.length_cons, dg, nm]
    rw [dg_mod hS _ _ _ _ (Nat.le_refl _), ih h2, Nat.mul_comm, Nat.mul_add_div (Nat.pow_pos hS), Nat.div_eq_of_lt h3, Nat.add_zero, Nat.mod_eq_of_lt (by omega)]
    congr 1
    omega
theorem nm_app (S : Nat) (l : List Int) (x : Int) : nm S (l ++ [x]) = nm S l * S + x.toNat := by
  induction l with
  | nil => simp [nm]
  | cons y l ih =>
    simp only [List.cons_append, nm, ih, List.length_append, List.length_singleton, Nat.pow_succ, Nat.add_mul, Nat.mul_assoc]
    omega
theorem nm_take {S : Nat} {l : List Int} {j : Nat} (hj : j < l.length) : nm S (l.take (j + 1)) = nm S (l.take j) * S + (ig l j).toNat := by
  have e : ig l j = l[j] := by simp [ig, hj]
  rw [List.take_succ_eq_append_getElem hj, nm_app, e]
end Go.Proofs.YtedjjhaopohibaaGreatDoor
namespace Go.Proofs.YtedjjhaopohibaaGreatDoor
open Go.RowKit

/-- a list of nodes -/
def NR (w : World) (B : Nat) (A : Option Addr) (m : Nat) (lv : Nat → Int) (nx : Nat → List Int) : Prop :=
  0 < m → ∃ g o, A = some ⟨g, o, none⟩ ∧ g < B ∧ ∀ k, k < m → ∃ A' c', w.cell? ⟨g, o + k * 2, none⟩ = some (.int .i64 (lv k)) ∧ w.cell? ⟨g, o + k * 2 + 1, none⟩ = some (.slice A' (nx k).length c') ∧ Reads w B A' (nx k).length (il (nx k))
section
variable {w w' : World} {B B' m : Nat} {A : Option Addr} {lv : Nat → Int} {nx : Nat → List Int}
theorem NR.below (h : NR w B A m lv nx) (hb : Below B w w') : NR w' B A m lv nx := fun hn => by
  obtain ⟨g, o, e, hg, hc⟩ := h hn
  exact ⟨g, o, e, hg, fun k hk => by
    obtain ⟨A', c', h1, h2, h3⟩ := hc k hk
    exact ⟨A', c', (hb.cell (p := ⟨g, _, none⟩) hg).trans h1, (hb.cell (p := ⟨g, _, none⟩) hg).trans h2, h3.below hb⟩⟩
theorem NR.more (h : NR w B A m lv nx) (hB : B ≤ B') : NR w B' A m lv nx := fun hn => by
  obtain ⟨g, o, e, hg, hc⟩ := h hn
  exact ⟨g, o, e, Nat.lt_of_lt_of_le hg hB, fun k hk => by
    obtain ⟨A', c', h1, h2, h3⟩ := hc k hk
    exact ⟨A', c', h1, h2, h3.more hB⟩⟩
theorem NR.later (h : NR w w.heap.size A m lv nx) (hb : Below w.heap.size w w') : NR w' w'.heap.size A m lv nx := (h.below hb).more hb.size
end

/-- a rule tree -/
structure Tr where
  st : Int
  n : Nat
  f : Nat → P2
  m : Nat
  lv : Nat → Int
  nx : Nat → List Int
/-- what its lists read as -/
def TS (w : World) (AH AN : Option Addr) (T : Tr) : Prop := QReads w w.heap.size AH T.n T.f ∧ NR w w.heap.size AN T.m T.lv T.nx
theorem TS.later {w w' : World} {AH AN : Option Addr} {T : Tr} (h : TS w AH AN T) (hb : Below w.heap.size w w') : TS w' AH AN T := ⟨h.1.later hb, h.2.later hb⟩

/-- an element of a node with the index i and the level l -/
def El (st : Int) (lv : Nat → Int) (i : Nat) (l k : Int) : Prop := 0 ≤ k ∧ (l = 1 → k < st) ∧ (1 < l → k < (i : Int) ∧ lv k.toNat = l - 1)
/-- a node with the index i -/
def Nd (st : Int) (n : Nat) (lv : Nat → Int) (i : Nat) (l : Int) (e : List Int) : Prop := 1 ≤ l ∧ l ≤ (n : Int) ∧ (e.length : Int) = st ∧ ∀ s, s < e.length → El st lv i l (ig e s)
/-- a valid tree -/
structure Rtt (T : Tr) : Prop where
  s1 : 2 ≤ T.st
  s2 : T.st ≤ 8
  hd : Hd T.f T.n
  m1 : 1 ≤ T.m
  m2 : T.m ≤ 4096
  nd : ∀ i, i < T.m → Nd T.st T.n T.lv i (T.lv i) (T.nx i)
  top : T.lv (T.m - 1) = (T.n : Int)
/-- a small tree -/
def Sm (T : Tr) : Prop := T.n ≤ 40 ∧ T.m ≤ 400 ∧ ∀ k, k < T.m → (T.nx k).length ≤ 20
/-- a bool came back; if it is true, S -/
def BoolThat (S : Prop) (w : World) (e : Ending) (w' : World) : Prop := ∃ q, e = .returned (.bool q) ∧ (q = true → S) ∧ Below w.heap.size w w'
theorem Blk.three {w : World} {g : Nat} {t : TypeId} {a b c : Value} (h : Blk w g t #[a, b, c]) : w.cell? ⟨g, 0, none⟩ = some a ∧ w.cell? ⟨g, 1, none⟩ = some b ∧ w.cell? ⟨g, 2, none⟩ = some c ∧ g < w.heap.size :=
  ⟨by rw [h.cell]; rfl, by rw [h.cell]; rfl, by rw [h.cell]; rfl, h.lt⟩

theorem tisState_any (s n : Int) (w : World) : Calls Tryz.prog 18 #[.int .i64 s, .int .i64 n] w fun e w' => e = .returned (.bool (sta s n)) ∧ w = w' := by
  by_cases h : 0 ≤ n
  · rw [sta, decide_eq_true h]
    go_enter Tryz.func18, Tryz.ntmps18
    go_wp2
    go_ret
    exact ⟨ret_bool (by simp), rfl⟩
  · rw [sta, decide_eq_false h]
    go_enter Tryz.func18, Tryz.ntmps18
    go_wp2
    go_ret
    exact ⟨rfl, rfl⟩
end Go.Proofs.YtedjjhaopohibaaGreatDoor
namespace Go.Proofs.YtedjjhaopohibaaGreatDoor
open Go.RowKit

theorem possible_yes (st : Int) (AH : Option Addr) (n cH : Nat) (f : Nat → P2) (w : World) (h : QReads w w.heap.size AH n f) (hd : Hd f n) (s1 : 2 ≤ st) (s2 : st ≤ 8) :
    Calls Tryz.prog 40 #[.int .i64 st, .slice AH n cH] w fun e w' => e = .returned (.bool true) ∧ Below w.heap.size w w' := by
  have HR := Lib.hid (hright_any AH n cH f w h hd)
  clear h hd
  go_enter Tryz.func40, Tryz.ntmps40
  go_wp2_with (go_at_call 25; (with_reducible refine HR.out.mono ?_); rintro e w1 ⟨rfl, hb⟩; have B1 := Lib.hid hb; clear hb)
  go_ret
  exact ⟨rfl, B1.out⟩
theorem possible_zero (A : Option Addr) (n c : Nat) (w : World) :
    Calls Tryz.prog 40 #[.int .i64 0, .slice A n c] w fun e w' => e = .returned (.bool false) ∧ w = w' := by
  go_enter Tryz.func40, Tryz.ntmps40
  go_wp2
  go_ret
  exact ⟨rfl, rfl⟩

set_option maxRecDepth 100000 in
set_option maxHeartbeats 4000000 in
theorem rightNode_yes (AH : Option Addr) (cH : Nat) (AN : Option Addr) (cN : Nat) (T : Tr) (i : Nat) (w : World) (h : NR w w.heap.size AN T.m T.lv T.nx) (ht : Rtt T) (hi : i < T.m) :
    Calls Tryz.prog 41 #[.agg #[.int .i64 T.st, .slice AH T.n cH, .slice AN T.m cN], .int .i64 (i : Int)] w fun e w' => e = .returned (.bool true) ∧ Below w.heap.size w w' := by
  obtain ⟨b1, b2, b3, b4⟩ := ht.nd i hi
  have s1 := ht.s1
  have s2 := ht.s2
  have m2 := ht.m2
  have n2 := ht.hd.1.2
  clear ht
  obtain ⟨st, n, f, m, lv, nx⟩ := T
  simp only at *
  obtain ⟨S, rfl⟩ : ∃ S : Nat, st = (S : Int) := ⟨st.toNat, by omega⟩
  have K1 := Blk.new w 31 #[.int .i64 (S : Int), .slice AH n cH, .slice AN m cN]
  have B1 : Below w.heap.size w (w.alloc (.cells #[.int .i64 (S : Int), .slice AH n cH, .slice AN m cN] 31)) := (Below.refl _ _).alloc (Nat.le_refl _) _
  obtain ⟨g1, o1, rfl, hb1, hc⟩ := h.below B1 (by omega)
  obtain ⟨A', c', h1, h2, hr⟩ := hc i hi
  have hE : (nx i).length = S := by omega
  rw [hE] at h2 hr b4
  clear h b3 hE
  have HC := Lib.hid (fun k (hk : k < m) => (hc k hk))
  have HE := Lib.hid b4
  clear hc b4
  generalize nx i = X at hr HE
  generalize lv i = l at h1 HE b1 b2
  have f1 : decide (l < 1) = false := by rw [decide_eq_false_iff_not]; omega
  have f2 : decide ((n : Int) < l) = false := by rw [decide_eq_false_iff_not]; omega
  have f3 : ((S : Int) != (S : Int)) = false := by rw [bne_eq_false_iff_eq]
  have IS := Lib.hid (fun k w => tisState_any (S : Int) k w)
  have hz : (w.alloc (.cells #[.int .i64 (S : Int), .slice AH n cH, .slice (some ⟨g1, o1, none⟩) m cN] 31)).heap.size = w.heap.size + 1 := by simp
  go_enter Tryz.func41, Tryz.ntmps41
  go_wp2_with fail
  generalize w.alloc (.cells #[.int .i64 (S : Int), .slice AH n cH, .slice (some ⟨g1, o1, none⟩) m cN] 31) = w0 at *
  obtain ⟨a0, a1, a2, a3⟩ := K1.three
  have hg1 : g1 < w0.heap.size := Nat.lt_of_lt_of_le hb1 B1.size
  have BY := (Below.refl w0.heap.size w0).alloc (Nat.le_refl _) (.cells #[.int .i64 l, .slice A' S c'] 81)
  have K7 := (Blk.new w0 81 #[.int .i64 l, .slice A' S c'])
  rw [hz] at K7
  have K7 := Lib.hid K7
  clear hz
  have K5 := Lib.hid (K1.alloc (.cells #[.int .i64 l, .slice A' S c'] 81))
  have RX := Lib.hid (hr.below (BY.mono B1.size))
  have B7 := Lib.hid (B1.trans (BY.mono B1.size))
  have BY := Lib.hid BY
  clear hr
  go_upto_region 2 with (fail)
  generalize w0.alloc (.cells #[.int .i64 l, .slice A' S c'] 81) = w7 at *
  clear a0 a1 a2 a3 h1 h2
  obtain ⟨a0, a1, a2, a3⟩ := K5.out.three
  obtain ⟨k0, k1, k2, k3, k4⟩ := K7.out.two
  go_wp2
  go_loopw [35] (fun iv wr => ∃ s : Nat, s ≤ S ∧ iv = .int .i64 (s : Int) ∧ Below w7.heap.size w7 wr) (fun iv _ => S - (intOf iv).toNat)
  case atStart => exact ⟨0, Nat.zero_le _, rfl, Below.refl _ _⟩
  case round =>
    obtain ⟨s, hs, rfl, hbel⟩ := hrel
    have K8 := Lib.hid (K7.out.below hbel K7.out.lt)
    have K9 := Lib.hid (K5.out.below hbel K5.out.lt)
    have B8 := Lib.hid (B7.out.trans (hbel.mono B7.out.size))
    have BZ := Lib.hid hbel
    clear a0 a1 a2 a3 k0 k1 k2 k3 k4 hbel
    obtain ⟨a0, a1, a2, a3⟩ := K9.out.three
    obtain ⟨k0, k1, k2, k3, k4⟩ := K8.out.two
    by_cases hsl : s < S
    · obtain ⟨ad, rfl, hb, hx⟩ := il_at (RX.out.below (BZ.out.mono B7.out.size)) hsl
      obtain ⟨p0, e1, e2⟩ := HE.out s hsl
      generalize ig X s = k at hx p0 e1 e2
      have I := IS.out k
      by_cases p1 : l = 1
      · have p2 := e1 p1
        rw [show sta (S : Int) k = true from (sta_iff _ _).2 ⟨p0, p2⟩] at I
        have I := Lib.hid I
        subst p1
        have q1 : decide ((1 : Int) < 1) = false := by decide
        clear e1 e2
        go_upto_region 9 with (go_at_call 18; (with_reducible refine (I.out _).mono ?_); rintro e w' ⟨rfl, rfl⟩)
        go_quiet (fail)
        go_wp2
        go_roundw
        case rel => exact ⟨s + 1, by omega, by go_num, below_drewN BZ.out _⟩
        case measure => simp [intOf]; omega
      · have q0 : (l == 1) = false := by rw [beq_eq_false_iff_ne]; exact p1
        have q1 : decide (1 < l) = true := by rw [decide_eq_true_iff]; omega
        obtain ⟨p2, p3⟩ := e2 (by omega)
        obtain ⟨kn, rfl⟩ : ∃ kn : Nat, k = (kn : Int) := ⟨k.toNat, by omega⟩
        rw [Int.toNat_natCast] at p3
        have hkm : kn < m := by omega
        have q0n : decide ((kn : Int) < 0) = false := by rw [decide_eq_false_iff_not]; omega
        have q2 : decide ((i : Int) ≤ (kn : Int)) = false := by rw [decide_eq_false_iff_not]; omega
        have q2n : decide (i ≤ kn) = false := by rw [decide_eq_false_iff_not]; omega
        obtain ⟨A2, c2, y1, -, -⟩ := HC.out kn hkm
        have y2 := (BZ.out.cell (p := ⟨g1, o1 + kn * 2, none⟩) (Nat.lt_of_lt_of_le hg1 BY.out.size)).trans ((BY.out.cell (p := ⟨g1, o1 + kn * 2, none⟩) hg1).trans y1)
        rw [p3] at y2
        have hw : IntKind.i64.wrap (l - 1) = l - 1 := IntWalk.i64_in _ (by omega)
        have q3 : (l - 1 != l - 1) = false := by rw [bne_eq_false_iff_eq]
        clear y1 p3 e1 e2 I
        go_upto_region 9 with (fail)
        go_quiet (fail)
        go_wp2
        go_roundw
        case rel => exact ⟨s + 1, by omega, by go_num, below_drewN BZ.out _⟩
        case measure => simp [intOf]; omega
    · obtain rfl : s = S := by omega
      go_wp2
      go_ret
      exact ⟨rfl, B8.out⟩

set_option maxRecDepth 100000 in
set_option maxHeartbeats 4000000 in
theorem tright_yes (AH : Option Addr) (cH : Nat) (AN : Option Addr) (cN : Nat) (T : Tr) (w : World) (h : TS w AH AN T) (ht : Rtt T) :
    Calls Tryz.prog 15 #[.agg #[.int .i64 T.st, .slice AH T.n cH, .slice AN T.m cN]] w fun e w' => e = .returned (.bool true) ∧ Below w.heap.size w w' := by
  have PO := Lib.hid (fun w' (hb : Below w.heap.size w w') => possible_yes T.st AH T.n cH T.f w' (h.1.later hb) ht.hd ht.s1 ht.s2)
  have ND := Lib.hid (fun w' (hb : Below w.heap.size w w') i hi => rightNode_yes AH cH AN cN T i w' (h.2.later hb) ht hi)
  have HN := Lib.hid (fun w' (hb : Below w.heap.size w w') => h.2.below hb)
  have m1 := ht.m1
  have m2 := ht.m2
  have TP := Lib.hid ht.top
  clear h ht
  obtain ⟨st, n, f, m, lv, nx⟩ := T
  simp only at *
  have K1 := Blk.new w 31 #[.int .i64 st, .slice AH n cH, .slice AN m cN]
  have B1 : Below w.heap.size w (w.alloc (.cells #[.int .i64 st, .slice AH n cH, .slice AN m cN] 31)) := (Below.refl _ _).alloc (Nat.le_refl _) _
  have d1 : decide ((m : Int) < 1) = false := by rw [decide_eq_false_iff_not]; omega
  have d2 : decide (4096 < (m : Int)) = false := by rw [decide_eq_false_iff_not]; omega
  go_enter Tryz.func15, Tryz.ntmps15
  go_wp2_with fail
  generalize w.alloc (.cells #[.int .i64 st, .slice AH n cH, .slice AN m cN] 31) = w0 at *
  obtain ⟨a0, a1, a2, a3⟩ := K1.three
  have K1 := Lib.hid K1
  have B1 := Lib.hid B1
  go_wp2_with (go_at_call 40; (with_reducible refine (PO.out _ B1.out).mono ?_); rintro e w1 ⟨rfl, hb⟩; have B2 := Lib.hid (B1.out.trans (hb.mono B1.out.size)); have K2 := Lib.hid (K1.out.below hb K1.out.lt); obtain ⟨b0, b1, b2, b3⟩ := K2.out.three; clear hb)
  go_loopw [25] (fun iv wr => ∃ j : Nat, j ≤ m ∧ iv = .int .i64 (j : Int) ∧ Below w1.heap.size w1 wr) (fun iv _ => m - (intOf iv).toNat)
  case atStart => exact ⟨0, Nat.zero_le _, rfl, Below.refl _ _⟩
  case round =>
    obtain ⟨j, hj, rfl, hbel⟩ := hrel
    have B4 := Lib.hid (B2.out.trans (hbel.mono B2.out.size))
    have K4 := Lib.hid (K2.out.below hbel K2.out.lt)
    have BX := Lib.hid hbel
    clear a0 a1 a2 a3 b0 b1 b2 b3 hbel
    obtain ⟨a0, a1, a2, a3⟩ := K4.out.three
    by_cases hlt : j < m
    · go_wp2_with (go_at_call 41; (with_reducible refine (ND.out _ B4.out _ hlt).mono ?_); rintro e w2 ⟨rfl, hb⟩; have B5 := Lib.hid (BX.out.trans (hb.mono BX.out.size)); clear hb)
      go_roundw
      case rel => exact ⟨j + 1, by omega, by go_num, B5.out⟩
      case measure => simp [intOf]; omega
    · obtain rfl : j = m := by omega
      obtain ⟨i, hi⟩ : ∃ i, j = i + 1 := ⟨j - 1, by omega⟩
      obtain ⟨g1, o1, rfl, hb1, hc⟩ := HN.out _ B4.out (by omega)
      obtain ⟨A', c', h1, -, -⟩ := hc i (by omega)
      have hw1 : IntKind.i64.wrap ((j : Int) - 1) = (i : Int) := by rw [show (j : Int) - 1 = (i : Int) by omega]; exact IntWalk.i64_in _ (by omega)
      have tp := TP.out
      rw [show j - 1 = i by omega] at tp
      rw [tp] at h1
      have hij : i < j := by omega
      clear hc hlt hi tp
      go_wp2_with fail
      go_quiet (fail)
      go_wp2
      go_ret
      exact ⟨rfl, below_drewN B4.out _⟩
end Go.Proofs.YtedjjhaopohibaaGreatDoor
namespace Go.Proofs.YtedjjhaopohibaaGreatDoor
open Go.RowKit

/-- the value to which states lead from an index -/
def fo (nx : Nat → List Int) : Int → List Int → Int
  | k, [] => k
  | k, s :: r => fo nx (ig (nx k.toNat) s.toNat) r
theorem fo_step (nx : Nat → List Int) (k : Int) {l : List Int} {j : Nat} (hj : j < l.length) : fo nx k (l.drop j) = fo nx (ig (nx k.toNat) (ig l j).toNat) (l.drop (j + 1)) := by
  rw [List.drop_eq_getElem_cons hj, fo]
  congr 1
  simp [ig, hj]

section
variable (AH : Option Addr) (cH : Nat) (AN : Option Addr) (cN : Nat) (T : Tr) (AI : Option Addr) (cI : Nat) (l : List Int) (w : World)
set_option maxRecDepth 100000 in
set_option maxHeartbeats 4000000 in
theorem follow_any (h : NR w w.heap.size AN T.m T.lv T.nx) (ht : Rtt T) (hI : Reads w w.heap.size AI T.n (il l)) (ha : als T.st l = true) :
    Calls Tryz.prog 19 #[.agg #[.int .i64 T.st, .slice AH T.n cH, .slice AN T.m cN], .slice AI T.n cI] w fun e w' => e = .returned (.int .i64 (fo T.nx ((T.m - 1 : Nat) : Int) l)) ∧ Below w.heap.size w w' := by
  have HT := Lib.hid ht.nd
  have TP := Lib.hid ht.top
  have s1 := ht.s1
  have m1 := ht.m1
  have m2 := ht.m2
  have n2 := ht.hd.1.2
  have n1 := ht.hd.1.1
  have HL := Lib.hid (reads_len hI)
  have HA := Lib.hid ((als_iff _ _).1 ha)
  clear ht ha
  obtain ⟨st, n, f, m, lv, nx⟩ := T
  simp only at *
  have K1 := Blk.new w 31 #[.int .i64 st, .slice AH n cH, .slice AN m cN]
  have B1 : Below w.heap.size w (w.alloc (.cells #[.int .i64 st, .slice AH n cH, .slice AN m cN] 31)) := (Below.refl _ _).alloc (Nat.le_refl _) _
  have HN := Lib.hid (h.below B1)
  have HI := Lib.hid (hI.below B1)
  obtain ⟨i, rfl⟩ : ∃ i, m = i + 1 := ⟨m - 1, by omega⟩
  have e1 : i + 1 - 1 = i := by omega
  rw [e1] at TP ⊢
  clear h hI e1
  obtain ⟨V, hV⟩ : ∃ V, V = fo nx (i : Int) l := ⟨_, rfl⟩
  rw [← hV]
  have HV := Lib.hid hV
  clear hV
  go_enter Tryz.func19, Tryz.ntmps19
  go_wp2_with fail
  generalize w.alloc (.cells #[.int .i64 st, .slice AH n cH, .slice AN (i + 1) cN] 31) = w0 at *
  obtain ⟨a0, a1, a2, a3⟩ := K1.three
  have B1 := Lib.hid B1
  clear K1
  go_wp2
  go_loop [5, 14] (fun kv jv => ∃ (j : Nat) (k : Int), j ≤ n ∧ jv = .int .i64 (j : Int) ∧ kv = .int .i64 k ∧ fo nx k (l.drop j) = V ∧ (j < n → 0 ≤ k ∧ k < (i : Int) + 1 ∧ lv k.toNat = (n : Int) - (j : Int))) (fun _ jv => n - (intOf jv).toNat)
  case atStart => exact ⟨0, i, Nat.zero_le _, rfl, rfl, HV.out.symm, fun _ => ⟨by omega, by omega, by rw [Int.toNat_natCast, TP.out]; omega⟩⟩
  case round =>
    obtain ⟨j, k, hj, rfl, rfl, hfo, hk⟩ := hrel
    by_cases hlt : j < n
    · obtain ⟨k1, k2, k3⟩ := hk hlt
      obtain ⟨kn, rfl⟩ : ∃ kn : Nat, k = (kn : Int) := ⟨k.toNat, by omega⟩
      have hkm : kn < i + 1 := by omega
      rw [Int.toNat_natCast] at k3
      obtain ⟨ad, rfl, hb, hx⟩ := il_at HI.out hlt
      obtain ⟨t1, t2⟩ := HA.out j (by rw [HL.out]; exact hlt)
      rw [fo_step nx kn (by rw [HL.out]; exact hlt)] at hfo
      obtain ⟨sn, hs⟩ : ∃ sn : Nat, ig l j = (sn : Int) := ⟨(ig l j).toNat, by omega⟩
      rw [hs] at hx t1 t2 hfo
      rw [Int.toNat_natCast, Int.toNat_natCast] at hfo
      obtain ⟨g1, o1, rfl, hb1, hc⟩ := HN.out (by omega)
      obtain ⟨A', c', y1, y2, hr⟩ := hc kn hkm
      obtain ⟨b1, b2, b3, b4⟩ := HT.out kn hkm
      have hsn : sn < (nx kn).length := by omega
      obtain ⟨ad2, rfl, hb2, hx2⟩ := il_at hr hsn
      have b5 := b4 sn hsn
      generalize (nx kn).length = S at y2 hsn
      obtain ⟨k', hk'⟩ : ∃ k', k' = ig (nx kn) sn := ⟨_, rfl⟩
      rw [← hk'] at hx2 hfo b5
      have HE := Lib.hid (show j + 1 < n → 0 ≤ k' ∧ k' < (i : Int) + 1 ∧ lv k'.toNat = (n : Int) - ((j + 1 : Nat) : Int) from fun hjn => by
        obtain ⟨p1, _, p3⟩ := b5
        obtain ⟨p4, p5⟩ := p3 (by omega)
        exact ⟨p1, by omega, by rw [p5, k3]; omega⟩)
      have HF := Lib.hid hfo
      clear hk hfo hk' b1 b2 b3 b4 b5 hc hr y1 k1 k2 k3 hs t1 t2
      go_wp2
      go_round
      case rel => exact ⟨j + 1, k', by omega, by go_num, rfl, HF.out, HE.out⟩
      case measure => simp [intOf]; omega
    · obtain rfl : j = n := by omega
      have hfo : k = V := by rw [List.drop_eq_nil_of_le (by rw [HL.out]; omega)] at hfo; exact hfo
      subst hfo
      clear hk
      go_wp2
      go_ret
      exact ⟨rfl, B1.out⟩

/-- not a state -/
theorem evalFn_any (st : Int) (g : Nat) (x : Int) (w : World) (h : w.cell? ⟨g, 0, none⟩ = some (.int .i64 st)) :
    Calls Tryz.prog 17 #[.int .i64 x, .pointer (some ⟨g, 0, none⟩)] w fun e w' => e = .returned (.bool (!sta st x)) ∧ w = w' := by
  have IS := Lib.hid (fun w => tisState_any st x w)
  generalize sta st x = q at IS
  go_enter Tryz.func17, Tryz.ntmps17
  cases q <;> go_wp2_with (go_at_call 18; (with_reducible refine (IS.out _).mono ?_); rintro e w' ⟨rfl, rfl⟩)
  all_goals go_ret
  all_goals exact ⟨rfl, rfl⟩
theorem indexf_no (n : Nat) (st : Int) (g : Nat) (hg : w.cell? ⟨g, 0, none⟩ = some (.int .i64 st)) (h : Reads w w.heap.size AI n (il l)) (hn : n ≤ 1000000) (ha : als st l = true) :
    Calls Tryz.prog 42 #[.slice AI n cI, .func (.func 17) #[] #[.pointer (some ⟨g, 0, none⟩)]] w fun e w' => e = .returned (.int .i64 (-1)) ∧ w = w' := by
  have HL := Lib.hid (reads_len h)
  have H := Lib.hid h
  have HA := Lib.hid ((als_iff _ _).1 ha)
  have HG := Lib.hid hg
  clear h ha hg
  go_enter Tryz.func42, Tryz.ntmps42
  go_wp2
  go_loop [8] (fun iv => ∃ j : Nat, j ≤ n ∧ iv = .int .i64 (j : Int)) (fun iv => n - (intOf iv).toNat)
  case atStart => exact ⟨0, Nat.zero_le _, rfl⟩
  case round =>
    obtain ⟨j, hj, rfl⟩ := hrel
    by_cases hlt : j < n
    · obtain ⟨ad, rfl, hb, hc⟩ := il_at H.out hlt
      have E := evalFn_any st g (ig l j) w HG.out
      rw [show sta st (ig l j) = true from (sta_iff _ _).2 (HA.out j (by rw [HL.out]; exact hlt))] at E
      have E := Lib.hid E
      generalize ig l j = x at hc E
      go_wp2_with (go_at_call 17; (with_reducible refine E.out.mono ?_); rintro e w' ⟨rfl, rfl⟩)
      go_round
      case rel => exact ⟨j + 1, by omega, by go_num⟩
      case measure => simp [intOf]; omega
    · obtain rfl : j = n := by omega
      go_wp2
      go_ret
      exact ⟨rfl, rfl⟩
theorem indexf_yes (n : Nat) (st : Int) (g : Nat) (hg : w.cell? ⟨g, 0, none⟩ = some (.int .i64 st)) (h : Reads w w.heap.size AI n (il l)) (hn : n ≤ 1000000) (ha : als st l = false) :
    Calls Tryz.prog 42 #[.slice AI n cI, .func (.func 17) #[] #[.pointer (some ⟨g, 0, none⟩)]] w fun e w' => (∃ r : Nat, e = .returned (.int .i64 (r : Nat))) ∧ w = w' := by
  have HL := Lib.hid (reads_len h)
  have H := Lib.hid h
  have HA := Lib.hid ha
  have HG := Lib.hid hg
  clear h ha hg
  go_enter Tryz.func42, Tryz.ntmps42
  go_wp2
  go_loop [8] (fun iv => ∃ j : Nat, j ≤ n ∧ iv = .int .i64 (j : Int) ∧ ∀ i, i < j → 0 ≤ ig l i ∧ ig l i < st) (fun iv => n - (intOf iv).toNat)
  case atStart => exact ⟨0, Nat.zero_le _, rfl, fun i hi => absurd hi (by omega)⟩
  case round =>
    obtain ⟨j, hj, rfl, hno⟩ := hrel
    have HN := Lib.hid hno
    clear hno
    by_cases hlt : j < n
    · obtain ⟨ad, rfl, hb, hc⟩ := il_at H.out hlt
      have E := evalFn_any st g (ig l j) w HG.out
      have HS := Lib.hid ((sta_iff st (ig l j)).1)
      obtain ⟨x, hx⟩ : ∃ x, x = ig l j := ⟨_, rfl⟩
      rw [← hx] at hc E HS
      have HX := Lib.hid hx
      clear hx
      generalize sta st x = q at E HS
      cases q with
      | true =>
        have HQ := Lib.hid (HS.out rfl)
        have E := Lib.hid E
        go_wp2_with (go_at_call 17; (with_reducible refine E.out.mono ?_); rintro e w' ⟨rfl, rfl⟩)
        go_round
        case rel =>
          exact ⟨j + 1, by omega, by go_num, fun i hi => by
            by_cases e : i = j
            · subst e; rw [← HX.out]; exact HQ.out
            · exact HN.out i (by omega)⟩
        case measure => simp [intOf]; omega
      | false =>
        have E := Lib.hid E
        go_wp2_with (go_at_call 17; (with_reducible refine E.out.mono ?_); rintro e w' ⟨rfl, rfl⟩)
        go_ret
        exact ⟨⟨j, rfl⟩, rfl⟩
    · exfalso
      obtain rfl : j = n := by omega
      have := (als_iff st l).2 (by rw [HL.out]; exact HN.out)
      rw [HA.out] at this
      cases this
theorem containsf_any (n : Nat) (st : Int) (g : Nat) (hg : w.cell? ⟨g, 0, none⟩ = some (.int .i64 st)) (h : Reads w w.heap.size AI n (il l)) (hn : n ≤ 1000000) :
    Calls Tryz.prog 16 #[.slice AI n cI, .func (.func 17) #[] #[.pointer (some ⟨g, 0, none⟩)]] w fun e w' => e = .returned (.bool (!als st l)) ∧ w = w' := by
  cases ha : als st l with
  | true =>
    have I := Lib.hid (indexf_no AI cI l w n st g hg h hn ha)
    clear hg h ha
    go_enter Tryz.func16, Tryz.ntmps16
    go_wp2_with (go_at_call 42; (with_reducible refine I.out.mono ?_); rintro e w' ⟨rfl, rfl⟩)
    go_ret
    exact ⟨rfl, rfl⟩
  | false =>
    have I := Lib.hid (indexf_yes AI cI l w n st g hg h hn ha)
    clear hg h ha
    go_enter Tryz.func16, Tryz.ntmps16
    go_wp2_with (go_at_call 42; (with_reducible refine I.out.mono ?_); rintro e w' ⟨⟨r, rfl⟩, rfl⟩)
    go_ret
    exact ⟨rfl, rfl⟩

/-- what Eval answers, where V is the value to which the states lead -/
def ev (st : Int) (n : Nat) (l : List Int) (V : Int) : Int × Int := if l.length = n then (if als st l = true then (V, 0) else (0, 10)) else (0, 2)
set_option maxRecDepth 100000 in
set_option maxHeartbeats 4000000 in
theorem eval_any (q : Nat) (h : TS w AH AN T) (ht : Rtt T) (hI : Reads w w.heap.size AI q (il l)) (hq : q ≤ 1000000) :
    Calls Tryz.prog 7 #[.agg #[.int .i64 T.st, .slice AH T.n cH, .slice AN T.m cN], .slice AI q cI] w fun e w' => e = .returned (.tuple #[.int .i64 (ev T.st T.n l (fo T.nx ((T.m - 1 : Nat) : Int) l)).1, .int .i64 (ev T.st T.n l (fo T.nx ((T.m - 1 : Nat) : Int) l)).2]) ∧ Below w.heap.size w w' := by
  have RI := Lib.hid (fun w' (hb : Below w.heap.size w w') => tright_yes AH cH AN cN T w' (h.later hb) ht)
  have HL := Lib.hid (reads_len hI)
  have n2 := ht.hd.1.2
  have FO := Lib.hid (fun w' (hb : Below w.heap.size w w') (hr : Reads w' w'.heap.size AI T.n (il l)) ha => follow_any AH cH AN cN T AI cI l w' (h.2.later hb) ht hr ha)
  have CF := Lib.hid (fun w' g (hb : Below w.heap.size w w') hg => containsf_any AI cI l w' q T.st g hg (hI.later hb) hq)
  have HI := Lib.hid (fun w' (hb : Below w.heap.size w w') => hI.later hb)
  clear h ht hI
  obtain ⟨st, n, f, m, lv, nx⟩ := T
  simp only at *
  generalize fo nx ((m - 1 : Nat) : Int) l = V at FO ⊢
  have K1 := Blk.new w 31 #[.int .i64 st, .slice AH n cH, .slice AN m cN]
  have B1 : Below w.heap.size w (w.alloc (.cells #[.int .i64 st, .slice AH n cH, .slice AN m cN] 31)) := (Below.refl _ _).alloc (Nat.le_refl _) _
  by_cases hqn : q = n
  · subst hqn
    rw [ev, if_pos HL.out]
    have f3 : ((q : Int) != (q : Int)) = false := by rw [bne_eq_false_iff_eq]
    have FO2 := FO.out
    have CF2 := CF.out
    generalize als st l = p at FO2 CF2
    cases p with
    | true =>
      rw [if_pos rfl]
      have FO3 := Lib.hid (fun w' hb hr => FO2 w' hb hr rfl)
      have CF3 := Lib.hid CF2
      clear FO2 CF2
      go_enter Tryz.func7, Tryz.ntmps7
      go_wp2_with fail
      generalize w.alloc (.cells #[.int .i64 st, .slice AH q cH, .slice AN m cN] 31) = w0 at *
      obtain ⟨a0, a1, a2, a3⟩ := K1.three
      have K1 := Lib.hid K1
      have B1 := Lib.hid B1
      go_wp2_with (first
        | (go_at_call 15; (with_reducible refine (RI.out _ B1.out).mono ?_); rintro e w1 ⟨rfl, hb⟩; have B2 := Lib.hid (B1.out.trans (hb.mono B1.out.size)); have K2 := Lib.hid (K1.out.below hb K1.out.lt); obtain ⟨b0, b1, b2, b3⟩ := K2.out.three; clear hb)
        | (go_at_call 16; (with_reducible refine (CF3.out _ _ B2.out b0).mono ?_); rintro e w2 ⟨rfl, rfl⟩)
        | (go_at_call 19; (with_reducible refine (FO3.out _ B2.out (HI.out _ B2.out)).mono ?_); rintro e w3 ⟨rfl, hb⟩; have B3 := Lib.hid (B2.out.trans (hb.mono B2.out.size)); clear hb))
      go_ret2
      exact ⟨rfl, B3.out⟩
    | false =>
      rw [if_neg (by decide)]
      have CF3 := Lib.hid CF2
      clear FO2 CF2
      go_enter Tryz.func7, Tryz.ntmps7
      go_wp2_with fail
      generalize w.alloc (.cells #[.int .i64 st, .slice AH q cH, .slice AN m cN] 31) = w0 at *
      obtain ⟨a0, a1, a2, a3⟩ := K1.three
      have K1 := Lib.hid K1
      have B1 := Lib.hid B1
      go_wp2_with (first
        | (go_at_call 15; (with_reducible refine (RI.out _ B1.out).mono ?_); rintro e w1 ⟨rfl, hb⟩; have B2 := Lib.hid (B1.out.trans (hb.mono B1.out.size)); have K2 := Lib.hid (K1.out.below hb K1.out.lt); obtain ⟨b0, b1, b2, b3⟩ := K2.out.three; clear hb)
        | (go_at_call 16; (with_reducible refine (CF3.out _ _ B2.out b0).mono ?_); rintro e w2 ⟨rfl, rfl⟩))
      go_ret2
      exact ⟨rfl, B2.out⟩
  · rw [ev, if_neg (by rw [HL.out]; exact hqn)]
    have f3 : ((q : Int) != (n : Int)) = true := by rw [bne_iff_ne]; omega
    go_enter Tryz.func7, Tryz.ntmps7
    go_wp2_with fail
    generalize w.alloc (.cells #[.int .i64 st, .slice AH n cH, .slice AN m cN] 31) = w0 at *
    obtain ⟨a0, a1, a2, a3⟩ := K1.three
    have K1 := Lib.hid K1
    have B1 := Lib.hid B1
    go_wp2_with (go_at_call 15; (with_reducible refine (RI.out _ B1.out).mono ?_); rintro e w1 ⟨rfl, hb⟩; have B2 := Lib.hid (B1.out.trans (hb.mono B1.out.size)); have K2 := Lib.hid (K1.out.below hb K1.out.lt); obtain ⟨b0, b1, b2, b3⟩ := K2.out.three; clear hb)
    go_ret2
    exact ⟨rfl, B2.out⟩
end
end Go.Proofs.YtedjjhaopohibaaGreatDoor
