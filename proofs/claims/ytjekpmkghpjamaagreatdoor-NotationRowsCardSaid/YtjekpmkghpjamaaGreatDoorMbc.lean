/- The walk of the reference's Same on rules of the same numbers. -/
/- Lists of numbers: what they read as; the searches in them and their comparison. -/
/- The walks of ascends and of the reference's numbers. -/
/- The walks of Right, plain and the reference's Right on any rule. -/
/- The walk of Plain. -/
import Derived.Test.YtjekpmkghpjamaaGreatDoorMab
import Derived.Test.YtjekpmkghpjamaaGreatDoorMaa
import Derived.Below
import Derived.BigQuiet
import Derived.Deep.AppendLies
import Derived.Deep.CutRange
import Derived.Deep.Draws
import Derived.Deep.QuietTactic
import Derived.IntWalk
import Derived.Laws.OwnMore
import Derived.Laws.Rows
import Derived.Lib.Hide
import Derived.Lib.Strings
import Derived.LoopN
import Derived.OwnWalk
import Derived.Shelf.Abstract
import Derived.Sort.Statements
import Derived.StillTail
import Derived.StillTailTactics
import Derived.Test.YtjekpmkghpjamaaGreatDoorRows
import Derived.WalkKit
import Derived.Test.YtjekpmkghpjamaaGreatDoorMbb
import Derived.Test.YtjekpmkghpjamaaGreatDoorMav
import Derived.Test.YtjekpmkghpjamaaGreatDoorMag
import Derived.Deep.DrawnRows
import Derived.Deep.RegionHeld3
import Derived.Lib.SliceRun
namespace Go.Proofs.YtjekpmkghpjamaaGreatDoor
open Go.RowKit
theorem two_blkG (w : World) (c1 c2 : Array Value) (t1 t2 : TypeId) :
    Blk ((w.alloc (.cells c1 t1)).alloc (.cells c2 t2)) w.heap.size t1 c1 ∧ Blk ((w.alloc (.cells c1 t1)).alloc (.cells c2 t2)) (w.heap.size + 1) t2 c2 ∧ Below w.heap.size w ((w.alloc (.cells c1 t1)).alloc (.cells c2 t2)) := by
  have h2 := Blk.new (w.alloc (.cells c1 t1)) t2 c2
  rw [show (w.alloc (.cells c1 t1)).heap.size = w.heap.size + 1 by simp] at h2
  exact ⟨(Blk.new w t1 c1).alloc _, h2, ((Below.refl _ _).alloc (Nat.le_refl _) _).alloc (by simp) _⟩

section
variable (A A' : Option Addr) (n c c' : Nat) (f : Nat → P2) (s : Int) (Ab Ab' : Option Addr) (nb cb cb' : Nat) (b : List Int) (As As' : Option Addr) (ns cs cs' : Nat) (l : List Int)
end
end Go.Proofs.YtjekpmkghpjamaaGreatDoor
namespace Go.Proofs.YtjekpmkghpjamaaGreatDoor
open Go.RowKit
/-- a strictly ascending list of numbers from 0 to m - 1 -/
def asc (l : List Int) (m : Int) : Bool := (List.range l.length).all fun i => decide (0 ≤ ig l i) && decide (ig l i < m) && (decide (i = 0) || decide (ig l (i - 1) < ig l i))
theorem asc_iff (l : List Int) (m : Int) : asc l m = true ↔ ∀ i, i < l.length → 0 ≤ ig l i ∧ ig l i < m ∧ (0 < i → ig l (i - 1) < ig l i) := by
  simp only [asc, List.all_eq_true, List.mem_range, Bool.and_eq_true, Bool.or_eq_true, decide_eq_true_eq]
  constructor
  · intro h i hi
    obtain ⟨⟨h1, h2⟩, h3⟩ := h i hi
    exact ⟨h1, h2, fun h4 => by rcases h3 with h3 | h3 <;> omega⟩
  · intro h i hi
    obtain ⟨h1, h2, h3⟩ := h i hi
    exact ⟨⟨h1, h2⟩, (Nat.eq_zero_or_pos i).imp id h3⟩
theorem asc_no {l : List Int} {m : Int} {i : Nat} (hi : i < l.length) (h : ¬ (0 ≤ ig l i ∧ ig l i < m ∧ (0 < i → ig l (i - 1) < ig l i))) : asc l m = false := by
  rw [← Bool.not_eq_true, asc_iff]
  exact fun h' => h (h' i hi)

section
variable (A : Option Addr) (n c B : Nat) (l : List Int) (k : Int) (w : World)
theorem index_no (h : Reads w B A n (il l)) (hn : n ≤ 1000000) (hk : k ∉ l) :
    Calls Tryz.prog 170 #[.slice A n c, .int .i64 k] w fun e w' => e = .returned (.int .i64 (-1)) ∧ w = w' := by
  have HL := Lib.hid (reads_len h)
  have H := Lib.hid h
  clear h
  go_enter Tryz.func170, Tryz.ntmps170
  go_wp2
  go_loop [8] (fun iv => ∃ j : Nat, j ≤ n ∧ iv = .int .i64 (j : Int)) (fun iv => n - (intOf iv).toNat)
  case atStart => exact ⟨0, Nat.zero_le _, rfl⟩
  case round =>
    obtain ⟨j, hj, rfl⟩ := hrel
    by_cases hlt : j < n
    · obtain ⟨ad, rfl, hb, hc⟩ := il_at H.out hlt
      have hx : ig l j ≠ k := fun e => hk (by rw [← e]; exact ig_mem (by rw [HL.out]; exact hlt))
      generalize ig l j = x at hc hx
      have ht : (x == k) = false := by rw [beq_eq_false_iff_ne]; exact hx
      have ht2 : (k == x) = false := by rw [beq_eq_false_iff_ne]; exact hx.symm
      clear hx
      go_wp2
      go_round
      case rel => exact ⟨j + 1, by omega, by go_num⟩
      case measure => simp [intOf]; omega
    · obtain rfl : j = n := by omega
      go_wp2
      go_ret
      exact ⟨rfl, rfl⟩
theorem index_yes (h : Reads w B A n (il l)) (hn : n ≤ 1000000) (hk : k ∈ l) :
    Calls Tryz.prog 170 #[.slice A n c, .int .i64 k] w fun e w' => ∃ r : Nat, e = .returned (.int .i64 (r : Nat)) ∧ w = w' := by
  have HL := Lib.hid (reads_len h)
  have H := Lib.hid h
  clear h
  go_enter Tryz.func170, Tryz.ntmps170
  go_wp2
  go_loop [8] (fun iv => ∃ j : Nat, j ≤ n ∧ iv = .int .i64 (j : Int) ∧ ∀ i, i < j → ig l i ≠ k) (fun iv => n - (intOf iv).toNat)
  case atStart => exact ⟨0, Nat.zero_le _, rfl, fun i hi => absurd hi (by omega)⟩
  case round =>
    obtain ⟨j, hj, rfl, hno⟩ := hrel
    have HN := Lib.hid hno
    clear hno
    by_cases hlt : j < n
    · obtain ⟨ad, rfl, hb, hc⟩ := il_at H.out hlt
      obtain ⟨x, hx⟩ : ∃ x, x = ig l j := ⟨_, rfl⟩
      rw [← hx] at hc
      have HXX := Lib.hid hx
      clear hx
      by_cases hxk : x = k
      · subst hxk
        go_wp2
        go_ret
        exact ⟨⟨j, rfl⟩, rfl⟩
      · have ht : (x == k) = false := by rw [beq_eq_false_iff_ne]; exact hxk
        have ht2 : (k == x) = false := by rw [beq_eq_false_iff_ne]; exact fun e => hxk e.symm
        have HK := Lib.hid hxk
        clear hxk
        go_wp2
        go_round
        case rel =>
          exact ⟨j + 1, by omega, by go_num, fun i hi => by
            by_cases e : i = j
            · subst e; rw [← HXX.out]; exact HK.out
            · exact HN.out i (by omega)⟩
        case measure => simp [intOf]; omega
    · exfalso
      obtain ⟨i, hi, he⟩ := mem_ig hk
      exact HN.out i (by have := HL.out; omega) he
theorem contains_any (h : Reads w B A n (il l)) (hn : n ≤ 1000000) :
    Calls Tryz.prog 120 #[.slice A n c, .int .i64 k] w fun e w' => e = .returned (.bool (decide (k ∈ l))) ∧ w = w' := by
  by_cases hk : k ∈ l
  · have IX := Lib.hid (index_yes A n c B l k w h hn hk)
    rw [decide_eq_true hk]
    clear h hk
    go_enter Tryz.func120, Tryz.ntmps120
    go_wp2_with (go_at_call 170; (with_reducible refine IX.out.mono ?_); rintro e w' ⟨r, rfl, rfl⟩)
    go_ret
    exact ⟨rfl, rfl⟩
  · have IX := Lib.hid (index_no A n c B l k w h hn hk)
    rw [decide_eq_false hk]
    clear h hk
    go_enter Tryz.func120, Tryz.ntmps120
    go_wp2_with (go_at_call 170; (with_reducible refine IX.out.mono ?_); rintro e w' ⟨rfl, rfl⟩)
    go_ret
    exact ⟨rfl, rfl⟩
end
end Go.Proofs.YtjekpmkghpjamaaGreatDoor
namespace Go.Proofs.YtjekpmkghpjamaaGreatDoor
open Go.RowKit
set_option maxRecDepth 100000 in
set_option maxHeartbeats 2000000 in
theorem ascends_any (A : Option Addr) (n c B : Nat) (l : List Int) (m : Int) (w : World) (h : Reads w B A n (il l)) (hn : n ≤ 1000000) :
    Calls Tryz.prog 75 #[.slice A n c, .int .i64 m] w fun e w' => e = .returned (.bool (asc l m)) ∧ w = w' := by
  have hl := reads_len h
  have H := Lib.hid h
  have HL := Lib.hid hl
  clear h hl
  go_enter Tryz.func75, Tryz.ntmps75
  go_wp2
  go_loop [9] (fun iv => ∃ j : Nat, j ≤ n ∧ iv = .int .i64 (j : Int) ∧ ∀ i, i < j → 0 ≤ ig l i ∧ ig l i < m ∧ (0 < i → ig l (i - 1) < ig l i)) (fun iv => n - (intOf iv).toNat)
  case atStart => exact ⟨0, Nat.zero_le _, rfl, fun i hi => absurd hi (by omega)⟩
  case round =>
    obtain ⟨j, hj, rfl, hok⟩ := hrel
    have HN := Lib.hid hok
    clear hok
    by_cases hlt : j < n
    · obtain ⟨ad, rfl, hb, hc⟩ := il_at H.out hlt
      have hno := Lib.hid (fun h => asc_no (l := l) (m := m) (i := j) (by rw [HL.out]; exact hlt) h)
      obtain ⟨x, hx⟩ : ∃ x, x = ig l j := ⟨_, rfl⟩
      rw [← hx] at hc
      have HXX := Lib.hid hx
      clear hx
      by_cases h1 : x < 0
      · have HF := Lib.hid (show asc l m = false from hno.out (by rw [← HXX.out]; omega))
        go_wp2
        go_ret
        exact ⟨ret_bool HF.out.symm, rfl⟩
      · by_cases h2 : m ≤ x
        · have HF := Lib.hid (show asc l m = false from hno.out (by rw [← HXX.out]; omega))
          go_wp2
          go_ret
          exact ⟨ret_bool HF.out.symm, rfl⟩
        · by_cases h3 : j = 0
          · subst h3
            have hs := Lib.hid (show ∀ i, i < 0 + 1 → 0 ≤ ig l i ∧ ig l i < m ∧ (0 < i → ig l (i - 1) < ig l i) from fun i hi => by
              obtain rfl : i = 0 := by omega
              rw [← HXX.out]
              exact ⟨by omega, by omega, fun h => absurd h (by omega)⟩)
            rw [show ad.add 0 = ad by simp [Addr.add]] at hc
            go_wp2
            go_round
            case rel => exact ⟨0 + 1, by omega, by go_num, hs.out⟩
            case measure => simp [intOf]; omega
          · obtain ⟨i, hi⟩ : ∃ i, j = i + 1 := ⟨j - 1, by omega⟩
            obtain ⟨ad', he, hb', hc'⟩ := il_at H.out (show i < n by omega)
            obtain rfl : ad = ad' := by injection he
            have e1 : (j : Int) - 1 = (i : Int) := by omega
            have hd1 : 0 < j := by omega
            have hdi : (0 : Int) < (j : Int) := by omega
            obtain ⟨y, hy⟩ : ∃ y, y = ig l i := ⟨_, rfl⟩
            rw [← hy] at hc'
            have HY := Lib.hid hy
            have HI := Lib.hid hi
            clear hy he hi
            by_cases h4 : x ≤ y
            · have HF := Lib.hid (show asc l m = false from hno.out (by
                rintro ⟨_, _, h⟩
                have h := h hd1
                rw [HI.out, show i + 1 - 1 = i by omega, ← HY.out, ← HI.out, ← HXX.out] at h
                omega))
              go_wp2
              go_ret
              exact ⟨ret_bool HF.out.symm, rfl⟩
            · have hs := Lib.hid (show ∀ i, i < j + 1 → 0 ≤ ig l i ∧ ig l i < m ∧ (0 < i → ig l (i - 1) < ig l i) from fun i' hi' => by
                by_cases e : i' = j
                · subst e
                  rw [← HXX.out]
                  refine ⟨by omega, by omega, fun _ => ?_⟩
                  rw [HI.out, show i + 1 - 1 = i by omega, ← HY.out]
                  omega
                · exact HN.out i' (by omega))
              go_wp2
              go_round
              case rel => exact ⟨j + 1, by omega, by go_num, hs.out⟩
              case measure => simp [intOf]; omega
    · obtain rfl : j = n := by omega
      have HF := Lib.hid (show asc l m = true by rw [asc_iff, HL.out]; exact HN.out)
      go_wp2
      go_ret
      exact ⟨ret_bool HF.out.symm, rfl⟩
end Go.Proofs.YtjekpmkghpjamaaGreatDoor
namespace Go.Proofs.YtjekpmkghpjamaaGreatDoor
open Go.RowKit
/-- what a rule's lists read as -/
def TR (w : World) (A : Option Addr) (n : Nat) (f : Nat → P2) (Ab : Option Addr) (nb : Nat) (b : List Int) (As : Option Addr) (ns : Nat) (l : List Int) : Prop :=
  QReads w w.heap.size A n f ∧ Reads w w.heap.size Ab nb (il b) ∧ Reads w w.heap.size As ns (il l)
theorem TR.later {w w' : World} {A : Option Addr} {n : Nat} {f : Nat → P2} {Ab : Option Addr} {nb : Nat} {b : List Int} {As : Option Addr} {ns : Nat} {l : List Int} (h : TR w A n f Ab nb b As ns l) (hb : Below w.heap.size w w') : TR w' A n f Ab nb b As ns l :=
  ⟨h.1.later hb, h.2.1.later hb, h.2.2.later hb⟩
/-- whether a rule is valid -/
def rt (f : Nat → P2) (n : Nat) (s : Int) (b l : List Int) : Bool := decide (kd f n < 3) && (decide (2 ≤ s) && (decide (s ≤ 8) && (asc b (n : Int) && asc l (n : Int))))

section
variable (A : Option Addr) (n c : Nat) (f : Nat → P2) (s : Int) (Ab : Option Addr) (nb cb : Nat) (b : List Int) (As : Option Addr) (ns cs : Nat) (l : List Int)
set_option maxRecDepth 100000 in
set_option maxHeartbeats 2000000 in
theorem right_any (w : World) (h : TR w A n f Ab nb b As ns l) (hn : n ≤ 1000) (hnb : nb ≤ 1000) (hns : ns ≤ 1000) :
    Calls Tryz.prog 37 #[.agg #[.slice A n c, .int .i64 s, .slice Ab nb cb, .slice As ns cs]] w fun e w' => e = .returned (.bool (rt f n s b l)) ∧ Below w.heap.size w w' := by
  have LO := fun w' (hb : Below w.heap.size w w') => letterOf_any A n c f w' (h.later hb).1 (by omega)
  have AB := fun w' (hb : Below w.heap.size w w') => ascends_any Ab nb cb _ b (n : Int) w' (h.later hb).2.1 (by omega)
  have AS := fun w' (hb : Below w.heap.size w w') => ascends_any As ns cs _ l (n : Int) w' (h.later hb).2.2 (by omega)
  have K := Lib.hid (Blk.new w 44 #[.slice A n c, .int .i64 s, .slice Ab nb cb, .slice As ns cs])
  have B0 := Lib.hid ((Below.refl w.heap.size w).alloc (Nat.le_refl _) (.cells #[.slice A n c, .int .i64 s, .slice Ab nb cb, .slice As ns cs] 44))
  clear h
  unfold rt
  generalize tx (lt (kd f n)) = letter at LO
  generalize decide (kd f n < 3) = q0 at LO ⊢
  generalize asc b (n : Int) = q1 at AB ⊢
  generalize asc l (n : Int) = q2 at AS ⊢
  have zz := Lib.hid LO
  (try clear LO)
  have LO := zz
  clear zz
  have zz := Lib.hid AB
  (try clear AB)
  have AB := zz
  clear zz
  have zz := Lib.hid AS
  (try clear AS)
  have AS := zz
  clear zz
  cases q0 with
  | false =>
    go_enter Tryz.func37, Tryz.ntmps37
    go_wp2_with (go_at_call 74; (with_reducible refine (LO.out _ B0.out).mono ?_); rintro e w1 ⟨rfl, hb⟩; have B1 := Lib.hid (B0.out.trans (hb.mono B0.out.size)); obtain ⟨k0, k1, k2, k3, k4⟩ := (K.out.below hb K.out.lt).four; clear hb)
    go_ret
    exact ⟨rfl, B1.out⟩
  | true =>
    by_cases h1 : 2 ≤ s
    · by_cases h2 : s ≤ 8
      · have h3 : ¬ s < 2 := by omega
        have h4 : ¬ 8 < s := by omega
        rw [decide_eq_true h1, decide_eq_true h2]
        cases q1
        all_goals cases q2
        all_goals
          go_enter Tryz.func37, Tryz.ntmps37
          go_wp2_with (first
            | (go_at_call 74; (with_reducible refine (LO.out _ B0.out).mono ?_); rintro e w1 ⟨rfl, hb⟩; have B1 := Lib.hid (B0.out.trans (hb.mono B0.out.size)); obtain ⟨k0, k1, k2, k3, k4⟩ := (K.out.below hb K.out.lt).four; clear hb)
            | (go_at_call 75; (with_reducible refine (AB.out _ B1.out).mono ?_); rintro e w2 ⟨rfl, rfl⟩)
            | (go_at_call 75; (with_reducible refine (AS.out _ B1.out).mono ?_); rintro e w2 ⟨rfl, rfl⟩))
          go_ret
          exact ⟨rfl, B1.out⟩
      · have h3 : ¬ s < 2 := by omega
        have h4 : 8 < s := by omega
        rw [decide_eq_true h1, decide_eq_false h2]
        go_enter Tryz.func37, Tryz.ntmps37
        go_wp2_with (go_at_call 74; (with_reducible refine (LO.out _ B0.out).mono ?_); rintro e w1 ⟨rfl, hb⟩; have B1 := Lib.hid (B0.out.trans (hb.mono B0.out.size)); obtain ⟨k0, k1, k2, k3, k4⟩ := (K.out.below hb K.out.lt).four; clear hb)
        go_ret
        exact ⟨rfl, B1.out⟩
    · have h3 : s < 2 := by omega
      rw [decide_eq_false h1]
      go_enter Tryz.func37, Tryz.ntmps37
      go_wp2_with (go_at_call 74; (with_reducible refine (LO.out _ B0.out).mono ?_); rintro e w1 ⟨rfl, hb⟩; have B1 := Lib.hid (B0.out.trans (hb.mono B0.out.size)); obtain ⟨k0, k1, k2, k3, k4⟩ := (K.out.below hb K.out.lt).four; clear hb)
      go_ret
      exact ⟨rfl, B1.out⟩
set_option maxRecDepth 100000 in
set_option maxHeartbeats 2000000 in
theorem plain_any (w : World) (h : TR w A n f Ab nb b As ns l) (hn : n ≤ 1000) (hnb : nb ≤ 1000) (hns : ns ≤ 1000) :
    Calls Tryz.prog 108 #[.agg #[.slice A n c, .int .i64 s, .slice Ab nb cb, .slice As ns cs]] w fun e w' => e = .returned (.bool (rt f n s b l && (s == 2))) ∧ Below w.heap.size w w' := by
  have RI := fun w' (hb : Below w.heap.size w w') => right_any A n c f s Ab nb cb b As ns cs l w' (h.later hb) hn hnb hns
  have K := Lib.hid (Blk.new w 44 #[.slice A n c, .int .i64 s, .slice Ab nb cb, .slice As ns cs])
  have B0 := Lib.hid ((Below.refl w.heap.size w).alloc (Nat.le_refl _) (.cells #[.slice A n c, .int .i64 s, .slice Ab nb cb, .slice As ns cs] 44))
  clear h
  generalize rt f n s b l = q at RI ⊢
  have zz := Lib.hid RI
  (try clear RI)
  have RI := zz
  clear zz
  cases q
  all_goals
    go_enter Tryz.func108, Tryz.ntmps108
    go_wp2_with (go_at_call 37; (with_reducible refine (RI.out _ B0.out).mono ?_); rintro e w1 ⟨rfl, hb⟩; have B1 := Lib.hid (B0.out.trans (hb.mono B0.out.size)); obtain ⟨k0, k1, k2, k3, k4⟩ := (K.out.below hb K.out.lt).four; clear hb)
    go_ret
    exact ⟨rfl, B1.out⟩
end
end Go.Proofs.YtjekpmkghpjamaaGreatDoor
namespace Go.Proofs.YtjekpmkghpjamaaGreatDoor
open Go.RowKit
theorem Blk.four8 {w : World} {g : Nat} {t : TypeId} {a b c d : Value} (h : Blk w g t #[a, b, c, d]) : w.cell? ⟨g, 0, none⟩ = some a ∧ w.cell? ⟨g, 1, none⟩ = some b ∧ w.cell? ⟨g, 2, none⟩ = some c ∧ w.cell? ⟨g, 3, none⟩ = some d ∧ w.frozen? ⟨g, 0, none⟩ = false ∧ w.frozen? ⟨g, 1, none⟩ = false ∧ w.frozen? ⟨g, 2, none⟩ = false ∧ w.frozen? ⟨g, 3, none⟩ = false ∧ g < w.heap.size :=
  ⟨h.four.1, h.four.2.1, h.four.2.2.1, h.four.2.2.2.1, h.frozen 0, h.frozen 1, h.frozen 2, h.frozen 3, h.lt⟩
theorem Blk.all4 {w : World} {g : Nat} {t : TypeId} {z0 z1 z2 z3 : Value} (h : Blk w g t #[z0, z1, z2, z3]) (a b c d : Value) : Blk ((((w.setCell ⟨g, 0, none⟩ a).setCell ⟨g, 1, none⟩ b).setCell ⟨g, 2, none⟩ c).setCell ⟨g, 3, none⟩ d) g t #[a, b, c, d] := by
  have h9 := (((h.set_ 0 a).set_ 1 b).set_ 2 c).set_ 3 d
  simpa using h9
theorem Below.all4 {w0 w : World} {B g : Nat} (h : Below B w0 w) (hg : B ≤ g) (a b c d : Value) : Below B w0 ((((w.setCell ⟨g, 0, none⟩ a).setCell ⟨g, 1, none⟩ b).setCell ⟨g, 2, none⟩ c).setCell ⟨g, 3, none⟩ d) :=
  (((h.setCell (p := ⟨g, 0, none⟩) hg a).setCell (p := ⟨g, 1, none⟩) hg b).setCell (p := ⟨g, 2, none⟩) hg c).setCell (p := ⟨g, 3, none⟩) hg d

/-- a row stays owned behind a store into a block below its base -/
theorem own_far {w : World} {base k : Nat} {e : TypeId} {v : Value} {n : Nat} {xs : List Value} (h : w.ownsRow base e k v n xs) {g i : Nat} (hg : g < base) (u : Value) : (w.setCell ⟨g, i, none⟩ u).ownsRow base e k v n xs := by
  refine ⟨h.1, ?_⟩
  rcases h.2 with hn | ⟨g', cap, cur, rfl, hb', hg', rest⟩
  · exact .inl hn
  · refine .inr ⟨g', cap, cur, rfl, hb', ?_, rest⟩
    rw [Below.heap_setCell w ⟨g, i, none⟩ u g' (show g' ≠ g by omega)]
    exact hg'
theorem own_far4 {w : World} {base k : Nat} {e : TypeId} {v : Value} {n : Nat} {xs : List Value} (h : w.ownsRow base e k v n xs) {g : Nat} (hg : g < base) (a b c d : Value) : ((((w.setCell ⟨g, 0, none⟩ a).setCell ⟨g, 1, none⟩ b).setCell ⟨g, 2, none⟩ c).setCell ⟨g, 3, none⟩ d).ownsRow base e k v n xs :=
  own_far (own_far (own_far (own_far h hg a) hg b) hg c) hg d

section
variable (A : Option Addr) (n c : Nat) (f : Nat → P2) (s : Int) (Ab : Option Addr) (nb cb : Nat) (b : List Int) (As : Option Addr) (ns cs : Nat) (l : List Int)
set_option maxRecDepth 100000 in
set_option maxHeartbeats 4000000 in
theorem gplain_any (w : World) (h : TR w A n f Ab nb b As ns l) (hn : n ≤ 1000) (hnb : nb ≤ 1000) (hns : ns ≤ 1000) (hq : rt f n s b l = true) :
    Calls Tryz.prog 110 #[.agg #[.slice A n c, .int .i64 s, .slice Ab nb cb, .slice As ns cs]] w fun e w' => ∃ A1 c1 A2 c2 A3 c3, e = .returned (.agg #[.slice A1 n c1, .int .i64 2, .slice A2 nb c2, .slice A3 ns c3]) ∧ TR w' A1 n f A2 nb b A3 ns l ∧ Below w.heap.size w w' := by
  have PL := fun w' (hb : Below w.heap.size w w') => right_any A n c f s Ab nb cb b As ns cs l w' (h.later hb) (by omega) hnb hns
  rw [hq] at PL
  have PL := Lib.hid PL
  have CL := Lib.hid (fun w' (hb : Below w.heap.size w w') => clone_any A n c f w' (h.later hb).1 (by omega))
  have XB := Lib.hid (fun w' (hb : Below w.heap.size w w') => iclone_anyG Ab nb cb b w' (h.later hb).2.1 (by omega))
  have XS := Lib.hid (fun w' (hb : Below w.heap.size w w') => iclone_anyG As ns cs l w' (h.later hb).2.2 (by omega))
  obtain ⟨K1, K2, B0⟩ := two_blkG w #[.slice A n c, .int .i64 s, .slice Ab nb cb, .slice As ns cs] #[.slice none 0 0, .int .i64 0, .slice none 0 0, .slice none 0 0] 44 44
  clear h hq
  go_enter Tryz.func110, Tryz.ntmps110
  go_wp2_with fail
  generalize (w.alloc (.cells #[.slice A n c, .int .i64 s, .slice Ab nb cb, .slice As ns cs] 44)).alloc (.cells #[.slice none 0 0, .int .i64 0, .slice none 0 0, .slice none 0 0] 44) = w0 at K1 K2 B0 ⊢
  obtain ⟨p0, p1, p2, p3, p4⟩ := K1.four
  have K1 := Lib.hid K1
  have K2 := Lib.hid K2
  have B0 := Lib.hid B0
  go_wp2_with (go_at_call 37; (with_reducible refine (PL.out _ B0.out).mono ?_); rintro e w2 ⟨rfl, hb⟩; have B2 := Lib.hid (B0.out.trans (hb.mono B0.out.size)); have K11 := Lib.hid (K1.out.below hb K1.out.lt); have K12 := Lib.hid (K2.out.below hb K2.out.lt); obtain ⟨u0, u1, u2, u3, u4⟩ := K11.out.four; clear hb)
  have KP := Lib.hid (show ∀ w', Below w2.heap.size w2 w' → w'.cell? ⟨w.heap.size, 0, none⟩ = some (.slice A n c) ∧ w'.cell? ⟨w.heap.size, 2, none⟩ = some (.slice Ab nb cb) ∧ w'.cell? ⟨w.heap.size, 3, none⟩ = some (.slice As ns cs) from
    fun w' hb => ⟨(K11.out.below' hb).four.1, (K11.out.below' hb).four.2.2.1, (K11.out.below' hb).four.2.2.2.1⟩)
  have P1 := Lib.hid (show ∀ w', Below w2.heap.size w2 w' → Calls Tryz.prog 116 #[.slice A n c] w' fun e w'' => ∃ A' c', e = .returned (.slice A' n c') ∧ w''.ownsRow w2.heap.size 140 2 (.slice A' n c') n (cells2 f n) ∧ Below w2.heap.size w2 w'' ∧ Below w'.heap.size w' w'' from
    fun w' hb => (CL.out w' (B2.out.trans (hb.mono B2.out.size))).mono fun e w'' ⟨A', c', he, hr, hx⟩ => ⟨A', c', he, own_base hr hb.size, hb.trans (hx.mono hb.size), hx⟩)
  have P2 := Lib.hid (show ∀ w', Below w2.heap.size w2 w' → Calls Tryz.prog 118 #[.slice Ab nb cb] w' fun e w'' => ∃ A' c', e = .returned (.slice A' nb c') ∧ w''.ownsRow w2.heap.size 3 1 (.slice A' nb c') nb (il b) ∧ Below w2.heap.size w2 w'' ∧ Below w'.heap.size w' w'' from
    fun w' hb => (XB.out w' (B2.out.trans (hb.mono B2.out.size))).mono fun e w'' ⟨A', c', he, hr, hx⟩ => ⟨A', c', he, own_base hr hb.size, hb.trans (hx.mono hb.size), hx⟩)
  have P3 := Lib.hid (show ∀ w', Below w2.heap.size w2 w' → Calls Tryz.prog 118 #[.slice As ns cs] w' fun e w'' => ∃ A' c', e = .returned (.slice A' ns c') ∧ w''.ownsRow w2.heap.size 3 1 (.slice A' ns c') ns (il l) ∧ Below w2.heap.size w2 w'' ∧ Below w'.heap.size w' w'' from
    fun w' hb => (XS.out w' (B2.out.trans (hb.mono B2.out.size))).mono fun e w'' ⟨A', c', he, hr, hx⟩ => ⟨A', c', he, own_base hr hb.size, hb.trans (hx.mono hb.size), hx⟩)
  clear PL CL XS XB K1 K2 B0 K11 p0 p1 p2 p3 p4
  obtain ⟨v0, v1, v2, v3, v4, v5, v6, v7, v8⟩ := K12.out.four8
  go_region_held3 (fun w' => w'.cell? ⟨w.heap.size, 0, none⟩ = some (.slice A n c) ∧ w'.cell? ⟨w.heap.size, 2, none⟩ = some (.slice Ab nb cb) ∧ w'.cell? ⟨w.heap.size, 3, none⟩ = some (.slice As ns cs))
    (first | (refine KP.out _ ?_; (with_reducible (repeat (first | assumption | exact Below.refl _ _ | refine Below.drew' ?_ | refine Below.alloc' ?_ _ | omega))); done) | go_keep)
    (first
      | (go_at_call 116; (with_reducible refine (P1.out _ ?_).mono ?_); (with_reducible (repeat (first | assumption | exact Below.refl _ _ | refine Below.drew' ?_ | refine Below.alloc' ?_ _))); rintro e wa ⟨A1, c1, rfl, ra, ha1, ha2⟩)
      | (go_at_call 118; (with_reducible refine (P2.out _ ?_).mono ?_); (with_reducible (repeat (first | assumption | exact Below.refl _ _ | refine Below.drew' ?_ | refine Below.alloc' ?_ _))); rintro e wb ⟨A2, c2, rfl, rb, hb1, hb2⟩)
      | (go_at_call 118; (with_reducible refine (P3.out _ ?_).mono ?_); (with_reducible (repeat (first | assumption | exact Below.refl _ _ | refine Below.drew' ?_ | refine Below.alloc' ?_ _))); rintro e wc ⟨A3, c3, rfl, rc, hc1, hc2⟩; obtain ⟨k0, k1, k2, k3, k4, k5, k6, k7, k8⟩ := (K12.out.below' hc1).four8))
  go_wp2_with fail
  have hlt : w.heap.size + 1 < w2.heap.size := K12.out.lt
  have o1 := own_far4 (own_below2 (own_below2 ra hb2) hc2) hlt (.slice A1 n c1) (.int .i64 2) (.slice A2 nb c2) (.slice A3 ns c3)
  have o2 := own_far4 (own_below rb hc2) hlt (.slice A1 n c1) (.int .i64 2) (.slice A2 nb c2) (.slice A3 ns c3)
  have o3 := own_far4 rc hlt (.slice A1 n c1) (.int .i64 2) (.slice A2 nb c2) (.slice A3 ns c3)
  have E := Blk.all4 (K12.out.below' hc1) (.slice A1 n c1) (.int .i64 2) (.slice A2 nb c2) (.slice A3 ns c3)
  have E2 := Below.all4 (B2.out.trans (hc1.mono B2.out.size)) (Nat.le_succ _) (.slice A1 n c1) (.int .i64 2) (.slice A2 nb c2) (.slice A3 ns c3)
  generalize (((wc.setCell ⟨w.heap.size + 1, 0, none⟩ (.slice A1 n c1)).setCell ⟨w.heap.size + 1, 1, none⟩ (.int .i64 2)).setCell ⟨w.heap.size + 1, 2, none⟩ (.slice A2 nb c2)).setCell ⟨w.heap.size + 1, 3, none⟩ (.slice A3 ns c3) = wz at o1 o2 o3 E E2 ⊢
  obtain ⟨j0, j1, j2, j3, j4⟩ := E.four
  exact bodyPost_ret (v := .agg #[.slice A1 n c1, .int .i64 2, .slice A2 nb c2, .slice A3 ns c3]) (by simp [results, Tryz.results110, go_sem, j0, j1, j2, j3]) rfl ⟨A1, c1, A2, c2, A3, c3, rfl, ⟨QReads.of_own o1, Reads.of_own o2, Reads.of_own o3⟩, E2⟩
end
end Go.Proofs.YtjekpmkghpjamaaGreatDoor
