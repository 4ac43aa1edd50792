/- Parse of the plain notations at the chapter's examples. -/
/- The walk of wolfram's divide, on any text. -/
/- lifelike.Parse at texts that have not its form. -/
/- Index and Cut at the two bytes that mark the number of states, in texts without a slash, and in two others; Contains at a line feed. -/
import Derived.Test.YtjekpmkghpjamaaGreatDoorMav
import Derived.Test.YtjekpmkghpjamaaGreatDoorMaw
import Derived.Test.YtjekpmkghpjamaaGreatDoorMbb
import Derived.Test.YtjekpmkghpjamaaGreatDoorMbd
import Derived.Test.YtjekpmkghpjamaaGreatDoorMbc
import Derived.Test.YtjekpmkghpjamaaGreatDoorMab
import Derived.Test.YtjekpmkghpjamaaGreatDoorMaq
import Derived.Below
import Derived.BigQuiet
import Derived.Deep.AppendLies
import Derived.Deep.CutRange
import Derived.Deep.DrawnRows
import Derived.Deep.Draws
import Derived.Deep.QuietTactic
import Derived.Deep.RegionHeld3
import Derived.IntWalk
import Derived.Laws.OwnMore
import Derived.Laws.Rows
import Derived.Lib.Hide
import Derived.Lib.SliceRun
import Derived.Lib.Strings
import Derived.LoopN
import Derived.OwnWalk
import Derived.Shelf.Abstract
import Derived.Sort.Statements
import Derived.StillTail
import Derived.StillTailTactics
import Derived.Test.YtjekpmkghpjamaaGreatDoorRows
import Derived.WalkKit
import Derived.Test.YtjekpmkghpjamaaGreatDoorMaa
import Derived.Laws.Externs
import Derived.Laws.IdiomStrings
import Derived.Laws.ShiftsVar
import Derived.Lib.AtoiAllCases
import Derived.Lib.IfaceEq
import Derived.Lib.IndexEntry
import Derived.Shelf.Lays
import Derived.Shelf.LaysC
import Derived.Shelf.Strconv.AtoiAll
import Derived.Shelf.Strings.Search1
import Derived.Shelf.Strings.SlTrimAscii
import Derived.Test.YtjekpmkghpjamaaGreatDoorMba
namespace Go.Proofs.YtjekpmkghpjamaaGreatDoor
open Go.RowKit
theorem cut_at (s q r : List UInt8) (b : Bool) (hs : s.length ≤ 100) (hq : q.length ≤ 100) (h1 : Lib.trimPrefix s q = r) (h2 : Lib.hasPrefix s q = b) (w : World) :
    Calls Tryz.prog 33 #[.string (tx s), .string (tx q)] w fun e w' => e = .returned (.tuple #[.string (tx r), .bool b]) ∧ w = w' := by
  have := cut_any s q w (by omega) (by omega)
  rwa [h1, h2] at this
theorem lead_at (s r : List UInt8) (hs : s.length ≤ 100) (h1 : (ld s 10).2 = r) (w : World) :
    Calls Tryz.prog 34 #[.string (tx s)] w fun e w' => e = .returned (.tuple #[.agg (bls (ld s 10).1), .string (tx r)]) ∧ Below w.heap.size w w' := by
  have := leading_any s w (by omega)
  rwa [h1] at this
section
variable (s0 s1 s2 s3 s4 : List UInt8)
theorem parse_ok (l1 l2 : List Int) (n1 n2 n : Nat) (f : Nat → P2) (w : World) (hl : s0.length ≤ 100 ∧ s1.length ≤ 100 ∧ s2.length ≤ 100 ∧ s3.length ≤ 100)
    (h1 : Lib.trimPrefix s0 [66] = s1 ∧ Lib.hasPrefix s0 [66] = true) (h2 : (ld s1 10).2 = s2) (h3 : Lib.trimPrefix s2 [47, 83] = s3 ∧ Lib.hasPrefix s2 [47, 83] = true) (h4 : (ld s3 10).2 = s4)
    (e1 : nl (ld s1 10).1 10 = l1) (e2 : nl (ld s3 10).1 10 = l2) (hn1 : l1.length = n1) (hn2 : l2.length = n2) (hn : 0 < n) (hn' : n ≤ 100) (hq : rt f n 2 l1 l2 = true)
    (O : ∀ w, Calls Tryz.prog 35 #[.string (tx s4)] w fun e w' => ∃ A c, e = .returned (.slice A n c) ∧ QReads w' w'.heap.size A n f ∧ Below w.heap.size w w') :
    Calls Tryz.prog 14 #[.string (tx s0)] w fun e w' => ∃ A c A1 c1 A2 c2, e = .returned (.tuple #[.agg #[.slice A n c, .int .i64 2, .slice A1 n1 c1, .slice A2 n2 c2], .int .i64 0]) ∧ TR w' A n f A1 n1 l1 A2 n2 l2 ∧ Below w.heap.size w w' ∧ (∀ ad, A1 = some ad → w.heap.size ≤ ad.block) ∧ (∀ ad, A2 = some ad → w.heap.size ≤ ad.block) := by
  subst e1 e2 hn1 hn2
  have := parse_main (tx s0) (tx s1) (tx s2) (tx s3) (tx s4) (ld s1 10).1 (ld s3 10).1 true n f w hn hn' hq (cut_at s0 [66] s1 true hl.1 (by decide) h1.1 h1.2) (lead_at s1 s2 hl.2.1 h2) (cut_at s2 [47, 83] s3 true hl.2.2.1 (by decide) h3.1 h3.2) (lead_at s3 s4 hl.2.2.2 h4) O
  simpa using this
theorem parse_rg (l1 l2 : List Int) (n : Nat) (f : Nat → P2) (w : World) (hl : s0.length ≤ 100 ∧ s1.length ≤ 100 ∧ s2.length ≤ 100 ∧ s3.length ≤ 100)
    (h1 : Lib.trimPrefix s0 [66] = s1 ∧ Lib.hasPrefix s0 [66] = true) (h2 : (ld s1 10).2 = s2) (h3 : Lib.trimPrefix s2 [47, 83] = s3 ∧ Lib.hasPrefix s2 [47, 83] = true) (h4 : (ld s3 10).2 = s4)
    (e1 : nl (ld s1 10).1 10 = l1) (e2 : nl (ld s3 10).1 10 = l2) (hn : 0 < n) (hn' : n ≤ 100) (hq : rt f n 2 l1 l2 = false)
    (O : ∀ w, Calls Tryz.prog 35 #[.string (tx s4)] w fun e w' => ∃ A c, e = .returned (.slice A n c) ∧ QReads w' w'.heap.size A n f ∧ Below w.heap.size w w') :
    Calls Tryz.prog 14 #[.string (tx s0)] w fun e w' => e = .returned (.tuple #[.agg #[.slice none 0 0, .int .i64 0, .slice none 0 0, .slice none 0 0], .int .i64 5]) ∧ Below w.heap.size w w' := by
  subst e1 e2
  have := parse_main (tx s0) (tx s1) (tx s2) (tx s3) (tx s4) (ld s1 10).1 (ld s3 10).1 false n f w hn hn' hq (cut_at s0 [66] s1 true hl.1 (by decide) h1.1 h1.2) (lead_at s1 s2 hl.2.1 h2) (cut_at s2 [47, 83] s3 true hl.2.2.1 (by decide) h3.1 h3.2) (lead_at s3 s4 hl.2.2.2 h4) O
  simpa using this
end
theorem ex1 (w : World) : Calls Tryz.prog 14 #[.string (tx [66, 50, 47, 83])] w fun e w' => ∃ A c A1 c1 A2 c2, e = .returned (.tuple #[.agg #[.slice A 9 c, .int .i64 2, .slice A1 1 c1, .slice A2 0 c2], .int .i64 0]) ∧ TR w' A 9 (lf M1) A1 1 [2] A2 0 [] ∧ Below w.heap.size w w' ∧ (∀ ad, A1 = some ad → w.heap.size ≤ ad.block) ∧ (∀ ad, A2 = some ad → w.heap.size ≤ ad.block) :=
  parse_ok [66, 50, 47, 83] [50, 47, 83] [47, 83] [] [] [2] [] 1 0 9 (lf M1) w (by decide) (by decide +kernel) (by decide +kernel) (by decide +kernel) (by decide +kernel) (by decide +kernel) (by decide +kernel) rfl rfl (by decide) (by decide) (by decide +kernel) offsets0
end Go.Proofs.YtjekpmkghpjamaaGreatDoor
namespace Go.Proofs.YtjekpmkghpjamaaGreatDoor
open Go.RowKit
theorem pre_yes (x : UInt8) (r : List UInt8) : Lib.hasPrefix (x :: r) [x] = true ∧ Lib.trimPrefix (x :: r) [x] = r := by
  have h : Lib.hasPrefix (x :: r) [x] = true := by simp [Lib.hasPrefix]
  exact ⟨h, by simp [Lib.trimPrefix, h]⟩
theorem pre_no {x : UInt8} {l : List UInt8} (h : ∀ r, l ≠ x :: r) : Lib.hasPrefix l [x] = false ∧ Lib.trimPrefix l [x] = l := by
  have h : Lib.hasPrefix l [x] = false := by
    cases l with
    | nil => rfl
    | cons y r =>
      have : y ≠ x := fun e => h r (by rw [e])
      simp [Lib.hasPrefix, List.isPrefixOf, Ne.symm this]
  exact ⟨h, by simp [Lib.trimPrefix, h]⟩
theorem cutp_yes (x : UInt8) (r : List UInt8) (w : World) (hn : r.length ≤ 999) :
    Calls Tryz.prog 33 #[.string (tx (x :: r)), .string ⟨#[x]⟩] w fun e w' => e = .returned (.tuple #[.string (tx r), .bool true]) ∧ w = w' := by
  have h := cut_any (x :: r) [x] w (by simp; omega) (by simp)
  rwa [(pre_yes x r).1, (pre_yes x r).2] at h
theorem cutp_no (x : UInt8) (l : List UInt8) (w : World) (hn : l.length ≤ 1000) (h : ∀ r, l ≠ x :: r) :
    Calls Tryz.prog 33 #[.string (tx l), .string ⟨#[x]⟩] w fun e w' => e = .returned (.tuple #[.string (tx l), .bool false]) ∧ w = w' := by
  have h2 := cut_any l [x] w hn (by simp)
  rwa [(pre_no h).1, (pre_no h).2] at h2
set_option maxRecDepth 100000 in
theorem divide_w (r : List UInt8) (w : World) (hn : r.length ≤ 999) :
    Calls Tryz.prog 43 #[.string (tx (87 :: r))] w fun e w' => e = .returned (.tuple #[.string (tx r), .string (tx [50]), .bool false]) ∧ Below w.heap.size w w' := by
  have C := Lib.hid (cutp_yes 87 r w hn)
  have I : Hid (Calls Tryz.prog 70 #[.int .i64 2] w fun e w' => e = .returned (.string (tx [50])) ∧ w = w') := Lib.hid (itoa_any 2 w (by decide))
  generalize tx (87 :: r) = s at C ⊢
  generalize tx r = t at C ⊢
  generalize tx [50] = two at I ⊢
  go_enter Tryz.func43, Tryz.ntmps43
  go_wp2_with (first
    | (go_at_call 33; (with_reducible refine C.out.mono ?_); rintro e w1 ⟨rfl, rfl⟩)
    | (go_at_call 70; (with_reducible refine I.out.mono ?_); rintro e w1 ⟨rfl, rfl⟩))
  go_ret3
  exact ⟨rfl, Below.refl _ _⟩
set_option maxRecDepth 100000 in
theorem divide_t (r : List UInt8) (p q : ByteArray) (bb : Bool) (w : World) (hn : r.length ≤ 999) (D : Calls Tryz.prog 77 #[.string (tx r), .string ⟨#[47]⟩] w fun e w' => e = .returned (.tuple #[.string p, .string q, .bool bb]) ∧ Below w.heap.size w w') :
    Calls Tryz.prog 43 #[.string (tx (84 :: r))] w fun e w' => e = .returned (.tuple #[.string p, .string q, .bool true]) ∧ Below w.heap.size w w' := by
  have C1 := Lib.hid (cutp_no 87 (84 :: r) w (by simp; omega) (fun r' h => by injection h with h _; exact absurd h (by decide)))
  have C2 := Lib.hid (cutp_yes 84 r w hn)
  have D := Lib.hid D
  generalize tx (84 :: r) = s at C1 C2 ⊢
  generalize tx r = t at C2 D ⊢
  go_enter Tryz.func43, Tryz.ntmps43
  go_wp2_with (first
    | (go_at_call 77; (with_reducible refine D.out.mono ?_); rintro e w1 ⟨rfl, hb⟩)
    | (go_at_call 33; (with_reducible refine C2.out.mono ?_); rintro e w1 ⟨rfl, rfl⟩)
    | (go_at_call 33; (with_reducible refine C1.out.mono ?_); rintro e w1 ⟨rfl, rfl⟩))
  go_ret3
  exact ⟨rfl, hb⟩
set_option maxRecDepth 100000 in
theorem divide_no (l : List UInt8) (w : World) (hn : l.length ≤ 1000) (h1 : ∀ r, l ≠ 87 :: r) (h2 : ∀ r, l ≠ 84 :: r) :
    Calls Tryz.prog 43 #[.string (tx l)] w fun e w' => e = .returned (.tuple #[.string (tx []), .string (tx []), .bool false]) ∧ Below w.heap.size w w' := by
  have C1 := Lib.hid (cutp_no 87 l w hn h1)
  have C2 := Lib.hid (cutp_no 84 l w hn h2)
  generalize tx l = s at C1 C2 ⊢
  unfold tx
  clear h1 h2
  go_enter Tryz.func43, Tryz.ntmps43
  go_wp2_with (first
    | (go_at_call 33; (with_reducible refine C2.out.mono ?_); rintro e w1 ⟨rfl, rfl⟩)
    | (go_at_call 33; (with_reducible refine C1.out.mono ?_); rintro e w1 ⟨rfl, rfl⟩))
  go_ret3
  exact ⟨rfl, Below.refl _ _⟩
end Go.Proofs.YtjekpmkghpjamaaGreatDoor
namespace Go.Proofs.YtjekpmkghpjamaaGreatDoor
open Go.RowKit

theorem txs (l r : List UInt8) (b : Bool) (h : (l == r) = b) : ((tx l).toList == r) = b := by
  rw [Lib.toList_data, show (tx l).data.toList = l by simp [tx]]
  exact h
set_option maxRecDepth 100000 in
theorem offsets_none {s : List UInt8} (h : 2 ≤ s.length) (w : World) : Calls Tryz.prog 35 #[.string (tx s)] w fun e w' => e = .returned (.slice none 0 0) ∧ w = w' := by
  have hne : ∀ r : List UInt8, r.length ≤ 1 → (s == r) = false := fun r hr => by
    rw [beq_eq_false_iff_ne]
    intro e
    rw [e] at h
    omega
  have e0 := txs s [] false (hne _ (by simp))
  have e1 := txs s [86] false (hne _ (by simp))
  have e2 := txs s [72] false (hne _ (by simp))
  generalize tx s = u at e0 e1 e2 ⊢
  clear hne h
  go_enter Tryz.func35, Tryz.ntmps35
  go_wp2
  go_ret
  exact ⟨rfl, rfl⟩
section
variable (s0 s1 s2 s3 s4 : ByteArray) (p1 p2 : Nat → Bool) (q1 q2 : Bool)
set_option maxRecDepth 100000 in
set_option maxHeartbeats 4000000 in
theorem parse_synq (w : World)
    (C1 : ∀ w, Calls Tryz.prog 33 #[.string s0, .string ⟨#[66]⟩] w fun e w' => e = .returned (.tuple #[.string s1, .bool q1]) ∧ w = w')
    (L1 : ∀ w, Calls Tryz.prog 34 #[.string s1] w fun e w' => e = .returned (.tuple #[.agg (bls p1), .string s2]) ∧ Below w.heap.size w w')
    (C2 : ∀ w, Calls Tryz.prog 33 #[.string s2, .string ⟨#[47, 83]⟩] w fun e w' => e = .returned (.tuple #[.string s3, .bool q2]) ∧ w = w')
    (L2 : ∀ w, Calls Tryz.prog 34 #[.string s3] w fun e w' => e = .returned (.tuple #[.agg (bls p2), .string s4]) ∧ Below w.heap.size w w')
    (O : ∀ w, Calls Tryz.prog 35 #[.string s4] w fun e w' => e = .returned (.slice none 0 0) ∧ w = w') :
    Calls Tryz.prog 14 #[.string s0] w fun e w' => e = .returned (.tuple #[.agg #[.slice none 0 0, .int .i64 0, .slice none 0 0, .slice none 0 0], .int .i64 15]) ∧ Below w.heap.size w w' := by
  have K0 := Lib.hid (Blk.new w 44 #[.slice none 0 0, .int .i64 0, .slice none 0 0, .slice none 0 0])
  have B0 := Lib.hid ((Below.refl w.heap.size w).alloc (Nat.le_refl _) (.cells #[.slice none 0 0, .int .i64 0, .slice none 0 0, .slice none 0 0] 44))
  simp only [bls] at L1 L2
  have zz := Lib.hid L1
  (try clear L1)
  have L1 := zz
  clear zz
  have zz := Lib.hid L2
  (try clear L2)
  have L2 := zz
  clear zz
  have zz := Lib.hid C1
  (try clear C1)
  have C1 := zz
  clear zz
  have zz := Lib.hid C2
  (try clear C2)
  have C2 := zz
  clear zz
  have zz := Lib.hid O
  (try clear O)
  have O := zz
  clear zz
  have q22 : ∀ (w : World) (a : Option Addr) (n c n' c' : Nat), (binOp .eql 22 (.slice a n c) (.slice none n' c')).run Tryz.prog w = .ok (.bool a.isNone) w := fun w a n c n' c' => Lib.run_eql_slice_nil w _ _ a n c n' c' Tryz.underlying22
  cases q1 <;> cases q2
  all_goals
    go_enter Tryz.func14, Tryz.ntmps14
    go_wp2_with (first
      | (go_at_call 35; (with_reducible refine (O.out _).mono ?_); rintro e w5 ⟨rfl, rfl⟩)
      | (go_at_call 34; (with_reducible refine (L2.out _).mono ?_); rintro e w4 ⟨rfl, hb⟩; have B4 := Lib.hid (B2.out.trans (hb.mono B2.out.size)); have B5 := Lib.hid (B4.out.alloc B4.out.size (.cells #[.bool (p2 0), .bool (p2 1), .bool (p2 2), .bool (p2 3), .bool (p2 4), .bool (p2 5), .bool (p2 6), .bool (p2 7), .bool (p2 8), .bool (p2 9)] 75)); have K5 := Lib.hid ((K2.out.below' hb).alloc (.cells #[.bool (p2 0), .bool (p2 1), .bool (p2 2), .bool (p2 3), .bool (p2 4), .bool (p2 5), .bool (p2 6), .bool (p2 7), .bool (p2 8), .bool (p2 9)] 75)); obtain ⟨y0, y1, y2, y3, y4, y5, y6, y7, y8⟩ := K5.out.four8; clear hb)
      | (go_at_call 34; (with_reducible refine (L1.out _).mono ?_); rintro e w2 ⟨rfl, hb⟩; have B1 := Lib.hid (B0.out.trans (hb.mono B0.out.size)); have B2 := Lib.hid (B1.out.alloc B1.out.size (.cells #[.bool (p1 0), .bool (p1 1), .bool (p1 2), .bool (p1 3), .bool (p1 4), .bool (p1 5), .bool (p1 6), .bool (p1 7), .bool (p1 8), .bool (p1 9)] 75)); have K2 := Lib.hid ((K0.out.below' hb).alloc (.cells #[.bool (p1 0), .bool (p1 1), .bool (p1 2), .bool (p1 3), .bool (p1 4), .bool (p1 5), .bool (p1 6), .bool (p1 7), .bool (p1 8), .bool (p1 9)] 75)); clear hb)
      | (go_at_call 33; (with_reducible refine (C1.out _).mono ?_); rintro e w1 ⟨rfl, rfl⟩)
      | (go_at_call 33; (with_reducible refine (C2.out _).mono ?_); rintro e w3 ⟨rfl, rfl⟩))
    have E := K5.out.all4 (.slice none 0 0) (.int .i64 0) (.slice none 0 0) (.slice none 0 0)
    have E2 := Below.all4 B5.out (Nat.le_refl _) (.slice none 0 0) (.int .i64 0) (.slice none 0 0) (.slice none 0 0)
    generalize (((((w4.alloc (.cells #[.bool (p2 0), .bool (p2 1), .bool (p2 2), .bool (p2 3), .bool (p2 4), .bool (p2 5), .bool (p2 6), .bool (p2 7), .bool (p2 8), .bool (p2 9)] 75)).setCell ⟨w.heap.size, 0, none⟩ (.slice none 0 0)).setCell ⟨w.heap.size, 1, none⟩ (.int .i64 0)).setCell ⟨w.heap.size, 2, none⟩ (.slice none 0 0)).setCell ⟨w.heap.size, 3, none⟩ (.slice none 0 0)) = wz at E E2 ⊢
    obtain ⟨j0, j1, j2, j3, j4⟩ := E.four
    exact bodyPost_ret (v := .tuple #[.agg #[.slice none 0 0, .int .i64 0, .slice none 0 0, .slice none 0 0], .int .i64 15]) (by simp [results, Tryz.results14, go_sem, j0, j1, j2, j3]) rfl ⟨rfl, E2⟩
end
/-- what a text that is no such notation gives -/
def LSyn (s : List UInt8) : Prop := ∀ w, Calls Tryz.prog 14 #[.string (tx s)] w fun e w' => e = .returned (.tuple #[.agg #[.slice none 0 0, .int .i64 0, .slice none 0 0, .slice none 0 0], .int .i64 15]) ∧ Below w.heap.size w w'
theorem lsyn_at (s0 s1 s2 s3 s4 : List UInt8) (q1 q2 : Bool) (hl : s0.length ≤ 100 ∧ s1.length ≤ 100 ∧ s2.length ≤ 100 ∧ s3.length ≤ 100)
    (h1 : Lib.trimPrefix s0 [66] = s1 ∧ Lib.hasPrefix s0 [66] = q1) (h2 : (ld s1 10).2 = s2) (h3 : Lib.trimPrefix s2 [47, 83] = s3 ∧ Lib.hasPrefix s2 [47, 83] = q2) (h4 : (ld s3 10).2 = s4) (h5 : 2 ≤ s4.length) : LSyn s0 := fun w =>
  parse_synq (tx s0) (tx s1) (tx s2) (tx s3) (tx s4) (ld s1 10).1 (ld s3 10).1 q1 q2 w (cut_at s0 [66] s1 q1 hl.1 (by decide) h1.1 h1.2) (lead_at s1 s2 hl.2.1 h2) (cut_at s2 [47, 83] s3 q2 hl.2.2.1 (by decide) h3.1 h3.2) (lead_at s3 s4 hl.2.2.2 h4) (offsets_none h5)
/-- a text that begins with a byte that is neither a digit, B nor a slash -/
theorem ld_no {c : UInt8} {r : List UInt8} (hc : c.toNat < 48 ∨ 57 < c.toNat) : ∀ k, k ≤ 10 → (ld (c :: r) k).2 = c :: r
  | 0, _ => rfl
  | k + 1, hk => by
    have ih := ld_no (r := r) hc k (by omega)
    have hp : Lib.hasPrefix (c :: r) (dg k) = false ∧ Lib.trimPrefix (c :: r) (dg k) = c :: r := by
      refine pre_no (x := (48 + k).toUInt8) (l := c :: r) (fun r' e => ?_)
      injection e with e _
      subst e
      have : ((48 + k).toUInt8).toNat = 48 + k := by
        simp [Nat.toUInt8]
        omega
      omega
    show Lib.trimPrefix (ld (c :: r) k).2 (dg k) = _
    rw [ih, hp.2]
theorem slash_no {c : UInt8} {r : List UInt8} (hc : c.toNat ≠ 47) : Lib.hasPrefix (c :: r) [47, 83] = false ∧ Lib.trimPrefix (c :: r) [47, 83] = c :: r := by
  have h : (47 == c) = false := by rw [beq_eq_false_iff_ne]; intro e; rw [← e] at hc; exact hc (by decide)
  have h1 : Lib.hasPrefix (c :: r) [47, 83] = false := by
    show List.isPrefixOf [47, 83] (c :: r) = false
    simp [List.isPrefixOf, h]
  exact ⟨h1, by unfold Lib.trimPrefix; rw [h1]; rfl⟩
theorem lsyn_head {c : UInt8} {r : List UInt8} (hc : c.toNat < 48 ∨ 57 < c.toNat) (hs : c.toNat ≠ 47) (hb : c.toNat ≠ 66) (hl : (c :: r).length ≤ 100) (h2 : 2 ≤ (c :: r).length) : LSyn (c :: r) := by
  have h1 := pre_no (x := 66) (l := c :: r) (fun r' e => by injection e with e _; rw [e] at hb; exact hb (by decide))
  exact lsyn_at (c :: r) (c :: r) (c :: r) (c :: r) (c :: r) false false ⟨hl, hl, hl, hl⟩ ⟨h1.2, h1.1⟩ (ld_no hc 10 (by omega)) ⟨(slash_no hs).2, (slash_no hs).1⟩ (ld_no hc 10 (by omega)) h2
/-- the same behind B and a slash and S -/
theorem lsyn_back {c : UInt8} {r : List UInt8} (hc : c.toNat < 48 ∨ 57 < c.toNat) (hl : (c :: r).length ≤ 90) (h2 : 2 ≤ (c :: r).length) : LSyn (66 :: 47 :: 83 :: c :: r) := by
  simp only [List.length_cons] at hl h2
  exact lsyn_at (66 :: 47 :: 83 :: c :: r) (47 :: 83 :: c :: r) (47 :: 83 :: c :: r) (c :: r) (c :: r) true true ⟨by simp; omega, by simp; omega, by simp; omega, by simp; omega⟩ ⟨rfl, rfl⟩ (ld_no (by decide) 10 (by omega)) ⟨rfl, rfl⟩ (ld_no hc 10 (by omega)) (by simp; omega)
end Go.Proofs.YtjekpmkghpjamaaGreatDoor
namespace Go.Proofs.YtjekpmkghpjamaaGreatDoor
open Go.RowKit

theorem ix_no : ∀ {l : List UInt8}, 47 ∉ l → Lib.index l [47, 67] = -1
  | [], _ => rfl
  | b :: l, h => by
    have h1 : (47 == b) = false := by rw [beq_eq_false_iff_ne]; intro e; exact h (e ▸ List.mem_cons_self)
    have h2 := ix_no (l := l) (fun h' => h (List.mem_cons_of_mem _ h'))
    rw [Lib.index, h2]
    simp [List.isPrefixOf, h1]
set_option maxRecDepth 100000 in
set_option maxHeartbeats 4000000 in
theorem index_slashless {l : List UInt8} (hn : 47 ∉ l) (h2 : 2 ≤ l.length) (h60 : l.length ≤ 60) (m : Int) (w : World) (hm : w.cell? ⟨3, 0, none⟩ = some (.int .i64 m)) :
    Calls Tryz.prog 115 #[.string (tx l), .string (tx [47, 67])] w fun e w' => e = .returned (.int .i64 (-1)) ∧ w = w' := by
  have IS := istring_run (tx l) (tx [47, 67]) m w hm
  rw [show Lib.index (tx l).data.toList (tx [47, 67]).data.toList = -1 by rw [tx_list, tx_list]; exact ix_no hn] at IS
  have hw0 : IntKind.i64.wrap 0 = 0 := by decide
  have hz : (tx l).size = l.length := tx_size _
  have he : ([47, 67] == (tx l).toList) = false := by
    rw [Lib.toList_data, tx_list, beq_eq_false_iff_ne]
    intro e
    exact hn (e ▸ List.mem_cons_self)
  have hx : ∀ a b, Lib.indexByte ((tx l).extract a b).data.toList 47 = -1 := fun a b => ib_no (fun h => hn (by
    have h1 : ((tx l).extract a b).data.toList = (l.take b).drop a := by
      rw [ByteArray.data_extract]
      simp [tx, Array.toList_extract, List.extract_eq_take_drop]
      try rw [List.drop_take]
    rw [h1] at h
    exact List.mem_of_mem_take (List.mem_of_mem_drop h)))
  have hb : ∀ (h : 0 < (tx l).size), ((tx l)[0]'h).toNat ≠ 47 := fun h => by
    cases l with
    | nil => simp at h2
    | cons c r =>
      intro e
      have : ((tx (c :: r))[0]'h) = c := rfl
      rw [this] at e
      exact hn (by
        have : c = 47 := UInt8.toNat_inj.1 e
        rw [this]
        exact List.mem_cons_self)
  generalize tx l = u at IS hz he hx hb ⊢
  obtain ⟨n, hln⟩ : ∃ n, n = l.length := ⟨_, rfl⟩
  rw [← hln] at h2 h60 hz
  have hu : u.size = n := hz
  clear hz hn hln
  unfold tx at IS ⊢
  by_cases hn2 : n = 2
  · subst hn2
    clear IS hx
    go_enter Tryz.func115, Tryz.ntmps115
    go_wp2
    go_ret
    exact ⟨rfl, rfl⟩
  · have h3 : 3 ≤ n := by omega
    have d1 : decide ((n : Int) ≤ 2) = false := by rw [decide_eq_false_iff_not]; omega
    have d2 : decide ((n : Int) ≤ 64) = true := by rw [decide_eq_true_iff]; omega
    have d3 : decide (n ≤ 2) = false := by rw [decide_eq_false_iff_not]; omega
    have d4 : decide (n ≤ 64) = true := by rw [decide_eq_true_iff]; omega
    by_cases h : 2 ≤ m
    · have IS := IS (by decide) h (by omega)
      go_enter Tryz.func115, Tryz.ntmps115
      go_wp2
      go_ret
      exact ⟨rfl, rfl⟩
    · clear IS
      have hm2 : m < 2 := by omega
      have hbb : ∀ (h : 0 < u.size) (h2 : 0 < (⟨#[47, 67]⟩ : ByteArray).size), (((u[0]'h).toNat : Int) != (((⟨#[47, 67]⟩ : ByteArray)[0]'h2).toNat : Int)) = true := fun h h2 => by
        rw [bne_iff_ne]
        intro e
        have e2 : (((⟨#[47, 67]⟩ : ByteArray)[0]'h2).toNat : Int) = 47 := rfl
        rw [e2] at e
        exact hb h (by omega)
      clear hb
      obtain ⟨k, rfl⟩ : ∃ k, n = k + 2 := ⟨n - 2, by omega⟩
      have k1 : (1 : Int) ≤ (k : Int) + 1 := by omega
      have k2 : (k : Int) + 1 ≤ (k : Int) + 2 := by omega
      have k3 : (k : Int) + 2 - 2 + 1 = (k : Int) + 1 := by omega
      have k4 : ((k : Int) + 1).toNat = k + 1 := by omega
      go_enter Tryz.func115, Tryz.ntmps115
      go_wp2
      refine wp_loop_rounds 2 ?_
      rw [rounds_succ]
      go_wp2_with (go_at_call 166; (with_reducible refine (ibyte_any _ _ _).mono ?_); rintro e w' ⟨rfl, rfl⟩; generalize hr : Lib.indexByte _ _ = r; have hr2 : r = -1 := (hr.symm.trans ((congrArg (Lib.indexByte _) (show _ = (47 : UInt8) from rfl)).trans (hx _ _))); subst hr2; clear hr)
      go_ret
      exact ⟨rfl, rfl⟩
end Go.Proofs.YtjekpmkghpjamaaGreatDoor
