/- The walk of Parse, over contracts of what it calls. -/
/- The bodies of the library's IndexByte, makeASCIISet and trimRightASCII lie in this program as the library's own contracts ask: facts that the kernel compares, and nothing else. -/
/- Numbers as texts: what a numeral is, its value, and how strconv's parse ends at one. Plain mathematics. -/
import Derived.Test.YtjekpmkghpjamaaGreatDoorMbb
import Derived.Test.YtjekpmkghpjamaaGreatDoorMbf
import Derived.Test.YtjekpmkghpjamaaGreatDoorMbd
import Derived.Test.YtjekpmkghpjamaaGreatDoorMbc
import Derived.Test.YtjekpmkghpjamaaGreatDoorMab
import Derived.Test.YtjekpmkghpjamaaGreatDoorMaa
import Derived.Below
import Derived.BigQuiet
import Derived.Deep.AppendLies
import Derived.Deep.CutRange
import Derived.Deep.DrawnRows
import Derived.Deep.Draws
import Derived.Deep.QuietTactic
import Derived.Deep.RegionHeld3
import Derived.IntWalk
import Derived.Laws.Externs
import Derived.Laws.IdiomStrings
import Derived.Laws.OwnMore
import Derived.Laws.Rows
import Derived.Laws.ShiftsVar
import Derived.Lib.Hide
import Derived.Lib.IfaceEq
import Derived.Lib.IndexEntry
import Derived.Lib.SliceRun
import Derived.Lib.Strings
import Derived.LoopN
import Derived.OwnWalk
import Derived.Shelf.Abstract
import Derived.Shelf.Lays
import Derived.Shelf.Strings.Search1
import Derived.Shelf.Strings.SlTrimAscii
import Derived.Sort.Statements
import Derived.StillTail
import Derived.StillTailTactics
import Derived.Test.YtjekpmkghpjamaaGreatDoorRows
import Derived.WalkKit
import Derived.Lib.AtoiAllCases
namespace Go.Proofs.YtjekpmkghpjamaaGreatDoor
open Go.RowKit
section
variable (s0 sb sl sp sd spl : ByteArray) (m : Int) (u : TypeId) (x : Value)
set_option maxRecDepth 100000 in
set_option maxHeartbeats 4000000 in
theorem gparse_ok (n n1 n2 : Nat) (f : Nat → P2) (l1 l2 : List Int) (k : Int) (w : World) (hn : 0 < n) (hk1 : ¬ k < 3) (hk2 : ¬ 8 < k) (hv : VrG m u x w)
    (L1 : ∀ w, Calls Tryz.prog 38 #[.string s0] w fun e w' => e = .returned (.tuple #[.string sb, .string sl]) ∧ Below w.heap.size w w')
    (D : ∀ w, VrG m u x w → Calls Tryz.prog 39 #[.string sb] w fun e w' => e = .returned (.tuple #[.string sp, .string sd]) ∧ Below w.heap.size w w')
    (N : ∀ w, VrG m u x w → Calls Tryz.prog 40 #[.string sd] w fun e w' => e = .returned (.tuple #[.int .i64 k, .bool true]) ∧ Below w.heap.size w w')
    (P1 : ∀ w : World, (Op.stringOp .add sp sl).run Tryz.prog w = .ok (.string spl) w)
    (LP : ∀ w, Calls Tryz.prog 14 #[.string spl] w fun e w' => ∃ A c A1 c1 A2 c2, e = .returned (.tuple #[.agg #[.slice A n c, .int .i64 2, .slice A1 n1 c1, .slice A2 n2 c2], .int .i64 0]) ∧ TR w' A n f A1 n1 l1 A2 n2 l2 ∧ Below w.heap.size w w' ∧ (∀ ad, A1 = some ad → w.heap.size ≤ ad.block) ∧ (∀ ad, A2 = some ad → w.heap.size ≤ ad.block))
    (L2 : ∀ w, Calls Tryz.prog 38 #[.string sp] w fun e w' => e = .returned (.tuple #[.string sp, .string ⟨#[]⟩]) ∧ Below w.heap.size w w') :
    Calls Tryz.prog 15 #[.string s0] w fun e w' => ∃ A c A1 c1 A2 c2, e = .returned (.tuple #[.agg #[.slice A n c, .int .i64 k, .slice A1 n1 c1, .slice A2 n2 c2], .int .i64 0]) ∧ TR w' A n f A1 n1 l1 A2 n2 l2 ∧ Below w.heap.size w w' := by
  have K0 := Lib.hid (Blk.new w 44 #[.slice none 0 0, .int .i64 0, .slice none 0 0, .slice none 0 0])
  have B0 := Lib.hid ((Below.refl w.heap.size w).alloc (Nat.le_refl _) (.cells #[.slice none 0 0, .int .i64 0, .slice none 0 0, .slice none 0 0] 44))
  have HV := Lib.hid hv
  clear hv
  have zz := Lib.hid L1
  (try clear L1)
  have L1 := zz
  clear zz
  have zz := Lib.hid D
  (try clear D)
  have D := zz
  clear zz
  have zz := Lib.hid N
  (try clear N)
  have N := zz
  clear zz
  have zz := Lib.hid LP
  (try clear LP)
  have LP := zz
  clear zz
  have zz := Lib.hid L2
  (try clear L2)
  have L2 := zz
  clear zz
  go_enter Tryz.func15, Tryz.ntmps15
  go_wp2_with (first
    | (go_at_call 38; (with_reducible refine (L2.out _).mono ?_); rintro e w5 ⟨rfl, hb⟩; have B5 := Lib.hid (B4a.out.trans (hb.mono B4a.out.size)); have K5 := Lib.hid (K4a.out.below' hb); have K9 := Lib.hid (K4b.out.below' hb); have T5 := Lib.hid (T4.out.later hb); obtain ⟨z0, z1, z2, z3, z4, z5, z6, z7, z8⟩ := K9.out.four8; obtain ⟨y0, y1, y2, y3, y4, y5, y6, y7, y8⟩ := K5.out.four8; have hne1 : ¬ w4.heap.size = w.heap.size := (by have := K4.out.lt; omega); have hne2 : ¬ w.heap.size = w4.heap.size := (by have := K4.out.lt; omega); clear hb)
    | (go_at_call 14; (with_reducible refine (LP.out _).mono ?_); rintro e w4 ⟨A, c, A1, c1, A2, c2, rfl, ht, hb, lo1, lo2⟩; have B4 := Lib.hid (B3.out.trans (hb.mono B3.out.size)); have K4 := Lib.hid (K3.out.below' hb); have LO1 := Lib.hid lo1; have LO2 := Lib.hid lo2; have S3 := Lib.hid K3.out.lt; have TT := Lib.hid ht; have T4 := Lib.hid (ht.later ((Below.refl w4.heap.size w4).alloc (Nat.le_refl _) (.cells #[.slice A n c, .int .i64 2, .slice A1 n1 c1, .slice A2 n2 c2] 44))); have B4a := Lib.hid (B4.out.alloc B4.out.size (.cells #[.slice A n c, .int .i64 2, .slice A1 n1 c1, .slice A2 n2 c2] 44)); have K4a := Lib.hid (K4.out.alloc (.cells #[.slice A n c, .int .i64 2, .slice A1 n1 c1, .slice A2 n2 c2] 44)); have K4b := Lib.hid (Blk.new w4 44 #[.slice A n c, .int .i64 2, .slice A1 n1 c1, .slice A2 n2 c2]); clear ht hb lo1 lo2)
    | (go_at_call 40; (with_reducible refine (N.out _ (HV.out.later B2.out)).mono ?_); rintro e w3 ⟨rfl, hb⟩; have B3 := Lib.hid (B2.out.trans (hb.mono B2.out.size)); have K3 := Lib.hid (K2.out.below' hb); clear hb)
    | (go_at_call 39; (with_reducible refine (D.out _ (HV.out.later B1.out)).mono ?_); rintro e w2 ⟨rfl, hb⟩; have B2 := Lib.hid (B1.out.trans (hb.mono B1.out.size)); have K2 := Lib.hid (K1.out.below' hb); clear hb)
    | (go_at_call 38; (with_reducible refine (L1.out _).mono ?_); rintro e w1 ⟨rfl, hb⟩; have B1 := Lib.hid (B0.out.trans (hb.mono B0.out.size)); have K1 := Lib.hid (K0.out.below' hb); clear hb))
  have HG : ∀ ad, 0 < n → A = some ad → ¬ ad.block = w.heap.size := by
    intro ad _ he eg
    obtain ⟨g, o, ha, hg, hc⟩ := TT.out.1 hn
    rw [he] at ha
    injection ha with ha
    subst ha
    obtain ⟨d0, d1⟩ := hc 0 hn
    obtain rfl : g = w.heap.size := eg
    rw [K4.out.cell] at d0 d1
    match o, d0, d1 with
    | 0, d0, _ => simp at d0
    | 1, _, d1 => simp at d1
    | 2, d0, _ => simp at d0
    | 3, d0, _ => simp at d0
    | k + 4, d0, _ => simp at d0
  have h1 : ∀ ad, 0 < n → A = some ad → ¬ ad.block = w4.heap.size := by
    intro ad _ he
    obtain ⟨g, o, ha, hg, _⟩ := TT.out.1 hn
    rw [he] at ha
    injection ha with ha
    subst ha
    show ¬ g = _
    omega
  have h2 : ∀ ad, 0 < n1 → A1 = some ad → ¬ ad.block = w4.heap.size := by
    intro ad hp he
    obtain ⟨ad', ha, hg, _⟩ := TT.out.2.1.2 hp
    rw [he] at ha
    injection ha with ha
    subst ha
    omega
  have h3 : ∀ ad, 0 < n2 → A2 = some ad → ¬ ad.block = w4.heap.size := by
    intro ad hp he
    obtain ⟨ad', ha, hg, _⟩ := TT.out.2.2.2 hp
    rw [he] at ha
    injection ha with ha
    subst ha
    omega
  have h4 : ∀ ad, 0 < n1 → A1 = some ad → ¬ ad.block = w.heap.size := fun ad _ he => by have a := LO1.out ad he; have b := S3.out; omega
  have h5 : ∀ ad, 0 < n2 → A2 = some ad → ¬ ad.block = w.heap.size := fun ad _ he => by have a := LO2.out ad he; have b := S3.out; omega
  have F := (T5.out.far (i := 1) h1 h2 h3 (.int .i64 k)).far4 HG h4 h5 (.slice A n c) (.int .i64 k) (.slice A1 n1 c1) (.slice A2 n2 c2)
  have E := (K5.out.far (p := ⟨w4.heap.size, 1, none⟩) hne2 (.int .i64 k)).all4 (.slice A n c) (.int .i64 k) (.slice A1 n1 c1) (.slice A2 n2 c2)
  have E2 := Below.all4 (B5.out.setCell (p := ⟨w4.heap.size, 1, none⟩) B4.out.size (.int .i64 k)) (Nat.le_refl _) (.slice A n c) (.int .i64 k) (.slice A1 n1 c1) (.slice A2 n2 c2)
  generalize (((((w5.setCell ⟨w4.heap.size, 1, none⟩ (.int .i64 k)).setCell ⟨w.heap.size, 0, none⟩ (.slice A n c)).setCell ⟨w.heap.size, 1, none⟩ (.int .i64 k)).setCell ⟨w.heap.size, 2, none⟩ (.slice A1 n1 c1)).setCell ⟨w.heap.size, 3, none⟩ (.slice A2 n2 c2)) = wy at E E2 F ⊢
  obtain ⟨j0, j1, j2, j3, j4⟩ := E.four
  exact bodyPost_ret (v := .tuple #[.agg #[.slice A n c, .int .i64 k, .slice A1 n1 c1, .slice A2 n2 c2], .int .i64 0]) (by simp [results, Tryz.results15, go_sem, j0, j1, j2, j3]) rfl ⟨A, c, A1, c1, A2, c2, rfl, F, E2⟩
set_option maxRecDepth 100000 in
set_option maxHeartbeats 4000000 in
theorem gparse_syn (k : Int) (w : World) (hv : VrG m u x w)
    (L1 : ∀ w, Calls Tryz.prog 38 #[.string s0] w fun e w' => e = .returned (.tuple #[.string sb, .string sl]) ∧ Below w.heap.size w w')
    (D : ∀ w, VrG m u x w → Calls Tryz.prog 39 #[.string sb] w fun e w' => e = .returned (.tuple #[.string sp, .string sd]) ∧ Below w.heap.size w w')
    (N : ∀ w, VrG m u x w → Calls Tryz.prog 40 #[.string sd] w fun e w' => e = .returned (.tuple #[.int .i64 k, .bool false]) ∧ Below w.heap.size w w')
    (P1 : ∀ w : World, (Op.stringOp .add sp sl).run Tryz.prog w = .ok (.string spl) w)
    (LP : ∀ w, Calls Tryz.prog 14 #[.string spl] w fun e w' => e = .returned (.tuple #[.agg #[.slice none 0 0, .int .i64 0, .slice none 0 0, .slice none 0 0], .int .i64 15]) ∧ Below w.heap.size w w')
    (L2 : ∀ w, Calls Tryz.prog 38 #[.string sp] w fun e w' => e = .returned (.tuple #[.string sp, .string ⟨#[]⟩]) ∧ Below w.heap.size w w') :
    Calls Tryz.prog 15 #[.string s0] w fun e w' => e = .returned (.tuple #[.agg #[.slice none 0 0, .int .i64 0, .slice none 0 0, .slice none 0 0], .int .i64 15]) ∧ Below w.heap.size w w' := by
  have K0 := Lib.hid (Blk.new w 44 #[.slice none 0 0, .int .i64 0, .slice none 0 0, .slice none 0 0])
  have B0 := Lib.hid ((Below.refl w.heap.size w).alloc (Nat.le_refl _) (.cells #[.slice none 0 0, .int .i64 0, .slice none 0 0, .slice none 0 0] 44))
  have HV := Lib.hid hv
  clear hv
  have zz := Lib.hid L1
  (try clear L1)
  have L1 := zz
  clear zz
  have zz := Lib.hid D
  (try clear D)
  have D := zz
  clear zz
  have zz := Lib.hid N
  (try clear N)
  have N := zz
  clear zz
  have zz := Lib.hid LP
  (try clear LP)
  have LP := zz
  clear zz
  have zz := Lib.hid L2
  (try clear L2)
  have L2 := zz
  clear zz
  go_enter Tryz.func15, Tryz.ntmps15
  go_wp2_with (first
    | (go_at_call 38; (with_reducible refine (L2.out _).mono ?_); rintro e w5 ⟨rfl, hb⟩; have B5 := Lib.hid (B4a.out.trans (hb.mono B4a.out.size)); have K5 := Lib.hid (K4a.out.below' hb); obtain ⟨y0, y1, y2, y3, y4, y5, y6, y7, y8⟩ := K5.out.four8; clear hb)
    | (go_at_call 14; (with_reducible refine (LP.out _).mono ?_); rintro e w4 ⟨rfl, hb⟩; have B4 := Lib.hid (B3.out.trans (hb.mono B3.out.size)); have K4 := Lib.hid (K3.out.below' hb); have B4a := Lib.hid (B4.out.alloc B4.out.size (.cells #[.slice none 0 0, .int .i64 0, .slice none 0 0, .slice none 0 0] 44)); have K4a := Lib.hid (K4.out.alloc (.cells #[.slice none 0 0, .int .i64 0, .slice none 0 0, .slice none 0 0] 44)); clear hb)
    | (go_at_call 40; (with_reducible refine (N.out _ (HV.out.later B2.out)).mono ?_); rintro e w3 ⟨rfl, hb⟩; have B3 := Lib.hid (B2.out.trans (hb.mono B2.out.size)); have K3 := Lib.hid (K2.out.below' hb); clear hb)
    | (go_at_call 39; (with_reducible refine (D.out _ (HV.out.later B1.out)).mono ?_); rintro e w2 ⟨rfl, hb⟩; have B2 := Lib.hid (B1.out.trans (hb.mono B1.out.size)); have K2 := Lib.hid (K1.out.below' hb); clear hb)
    | (go_at_call 38; (with_reducible refine (L1.out _).mono ?_); rintro e w1 ⟨rfl, hb⟩; have B1 := Lib.hid (B0.out.trans (hb.mono B0.out.size)); have K1 := Lib.hid (K0.out.below' hb); clear hb))
  have E := K5.out.all4 (.slice none 0 0) (.int .i64 0) (.slice none 0 0) (.slice none 0 0)
  have E2 := Below.all4 B5.out (Nat.le_refl _) (.slice none 0 0) (.int .i64 0) (.slice none 0 0) (.slice none 0 0)
  generalize ((((w5.setCell ⟨w.heap.size, 0, none⟩ (.slice none 0 0)).setCell ⟨w.heap.size, 1, none⟩ (.int .i64 0)).setCell ⟨w.heap.size, 2, none⟩ (.slice none 0 0)).setCell ⟨w.heap.size, 3, none⟩ (.slice none 0 0)) = wy at E E2 ⊢
  obtain ⟨j0, j1, j2, j3, j4⟩ := E.four
  exact bodyPost_ret (v := .tuple #[.agg #[.slice none 0 0, .int .i64 0, .slice none 0 0, .slice none 0 0], .int .i64 15]) (by simp [results, Tryz.results15, go_sem, j0, j1, j2, j3]) rfl ⟨rfl, E2⟩
set_option maxRecDepth 100000 in
set_option maxHeartbeats 4000000 in
theorem gparse_few (n n1 n2 : Nat) (k : Int) (w : World) (hk1 : k < 3) (hv : VrG m u x w)
    (L1 : ∀ w, Calls Tryz.prog 38 #[.string s0] w fun e w' => e = .returned (.tuple #[.string sb, .string sl]) ∧ Below w.heap.size w w')
    (D : ∀ w, VrG m u x w → Calls Tryz.prog 39 #[.string sb] w fun e w' => e = .returned (.tuple #[.string sp, .string sd]) ∧ Below w.heap.size w w')
    (N : ∀ w, VrG m u x w → Calls Tryz.prog 40 #[.string sd] w fun e w' => e = .returned (.tuple #[.int .i64 k, .bool true]) ∧ Below w.heap.size w w')
    (P1 : ∀ w : World, (Op.stringOp .add sp sl).run Tryz.prog w = .ok (.string spl) w)
    (LP : ∀ w, Calls Tryz.prog 14 #[.string spl] w fun e w' => ∃ A c A1 c1 A2 c2, e = .returned (.tuple #[.agg #[.slice A n c, .int .i64 2, .slice A1 n1 c1, .slice A2 n2 c2], .int .i64 0]) ∧ Below w.heap.size w w')
    (L2 : ∀ w, Calls Tryz.prog 38 #[.string sp] w fun e w' => e = .returned (.tuple #[.string sp, .string ⟨#[]⟩]) ∧ Below w.heap.size w w') :
    Calls Tryz.prog 15 #[.string s0] w fun e w' => e = .returned (.tuple #[.agg #[.slice none 0 0, .int .i64 0, .slice none 0 0, .slice none 0 0], .int .i64 5]) ∧ Below w.heap.size w w' := by
  have K0 := Lib.hid (Blk.new w 44 #[.slice none 0 0, .int .i64 0, .slice none 0 0, .slice none 0 0])
  have B0 := Lib.hid ((Below.refl w.heap.size w).alloc (Nat.le_refl _) (.cells #[.slice none 0 0, .int .i64 0, .slice none 0 0, .slice none 0 0] 44))
  have HV := Lib.hid hv
  clear hv
  have zz := Lib.hid L1
  (try clear L1)
  have L1 := zz
  clear zz
  have zz := Lib.hid D
  (try clear D)
  have D := zz
  clear zz
  have zz := Lib.hid N
  (try clear N)
  have N := zz
  clear zz
  have zz := Lib.hid LP
  (try clear LP)
  have LP := zz
  clear zz
  have zz := Lib.hid L2
  (try clear L2)
  have L2 := zz
  clear zz
  go_enter Tryz.func15, Tryz.ntmps15
  go_wp2_with (first
    | (go_at_call 38; (with_reducible refine (L2.out _).mono ?_); rintro e w5 ⟨rfl, hb⟩; have B5 := Lib.hid (B4a.out.trans (hb.mono B4a.out.size)); have K5 := Lib.hid (K4a.out.below' hb); obtain ⟨y0, y1, y2, y3, y4, y5, y6, y7, y8⟩ := K5.out.four8; clear hb)
    | (go_at_call 14; (with_reducible refine (LP.out _).mono ?_); rintro e w4 ⟨A, c, A1, c1, A2, c2, rfl, hb⟩; have B4 := Lib.hid (B3.out.trans (hb.mono B3.out.size)); have K4 := Lib.hid (K3.out.below' hb); have B4a := Lib.hid (B4.out.alloc B4.out.size (.cells #[.slice A n c, .int .i64 2, .slice A1 n1 c1, .slice A2 n2 c2] 44)); have K4a := Lib.hid (K4.out.alloc (.cells #[.slice A n c, .int .i64 2, .slice A1 n1 c1, .slice A2 n2 c2] 44)); clear hb)
    | (go_at_call 40; (with_reducible refine (N.out _ (HV.out.later B2.out)).mono ?_); rintro e w3 ⟨rfl, hb⟩; have B3 := Lib.hid (B2.out.trans (hb.mono B2.out.size)); have K3 := Lib.hid (K2.out.below' hb); clear hb)
    | (go_at_call 39; (with_reducible refine (D.out _ (HV.out.later B1.out)).mono ?_); rintro e w2 ⟨rfl, hb⟩; have B2 := Lib.hid (B1.out.trans (hb.mono B1.out.size)); have K2 := Lib.hid (K1.out.below' hb); clear hb)
    | (go_at_call 38; (with_reducible refine (L1.out _).mono ?_); rintro e w1 ⟨rfl, hb⟩; have B1 := Lib.hid (B0.out.trans (hb.mono B0.out.size)); have K1 := Lib.hid (K0.out.below' hb); clear hb))
  have E := K5.out.all4 (.slice none 0 0) (.int .i64 0) (.slice none 0 0) (.slice none 0 0)
  have E2 := Below.all4 B5.out (Nat.le_refl _) (.slice none 0 0) (.int .i64 0) (.slice none 0 0) (.slice none 0 0)
  generalize ((((w5.setCell ⟨w.heap.size, 0, none⟩ (.slice none 0 0)).setCell ⟨w.heap.size, 1, none⟩ (.int .i64 0)).setCell ⟨w.heap.size, 2, none⟩ (.slice none 0 0)).setCell ⟨w.heap.size, 3, none⟩ (.slice none 0 0)) = wy at E E2 ⊢
  obtain ⟨j0, j1, j2, j3, j4⟩ := E.four
  exact bodyPost_ret (v := .tuple #[.agg #[.slice none 0 0, .int .i64 0, .slice none 0 0, .slice none 0 0], .int .i64 5]) (by simp [results, Tryz.results15, go_sem, j0, j1, j2, j3]) rfl ⟨rfl, E2⟩
end
end Go.Proofs.YtjekpmkghpjamaaGreatDoor
namespace Go.Proofs.YtjekpmkghpjamaaGreatDoor
open Go.Shelf
def strRenG : Go.Shelf.Ren := ⟨fun | 217 => 166 | 227 => 128 | 228 => 173 | 234 => 129 | 266 => 203 | _ => 0, fun | 0 => 0 | 3 => 3 | 4 => 4 | 5 => 5 | 9 => 9 | 116 => 177 | 124 => 181 | _ => 0, fun n => n⟩
theorem rightLays : Lays.n234 Tryz.prog strRenG := {
  mixed := by kernel_rfl
  f228 := Tryz.func173.trans (congrArg some (by kernel_rfl))
  f234 := Tryz.func129.trans (congrArg some (by kernel_rfl))
  t0 := Tryz.underlying0
  a0 := Tryz.isAgg0
  z0 := Tryz.sizeOf0
  v0 := Tryz.zeroValue0
  t3 := Tryz.underlying3
  a3 := Tryz.isAgg3
  z3 := Tryz.sizeOf3
  v3 := Tryz.zeroValue3
  t4 := Tryz.underlying4
  a4 := Tryz.isAgg4
  z4 := Tryz.sizeOf4
  v4 := Tryz.zeroValue4
  t5 := Tryz.underlying5
  a5 := Tryz.isAgg5
  z5 := Tryz.sizeOf5
  v5 := Tryz.zeroValue5
  t9 := Tryz.underlying9
  a9 := Tryz.isAgg9
  z9 := Tryz.sizeOf9
  v9 := Tryz.zeroValue9
  t116 := Tryz.underlying177
  a116 := Tryz.isAgg177
  z116 := Tryz.sizeOf177
  t124 := Tryz.underlying181
  a124 := Tryz.isAgg181
  z124 := Tryz.sizeOf181
  v124 := Tryz.zeroValue181
}
end Go.Proofs.YtjekpmkghpjamaaGreatDoor
namespace Go.Proofs.YtjekpmkghpjamaaGreatDoor
/-- a decimal digit -/
def dgt (c : UInt8) : Bool := decide (48 ≤ c.toNat) && decide (c.toNat ≤ 57)
theorem dgt_iff {c : UInt8} : dgt c = true ↔ 48 ≤ c.toNat ∧ c.toNat ≤ 57 := by unfold dgt; simp
/-- a number without leading zeros -/
def numl (l : List UInt8) : Bool := decide (0 < l.length) && (decide (l.length = 1) || decide (l.head?.map (·.toNat) ≠ some 48)) && l.all dgt
/-- the value of digits behind n -/
def va (n : Nat) : List UInt8 → Nat
  | [] => n
  | c :: l => va (10 * n + (c.toNat - 48)) l
theorem va_le : ∀ (l : List UInt8) (n : Nat), n ≤ va n l
  | [], n => Nat.le_refl _
  | c :: l, n => Nat.le_trans (by omega) (va_le l (10 * n + (c.toNat - 48)))
/-- the value as an int, if it is one -/
def big : Nat := 9223372036854775807
/-- what wolfram.number answers at a numeral -/
def nv (l : List UInt8) : Int := if va 0 l ≤ big then (va 0 l : Int) else -1

theorem parse_any : ∀ (l : List UInt8) (n : Nat), l.all dgt = true → Lib.parseUint10 n l = .range ∨ ∃ u, Lib.parseUint10 n l = .ok u ∧ n ≤ u
  | [], n, _ => .inr ⟨n, by simp only [Lib.parseUint10], Nat.le_refl _⟩
  | c :: l, n, ha => by
    rw [List.all_cons, Bool.and_eq_true, dgt_iff] at ha
    rw [Lib.parseUint10, if_pos ha.1]
    split
    · exact .inl rfl
    · split
      · exact .inl rfl
      · rcases parse_any l (n * 10 + (c.toNat - 48)) ha.2 with h | ⟨u, h, hu⟩
        · exact .inl h
        · exact .inr ⟨u, h, by omega⟩
theorem parse_va : ∀ (l : List UInt8) (n : Nat), l.all dgt = true → n ≤ big → (va n l ≤ big → Lib.parseUint10 n l = .ok (va n l)) ∧ (¬ va n l ≤ big → Lib.parseUint10 n l = .range ∨ ∃ u, Lib.parseUint10 n l = .ok u ∧ big < u)
  | [], n, _, hn => ⟨fun _ => rfl, fun h => absurd hn h⟩
  | c :: l, n, ha, hn => by
    rw [List.all_cons, Bool.and_eq_true, dgt_iff] at ha
    obtain ⟨⟨h1, h2⟩, ha⟩ := ha
    have hle := va_le l (10 * n + (c.toNat - 48))
    have e : n * 10 + (c.toNat - 48) = 10 * n + (c.toNat - 48) := by omega
    by_cases hs : 10 * n + (c.toNat - 48) ≤ big
    · have ih := parse_va l (10 * n + (c.toNat - 48)) ha hs
      have hp : Lib.parseUint10 n (c :: l) = Lib.parseUint10 (10 * n + (c.toNat - 48)) l := by
        unfold big at hs
        rw [Lib.parseUint10, if_pos ⟨h1, h2⟩, if_neg (by omega), if_neg (by omega), e]
      rw [hp]
      exact ih
    · have hv : ¬ va n (c :: l) ≤ big := by show ¬ va (10 * n + (c.toNat - 48)) l ≤ big; omega
      refine ⟨fun h => absurd h hv, fun _ => ?_⟩
      rw [Lib.parseUint10, if_pos ⟨h1, h2⟩]
      split
      · exact .inl rfl
      · split
        · exact .inl rfl
        · rw [e]
          rcases parse_any l (10 * n + (c.toNat - 48)) ha with h | ⟨u, h, hu⟩
          · exact .inl h
          · exact .inr ⟨u, h, by omega⟩

theorem numl_cons {c : UInt8} {l : List UInt8} (h : numl (c :: l) = true) : dgt c = true ∧ (c :: l).all dgt = true ∧ (c.toNat = 48 → l = []) := by
  unfold numl at h
  simp only [Bool.and_eq_true, Bool.or_eq_true, decide_eq_true_eq, List.length_cons, List.head?_cons, Option.map_some, ne_eq, Option.some.injEq] at h
  obtain ⟨⟨_, h1⟩, h2⟩ := h
  refine ⟨by rw [List.all_cons, Bool.and_eq_true] at h2; exact h2.1, h2, fun h3 => ?_⟩
  rcases h1 with h1 | h1
  · exact List.length_eq_zero_iff.1 (by omega)
  · exact absurd h3 h1
/-- how Atoi ends at a numeral -/
theorem atoi_num {l : List UInt8} (h : numl l = true) : (va 0 l ≤ big → Lib.atoiAll l = .ok (va 0 l : Int)) ∧ (¬ va 0 l ≤ big → Lib.atoiAll l = .range) := by
  cases l with
  | nil => cases h
  | cons c l =>
    obtain ⟨h1, h2, _⟩ := numl_cons h
    rw [dgt_iff] at h1
    have hp : Lib.parseMag (c :: l) = Lib.parseUint10 0 (c :: l) := by unfold Lib.parseMag; rw [if_neg (by simp)]
    rw [Lib.atoiAll_plain c l (by omega) (by omega), hp]
    obtain ⟨a, b⟩ := parse_va (c :: l) 0 h2 (Nat.zero_le _)
    refine ⟨fun hv => ?_, fun hv => ?_⟩
    · rw [a hv]
      unfold big at hv
      simp only [Lib.signless]
      rw [if_neg (by omega)]
    · rcases b hv with b | ⟨u, b, hu⟩
      · rw [b]; rfl
      · rw [b]
        unfold big at hu
        simp only [Lib.signless]
        rw [if_pos (by omega)]
end Go.Proofs.YtjekpmkghpjamaaGreatDoor
