/- The walk of Parse, over contracts of what it calls. -/
import Derived.Test.YtbdgfegafckkbaaGreatDoorEx
import Derived.Test.YtbdgfegafckkbaaGreatDoorDiv
import Derived.Test.YtbdgfegafckkbaaGreatDoorTrim
import Derived.Test.YtbdgfegafckkbaaGreatDoorAtoi
namespace Go.Proofs.YtbdgfegafckkbaaGreatDoor
open Go.RowKit

section
variable (s0 sb sl sp sd spl : ByteArray) (m : Int) (u : TypeId) (x : Value)
set_option maxRecDepth 100000 in
set_option maxHeartbeats 4000000 in
theorem gparse_ok (n n1 n2 : Nat) (f : Nat → P2) (l1 l2 : List Int) (k : Int) (w : World) (hn : 0 < n) (hk1 : ¬ k < 3) (hk2 : ¬ 8 < k) (hv : Vr m u x w)
    (L1 : ∀ w, Calls Tryz.prog 22 #[.string s0] w fun e w' => e = .returned (.tuple #[.string sb, .string sl]) ∧ Below w.heap.size w w')
    (D : ∀ w, Vr m u x w → Calls Tryz.prog 28 #[.string sb] w fun e w' => e = .returned (.tuple #[.string sp, .string sd]) ∧ Below w.heap.size w w')
    (N : ∀ w, Vr m u x w → Calls Tryz.prog 29 #[.string sd] w fun e w' => e = .returned (.tuple #[.int .i64 k, .bool true]) ∧ Below w.heap.size w w')
    (P1 : ∀ w : World, (Op.stringOp .add sp sl).run Tryz.prog w = .ok (.string spl) w)
    (LP : ∀ w, Calls Tryz.prog 30 #[.string spl] w fun e w' => ∃ A c A1 c1 A2 c2, e = .returned (.tuple #[.agg #[.slice A n c, .int .i64 2, .slice A1 n1 c1, .slice A2 n2 c2], .int .i64 0]) ∧ TR w' A n f A1 n1 l1 A2 n2 l2 ∧ Below w.heap.size w w' ∧ (∀ ad, A1 = some ad → w.heap.size ≤ ad.block) ∧ (∀ ad, A2 = some ad → w.heap.size ≤ ad.block))
    (L2 : ∀ w, Calls Tryz.prog 22 #[.string sp] w fun e w' => e = .returned (.tuple #[.string sp, .string ⟨#[]⟩]) ∧ Below w.heap.size w w') :
    Calls Tryz.prog 13 #[.string s0] w fun e w' => ∃ A c A1 c1 A2 c2, e = .returned (.tuple #[.agg #[.slice A n c, .int .i64 k, .slice A1 n1 c1, .slice A2 n2 c2], .int .i64 0]) ∧ TR w' A n f A1 n1 l1 A2 n2 l2 ∧ Below w.heap.size w w' := by
  have K0 := Lib.hid (Blk.new w 25 #[.slice none 0 0, .int .i64 0, .slice none 0 0, .slice none 0 0])
  have B0 := Lib.hid ((Below.refl w.heap.size w).alloc (Nat.le_refl _) (.cells #[.slice none 0 0, .int .i64 0, .slice none 0 0, .slice none 0 0] 25))
  have HV := Lib.hid hv
  clear hv
  have zz := Lib.hid L1
  (try clear L1)
  have L1 := zz
  clear zz
  have zz := Lib.hid D
  (try clear D)
  have D := zz
  clear zz
  have zz := Lib.hid N
  (try clear N)
  have N := zz
  clear zz
  have zz := Lib.hid LP
  (try clear LP)
  have LP := zz
  clear zz
  have zz := Lib.hid L2
  (try clear L2)
  have L2 := zz
  clear zz
  go_enter Tryz.func13, Tryz.ntmps13
  go_wp2_with (first
    | (go_at_call 22; (with_reducible refine (L2.out _).mono ?_); rintro e w5 ⟨rfl, hb⟩; have B5 := Lib.hid (B4a.out.trans (hb.mono B4a.out.size)); have K5 := Lib.hid (K4a.out.below' hb); have K9 := Lib.hid (K4b.out.below' hb); have T5 := Lib.hid (T4.out.later hb); obtain ⟨z0, z1, z2, z3, z4, z5, z6, z7, z8⟩ := K9.out.four8; obtain ⟨y0, y1, y2, y3, y4, y5, y6, y7, y8⟩ := K5.out.four8; have hne1 : ¬ w4.heap.size = w.heap.size := (by have := K4.out.lt; omega); have hne2 : ¬ w.heap.size = w4.heap.size := (by have := K4.out.lt; omega); clear hb)
    | (go_at_call 30; (with_reducible refine (LP.out _).mono ?_); rintro e w4 ⟨A, c, A1, c1, A2, c2, rfl, ht, hb, lo1, lo2⟩; have B4 := Lib.hid (B3.out.trans (hb.mono B3.out.size)); have K4 := Lib.hid (K3.out.below' hb); have LO1 := Lib.hid lo1; have LO2 := Lib.hid lo2; have S3 := Lib.hid K3.out.lt; have TT := Lib.hid ht; have T4 := Lib.hid (ht.later ((Below.refl w4.heap.size w4).alloc (Nat.le_refl _) (.cells #[.slice A n c, .int .i64 2, .slice A1 n1 c1, .slice A2 n2 c2] 25))); have B4a := Lib.hid (B4.out.alloc B4.out.size (.cells #[.slice A n c, .int .i64 2, .slice A1 n1 c1, .slice A2 n2 c2] 25)); have K4a := Lib.hid (K4.out.alloc (.cells #[.slice A n c, .int .i64 2, .slice A1 n1 c1, .slice A2 n2 c2] 25)); have K4b := Lib.hid (Blk.new w4 25 #[.slice A n c, .int .i64 2, .slice A1 n1 c1, .slice A2 n2 c2]); clear ht hb lo1 lo2)
    | (go_at_call 29; (with_reducible refine (N.out _ (HV.out.later B2.out)).mono ?_); rintro e w3 ⟨rfl, hb⟩; have B3 := Lib.hid (B2.out.trans (hb.mono B2.out.size)); have K3 := Lib.hid (K2.out.below' hb); clear hb)
    | (go_at_call 28; (with_reducible refine (D.out _ (HV.out.later B1.out)).mono ?_); rintro e w2 ⟨rfl, hb⟩; have B2 := Lib.hid (B1.out.trans (hb.mono B1.out.size)); have K2 := Lib.hid (K1.out.below' hb); clear hb)
    | (go_at_call 22; (with_reducible refine (L1.out _).mono ?_); rintro e w1 ⟨rfl, hb⟩; have B1 := Lib.hid (B0.out.trans (hb.mono B0.out.size)); have K1 := Lib.hid (K0.out.below' hb); clear hb))
  have HG : ∀ ad, 0 < n → A = some ad → ¬ ad.block = w.heap.size := by
    intro ad _ he eg
    obtain ⟨g, o, ha, hg, hc⟩ := TT.out.1 hn
    rw [he] at ha
    injection ha with ha
    subst ha
    obtain ⟨d0, d1⟩ := hc 0 hn
    obtain rfl : g = w.heap.size := eg
    rw [K4.out.cell] at d0 d1
    match o, d0, d1 with
    | 0, d0, _ => simp at d0
    | 1, _, d1 => simp at d1
    | 2, d0, _ => simp at d0
    | 3, d0, _ => simp at d0
    | k + 4, d0, _ => simp at d0
  have h1 : ∀ ad, 0 < n → A = some ad → ¬ ad.block = w4.heap.size := by
    intro ad _ he
    obtain ⟨g, o, ha, hg, _⟩ := TT.out.1 hn
    rw [he] at ha
    injection ha with ha
    subst ha
    show ¬ g = _
    omega
  have h2 : ∀ ad, 0 < n1 → A1 = some ad → ¬ ad.block = w4.heap.size := by
    intro ad hp he
    obtain ⟨ad', ha, hg, _⟩ := TT.out.2.1.2 hp
    rw [he] at ha
    injection ha with ha
    subst ha
    omega
  have h3 : ∀ ad, 0 < n2 → A2 = some ad → ¬ ad.block = w4.heap.size := by
    intro ad hp he
    obtain ⟨ad', ha, hg, _⟩ := TT.out.2.2.2 hp
    rw [he] at ha
    injection ha with ha
    subst ha
    omega
  have h4 : ∀ ad, 0 < n1 → A1 = some ad → ¬ ad.block = w.heap.size := fun ad _ he => by have a := LO1.out ad he; have b := S3.out; omega
  have h5 : ∀ ad, 0 < n2 → A2 = some ad → ¬ ad.block = w.heap.size := fun ad _ he => by have a := LO2.out ad he; have b := S3.out; omega
  have F := (T5.out.far (i := 1) h1 h2 h3 (.int .i64 k)).far4 HG h4 h5 (.slice A n c) (.int .i64 k) (.slice A1 n1 c1) (.slice A2 n2 c2)
  have E := (K5.out.far (p := ⟨w4.heap.size, 1, none⟩) hne2 (.int .i64 k)).all4 (.slice A n c) (.int .i64 k) (.slice A1 n1 c1) (.slice A2 n2 c2)
  have E2 := Below.all4 (B5.out.setCell (p := ⟨w4.heap.size, 1, none⟩) B4.out.size (.int .i64 k)) (Nat.le_refl _) (.slice A n c) (.int .i64 k) (.slice A1 n1 c1) (.slice A2 n2 c2)
  generalize (((((w5.setCell ⟨w4.heap.size, 1, none⟩ (.int .i64 k)).setCell ⟨w.heap.size, 0, none⟩ (.slice A n c)).setCell ⟨w.heap.size, 1, none⟩ (.int .i64 k)).setCell ⟨w.heap.size, 2, none⟩ (.slice A1 n1 c1)).setCell ⟨w.heap.size, 3, none⟩ (.slice A2 n2 c2)) = wy at E E2 F ⊢
  obtain ⟨j0, j1, j2, j3, j4⟩ := E.four
  exact bodyPost_ret (v := .tuple #[.agg #[.slice A n c, .int .i64 k, .slice A1 n1 c1, .slice A2 n2 c2], .int .i64 0]) (by simp [results, Tryz.results13, go_sem, j0, j1, j2, j3]) rfl ⟨A, c, A1, c1, A2, c2, rfl, F, E2⟩
set_option maxRecDepth 100000 in
set_option maxHeartbeats 4000000 in
theorem gparse_syn (k : Int) (w : World) (hv : Vr m u x w)
    (L1 : ∀ w, Calls Tryz.prog 22 #[.string s0] w fun e w' => e = .returned (.tuple #[.string sb, .string sl]) ∧ Below w.heap.size w w')
    (D : ∀ w, Vr m u x w → Calls Tryz.prog 28 #[.string sb] w fun e w' => e = .returned (.tuple #[.string sp, .string sd]) ∧ Below w.heap.size w w')
    (N : ∀ w, Vr m u x w → Calls Tryz.prog 29 #[.string sd] w fun e w' => e = .returned (.tuple #[.int .i64 k, .bool false]) ∧ Below w.heap.size w w')
    (P1 : ∀ w : World, (Op.stringOp .add sp sl).run Tryz.prog w = .ok (.string spl) w)
    (LP : ∀ w, Calls Tryz.prog 30 #[.string spl] w fun e w' => e = .returned (.tuple #[.agg #[.slice none 0 0, .int .i64 0, .slice none 0 0, .slice none 0 0], .int .i64 15]) ∧ Below w.heap.size w w')
    (L2 : ∀ w, Calls Tryz.prog 22 #[.string sp] w fun e w' => e = .returned (.tuple #[.string sp, .string ⟨#[]⟩]) ∧ Below w.heap.size w w') :
    Calls Tryz.prog 13 #[.string s0] w fun e w' => e = .returned (.tuple #[.agg #[.slice none 0 0, .int .i64 0, .slice none 0 0, .slice none 0 0], .int .i64 15]) ∧ Below w.heap.size w w' := by
  have K0 := Lib.hid (Blk.new w 25 #[.slice none 0 0, .int .i64 0, .slice none 0 0, .slice none 0 0])
  have B0 := Lib.hid ((Below.refl w.heap.size w).alloc (Nat.le_refl _) (.cells #[.slice none 0 0, .int .i64 0, .slice none 0 0, .slice none 0 0] 25))
  have HV := Lib.hid hv
  clear hv
  have zz := Lib.hid L1
  (try clear L1)
  have L1 := zz
  clear zz
  have zz := Lib.hid D
  (try clear D)
  have D := zz
  clear zz
  have zz := Lib.hid N
  (try clear N)
  have N := zz
  clear zz
  have zz := Lib.hid LP
  (try clear LP)
  have LP := zz
  clear zz
  have zz := Lib.hid L2
  (try clear L2)
  have L2 := zz
  clear zz
  go_enter Tryz.func13, Tryz.ntmps13
  go_wp2_with (first
    | (go_at_call 22; (with_reducible refine (L2.out _).mono ?_); rintro e w5 ⟨rfl, hb⟩; have B5 := Lib.hid (B4a.out.trans (hb.mono B4a.out.size)); have K5 := Lib.hid (K4a.out.below' hb); obtain ⟨y0, y1, y2, y3, y4, y5, y6, y7, y8⟩ := K5.out.four8; clear hb)
    | (go_at_call 30; (with_reducible refine (LP.out _).mono ?_); rintro e w4 ⟨rfl, hb⟩; have B4 := Lib.hid (B3.out.trans (hb.mono B3.out.size)); have K4 := Lib.hid (K3.out.below' hb); have B4a := Lib.hid (B4.out.alloc B4.out.size (.cells #[.slice none 0 0, .int .i64 0, .slice none 0 0, .slice none 0 0] 25)); have K4a := Lib.hid (K4.out.alloc (.cells #[.slice none 0 0, .int .i64 0, .slice none 0 0, .slice none 0 0] 25)); clear hb)
    | (go_at_call 29; (with_reducible refine (N.out _ (HV.out.later B2.out)).mono ?_); rintro e w3 ⟨rfl, hb⟩; have B3 := Lib.hid (B2.out.trans (hb.mono B2.out.size)); have K3 := Lib.hid (K2.out.below' hb); clear hb)
    | (go_at_call 28; (with_reducible refine (D.out _ (HV.out.later B1.out)).mono ?_); rintro e w2 ⟨rfl, hb⟩; have B2 := Lib.hid (B1.out.trans (hb.mono B1.out.size)); have K2 := Lib.hid (K1.out.below' hb); clear hb)
    | (go_at_call 22; (with_reducible refine (L1.out _).mono ?_); rintro e w1 ⟨rfl, hb⟩; have B1 := Lib.hid (B0.out.trans (hb.mono B0.out.size)); have K1 := Lib.hid (K0.out.below' hb); clear hb))
  have E := K5.out.all4 (.slice none 0 0) (.int .i64 0) (.slice none 0 0) (.slice none 0 0)
  have E2 := Below.all4 B5.out (Nat.le_refl _) (.slice none 0 0) (.int .i64 0) (.slice none 0 0) (.slice none 0 0)
  generalize ((((w5.setCell ⟨w.heap.size, 0, none⟩ (.slice none 0 0)).setCell ⟨w.heap.size, 1, none⟩ (.int .i64 0)).setCell ⟨w.heap.size, 2, none⟩ (.slice none 0 0)).setCell ⟨w.heap.size, 3, none⟩ (.slice none 0 0)) = wy at E E2 ⊢
  obtain ⟨j0, j1, j2, j3, j4⟩ := E.four
  exact bodyPost_ret (v := .tuple #[.agg #[.slice none 0 0, .int .i64 0, .slice none 0 0, .slice none 0 0], .int .i64 15]) (by simp [results, Tryz.results13, go_sem, j0, j1, j2, j3]) rfl ⟨rfl, E2⟩
set_option maxRecDepth 100000 in
set_option maxHeartbeats 4000000 in
theorem gparse_few (n n1 n2 : Nat) (k : Int) (w : World) (hk1 : k < 3) (hv : Vr m u x w)
    (L1 : ∀ w, Calls Tryz.prog 22 #[.string s0] w fun e w' => e = .returned (.tuple #[.string sb, .string sl]) ∧ Below w.heap.size w w')
    (D : ∀ w, Vr m u x w → Calls Tryz.prog 28 #[.string sb] w fun e w' => e = .returned (.tuple #[.string sp, .string sd]) ∧ Below w.heap.size w w')
    (N : ∀ w, Vr m u x w → Calls Tryz.prog 29 #[.string sd] w fun e w' => e = .returned (.tuple #[.int .i64 k, .bool true]) ∧ Below w.heap.size w w')
    (P1 : ∀ w : World, (Op.stringOp .add sp sl).run Tryz.prog w = .ok (.string spl) w)
    (LP : ∀ w, Calls Tryz.prog 30 #[.string spl] w fun e w' => ∃ A c A1 c1 A2 c2, e = .returned (.tuple #[.agg #[.slice A n c, .int .i64 2, .slice A1 n1 c1, .slice A2 n2 c2], .int .i64 0]) ∧ Below w.heap.size w w')
    (L2 : ∀ w, Calls Tryz.prog 22 #[.string sp] w fun e w' => e = .returned (.tuple #[.string sp, .string ⟨#[]⟩]) ∧ Below w.heap.size w w') :
    Calls Tryz.prog 13 #[.string s0] w fun e w' => e = .returned (.tuple #[.agg #[.slice none 0 0, .int .i64 0, .slice none 0 0, .slice none 0 0], .int .i64 5]) ∧ Below w.heap.size w w' := by
  have K0 := Lib.hid (Blk.new w 25 #[.slice none 0 0, .int .i64 0, .slice none 0 0, .slice none 0 0])
  have B0 := Lib.hid ((Below.refl w.heap.size w).alloc (Nat.le_refl _) (.cells #[.slice none 0 0, .int .i64 0, .slice none 0 0, .slice none 0 0] 25))
  have HV := Lib.hid hv
  clear hv
  have zz := Lib.hid L1
  (try clear L1)
  have L1 := zz
  clear zz
  have zz := Lib.hid D
  (try clear D)
  have D := zz
  clear zz
  have zz := Lib.hid N
  (try clear N)
  have N := zz
  clear zz
  have zz := Lib.hid LP
  (try clear LP)
  have LP := zz
  clear zz
  have zz := Lib.hid L2
  (try clear L2)
  have L2 := zz
  clear zz
  go_enter Tryz.func13, Tryz.ntmps13
  go_wp2_with (first
    | (go_at_call 22; (with_reducible refine (L2.out _).mono ?_); rintro e w5 ⟨rfl, hb⟩; have B5 := Lib.hid (B4a.out.trans (hb.mono B4a.out.size)); have K5 := Lib.hid (K4a.out.below' hb); obtain ⟨y0, y1, y2, y3, y4, y5, y6, y7, y8⟩ := K5.out.four8; clear hb)
    | (go_at_call 30; (with_reducible refine (LP.out _).mono ?_); rintro e w4 ⟨A, c, A1, c1, A2, c2, rfl, hb⟩; have B4 := Lib.hid (B3.out.trans (hb.mono B3.out.size)); have K4 := Lib.hid (K3.out.below' hb); have B4a := Lib.hid (B4.out.alloc B4.out.size (.cells #[.slice A n c, .int .i64 2, .slice A1 n1 c1, .slice A2 n2 c2] 25)); have K4a := Lib.hid (K4.out.alloc (.cells #[.slice A n c, .int .i64 2, .slice A1 n1 c1, .slice A2 n2 c2] 25)); clear hb)
    | (go_at_call 29; (with_reducible refine (N.out _ (HV.out.later B2.out)).mono ?_); rintro e w3 ⟨rfl, hb⟩; have B3 := Lib.hid (B2.out.trans (hb.mono B2.out.size)); have K3 := Lib.hid (K2.out.below' hb); clear hb)
    | (go_at_call 28; (with_reducible refine (D.out _ (HV.out.later B1.out)).mono ?_); rintro e w2 ⟨rfl, hb⟩; have B2 := Lib.hid (B1.out.trans (hb.mono B1.out.size)); have K2 := Lib.hid (K1.out.below' hb); clear hb)
    | (go_at_call 22; (with_reducible refine (L1.out _).mono ?_); rintro e w1 ⟨rfl, hb⟩; have B1 := Lib.hid (B0.out.trans (hb.mono B0.out.size)); have K1 := Lib.hid (K0.out.below' hb); clear hb))
  have E := K5.out.all4 (.slice none 0 0) (.int .i64 0) (.slice none 0 0) (.slice none 0 0)
  have E2 := Below.all4 B5.out (Nat.le_refl _) (.slice none 0 0) (.int .i64 0) (.slice none 0 0) (.slice none 0 0)
  generalize ((((w5.setCell ⟨w.heap.size, 0, none⟩ (.slice none 0 0)).setCell ⟨w.heap.size, 1, none⟩ (.int .i64 0)).setCell ⟨w.heap.size, 2, none⟩ (.slice none 0 0)).setCell ⟨w.heap.size, 3, none⟩ (.slice none 0 0)) = wy at E E2 ⊢
  obtain ⟨j0, j1, j2, j3, j4⟩ := E.four
  exact bodyPost_ret (v := .tuple #[.agg #[.slice none 0 0, .int .i64 0, .slice none 0 0, .slice none 0 0], .int .i64 5]) (by simp [results, Tryz.results13, go_sem, j0, j1, j2, j3]) rfl ⟨rfl, E2⟩
set_option maxRecDepth 100000 in
set_option maxHeartbeats 4000000 in
theorem gparse_rg (k : Int) (w : World) (hk1 : ¬ k < 3) (hk2 : ¬ 8 < k) (hv : Vr m u x w)
    (L1 : ∀ w, Calls Tryz.prog 22 #[.string s0] w fun e w' => e = .returned (.tuple #[.string sb, .string sl]) ∧ Below w.heap.size w w')
    (D : ∀ w, Vr m u x w → Calls Tryz.prog 28 #[.string sb] w fun e w' => e = .returned (.tuple #[.string sp, .string sd]) ∧ Below w.heap.size w w')
    (N : ∀ w, Vr m u x w → Calls Tryz.prog 29 #[.string sd] w fun e w' => e = .returned (.tuple #[.int .i64 k, .bool true]) ∧ Below w.heap.size w w')
    (P1 : ∀ w : World, (Op.stringOp .add sp sl).run Tryz.prog w = .ok (.string spl) w)
    (LP : ∀ w, Calls Tryz.prog 30 #[.string spl] w fun e w' => e = .returned (.tuple #[.agg #[.slice none 0 0, .int .i64 0, .slice none 0 0, .slice none 0 0], .int .i64 5]) ∧ Below w.heap.size w w')
    (L2 : ∀ w, Calls Tryz.prog 22 #[.string sp] w fun e w' => e = .returned (.tuple #[.string sp, .string ⟨#[]⟩]) ∧ Below w.heap.size w w') :
    Calls Tryz.prog 13 #[.string s0] w fun e w' => e = .returned (.tuple #[.agg #[.slice none 0 0, .int .i64 0, .slice none 0 0, .slice none 0 0], .int .i64 5]) ∧ Below w.heap.size w w' := by
  have K0 := Lib.hid (Blk.new w 25 #[.slice none 0 0, .int .i64 0, .slice none 0 0, .slice none 0 0])
  have B0 := Lib.hid ((Below.refl w.heap.size w).alloc (Nat.le_refl _) (.cells #[.slice none 0 0, .int .i64 0, .slice none 0 0, .slice none 0 0] 25))
  have HV := Lib.hid hv
  clear hv
  have zz := Lib.hid L1
  (try clear L1)
  have L1 := zz
  clear zz
  have zz := Lib.hid D
  (try clear D)
  have D := zz
  clear zz
  have zz := Lib.hid N
  (try clear N)
  have N := zz
  clear zz
  have zz := Lib.hid LP
  (try clear LP)
  have LP := zz
  clear zz
  have zz := Lib.hid L2
  (try clear L2)
  have L2 := zz
  clear zz
  go_enter Tryz.func13, Tryz.ntmps13
  go_wp2_with (first
    | (go_at_call 22; (with_reducible refine (L2.out _).mono ?_); rintro e w5 ⟨rfl, hb⟩; have B5 := Lib.hid (B4a.out.trans (hb.mono B4a.out.size)); have K5 := Lib.hid (K4a.out.below' hb); obtain ⟨y0, y1, y2, y3, y4, y5, y6, y7, y8⟩ := K5.out.four8; clear hb)
    | (go_at_call 30; (with_reducible refine (LP.out _).mono ?_); rintro e w4 ⟨rfl, hb⟩; have B4 := Lib.hid (B3.out.trans (hb.mono B3.out.size)); have K4 := Lib.hid (K3.out.below' hb); have B4a := Lib.hid (B4.out.alloc B4.out.size (.cells #[.slice none 0 0, .int .i64 0, .slice none 0 0, .slice none 0 0] 25)); have K4a := Lib.hid (K4.out.alloc (.cells #[.slice none 0 0, .int .i64 0, .slice none 0 0, .slice none 0 0] 25)); clear hb)
    | (go_at_call 29; (with_reducible refine (N.out _ (HV.out.later B2.out)).mono ?_); rintro e w3 ⟨rfl, hb⟩; have B3 := Lib.hid (B2.out.trans (hb.mono B2.out.size)); have K3 := Lib.hid (K2.out.below' hb); clear hb)
    | (go_at_call 28; (with_reducible refine (D.out _ (HV.out.later B1.out)).mono ?_); rintro e w2 ⟨rfl, hb⟩; have B2 := Lib.hid (B1.out.trans (hb.mono B1.out.size)); have K2 := Lib.hid (K1.out.below' hb); clear hb)
    | (go_at_call 22; (with_reducible refine (L1.out _).mono ?_); rintro e w1 ⟨rfl, hb⟩; have B1 := Lib.hid (B0.out.trans (hb.mono B0.out.size)); have K1 := Lib.hid (K0.out.below' hb); clear hb))
  have E := K5.out.all4 (.slice none 0 0) (.int .i64 0) (.slice none 0 0) (.slice none 0 0)
  have E2 := Below.all4 B5.out (Nat.le_refl _) (.slice none 0 0) (.int .i64 0) (.slice none 0 0) (.slice none 0 0)
  generalize ((((w5.setCell ⟨w.heap.size, 0, none⟩ (.slice none 0 0)).setCell ⟨w.heap.size, 1, none⟩ (.int .i64 0)).setCell ⟨w.heap.size, 2, none⟩ (.slice none 0 0)).setCell ⟨w.heap.size, 3, none⟩ (.slice none 0 0)) = wy at E E2 ⊢
  obtain ⟨j0, j1, j2, j3, j4⟩ := E.four
  exact bodyPost_ret (v := .tuple #[.agg #[.slice none 0 0, .int .i64 0, .slice none 0 0, .slice none 0 0], .int .i64 5]) (by simp [results, Tryz.results13, go_sem, j0, j1, j2, j3]) rfl ⟨rfl, E2⟩
end
end Go.Proofs.YtbdgfegafckkbaaGreatDoor
