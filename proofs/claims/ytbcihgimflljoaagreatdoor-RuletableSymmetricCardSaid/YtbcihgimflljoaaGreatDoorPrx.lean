/- The walk of ruletable's Parse at the texts of the examples. -/
/- The walk of ruletable's Parse at the first example of the chapter. -/
import Derived.Test.YtbcihgimflljoaaGreatDoorLin
import Derived.Shelf.Strings.Split
namespace Go.Proofs.YtbcihgimflljoaaGreatDoor
open Go.RowKit Go.Shelf

theorem split_any (l : List UInt8) (hl : l.length ≤ 1000) (n : Nat) (ls : List ByteArray) (hc : Lib.countB (tx l) ⟨#[10]⟩ = n) (hs : Lib.splitB ⟨#[10]⟩ 0 (Lib.countB (tx l) ⟨#[10]⟩) (tx l) = ls) (m : Int) (w : World) (hm : w.cell? ⟨3, 0, none⟩ = some (.int .i64 m)) (g : Nat) (hg : w.heap.size = g) :
    Calls Tryz.prog 34 #[.string (tx l), .string ⟨#[10]⟩] w fun e w' => e = .returned (.slice (some ⟨g, 0, none⟩) (n + 1) (n + 1)) ∧ w' = w.alloc (.cells (ls.map Value.string).toArray 9) := by
  subst hg
  have h := Any.strings_Split laySplit str_info (tx l) ⟨#[10]⟩ m w (by rw [tx_size]; omega) hm (by decide)
  rw [hs, hc] at h
  exact h
/-- the seven cells of a reader that has read nothing -/
def rz : Array Value := #[.int .i64 0, .int .i64 0, .int .i64 0, .slice none 0 0, .slice none 0 0, .slice none 0 0, .slice none 0 0]
/-- the table of nothing -/
def tz : Array Value := #[.int .i64 0, .int .i64 0, .slice none 0 0, .slice none 0 0, .slice none 0 0]
/-- where the loop over the lines begins -/
def W0 (w : World) (LS : List ByteArray) : World := ((w.alloc (.cells tz 26)).alloc (.cells rz 73)).alloc (.cells (LS.map Value.string).toArray 9)
theorem start {m : Int} {u : TypeId} {x : Value} {w : World} (V : Vr m u x w) (LS : List ByteArray) (g : Nat) (hg : w.heap.size = g) :
    Fr m u x (g + 1) (g + 1) (g + 2) (LS.map Value.string).toArray (W0 w LS) (W0 w LS) ∧ Blk (W0 w LS) (g + 1) 73 (rb 0 0 0 (.slice none 0 0) (.slice none 0 0) (.slice none 0 0) (.slice none 0 0)) ∧ Blk (W0 w LS) g 26 tz ∧ Below g w (W0 w LS) := by
  subst hg
  have B1 := (Below.refl w.heap.size w).alloc (Nat.le_refl _) (.cells tz 26)
  have B2 := B1.alloc (by simp) (.cells rz 73)
  have B3 := B2.alloc (by simp; omega) (.cells (LS.map Value.string).toArray 9)
  have K1 := Blk.new w 26 tz
  have K2 := Blk.new (w.alloc (.cells tz 26)) 73 rz
  have K3 := Blk.new ((w.alloc (.cells tz 26)).alloc (.cells rz 73)) 9 (LS.map Value.string).toArray
  simp only [World.size_alloc] at K2 K3
  have hz := V.sz
  refine ⟨⟨by omega, Nat.le_refl _, by omega, by simp [W0], K3, V.later B3, Below.refl _ _⟩, K2.alloc _, (K1.alloc _).alloc _, B3⟩
theorem Fr.c {m : Int} {u : TypeId} {x : Value} {n₀ R gL : Nat} {LS : Array Value} {w0 w : World} (h : Fr m u x n₀ R gL LS w0 w) (i : Nat) (s : ByteArray) (hi : LS[i]? = some (.string s)) : w.cell? ⟨gL, i, none⟩ = some (.string s) := by rw [h.blk.cell, hi]
set_option maxRecDepth 100000 in
set_option maxHeartbeats 2000000 in
theorem parse3 (m : Int) (u : TypeId) (x : Value) (w : World) (V : Vr m u x w) :
    Calls Tryz.prog 16 #[.string (tx l7)] w fun e w' => e = .returned (.tuple #[.agg tz, .int .i64 0, .int .i64 4]) ∧ Below w.heap.size w w' := by
  have V1 := V.later (((Below.refl w.heap.size w).alloc (Nat.le_refl _) (.cells tz 26)).alloc (by simp) (.cells rz 73))
  obtain ⟨g, hg⟩ : ∃ g, w.heap.size = g := ⟨_, rfl⟩
  have SP := Lib.hid (split_any l7 (by decide) 0 _ count_ex3 split_ex3 m _ V1.mx (g + 2) (by simp [hg]))
  obtain ⟨F, HR, HZ, HB⟩ := start V [tx l7] g hg
  have L7 := fun w F HR => Lib.hid (line7 (m := m) (u := u) (x := x) (n₀ := g + 1) (R := g + 1) (gL := g + 2) (LS := ([tx l7].map Value.string).toArray) (w0 := W0 w [tx l7]) (w := W0 w [tx l7]) (k := 0) (st := 0) (sy := 0) (a := .slice none 0 0) (v := .slice none 0 0) (r := .slice none 0 0) (nm := .slice none 0 0) F HR)
  have L7 := Lib.hid (L7 w F HR)
  have c0 := F.blk.cell 0
  have hz : (tx l7).size = 0 := rfl
  have hl : (List.map Value.string [tx l7]).toArray[0]? = some (.string (tx l7)) := rfl
  rw [hl] at c0
  obtain ⟨w3, hw3⟩ : ∃ w3, W0 w [tx l7] = w3 := ⟨_, rfl⟩
  have hwx := Lib.hid (show (((w.alloc (.cells tz 26)).alloc (.cells rz 73)).alloc (.cells ([tx l7].map Value.string).toArray 9)) = w3 from hw3)
  rw [hw3] at L7 F HR HZ HB c0
  have FH := Lib.hid F
  have HZH := Lib.hid HZ
  have HBH := Lib.hid HB
  clear F HR HZ HB hl hw3 V1 V
  rw [hwx.out] at SP
  generalize tx l7 = s at SP hz L7 c0 FH ⊢
  unfold rz tz at SP
  go_enter Tryz.func16, Tryz.ntmps16
  go_wp2_with (go_at_call 34; (with_reducible refine SP.out.mono ?_); rintro e w1 ⟨rfl, rfl⟩)
  refine wp_loop_rounds 2 ?_
  rw [rounds_succ]
  go_wp2_with (go_at_call 35; (with_reducible refine L7.out.out.mono ?_); rintro e w4 ⟨rfl, F4, HR4, G4⟩; have F4 := Lib.hid F4; have HR4 := Lib.hid HR4; have HZ4 := Lib.hid (HZH.out.below (F4.out.bel) (by omega)); have k0 := HR4.out.cell 0; simp only [rb] at k0; have z0 := HZ4.out.cell 0; have z1 := HZ4.out.cell 1; have z2 := HZ4.out.cell 2; have z3 := HZ4.out.cell 3; have z4 := HZ4.out.cell 4; have y0 := HZ4.out.frozen 0; have y1 := HZ4.out.frozen 1; have y2 := HZ4.out.frozen 2; have y3 := HZ4.out.frozen 3; have y4 := HZ4.out.frozen 4; simp only [tz] at z0 z1 z2 z3 z4)
  rw [rounds_succ]
  go_wp2
  have HZ5 : Blk (((((w4.setCell ⟨g, 0, none⟩ (.int .i64 0)).setCell ⟨g, 1, none⟩ (.int .i64 0)).setCell ⟨g, 2, none⟩ (.slice none 0 0)).setCell ⟨g, 3, none⟩ (.slice none 0 0)).setCell ⟨g, 4, none⟩ (.slice none 0 0)) g 26 tz := ((((HZ4.out.set_ 0 _).set_ 1 _).set_ 2 _).set_ 3 _).set_ 4 _
  have B5 := ((((((HBH.out.trans (F4.out.bel.mono (Nat.le_succ g))).setCell (p := ⟨g, 0, none⟩) (Nat.le_refl _) (.int .i64 0)).setCell (p := ⟨g, 1, none⟩) (Nat.le_refl _) (.int .i64 0)).setCell (p := ⟨g, 2, none⟩) (Nat.le_refl _) (.slice none 0 0)).setCell (p := ⟨g, 3, none⟩) (Nat.le_refl _) (.slice none 0 0)).setCell (p := ⟨g, 4, none⟩) (Nat.le_refl _) (.slice none 0 0))
  have e0 := HZ5.cell 0
  have e1 := HZ5.cell 1
  have e2 := HZ5.cell 2
  have e3 := HZ5.cell 3
  have e4 := HZ5.cell 4
  simp only [tz] at e0 e1 e2 e3 e4
  generalize (((((w4.setCell ⟨g, 0, none⟩ (.int .i64 0)).setCell ⟨g, 1, none⟩ (.int .i64 0)).setCell ⟨g, 2, none⟩ (.slice none 0 0)).setCell ⟨g, 3, none⟩ (.slice none 0 0)).setCell ⟨g, 4, none⟩ (.slice none 0 0)) = w5 at *
  exact bodyPost_ret (v := .tuple #[.agg tz, .int .i64 0, .int .i64 4]) (by simp [results, Tryz.results16, go_sem, tz, e0, e1, e2, e3, e4]) rfl ⟨rfl, by rw [hg]; exact B5⟩
set_option maxRecDepth 100000 in
set_option maxHeartbeats 2000000 in
theorem parse2 (m : Int) (u : TypeId) (x : Value) (w : World) (V : Vr m u x w) :
    Calls Tryz.prog 16 #[.string (tx ex2)] w fun e w' => e = .returned (.tuple #[.agg tz, .int .i64 3, .int .i64 2]) ∧ Below w.heap.size w w' := by
  have V1 := V.later (((Below.refl w.heap.size w).alloc (Nat.le_refl _) (.cells tz 26)).alloc (by simp) (.cells rz 73))
  obtain ⟨g, hg⟩ : ∃ g, w.heap.size = g := ⟨_, rfl⟩
  have SP := Lib.hid (split_any ex2 (by decide) 2 _ count_ex2 split_ex2 m _ V1.mx (g + 2) (by simp [hg]))
  obtain ⟨F, HR, HZ, HB⟩ := start V [tx l1, tx h2, tx h3] g hg
  have L1 := fun w1 F HR => Lib.hid (line1 (m := m) (u := u) (x := x) (n₀ := g + 1) (R := g + 1) (gL := g + 2) (LS := ([tx l1, tx h2, tx h3].map Value.string).toArray) (w0 := W0 w [tx l1, tx h2, tx h3]) (w := w1) F HR)
  have L2 := fun w1 F HR => Lib.hid (lineh2 (m := m) (u := u) (x := x) (n₀ := g + 1) (R := g + 1) (gL := g + 2) (LS := ([tx l1, tx h2, tx h3].map Value.string).toArray) (w0 := W0 w [tx l1, tx h2, tx h3]) (w := w1) F HR)
  have L3 := fun w1 A c F HR HQ => Lib.hid (lineh3 (m := m) (u := u) (x := x) (n₀ := g + 1) (R := g + 1) (gL := g + 2) (LS := ([tx l1, tx h2, tx h3].map Value.string).toArray) (w0 := W0 w [tx l1, tx h2, tx h3]) (w := w1) (A := A) (c := c) F HR HQ)
  have C0 := fun w1 F => Fr.c (m := m) (u := u) (x := x) (n₀ := g + 1) (R := g + 1) (gL := g + 2) (w0 := W0 w [tx l1, tx h2, tx h3]) (w := w1) (LS := ([tx l1, tx h2, tx h3].map Value.string).toArray) F 0 (tx l1) rfl
  have C1 := fun w1 F => Fr.c (m := m) (u := u) (x := x) (n₀ := g + 1) (R := g + 1) (gL := g + 2) (w0 := W0 w [tx l1, tx h2, tx h3]) (w := w1) (LS := ([tx l1, tx h2, tx h3].map Value.string).toArray) F 1 (tx h2) rfl
  have C2 := fun w1 F => Fr.c (m := m) (u := u) (x := x) (n₀ := g + 1) (R := g + 1) (gL := g + 2) (w0 := W0 w [tx l1, tx h2, tx h3]) (w := w1) (LS := ([tx l1, tx h2, tx h3].map Value.string).toArray) F 2 (tx h3) rfl
  have hz : ((tx ex2).size : Int) ≤ 65536 := by decide
  obtain ⟨w3, hw3⟩ : ∃ w3, W0 w [tx l1, tx h2, tx h3] = w3 := ⟨_, rfl⟩
  have hwx := Lib.hid (show (((w.alloc (.cells tz 26)).alloc (.cells rz 73)).alloc (.cells ([tx l1, tx h2, tx h3].map Value.string).toArray 9)) = w3 from hw3)
  rw [hw3] at F HR HZ HB
  simp only [hw3] at L1 L2 L3 C0 C1 C2
  have C0 := Lib.hid C0
  have C1 := Lib.hid C1
  have C2 := Lib.hid C2
  have FH := Lib.hid F
  have HZH := Lib.hid HZ
  have HBH := Lib.hid HB
  have HRH := Lib.hid HR
  have c0 := C0.out _ F
  clear F HR HZ HB hw3 V1 V
  rw [hwx.out] at SP
  generalize tx ex2 = s at SP hz ⊢
  generalize tx l1 = s1 at *
  generalize tx h2 = s2 at *
  generalize tx h3 = s3 at *
  unfold rz tz at SP
  go_enter Tryz.func16, Tryz.ntmps16
  go_wp2_with (go_at_call 34; (with_reducible refine SP.out.mono ?_); rintro e w1 ⟨rfl, rfl⟩)
  refine wp_loop_rounds 3 ?_
  rw [rounds_succ]
  go_wp2_with (go_at_call 35; (with_reducible refine (L1 _ FH.out HRH.out).out.mono ?_); rintro e w4 ⟨rfl, F4, HR4⟩; have F4 := Lib.hid F4; have HR4 := Lib.hid HR4; have c1 := C1.out _ F4.out)
  rw [rounds_succ]
  clear c0
  go_wp2_with (go_at_call 35; (with_reducible refine (L2 _ F4.out HR4.out).out.mono ?_); rintro e w5 ⟨A, c, rfl, F5, HR5, HQ5⟩; have F5 := Lib.hid F5; have HR5 := Lib.hid HR5; have HQ5 := Lib.hid HQ5; have c2 := C2.out _ F5.out)
  rw [rounds_succ]
  clear c1
  go_wp2_with (go_at_call 35; (with_reducible refine (L3 _ A c F5.out HR5.out HQ5.out).out.mono ?_); rintro e w6 ⟨rfl, F6⟩; have F6 := Lib.hid F6; have HZ4 := Lib.hid (HZH.out.below (F6.out.bel) (by omega)); have z0 := HZ4.out.cell 0; have z1 := HZ4.out.cell 1; have z2 := HZ4.out.cell 2; have z3 := HZ4.out.cell 3; have z4 := HZ4.out.cell 4; have y0 := HZ4.out.frozen 0; have y1 := HZ4.out.frozen 1; have y2 := HZ4.out.frozen 2; have y3 := HZ4.out.frozen 3; have y4 := HZ4.out.frozen 4; simp only [tz] at z0 z1 z2 z3 z4)
  have HZ5 : Blk (((((w6.setCell ⟨g, 0, none⟩ (.int .i64 0)).setCell ⟨g, 1, none⟩ (.int .i64 0)).setCell ⟨g, 2, none⟩ (.slice none 0 0)).setCell ⟨g, 3, none⟩ (.slice none 0 0)).setCell ⟨g, 4, none⟩ (.slice none 0 0)) g 26 tz := ((((HZ4.out.set_ 0 _).set_ 1 _).set_ 2 _).set_ 3 _).set_ 4 _
  have B5 := ((((((HBH.out.trans (F6.out.bel.mono (Nat.le_succ g))).setCell (p := ⟨g, 0, none⟩) (Nat.le_refl _) (.int .i64 0)).setCell (p := ⟨g, 1, none⟩) (Nat.le_refl _) (.int .i64 0)).setCell (p := ⟨g, 2, none⟩) (Nat.le_refl _) (.slice none 0 0)).setCell (p := ⟨g, 3, none⟩) (Nat.le_refl _) (.slice none 0 0)).setCell (p := ⟨g, 4, none⟩) (Nat.le_refl _) (.slice none 0 0))
  have e0 := HZ5.cell 0
  have e1 := HZ5.cell 1
  have e2 := HZ5.cell 2
  have e3 := HZ5.cell 3
  have e4 := HZ5.cell 4
  simp only [tz] at e0 e1 e2 e3 e4
  generalize (((((w6.setCell ⟨g, 0, none⟩ (.int .i64 0)).setCell ⟨g, 1, none⟩ (.int .i64 0)).setCell ⟨g, 2, none⟩ (.slice none 0 0)).setCell ⟨g, 3, none⟩ (.slice none 0 0)).setCell ⟨g, 4, none⟩ (.slice none 0 0)) = w7 at *
  exact bodyPost_ret (v := .tuple #[.agg tz, .int .i64 3, .int .i64 2]) (by simp [results, Tryz.results16, go_sem, tz, e0, e1, e2, e3, e4]) rfl ⟨rfl, by rw [hg]; exact B5⟩
end Go.Proofs.YtbcihgimflljoaaGreatDoor
namespace Go.Proofs.YtbcihgimflljoaaGreatDoor
open Go.RowKit Go.Shelf

/-- what the first example has made -/
structure Made (R H : Nat) (X : Va) (Y Z : Ra) (w : World) : Prop where
  hH : R < H
  hood : Blk w H 35 ln3
  var : X.at_ w
  vgood : X.good R
  i1 : Blk w Y.gI 3 Y.uI
  i2 : Blk w Z.gI 3 Z.uI
  rows : w.ownsRow (R + 1) 40 2 (.slice (some ⟨Z.gW, 0, none⟩) 2 Z.cW) 2 [.slice (some ⟨Y.gI, 0, none⟩) 3 Y.cI, .int .i64 1, .slice (some ⟨Z.gI, 0, none⟩) 3 Z.cI, .int .i64 0]
  ygood : Y.good R 1 (-1) 0
  zgood : Z.good R (-1) 1 (-1)
theorem Made.one {R H b : Nat} {X : Va} {Y Z : Ra} {w w' : World} (h : Made R H X Y Z w) (hg : Grw w w' (One b)) (hb : b ≤ R) : Made R H X Y Z w' := by
  have g2 : w.grownBy w' (some b) := ⟨hg.os, hg.tape, hg.output, hg.size, fun k hk e => hg.block k hk (fun e' => e (by cases e'; rfl))⟩
  have n : ∀ k, R < k → ¬ One b k := fun k hk e => by have : k = b := e; omega
  have hX := h.vgood.1
  have hY := h.ygood.1
  have hZ := h.zgood.1
  have hH := h.hH
  exact ⟨hH, (hg.block _ h.hood.lt (n _ hH)).trans h.hood, Va.keep h.var hg (n _ hX.1) (n _ hX.2.1) (n _ hX.2.2), h.vgood, (hg.block _ h.i1.lt (n _ hY.1)).trans h.i1, (hg.block _ h.i2.lt (n _ hZ.1)).trans h.i2, h.rows.kept g2 (.inr fun e => by
    simp only [Value.ownBlock] at e
    injection e with e
    have := hZ.2
    omega), h.ygood, h.zgood⟩
theorem Made.set {R H b i : Nat} {X : Va} {Y Z : Ra} {w : World} (h : Made R H X Y Z w) (hb : b ≤ R) (v : Value) : Made R H X Y Z (w.setCell ⟨b, i, none⟩ v) := h.one (grw_one (grown_set w b i v)) hb
/-- the table of the first example -/
def t1 (H : Nat) (X : Va) (Z : Ra) : Array Value := #[.int .i64 2, .int .i64 0, .slice (some ⟨H, 0, none⟩) 3 3, .slice (some ⟨X.gV, 0, none⟩) 1 X.cV, .slice (some ⟨Z.gW, 0, none⟩) 2 Z.cW]
set_option maxRecDepth 100000 in
set_option maxHeartbeats 4000000 in
theorem parse1 (m : Int) (u : TypeId) (x : Value) (w : World) (V : Vr m u x w) :
    Calls Tryz.prog 16 #[.string (tx ex1)] w fun e w' => ∃ R H X Y Z, e = .returned (.tuple #[.agg (t1 H X Z), .int .i64 0, .int .i64 0]) ∧ w.heap.size < R ∧ Made R H X Y Z w' ∧ Below w.heap.size w w' := by
  have V1 := V.later (((Below.refl w.heap.size w).alloc (Nat.le_refl _) (.cells tz 26)).alloc (by simp) (.cells rz 73))
  obtain ⟨g, hg⟩ : ∃ g, w.heap.size = g := ⟨_, rfl⟩
  have SP := Lib.hid (split_any ex1 (by decide) 6 _ count_ex1 split_ex1 m _ V1.mx (g + 2) (by simp [hg]))
  obtain ⟨F, HR, HZ, HB⟩ := start V [tx l1, tx l2, tx l3, tx l4, tx l5, tx l6, tx l7] g hg
  have L1 := fun w1 F HR => Lib.hid (line1 (m := m) (u := u) (x := x) (n₀ := g + 1) (R := g + 1) (gL := g + 2) (LS := ([tx l1, tx l2, tx l3, tx l4, tx l5, tx l6, tx l7].map Value.string).toArray) (w0 := W0 w [tx l1, tx l2, tx l3, tx l4, tx l5, tx l6, tx l7]) (w := w1)  F HR)
  have L2 := fun w1 F HR => Lib.hid (line2 (m := m) (u := u) (x := x) (n₀ := g + 1) (R := g + 1) (gL := g + 2) (LS := ([tx l1, tx l2, tx l3, tx l4, tx l5, tx l6, tx l7].map Value.string).toArray) (w0 := W0 w [tx l1, tx l2, tx l3, tx l4, tx l5, tx l6, tx l7]) (w := w1)  F HR)
  have L3 := fun w1 H F HR HH hH => Lib.hid (line3 (m := m) (u := u) (x := x) (n₀ := g + 1) (R := g + 1) (gL := g + 2) (LS := ([tx l1, tx l2, tx l3, tx l4, tx l5, tx l6, tx l7].map Value.string).toArray) (w0 := W0 w [tx l1, tx l2, tx l3, tx l4, tx l5, tx l6, tx l7]) (w := w1) (H := H) F HR HH hH)
  have L4 := fun w1 H F HR HH hH => Lib.hid (line4 (m := m) (u := u) (x := x) (n₀ := g + 1) (R := g + 1) (gL := g + 2) (LS := ([tx l1, tx l2, tx l3, tx l4, tx l5, tx l6, tx l7].map Value.string).toArray) (w0 := W0 w [tx l1, tx l2, tx l3, tx l4, tx l5, tx l6, tx l7]) (w := w1) (H := H) F HR HH hH)
  have L5 := fun w1 H X F HR HH hH hX hG => Lib.hid (line5 (m := m) (u := u) (x := x) (n₀ := g + 1) (R := g + 1) (gL := g + 2) (LS := ([tx l1, tx l2, tx l3, tx l4, tx l5, tx l6, tx l7].map Value.string).toArray) (w0 := W0 w [tx l1, tx l2, tx l3, tx l4, tx l5, tx l6, tx l7]) (w := w1) (H := H) (X := X) F HR HH hH hX hG)
  have L6 := fun w1 H X Y F HR HH hH hX hG hI hW hY => Lib.hid (line6 (m := m) (u := u) (x := x) (n₀ := g + 1) (R := g + 1) (gL := g + 2) (LS := ([tx l1, tx l2, tx l3, tx l4, tx l5, tx l6, tx l7].map Value.string).toArray) (w0 := W0 w [tx l1, tx l2, tx l3, tx l4, tx l5, tx l6, tx l7]) (w := w1) (H := H) (X := X) (Y := Y) F HR HH hH hX hG hI hW hY)
  have L7 := fun w1 a v r nm F HR => Lib.hid (line7 (m := m) (u := u) (x := x) (n₀ := g + 1) (R := g + 1) (gL := g + 2) (LS := ([tx l1, tx l2, tx l3, tx l4, tx l5, tx l6, tx l7].map Value.string).toArray) (w0 := W0 w [tx l1, tx l2, tx l3, tx l4, tx l5, tx l6, tx l7]) (w := w1) (k := 6) (st := 2) (sy := 0) (a := a) (v := v) (r := r) (nm := nm) F HR)
  have C0 := fun w1 F => Fr.c (m := m) (u := u) (x := x) (n₀ := g + 1) (R := g + 1) (gL := g + 2) (LS := ([tx l1, tx l2, tx l3, tx l4, tx l5, tx l6, tx l7].map Value.string).toArray) (w0 := W0 w [tx l1, tx l2, tx l3, tx l4, tx l5, tx l6, tx l7]) (w := w1) F 0 (tx l1) rfl
  have C1 := fun w1 F => Fr.c (m := m) (u := u) (x := x) (n₀ := g + 1) (R := g + 1) (gL := g + 2) (LS := ([tx l1, tx l2, tx l3, tx l4, tx l5, tx l6, tx l7].map Value.string).toArray) (w0 := W0 w [tx l1, tx l2, tx l3, tx l4, tx l5, tx l6, tx l7]) (w := w1) F 1 (tx l2) rfl
  have C2 := fun w1 F => Fr.c (m := m) (u := u) (x := x) (n₀ := g + 1) (R := g + 1) (gL := g + 2) (LS := ([tx l1, tx l2, tx l3, tx l4, tx l5, tx l6, tx l7].map Value.string).toArray) (w0 := W0 w [tx l1, tx l2, tx l3, tx l4, tx l5, tx l6, tx l7]) (w := w1) F 2 (tx l3) rfl
  have C3 := fun w1 F => Fr.c (m := m) (u := u) (x := x) (n₀ := g + 1) (R := g + 1) (gL := g + 2) (LS := ([tx l1, tx l2, tx l3, tx l4, tx l5, tx l6, tx l7].map Value.string).toArray) (w0 := W0 w [tx l1, tx l2, tx l3, tx l4, tx l5, tx l6, tx l7]) (w := w1) F 3 (tx l4) rfl
  have C4 := fun w1 F => Fr.c (m := m) (u := u) (x := x) (n₀ := g + 1) (R := g + 1) (gL := g + 2) (LS := ([tx l1, tx l2, tx l3, tx l4, tx l5, tx l6, tx l7].map Value.string).toArray) (w0 := W0 w [tx l1, tx l2, tx l3, tx l4, tx l5, tx l6, tx l7]) (w := w1) F 4 (tx l5) rfl
  have C5 := fun w1 F => Fr.c (m := m) (u := u) (x := x) (n₀ := g + 1) (R := g + 1) (gL := g + 2) (LS := ([tx l1, tx l2, tx l3, tx l4, tx l5, tx l6, tx l7].map Value.string).toArray) (w0 := W0 w [tx l1, tx l2, tx l3, tx l4, tx l5, tx l6, tx l7]) (w := w1) F 5 (tx l6) rfl
  have C6 := fun w1 F => Fr.c (m := m) (u := u) (x := x) (n₀ := g + 1) (R := g + 1) (gL := g + 2) (LS := ([tx l1, tx l2, tx l3, tx l4, tx l5, tx l6, tx l7].map Value.string).toArray) (w0 := W0 w [tx l1, tx l2, tx l3, tx l4, tx l5, tx l6, tx l7]) (w := w1) F 6 (tx l7) rfl
  have hz : ((tx ex1).size : Int) ≤ 65536 := by decide
  obtain ⟨w3, hw3⟩ : ∃ w3, W0 w [tx l1, tx l2, tx l3, tx l4, tx l5, tx l6, tx l7] = w3 := ⟨_, rfl⟩
  have hwx := Lib.hid (show (((w.alloc (.cells tz 26)).alloc (.cells rz 73)).alloc (.cells ([tx l1, tx l2, tx l3, tx l4, tx l5, tx l6, tx l7].map Value.string).toArray 9)) = w3 from hw3)
  rw [hw3] at F HR HZ HB
  simp only [hw3] at L1 L2 L3 L4 L5 L6 L7 C0 C1 C2 C3 C4 C5 C6
  have C0 := Lib.hid C0
  have C1 := Lib.hid C1
  have C2 := Lib.hid C2
  have C3 := Lib.hid C3
  have C4 := Lib.hid C4
  have C5 := Lib.hid C5
  have C6 := Lib.hid C6
  have FH := Lib.hid F
  have HZH := Lib.hid HZ
  have HBH := Lib.hid HB
  have HRH := Lib.hid HR
  have c0 := C0.out _ F
  clear F HR HZ HB hw3 V1 V
  rw [hwx.out] at SP
  generalize tx ex1 = s at SP hz ⊢
  generalize tx l1 = s1 at *
  generalize tx l2 = s2 at *
  generalize tx l3 = s3 at *
  generalize tx l4 = s4 at *
  generalize tx l5 = s5 at *
  generalize tx l6 = s6 at *
  generalize tx l7 = s7 at *
  unfold rz tz at SP
  go_enter Tryz.func16, Tryz.ntmps16
  go_wp2_with (go_at_call 34; (with_reducible refine SP.out.mono ?_); rintro e w1 ⟨rfl, rfl⟩)
  refine wp_loop_rounds 8 ?_
  rw [rounds_succ]
  go_wp2_with (go_at_call 35; (with_reducible refine (L1 _ FH.out HRH.out).out.mono ?_); rintro e v1 ⟨rfl, F1, A1⟩; have F1 := Lib.hid F1; have A1 := Lib.hid A1; have c1 := C1.out _ F1.out)
  rw [rounds_succ]
  clear c0
  go_wp2_with (go_at_call 35; (with_reducible refine (L2 _ F1.out A1.out).out.mono ?_); rintro e v2 ⟨H, rfl, F2, A2, B2, hH⟩; have F2 := Lib.hid F2; have A2 := Lib.hid A2; have B2 := Lib.hid B2; have hH := Lib.hid hH; have c2 := C2.out _ F2.out)
  rw [rounds_succ]
  clear c1
  go_wp2_with (go_at_call 35; (with_reducible refine (L3 _ H F2.out A2.out B2.out hH.out).out.mono ?_); rintro e v3 ⟨rfl, F3, A3, B3⟩; have F3 := Lib.hid F3; have A3 := Lib.hid A3; have B3 := Lib.hid B3; have c3 := C3.out _ F3.out)
  rw [rounds_succ]
  clear c2
  go_wp2_with (go_at_call 35; (with_reducible refine (L4 _ H F3.out A3.out B3.out hH.out).out.mono ?_); rintro e v4 ⟨X, rfl, F4, A4, B4, X4, hG⟩; have F4 := Lib.hid F4; have A4 := Lib.hid A4; have B4 := Lib.hid B4; have X4 := Lib.hid X4; have hG := Lib.hid hG; have c4 := C4.out _ F4.out)
  rw [rounds_succ]
  clear c3
  go_wp2_with (go_at_call 35; (with_reducible refine (L5 _ H X F4.out A4.out B4.out hH.out X4.out hG.out).out.mono ?_); rintro e v5 ⟨Y, rfl, F5, A5, B5, X5, I5, W5, hY⟩; have F5 := Lib.hid F5; have A5 := Lib.hid A5; have B5 := Lib.hid B5; have X5 := Lib.hid X5; have I5 := Lib.hid I5; have W5 := Lib.hid W5; have hY := Lib.hid hY; have c5 := C5.out _ F5.out)
  rw [rounds_succ]
  clear c4
  go_wp2_with (go_at_call 35; (with_reducible refine (L6 _ H X Y F5.out A5.out B5.out hH.out X5.out hG.out I5.out W5.out hY.out).out.mono ?_); rintro e v6 ⟨Z, rfl, F6, A6, B6, X6, I6, J6, W6, hZ⟩; have F6 := Lib.hid F6; have A6 := Lib.hid A6; have B6 := Lib.hid B6; have X6 := Lib.hid X6; have I6 := Lib.hid I6; have J6 := Lib.hid J6; have W6 := Lib.hid W6; have hZ := Lib.hid hZ; have c6 := C6.out _ F6.out)
  rw [rounds_succ]
  clear c5
  go_wp2_with (go_at_call 35; (with_reducible refine (L7 _ _ _ _ _ F6.out A6.out).out.mono ?_); rintro e v7 ⟨rfl, F7, A7, G7⟩; have F7 := Lib.hid F7; have A7 := Lib.hid A7; have G7 := Lib.hid G7; have HZ4 := Lib.hid (HZH.out.below (F7.out.bel) (by omega)); have z0 := HZ4.out.cell 0; have z1 := HZ4.out.cell 1; have z2 := HZ4.out.cell 2; have z3 := HZ4.out.cell 3; have z4 := HZ4.out.cell 4; have y0 := HZ4.out.frozen 0; have y1 := HZ4.out.frozen 1; have y2 := HZ4.out.frozen 2; have y3 := HZ4.out.frozen 3; have y4 := HZ4.out.frozen 4; have k0 := A7.out.cell 0; have k1 := A7.out.cell 1; have k2 := A7.out.cell 2; have k3 := A7.out.cell 3; have k4 := A7.out.cell 4; have k5 := A7.out.cell 5; simp only [tz] at z0 z1 z2 z3 z4; simp only [rb] at k0 k1 k2 k3 k4 k5)
  rw [rounds_succ]
  clear c6
  go_wp2
  have M7 : Made (g + 1) H X Y Z v7 := Made.one (b := g + 1) ⟨hH.out, B6.out, X6.out, hG.out, I6.out, J6.out, W6.out, hY.out, hZ.out⟩ G7.out (Nat.le_refl _)
  have M8 := ((((M7.set (b := g) (i := 0) (Nat.le_succ g) (.int .i64 2)).set (b := g) (i := 1) (Nat.le_succ g) (.int .i64 0)).set (b := g) (i := 2) (Nat.le_succ g) (.slice (some ⟨H, 0, none⟩) 3 3)).set (b := g) (i := 3) (Nat.le_succ g) (.slice (some ⟨X.gV, 0, none⟩) 1 X.cV)).set (b := g) (i := 4) (Nat.le_succ g) (.slice (some ⟨Z.gW, 0, none⟩) 2 Z.cW)
  have HZ5 : Blk (((((v7.setCell ⟨g, 0, none⟩ (.int .i64 2)).setCell ⟨g, 1, none⟩ (.int .i64 0)).setCell ⟨g, 2, none⟩ (.slice (some ⟨H, 0, none⟩) 3 3)).setCell ⟨g, 3, none⟩ (.slice (some ⟨X.gV, 0, none⟩) 1 X.cV)).setCell ⟨g, 4, none⟩ (.slice (some ⟨Z.gW, 0, none⟩) 2 Z.cW)) g 26 (t1 H X Z) := ((((HZ4.out.set_ 0 _).set_ 1 _).set_ 2 _).set_ 3 _).set_ 4 _
  have B8 := ((((((HBH.out.trans (F7.out.bel.mono (Nat.le_succ g))).setCell (p := ⟨g, 0, none⟩) (Nat.le_refl _) (.int .i64 2)).setCell (p := ⟨g, 1, none⟩) (Nat.le_refl _) (.int .i64 0)).setCell (p := ⟨g, 2, none⟩) (Nat.le_refl _) (.slice (some ⟨H, 0, none⟩) 3 3)).setCell (p := ⟨g, 3, none⟩) (Nat.le_refl _) (.slice (some ⟨X.gV, 0, none⟩) 1 X.cV)).setCell (p := ⟨g, 4, none⟩) (Nat.le_refl _) (.slice (some ⟨Z.gW, 0, none⟩) 2 Z.cW))
  have e0 := HZ5.cell 0
  have e1 := HZ5.cell 1
  have e2 := HZ5.cell 2
  have e3 := HZ5.cell 3
  have e4 := HZ5.cell 4
  simp only [t1] at e0 e1 e2 e3 e4
  generalize (((((v7.setCell ⟨g, 0, none⟩ (.int .i64 2)).setCell ⟨g, 1, none⟩ (.int .i64 0)).setCell ⟨g, 2, none⟩ (.slice (some ⟨H, 0, none⟩) 3 3)).setCell ⟨g, 3, none⟩ (.slice (some ⟨X.gV, 0, none⟩) 1 X.cV)).setCell ⟨g, 4, none⟩ (.slice (some ⟨Z.gW, 0, none⟩) 2 Z.cW)) = w7 at *
  exact bodyPost_ret (v := .tuple #[.agg (t1 H X Z), .int .i64 0, .int .i64 0]) (by simp [results, Tryz.results16, go_sem, t1, e0, e1, e2, e3, e4]) rfl ⟨g + 1, H, X, Y, Z, rfl, by omega, M8, by rw [hg]; exact B8⟩
end Go.Proofs.YtbcihgimflljoaaGreatDoor
