/- The lines of the examples: their words. -/
/- The lines of the examples, one after another. -/
import Derived.Test.YtbcihgimflljoaaGreatDoorWrd
import Derived.Test.YtbcihgimflljoaaGreatDoorRro
namespace Go.Proofs.YtbcihgimflljoaaGreatDoor
open Go.RowKit Go.Shelf
set_option maxRecDepth 100000

/-- the lines of the examples -/
def l1 : List UInt8 := [115, 116, 97, 116, 101, 115, 32, 50]
def l2 : List UInt8 := [104, 111, 111, 100, 32, 108, 105, 110, 101]
def l3 : List UInt8 := [115, 121, 109, 109, 101, 116, 114, 121, 32, 110, 111, 110, 101]
def l4 : List UInt8 := [118, 97, 114, 32, 97, 32, 48, 32, 49]
def l5 : List UInt8 := [49, 32, 97, 32, 48, 32, 45, 62, 32, 49]
def l6 : List UInt8 := [97, 32, 49, 32, 97, 32, 45, 62, 32, 48]
def l7 : List UInt8 := []
def h2 : List UInt8 := [104, 111, 111, 100, 32, 104, 101, 120]
def h3 : List UInt8 := [115, 121, 109, 109, 101, 116, 114, 121, 32, 114, 111, 116, 97, 116, 101]
theorem ln_l1 : Ln l1 2 := ⟨by decide +kernel, by decide +kernel, by decide +kernel, by decide +kernel, by decide +kernel, by decide +kernel, by decide +kernel⟩
theorem wl_l1 : wl l1 2 = [tx [115, 116, 97, 116, 101, 115], tx [50]] := by decide +kernel
theorem ln_l2 : Ln l2 2 := ⟨by decide +kernel, by decide +kernel, by decide +kernel, by decide +kernel, by decide +kernel, by decide +kernel, by decide +kernel⟩
theorem wl_l2 : wl l2 2 = [tx [104, 111, 111, 100], tx [108, 105, 110, 101]] := by decide +kernel
theorem ln_l3 : Ln l3 2 := ⟨by decide +kernel, by decide +kernel, by decide +kernel, by decide +kernel, by decide +kernel, by decide +kernel, by decide +kernel⟩
theorem wl_l3 : wl l3 2 = [tx [115, 121, 109, 109, 101, 116, 114, 121], tx [110, 111, 110, 101]] := by decide +kernel
theorem ln_l4 : Ln l4 4 := ⟨by decide +kernel, by decide +kernel, by decide +kernel, by decide +kernel, by decide +kernel, by decide +kernel, by decide +kernel⟩
theorem wl_l4 : wl l4 4 = [tx [118, 97, 114], tx [97], tx [48], tx [49]] := by decide +kernel
theorem ln_l5 : Ln l5 5 := ⟨by decide +kernel, by decide +kernel, by decide +kernel, by decide +kernel, by decide +kernel, by decide +kernel, by decide +kernel⟩
theorem wl_l5 : wl l5 5 = [tx [49], tx [97], tx [48], tx [45, 62], tx [49]] := by decide +kernel
theorem ln_l6 : Ln l6 5 := ⟨by decide +kernel, by decide +kernel, by decide +kernel, by decide +kernel, by decide +kernel, by decide +kernel, by decide +kernel⟩
theorem wl_l6 : wl l6 5 = [tx [97], tx [49], tx [97], tx [45, 62], tx [48]] := by decide +kernel
theorem ln_l7 : Ln l7 0 := ⟨by decide +kernel, by decide +kernel, by decide +kernel, by decide +kernel, by decide +kernel, by decide +kernel, by decide +kernel⟩
theorem wl_l7 : wl l7 0 = [] := by decide +kernel
theorem ln_h2 : Ln h2 2 := ⟨by decide +kernel, by decide +kernel, by decide +kernel, by decide +kernel, by decide +kernel, by decide +kernel, by decide +kernel⟩
theorem wl_h2 : wl h2 2 = [tx [104, 111, 111, 100], tx [104, 101, 120]] := by decide +kernel
theorem ln_h3 : Ln h3 2 := ⟨by decide +kernel, by decide +kernel, by decide +kernel, by decide +kernel, by decide +kernel, by decide +kernel, by decide +kernel⟩
theorem wl_h3 : wl h3 2 = [tx [115, 121, 109, 109, 101, 116, 114, 121], tx [114, 111, 116, 97, 116, 101]] := by decide +kernel
/-- the texts of the examples -/
def ex1 : List UInt8 := l1 ++ [10] ++ l2 ++ [10] ++ l3 ++ [10] ++ l4 ++ [10] ++ l5 ++ [10] ++ l6 ++ [10]
def ex2 : List UInt8 := l1 ++ [10] ++ h2 ++ [10] ++ h3
theorem split_ex1 : Lib.splitB ⟨#[10]⟩ 0 (Lib.countB (tx ex1) ⟨#[10]⟩) (tx ex1) = [tx l1, tx l2, tx l3, tx l4, tx l5, tx l6, tx l7] := by decide +kernel
theorem count_ex1 : Lib.countB (tx ex1) ⟨#[10]⟩ = 6 := by decide +kernel
theorem split_ex2 : Lib.splitB ⟨#[10]⟩ 0 (Lib.countB (tx ex2) ⟨#[10]⟩) (tx ex2) = [tx l1, tx h2, tx h3] := by decide +kernel
theorem count_ex2 : Lib.countB (tx ex2) ⟨#[10]⟩ = 2 := by decide +kernel
theorem split_ex3 : Lib.splitB ⟨#[10]⟩ 0 (Lib.countB (tx l7) ⟨#[10]⟩) (tx l7) = [tx l7] := by decide +kernel
theorem count_ex3 : Lib.countB (tx l7) ⟨#[10]⟩ = 0 := by decide +kernel
end Go.Proofs.YtbcihgimflljoaaGreatDoor
namespace Go.Proofs.YtbcihgimflljoaaGreatDoor
open Go.RowKit Go.Shelf

/-- what holds between two lines -/
structure Fr (m : Int) (u : TypeId) (x : Value) (n₀ R gL : Nat) (LS : Array Value) (w0 w : World) : Prop where
  lo : 7 < n₀
  nR : n₀ ≤ R
  gR : gL ≠ R
  sz : n₀ ≤ w.heap.size
  blk : Blk w gL 9 LS
  vr : Vr m u x w
  bel : Below n₀ w0 w
section
variable {m : Int} {u : TypeId} {x : Value} {n₀ R gL : Nat} {LS : Array Value} {w0 w w' : World}
theorem Fr.next {S : Nat → Prop} (h : Fr m u x n₀ R gL LS w0 w) (hg : Grw w w' S) (hS : ∀ b, S b → n₀ ≤ b ∧ b ≠ gL) : Fr m u x n₀ R gL LS w0 w' := by
  have hb : Below n₀ w w' := ⟨hg.os, hg.tape, hg.output, hg.size, fun b hb => hg.block b (Nat.lt_of_lt_of_le hb h.sz) (fun e => by have := (hS b e).1; omega)⟩
  exact ⟨h.lo, h.nR, h.gR, Nat.le_trans h.sz hg.size, (hg.block gL h.blk.lt (fun e => (hS _ e).2 rfl)).trans h.blk, h.vr.below hb h.lo, h.bel.trans hb⟩
theorem Fr.one (h : Fr m u x n₀ R gL LS w0 w) : ∀ b, One R b → n₀ ≤ b ∧ b ≠ gL := fun b e => by
  cases e; exact ⟨h.nR, fun e => h.gR e.symm⟩
theorem Fr.mx (h : Fr m u x n₀ R gL LS w0 w) : 3 < w.heap.size := Nat.lt_of_lt_of_le (show 3 < n₀ by have := h.lo; omega) h.sz
theorem one_lt {cs : Array Value} (h : Blk w R 73 cs) : ∀ b, One R b → b < w.heap.size := fun b e => by cases e; exact h.lt

theorem line1 (h : Fr m u x n₀ R gL LS w0 w) (HR : Blk w R 73 (rb 0 0 0 (.slice none 0 0) (.slice none 0 0) (.slice none 0 0) (.slice none 0 0))) :
    Calls Tryz.prog 35 #[.pointer (some ⟨R, 0, none⟩), .string (tx l1)] w fun e w' => e = .returned (.int .i64 0) ∧ Fr m u x n₀ R gL LS w0 w' ∧ Blk w' R 73 (rb 1 2 0 (.slice none 0 0) (.slice none 0 0) (.slice none 0 0) (.slice none 0 0)) := by
  refine (read_states m l1 2 (by omega) (by omega) ln_l1 w R 0 0 _ _ _ _ h.mx h.vr.mx HR 0 _ _ _ (fun _ => Stays.true) (One R) rfl (one_lt HR) (by rw [wl_l1]; exact states_told w R 0 _ _ _ _)).mono ?_
  rintro e w' ⟨_, _, rfl, hg, hb, _⟩
  exact ⟨rfl, h.next hg h.one, hb⟩
theorem line2 (h : Fr m u x n₀ R gL LS w0 w) (HR : Blk w R 73 (rb 1 2 0 (.slice none 0 0) (.slice none 0 0) (.slice none 0 0) (.slice none 0 0))) :
    Calls Tryz.prog 35 #[.pointer (some ⟨R, 0, none⟩), .string (tx l2)] w fun e w' => ∃ H, e = .returned (.int .i64 0) ∧ Fr m u x n₀ R gL LS w0 w' ∧ Blk w' R 73 (rb 2 2 0 (.slice (some ⟨H, 0, none⟩) 3 3) (.slice none 0 0) (.slice none 0 0) (.slice none 0 0)) ∧ Blk w' H 35 ln3 ∧ R < H := by
  refine (read_hood m l2 2 (by omega) (by omega) ln_l2 w R 2 0 _ _ _ _ h.mx h.vr.mx HR 0 _ _ _ (fun H => Blk.stays H _ _) (One R) rfl (one_lt HR) (by rw [wl_l2]; exact hood_line w R 2 0 _ _ _)).mono ?_
  rintro e w' ⟨H, hH, rfl, hg, hb, hq⟩
  exact ⟨H, rfl, h.next hg h.one, hb, hq, hH⟩
theorem line3 {H : Nat} (h : Fr m u x n₀ R gL LS w0 w) (HR : Blk w R 73 (rb 2 2 0 (.slice (some ⟨H, 0, none⟩) 3 3) (.slice none 0 0) (.slice none 0 0) (.slice none 0 0))) (HH : Blk w H 35 ln3) (hH : R < H) :
    Calls Tryz.prog 35 #[.pointer (some ⟨R, 0, none⟩), .string (tx l3)] w fun e w' => e = .returned (.int .i64 0) ∧ Fr m u x n₀ R gL LS w0 w' ∧ Blk w' R 73 (rb 3 2 0 (.slice (some ⟨H, 0, none⟩) 3 3) (.slice none 0 0) (.slice none 0 0) (.slice none 0 0)) ∧ Blk w' H 35 ln3 := by
  have h1 := h.lo
  have h2 := h.nR
  refine (read_sym m l3 2 (by omega) (by omega) ln_l3 w R 2 0 _ _ _ _ h.mx h.vr.mx HR 0 _ _ _ (fun _ => Stays.true) (One R) rfl (one_lt HR) (by rw [wl_l3]; exact sym_none m u x w h.vr R H (by omega) HH (by omega) 2 _ _ _)).mono ?_
  rintro e w' ⟨_, _, rfl, hg, hb, _⟩
  exact ⟨rfl, h.next hg h.one, hb, (hg.block H HH.lt (show ¬ H = R by omega)).trans HH⟩
theorem line4 {H : Nat} (h : Fr m u x n₀ R gL LS w0 w) (HR : Blk w R 73 (rb 3 2 0 (.slice (some ⟨H, 0, none⟩) 3 3) (.slice none 0 0) (.slice none 0 0) (.slice none 0 0))) (HH : Blk w H 35 ln3) (hH : R < H) :
    Calls Tryz.prog 35 #[.pointer (some ⟨R, 0, none⟩), .string (tx l4)] w fun e w' => ∃ X : Va, e = .returned (.int .i64 0) ∧ Fr m u x n₀ R gL LS w0 w' ∧ Blk w' R 73 (rb 4 2 0 (.slice (some ⟨H, 0, none⟩) 3 3) (.slice (some ⟨X.gV, 0, none⟩) 1 X.cV) (.slice none 0 0) (.slice (some ⟨X.gN, 0, none⟩) 1 X.cN)) ∧ Blk w' H 35 ln3 ∧ X.at_ w' ∧ X.good R := by
  refine (read_var m l4 4 (by omega) (by omega) ln_l4 w 3 (by omega) (by omega) (by decide +kernel) R 2 0 _ _ _ _ h.mx h.vr.mx HR 0 _ _ _ (fun X => Stays.and (Blk.stays _ _ _) (Stays.and (Blk.stays _ _ _) (Blk.stays _ _ _))) (One R) rfl (one_lt HR) (by rw [wl_l4]; exact var_told w R _)).mono ?_
  rintro e w' ⟨X, hX, rfl, hg, hb, hq⟩
  exact ⟨X, rfl, h.next hg h.one, hb, (hg.block H HH.lt (show ¬ H = R by omega)).trans HH, hq, hX⟩
theorem vc_num {l : List UInt8} {d : Nat} (hl : l.length ≤ 18) (h : Lib.atoi l = some (d : Int)) (hd : d < 10) (hdd : [UInt8.ofNat (48 + d)] = l) (hd2 : d < 2) (w : World) (R : Nat) (k : Int) (a b c e : Value) : Vc w R (rb k 2 0 a b c e) (tx l) (d : Int) :=
  fun W _ HR => value_num hl h hd hdd hd2 R k 0 a b c e W HR
theorem vc_a (V : Vr m u x w) (R : Nat) (hR : 7 < R) (k : Int) (a b c : Value) (gN cN : Nat) (uN : Array Value) (HN : Blk w gN 9 uN) (hne : gN ≠ R) (h0 : uN[0]? = some (.string (tx [97]))) : Vc w R (rb k 2 0 a b c (.slice (some ⟨gN, 0, none⟩) 1 cN)) (tx [97]) (-1) :=
  fun W hg HR => value_a m u x R k 0 a b c gN cN uN W (V.grown hg hR) HR (HN.grown hg hne) h0
theorem blk_ne {b g n c base : Nat} {t : TypeId} {us : Array Value} {xs : List Value} (h : Blk w b t us) (k : w.ownsRow base 40 2 (.slice (some ⟨g, 0, none⟩) n c) n xs) (ht : t ≠ 40) : b ≠ g := by
  rintro rfl
  rcases k.2 with ⟨h1, _⟩ | ⟨g', cap', cur', h1, hb', hgg, _⟩
  · cases h1
  · injection h1 with h2
    injection h2 with h2
    injection h2 with h2
    subst h2
    have hx : w.heap[b]? = _ := h
    rw [hgg] at hx
    injection hx with hx
    injection hx with _ hx
    exact ht hx.symm
theorem Va.keep {X : Va} {S : Nat → Prop} (h : X.at_ w) (hg : Grw w w' S) (h1 : ¬ S X.gS) (h2 : ¬ S X.gN) (h3 : ¬ S X.gV) : X.at_ w' :=
  ⟨(hg.block _ h.1.lt h1).trans h.1, (hg.block _ h.2.1.lt h2).trans h.2.1, (hg.block _ h.2.2.lt h3).trans h.2.2⟩
theorem line5 {H : Nat} {X : Va} (h : Fr m u x n₀ R gL LS w0 w) (HR : Blk w R 73 (rb 4 2 0 (.slice (some ⟨H, 0, none⟩) 3 3) (.slice (some ⟨X.gV, 0, none⟩) 1 X.cV) (.slice none 0 0) (.slice (some ⟨X.gN, 0, none⟩) 1 X.cN))) (HH : Blk w H 35 ln3) (hH : R < H) (hX : X.at_ w) (hG : X.good R) :
    Calls Tryz.prog 35 #[.pointer (some ⟨R, 0, none⟩), .string (tx l5)] w fun e w' => ∃ Y : Ra, e = .returned (.int .i64 0) ∧ Fr m u x n₀ R gL LS w0 w' ∧ Blk w' R 73 (rb 5 2 0 (.slice (some ⟨H, 0, none⟩) 3 3) (.slice (some ⟨X.gV, 0, none⟩) 1 X.cV) (.slice (some ⟨Y.gW, 0, none⟩) 1 Y.cW) (.slice (some ⟨X.gN, 0, none⟩) 1 X.cN)) ∧ Blk w' H 35 ln3 ∧ X.at_ w' ∧
      Blk w' Y.gI 3 Y.uI ∧ w'.ownsRow (R + 1) 40 2 (.slice (some ⟨Y.gW, 0, none⟩) 1 Y.cW) 1 [.slice (some ⟨Y.gI, 0, none⟩) 3 Y.cI, .int .i64 1] ∧ Y.good R 1 (-1) 0 := by
  have q1 := h.lo
  have q2 := h.nR
  obtain ⟨⟨g1, g2, g3⟩, u0, u1, u2, u3⟩ := hG
  have hS : ∀ b, (b = R ∨ some b = (Value.slice none 0 0).ownBlock) → b = R := fun b e => e.elim id (fun e => by cases e)
  have va := fun k a b c => vc_a h.vr R (by omega) k a b c X.gN X.cN X.uN hX.2.1 (by omega) u2
  have v1 := fun k a b c e => vc_num (l := [49]) (d := 1) (by decide) (by decide +kernel) (by decide) (by decide) (by decide) w R k a b c e
  have v0 := fun k a b c e => vc_num (l := [48]) (d := 0) (by decide) (by decide +kernel) (by decide) (by decide) (by decide) w R k a b c e
  have T := row_told w R 5 (by omega) (some ⟨H, 0, none⟩) (.slice (some ⟨X.gV, 0, none⟩) 1 X.cV) (.slice (some ⟨X.gN, 0, none⟩) 1 X.cN) none 0 0 (by omega) [] _ _ _ _ 1 (-1) 0 1 (by omega) (v1 _ _ _ _ _) (va _ _ _ _) (v0 _ _ _ _ _) (v1 _ _ _ _ _) (World.ownsRow_nil _ _ _ _)
  rw [show [tx [49], tx [97], tx [48], tx wArrow, tx [49]] = wl l5 5 from wl_l5.symm, show ((5 : Nat) : Int) = 4 + 1 from rfl] at T
  refine (read_row m l5 5 (by omega) (by omega) ln_l5 w 4 (by omega) (by omega) (by decide +kernel) R 2 0 _ _ _ _ h.mx h.vr.mx HR 0 _ _ _ (fun Y => by exact Stays.and (Blk.stays _ _ _) (fun w D y o a1 a2 a3 => ownsRow_putObj a3 o a1 a2)) _ (Or.inl rfl) (fun b e => by rw [hS b e]; exact HR.lt) T).mono ?_
  rintro e w' ⟨Y, hY, rfl, hg, hb, hq⟩
  have hn : ∀ b, R < b → ¬ (b = R ∨ some b = (Value.slice none 0 0).ownBlock) := fun b hb e => by have := hS b e; omega
  exact ⟨Y, rfl, h.next hg (fun b e => by rw [hS b e]; exact h.one R rfl), hb, (hg.block H HH.lt (hn H hH)).trans HH, Va.keep hX hg (hn _ g1) (hn _ g2) (hn _ g3), hq.1, hq.2, hY⟩
theorem line6 {H : Nat} {X : Va} {Y : Ra} (h : Fr m u x n₀ R gL LS w0 w) (HR : Blk w R 73 (rb 5 2 0 (.slice (some ⟨H, 0, none⟩) 3 3) (.slice (some ⟨X.gV, 0, none⟩) 1 X.cV) (.slice (some ⟨Y.gW, 0, none⟩) 1 Y.cW) (.slice (some ⟨X.gN, 0, none⟩) 1 X.cN))) (HH : Blk w H 35 ln3) (hH : R < H) (hX : X.at_ w) (hG : X.good R)
    (hI : Blk w Y.gI 3 Y.uI) (hW : w.ownsRow (R + 1) 40 2 (.slice (some ⟨Y.gW, 0, none⟩) 1 Y.cW) 1 [.slice (some ⟨Y.gI, 0, none⟩) 3 Y.cI, .int .i64 1]) (hY : Y.good R 1 (-1) 0) :
    Calls Tryz.prog 35 #[.pointer (some ⟨R, 0, none⟩), .string (tx l6)] w fun e w' => ∃ Z : Ra, e = .returned (.int .i64 0) ∧ Fr m u x n₀ R gL LS w0 w' ∧ Blk w' R 73 (rb 6 2 0 (.slice (some ⟨H, 0, none⟩) 3 3) (.slice (some ⟨X.gV, 0, none⟩) 1 X.cV) (.slice (some ⟨Z.gW, 0, none⟩) 2 Z.cW) (.slice (some ⟨X.gN, 0, none⟩) 1 X.cN)) ∧ Blk w' H 35 ln3 ∧ X.at_ w' ∧
      Blk w' Y.gI 3 Y.uI ∧ Blk w' Z.gI 3 Z.uI ∧ w'.ownsRow (R + 1) 40 2 (.slice (some ⟨Z.gW, 0, none⟩) 2 Z.cW) 2 [.slice (some ⟨Y.gI, 0, none⟩) 3 Y.cI, .int .i64 1, .slice (some ⟨Z.gI, 0, none⟩) 3 Z.cI, .int .i64 0] ∧ Z.good R (-1) 1 (-1) := by
  have q1 := h.lo
  have q2 := h.nR
  obtain ⟨⟨g1, g2, g3⟩, u0, u1, u2, u3⟩ := hG
  obtain ⟨⟨y1, y2⟩, _⟩ := hY
  have hS : ∀ b, (b = R ∨ some b = (Value.slice (some ⟨Y.gW, 0, none⟩) 1 Y.cW).ownBlock) → b = R ∨ b = Y.gW := fun b e => e.elim .inl (fun e => .inr (by simpa [Value.ownBlock] using e))
  have hWl : Y.gW < w.heap.size := (hW.lt Y.gW rfl).2
  have va := fun k a b c => vc_a h.vr R (by omega) k a b c X.gN X.cN X.uN hX.2.1 (by omega) u2
  have v1 := fun k a b c e => vc_num (l := [49]) (d := 1) (by decide) (by decide +kernel) (by decide) (by decide) (by decide) w R k a b c e
  have v0 := fun k a b c e => vc_num (l := [48]) (d := 0) (by decide) (by decide +kernel) (by decide) (by decide) (by decide) w R k a b c e
  have T := row_told w R 6 (by omega) (some ⟨H, 0, none⟩) (.slice (some ⟨X.gV, 0, none⟩) 1 X.cV) (.slice (some ⟨X.gN, 0, none⟩) 1 X.cN) (some ⟨Y.gW, 0, none⟩) 1 Y.cW (by omega) _ _ _ _ _ (-1) 1 (-1) 0 (by omega) (va _ _ _ _) (v1 _ _ _ _ _) (va _ _ _ _) (v0 _ _ _ _ _) hW
  rw [show [tx [97], tx [49], tx [97], tx wArrow, tx [48]] = wl l6 5 from wl_l6.symm, show ((6 : Nat) : Int) = 5 + 1 from rfl] at T
  refine (read_row m l6 5 (by omega) (by omega) ln_l6 w 5 (by omega) (by omega) (by decide +kernel) R 2 0 _ _ _ _ h.mx h.vr.mx HR 0 _ _ _ (fun Y => by exact Stays.and (Blk.stays _ _ _) (fun w D y o a1 a2 a3 => ownsRow_putObj a3 o a1 a2)) _ (Or.inl rfl) (fun b e => by rcases hS b e with rfl | rfl; exact HR.lt; exact hWl) T).mono ?_
  rintro e w' ⟨Z, hZ, rfl, hg, hb, hq⟩
  have hn : ∀ b, R < b → b ≠ Y.gW → ¬ (b = R ∨ some b = (Value.slice (some ⟨Y.gW, 0, none⟩) 1 Y.cW).ownBlock) := fun b hb hc e => by have := hS b e; omega
  have nL : gL ≠ Y.gW := blk_ne h.blk hW (by decide)
  exact ⟨Z, rfl, h.next hg (fun b e => by rcases hS b e with rfl | rfl; exact h.one b rfl; exact ⟨by omega, nL.symm⟩), hb, (hg.block H HH.lt (hn H hH (blk_ne HH hW (by decide)))).trans HH, Va.keep hX hg (hn _ g1 (blk_ne hX.1 hW (by decide))) (hn _ g2 (blk_ne hX.2.1 hW (by decide))) (hn _ g3 (blk_ne hX.2.2 hW (by decide))), (hg.block _ hI.lt (hn _ y1 (blk_ne hI hW (by decide)))).trans hI, hq.1, hq.2, hZ⟩
theorem line7 {k st sy : Int} {a v r nm : Value} (h : Fr m u x n₀ R gL LS w0 w) (HR : Blk w R 73 (rb k st sy a v r nm)) :
    Calls Tryz.prog 35 #[.pointer (some ⟨R, 0, none⟩), .string (tx l7)] w fun e w' => e = .returned (.int .i64 0) ∧ Fr m u x n₀ R gL LS w0 w' ∧ Blk w' R 73 (rb k st sy a v r nm) ∧ Grw w w' (One R) := by
  refine (read_none m l7 ln_l7 w R k st sy a v r nm h.mx h.vr.mx HR).mono ?_
  rintro e w' ⟨_, _, rfl, hg, hb, _⟩
  exact ⟨rfl, h.next hg h.one, hb, hg⟩
theorem lineh2 (h : Fr m u x n₀ R gL LS w0 w) (HR : Blk w R 73 (rb 1 2 0 (.slice none 0 0) (.slice none 0 0) (.slice none 0 0) (.slice none 0 0))) :
    Calls Tryz.prog 35 #[.pointer (some ⟨R, 0, none⟩), .string (tx h2)] w fun e w' => ∃ A c, e = .returned (.int .i64 0) ∧ Fr m u x n₀ R gL LS w0 w' ∧ Blk w' R 73 (rb 2 2 0 (.slice A 7 c) (.slice none 0 0) (.slice none 0 0) (.slice none 0 0)) ∧ QReads w' w'.heap.size A 7 (lf HX) := by
  refine (read_hood m h2 2 (by omega) (by omega) ln_h2 w R 2 0 _ _ _ _ h.mx h.vr.mx HR 0 _ _ _ (fun X => QReads.stays _ _ _) (One R) rfl (one_lt HR) (by rw [wl_h2]; exact hood_hex w R 2 0 _ _ _)).mono ?_
  rintro e w' ⟨X, _, rfl, hg, hb, hq⟩
  exact ⟨X.1, X.2, rfl, h.next hg h.one, hb, hq⟩
theorem lineh3 {A : Option Addr} {c : Nat} (h : Fr m u x n₀ R gL LS w0 w) (HR : Blk w R 73 (rb 2 2 0 (.slice A 7 c) (.slice none 0 0) (.slice none 0 0) (.slice none 0 0))) (HQ : QReads w w.heap.size A 7 (lf HX)) :
    Calls Tryz.prog 35 #[.pointer (some ⟨R, 0, none⟩), .string (tx h3)] w fun e w' => e = .returned (.int .i64 2) ∧ Fr m u x n₀ R gL LS w0 w' := by
  have h1 := h.lo
  have h2 := h.nR
  refine (read_sym m h3 2 (by omega) (by omega) ln_h3 w R 2 0 _ _ _ _ h.mx h.vr.mx HR 2 _ _ _ (fun _ => Stays.true) (One R) rfl (one_lt HR) (by rw [wl_h3]; exact sym_rotate m u x w h.vr R (by omega) A c HQ (fun g o e => reads_ne (by omega) HR (e ▸ HQ)) 2 _ _ _)).mono ?_
  rintro e w' ⟨_, _, rfl, hg, hb, _⟩
  exact ⟨rfl, h.next hg h.one⟩
end
end Go.Proofs.YtbcihgimflljoaaGreatDoor
