/- The walk of rowsOf's closure at a node with two elements that differ, and at the end of a way with a row. -/
/- The walk of rowsOf's closure at the end of a way with a row; the ways of the examples. -/
/- Maps that the call owns, as plain look-up functions. -/
/- The forest: what it holds, and the blocks that it lies in. -/
import Derived.Test.YtcgkkppidkkjiaaGreatDoorMbm
import Derived.Test.YtcgkkppidkkjiaaGreatDoorMam
import Derived.Test.YtcgkkppidkkjiaaGreatDoorMbg
import Derived.Test.YtcgkkppidkkjiaaGreatDoorMaa
import Derived.Test.YtcgkkppidkkjiaaGreatDoorMad
import Derived.Test.YtcgkkppidkkjiaaGreatDoorMae
import Derived.Below
import Derived.BigQuiet
import Derived.Deep.AppendLies
import Derived.Deep.CutRange
import Derived.Deep.Draws
import Derived.Deep.QuietTactic
import Derived.DeepKeys4
import Derived.IntWalk
import Derived.Laws.OwnMore
import Derived.Laws.Rows
import Derived.Lib.Hide
import Derived.LoopN
import Derived.Maps.OwnOps
import Derived.OwnWalk
import Derived.Sort.Statements
import Derived.StillTail
import Derived.StillTailTactics
import Derived.Test.YtcgkkppidkkjiaaGreatDoorRows
import Derived.WalkKit
import Derived.Test.YtcgkkppidkkjiaaGreatDoorMah
namespace Go.Proofs.YtcgkkppidkkjiaaGreatDoor
open Go.RowKit

theorem od_ {w : World} {A : Option Addr} {Bi k c : Nat} {xs : List Value} (h : w.ownsRow Bi 3 1 (.slice A k c) k xs) (u : Value) : (w.alloc (.cells #[u] 3)).drew.ownsRow Bi 3 1 (.slice A k c) k xs := h.alloc (.cells #[u] 3)
theorem ce_ (w : World) (u : Value) : (w.alloc (.cells #[u] 3)).drew.cell? ⟨w.heap.size, 0, none⟩ = some u := (Blk.new w 3 #[u]).cell 0
theorem hbz_ {w : World} {Bi : Nat} (h : Bi ≤ w.heap.size) (o : Obj) : Bi ≤ (w.alloc o).drew.heap.size := by show Bi ≤ (w.alloc o).heap.size; rw [World.size_alloc]; exact Nat.le_succ_of_le h
section
variable {b0 b1 b3 b4 b5 Bi : Nat} {AH AN : Option Addr} {cH m cN : Nat} {lv : Nat → Int} {nx : Nat → List Int}
/-- behind a call with the longer list -/
theorem kept_next {w w1 w2 : World} {A A1 : Option Addr} {k c c1 : Nat} {ins : List Int} {x : Int} (ho : w.ownsRow Bi 3 1 (.slice A k c) k (il ins)) (hf : Fr (ob A) w (ob A1) w1) (hp : w1.ownsRow Bi 3 1 (.slice A k c) k (il ins)) (h1 : w1.ownsRow Bi 3 1 (.slice A1 (k + 1) c1) (k + 1) (il (ins ++ [x]))) (hk : KeptR Bi (k + 1) (ins ++ [x]) w1 A1 c1 w2) : KeptR Bi k ins w A c w2 := by
  rw [il_add] at h1
  have h2 := hk.2
  rw [il_add] at h2
  exact ⟨(hf.trans hk.1).weak (fun _ h => h) (fun _ h => .inl h), own_back hp h1 hk.1 h2⟩
theorem KeptR.trans {w w1 w2 : World} {A : Option Addr} {k c : Nat} {ins : List Int} (h : KeptR Bi k ins w A c w1) (h' : KeptR Bi k ins w1 A c w2) : KeptR Bi k ins w A c w2 := ⟨h.1.trans h'.1, h'.2⟩
set_option maxRecDepth 100000 in
set_option maxHeartbeats 4000000 in
/-- a node with two elements that differ -/
theorem wk_both (k : Nat) (hk : k < 3) (ins : List Int) (i : Nat) (hi : i < m) (a b : Int) (hn : nx i = [a, b]) (hab : a ≠ b)
    (HC : WC b0 b1 b3 b4 b5 Bi AH AN cH m cN lv nx (k + 1) (ins ++ [0]) a (KeptR Bi (k + 1) (ins ++ [0]))) (HC2 : WC b0 b1 b3 b4 b5 Bi AH AN cH m cN lv nx (k + 1) (ins ++ [1]) b (KeptR Bi (k + 1) (ins ++ [1]))) :
    WC b0 b1 b3 b4 b5 Bi AH AN cH m cN lv nx k ins (i : Int) (KeptR Bi k ins) := by
  intro w A c hw ho
  obtain ⟨i0, hii, hz0, hz1, hz2⟩ := info_parts Tryz.info_int
  obtain ⟨c1, c2, c3, c4, c5⟩ := hw.cells
  obtain ⟨gN, oN, rfl, hgN, hcN⟩ := hw.nr (by omega)
  obtain ⟨Ai, ci, n1, n2, n3⟩ := hcN i hi
  rw [hn] at n2 n3
  simp only [List.length_cons, List.length_nil, Nat.zero_add, Nat.reduceAdd] at n2 n3
  have hsz := hw.hi
  have hlo := hw.lo
  have hbs : b0 ≤ w.heap.size := by omega
  have MN := Lib.hid (show ∀ W, Below w.heap.size w W → Calls Tryz.prog 58 #[.slice Ai 2 ci] W fun e W' => e = .returned (.int .i64 (min a b)) ∧ W = W' from fun W hb => min_two Ai ci a b W ((n3.more hbs).later hb))
  have MX := Lib.hid (show ∀ W, Below w.heap.size w W → Calls Tryz.prog 59 #[.slice Ai 2 ci] W fun e W' => e = .returned (.int .i64 (max a b)) ∧ W = W' from fun W hb => max_two Ai ci a b W ((n3.more hbs).later hb))
  have hmm : (min a b == max a b) = false := by rw [beq_eq_false_iff_ne]; omega
  obtain ⟨ad, hAi, hadB, _⟩ := il_at n3 (show 0 < 2 by omega)
  obtain ⟨ad', rfl, q0, q1⟩ := il_two (n3.more hbs)
  injection hAi with hAi
  subst hAi
  generalize min a b = mn at MN hmm
  generalize max a b = mx at MX hmm
  have e0 : ((k : Int) == 3) = false := by rw [beq_eq_false_iff_ne]; omega
  have hiI : (i : Int) < (m : Int) := by omega
  have HLO := Lib.hid hlo
  have HAB := Lib.hid hadB
  have HW := Lib.hid hw
  have HO := Lib.hid ho
  have HHC := Lib.hid (fun w A c h1 h2 => HC w A c h1 h2)
  have HHD := Lib.hid (fun w A c h1 h2 => HC2 w A c h1 h2)
  have Q0 := Lib.hid (fun W (hb : Below Bi w W) => show W.cell? ad' = some (.int .i64 a) ∧ W.cell? ⟨ad'.block, ad'.off + 1, none⟩ = some (.int .i64 b) from ⟨(hb.cell (by omega)).trans q0, (hb.cell (p := ⟨ad'.block, ad'.off + 1, none⟩) (by show ad'.block < Bi; omega)).trans q1⟩)
  have HLEN := Lib.hid (show k + 1 ≤ maxLen ∧ (k + 1) * 8 ≤ 140737488355328 from by unfold maxLen; omega)
  clear hw ho HC HC2 hn n1 n3 hcN hi hbs hlo hadB hab
  go_enter Tryz.func55, Tryz.ntmps55
  go_wp2_with (first | (go_at_call 58; (with_reducible refine (MN.out _ (Below.refl _ _)).mono ?_); rintro e w1 ⟨rfl, rfl⟩) | (go_at_call 59; (with_reducible refine (MX.out _ (Below.refl _ _)).mono ?_); rintro e w1 ⟨rfl, rfl⟩) | fail)
  refine wp_loop_rounds 3 ?_
  rw [rounds_succ]
  go_wp2_with fail
  go_region_held_law (fun W => W.cell? ⟨b5, 0, none⟩ = some (.func (.func 55) #[] #[.pointer (some ⟨b3, 0, none⟩), .pointer (some ⟨b1, 0, none⟩), .pointer (some ⟨b4, 0, none⟩), .pointer (some ⟨b5, 0, none⟩)]))
    (first | assumption | go_keep)
    (first
    | (refine step_append_kept (by rfl) _ _ _ (by rfl) Bi 3 i0 (.int .i64 0) 8 Tryz.underlying27 hii hz0 hz1 hz2 rfl A k c (il ins) (by rfl) (od_ HO.out (.int .i64 0)) ⟨w.heap.size, 0, none⟩ 1 (.int .i64 0) (by rfl) (ce_ w (.int .i64 0)) (by rfl) HLEN.out.1 HLEN.out.2 (hbz_ hsz _) ?_; intro g1 d1 w1 hown1 hgrow hat hlt hkept; have F1 := Lib.hid (ap_fr hgrow hat); have B1 := Lib.hid (F1.out.below (ob_ge HO.out) hsz); have W1 := Lib.hid (HW.out.below B1.out); have O1 := Lib.hid (show w1.ownsRow Bi 3 1 (.slice (some ⟨g1, 0, none⟩) (k + 1) d1) (k + 1) (il (ins ++ [0])) from by rw [il_add]; exact hown1); have P1 := Lib.hid hkept; have S1 : w1.cell? ⟨b5, 0, none⟩ = some (.func (.func 55) #[] #[.pointer (some ⟨b3, 0, none⟩), .pointer (some ⟨b1, 0, none⟩), .pointer (some ⟨b4, 0, none⟩), .pointer (some ⟨b5, 0, none⟩)]) := W1.out.cells.2.2.2.2; clear hown1 hgrow hat hlt hkept)
    | ((with_reducible refine (HHC.out _ _ _ W1.out O1.out).mono ?_); rintro e w2 ⟨⟨v, rfl⟩, hD, hK⟩; have D2 := Lib.hid (kept_next HO.out F1.out P1.out O1.out hD); have S2 : w2.cell? ⟨b5, 0, none⟩ = some (.func (.func 55) #[] #[.pointer (some ⟨b3, 0, none⟩), .pointer (some ⟨b1, 0, none⟩), .pointer (some ⟨b4, 0, none⟩), .pointer (some ⟨b5, 0, none⟩)]) := (hK ⟨b5, 0, none⟩ HLO.out.2.2.2.1 (by have := HLO.out; show b5 ≠ b3; omega)).trans S1; clear hD hK))
  have B2 := Lib.hid (D2.out.1.below (ob_ge HO.out) hsz)
  have W2 := Lib.hid (HW.out.below B2.out)
  have hsz2 : Bi ≤ w2.heap.size := W2.out.hi
  obtain ⟨x0, x1⟩ := Q0.out w2 B2.out
  have O2 := Lib.hid D2.out.2
  clear c1 c2 c3 c4 c5 q0 q1 n2 S1
  go_wp2_with fail
  rw [rounds_succ]
  go_wp2_with fail
  go_region_held_law (fun W => W.cell? ⟨b5, 0, none⟩ = some (.func (.func 55) #[] #[.pointer (some ⟨b3, 0, none⟩), .pointer (some ⟨b1, 0, none⟩), .pointer (some ⟨b4, 0, none⟩), .pointer (some ⟨b5, 0, none⟩)]))
    (first | assumption | go_keep)
    (first
    | (refine step_append_kept (by rfl) _ _ _ (by rfl) Bi 3 i0 (.int .i64 0) 8 Tryz.underlying27 hii hz0 hz1 hz2 rfl A k c (il ins) (by rfl) (od_ O2.out (.int .i64 1)) ⟨w2.heap.size, 0, none⟩ 1 (.int .i64 1) (by rfl) (ce_ w2 (.int .i64 1)) (by rfl) HLEN.out.1 HLEN.out.2 (hbz_ hsz2 _) ?_; intro g3 d3 w3 hown1 hgrow hat hlt hkept; have F3 := Lib.hid (ap_fr hgrow hat); have B3 := Lib.hid (F3.out.below (ob_ge O2.out) hsz2); have W3 := Lib.hid (W2.out.below B3.out); have O3 := Lib.hid (show w3.ownsRow Bi 3 1 (.slice (some ⟨g3, 0, none⟩) (k + 1) d3) (k + 1) (il (ins ++ [1])) from by rw [il_add]; exact hown1); have P3 := Lib.hid hkept; have S3 : w3.cell? ⟨b5, 0, none⟩ = some (.func (.func 55) #[] #[.pointer (some ⟨b3, 0, none⟩), .pointer (some ⟨b1, 0, none⟩), .pointer (some ⟨b4, 0, none⟩), .pointer (some ⟨b5, 0, none⟩)]) := W3.out.cells.2.2.2.2; clear hown1 hgrow hat hlt hkept)
    | ((with_reducible refine (HHD.out _ _ _ W3.out O3.out).mono ?_); rintro e w4 ⟨⟨v, rfl⟩, hD, hK⟩; have D4 := Lib.hid (kept_next O2.out F3.out P3.out O3.out hD); have S4 : w4.cell? ⟨b5, 0, none⟩ = some (.func (.func 55) #[] #[.pointer (some ⟨b3, 0, none⟩), .pointer (some ⟨b1, 0, none⟩), .pointer (some ⟨b4, 0, none⟩), .pointer (some ⟨b5, 0, none⟩)]) := (hK ⟨b5, 0, none⟩ HLO.out.2.2.2.1 (by have := HLO.out; show b5 ≠ b3; omega)).trans S3; clear hD hK))
  go_wp2_with fail
  rw [rounds_succ]
  go_wp2_with fail
  go_end0
  exact ⟨⟨_, rfl⟩, D2.out.trans D4.out, KC.of ((D2.out.trans D4.out).1.below (ob_ge HO.out) hsz)⟩
end
end Go.Proofs.YtcgkkppidkkjiaaGreatDoor
namespace Go.Proofs.YtcgkkppidkkjiaaGreatDoor
open Go.RowKit

/-- one row has come -/
def RowD (lo b3 : Nat) (l : List Int) (w' : World) : Prop := ∃ g c' X xc, (lo ≤ g ∧ ∀ ad, X = some ad → lo ≤ ad.block) ∧ w'.cell? ⟨b3, 0, none⟩ = some (.slice (some ⟨g, 0, none⟩) 1 c') ∧ g < w'.heap.size ∧ w'.cell? ⟨g, 0, none⟩ = some (.slice X 3 xc) ∧ Reads w' w'.heap.size X 3 (il l) ∧ w'.cell? ⟨g, 1, none⟩ = some (.int .i64 0)
def NewR (b0 b3 Bi : Nat) (l : List Int) (w : World) (_ : Option Addr) (_ : Nat) (w' : World) : Prop := RowD Bi b3 l w' ∧ Below b0 w w'
theorem info_rowE : (Tryz.prog.info? 41).map (fun i => (i.zero, i.size, i.bytes)) = some (some (.agg #[.slice none 0 0, .int .i64 0]), 2, 32) := by kernel_rfl
section
variable {b0 b1 b3 b4 b5 Bi : Nat} {AH AN : Option Addr} {cH m cN : Nat} {lv : Nat → Int} {nx : Nat → List Int}
set_option maxRecDepth 100000 in
set_option maxHeartbeats 4000000 in
/-- at the end of the way, where the default does not lead to 0 -/
theorem wk_new (ins : List Int) (hx : ig ins 1 ≠ 0) : WC b0 b1 b3 b4 b5 Bi AH AN cH m cN lv nx 3 ins 0 (NewR b0 b3 Bi ins) := by
  intro w A c hw ho
  obtain ⟨i0, hii, hz0, hz1, hz2⟩ := info_parts info_rowE
  obtain ⟨c1, c2, c3, c4, c5⟩ := hw.cells
  have f3 := hw.k3.frozen 0
  have hR := Reads.of_own ho
  have hsz := hw.hi
  have ID := Lib.hid (show ∀ W, Below w.heap.size w W → Calls Tryz.prog 56 #[.slice A 3 c, .int .i64 1, .int .i64 0] W fun e W' => e = .returned (.bool false) ∧ W = W' from fun W hb => (isdef_any A 3 c 1 0 ins W (hR.later hb) (by omega) (by omega)).mono fun e W' ⟨he, hx2⟩ => ⟨by rw [he, beq_eq_false_iff_ne.2 hx], hx2⟩)
  have CL := Lib.hid (show ∀ W, Below w.heap.size w W → Calls Tryz.prog 57 #[.slice A 3 c] W fun e W' => ∃ g cap, e = .returned (.slice (some ⟨g, 0, none⟩) 3 cap) ∧ Reads W' W'.heap.size (some ⟨g, 0, none⟩) 3 (il ins) ∧ w.heap.size ≤ g ∧ Below w.heap.size w W' from fun W hb => (iclone_any A c 3 ins W (hR.later hb) (by omega) (by omega)).mono fun e W' ⟨g, cap, he, hr, hx⟩ => ⟨g, cap, he, hr.reads, Nat.le_trans hb.size (hr.own.lt g rfl).1, hb.trans (hx.mono hb.size)⟩)
  have HW := Lib.hid hw
  have HX := Lib.hid (fun W (hb : Below w.heap.size w W) => show W.cell? ⟨b3, 0, none⟩ = some (.slice none 0 0) from (hb.cell (p := ⟨b3, 0, none⟩) (by have := hw.lo; show b3 < w.heap.size; omega)).trans c3)
  clear hw ho hx hR
  go_enter Tryz.func55, Tryz.ntmps55
  go_wp2_with (go_at_call 56; (with_reducible refine (ID.out _ (Below.refl _ _)).mono ?_); rintro e w1 ⟨rfl, rfl⟩)
  go_region_law (first
    | (go_simp; go_at_call 57; (with_reducible refine (CL.out _ ?_).mono ?_); (with_reducible (repeat (first | assumption | exact Below.refl _ _ | refine Below.drew' ?_ | refine Below.alloc' ?_ _))); rintro e wa ⟨gx, cx, rfl, hr, hgx, hb⟩; have HGX := Lib.hid hgx; have RX := Lib.hid hr; have BA : Below w.heap.size w wa := hb; have d2 := HX.out wa hb; have dd2 := HX.out _ (hb.alloc hb.size (.cells #[.slice (some ⟨gx, 0, none⟩) 3 cx, .int .i64 0] 41)); clear hb hr hgx)
    | (refine step_append_lies _ (by rfl) _ _ _ (by rfl) wa.heap.size 41 i0 (.agg #[.slice none 0 0, .int .i64 0]) 2 32 Tryz.underlying24 hii hz0 hz1 hz2 rfl (by decide) (.slice none 0 0) 0 [] (by rfl) (World.ownsRow_nil _ _ _ _) ⟨wa.heap.size, 0, none⟩ 1 1 [.slice (some ⟨gx, 0, none⟩) 3 cx, .int .i64 0] (by rfl) (by rfl) (World.news_of_block (cs := #[.slice (some ⟨gx, 0, none⟩) 3 cx, .int .i64 0]) (t := 41) (fr := (0, 0)) (heap_alloc_new wa _)) (by simp [Value.oneCell']) (by omega) (by unfold maxLen; omega) (by omega) (by simp) (wa.heap.size + 1) (by simp) ?_; intro g7 c7 w7 hown7 hgrow7 hat7 hlt7; have B7 : Below wa.heap.size wa w7 := Below.grown ((Below.refl wa.heap.size wa).alloc (Nat.le_refl _) _) hgrow7 (by simp) (fun k hk => by cases hk); have K7 : w7.cell? ⟨b3, 0, none⟩ = some (.slice none 0 0) := HX.out _ (BA.trans (B7.mono BA.size)); have F7 := (HW.out.k3.below (BA.trans (B7.mono BA.size)) HW.out.k3.lt).frozen 0; have O7 := Lib.hid hown7; clear hown7 hgrow7 hat7))
  all_goals
    go_wp2_with fail
    refine bodyPost_ret (results_none rfl _ _ _) rfl ?_
    have hlo := HW.out.lo
    have hza := BA.size
    have hg7 := (O7.out.lt g7 rfl).1
    have k3 := (HW.out.k3.below (BA.trans (B7.mono BA.size)) (by omega)).set_ 0 (.slice (some ⟨g7, 0, none⟩) 1 c7)
    have r7 := (RX.out.later B7)
    have q1 := O7.out.cellAt 0 (by decide)
    have q2 := O7.out.cellAt 1 (by decide)
    have hgx := HGX.out
    have hb3 := HW.out.k3.lt
    have BZ := BA.trans (B7.mono BA.size)
    refine ⟨⟨_, rfl⟩, ⟨⟨g7, c7, some ⟨gx, 0, none⟩, cx, ⟨by omega, fun ad e => by injection e with e; subst e; show Bi ≤ gx; omega⟩, (k3.cell 0).trans rfl, by simpa [World.setCell] using hlt7, ?_, ?_, ?_⟩, ?_⟩, ?_⟩
    · exact (World.cell?_setCell_far w7 ⟨b3, 0, none⟩ ⟨g7, 0, none⟩ _ (by show b3 ≠ g7; omega)).trans q1
    · exact (r7.far (p := ⟨b3, 0, none⟩) (fun ad _ e => by injection e with e; subst e; show gx ≠ b3; omega) _).more (by simp [World.setCell])
    · exact (World.cell?_setCell_far w7 ⟨b3, 0, none⟩ ⟨g7, 1, none⟩ _ (by show b3 ≠ g7; omega)).trans q2
    · exact (BZ.mono (by omega)).setCell (p := ⟨b3, 0, none⟩) (by show b0 ≤ b3; omega) _
    · intro p h1 h2
      exact (World.cell?_setCell_far w7 ⟨b3, 0, none⟩ p _ (fun e => h2 e.symm)).trans (BZ.cell (by omega))
end
end Go.Proofs.YtcgkkppidkkjiaaGreatDoor
namespace Go.Proofs.YtcgkkppidkkjiaaGreatDoor
open Go.RowKit
open Go.ChangeMaps (setBlock heap_setBlock_same heap_setBlock_other)
open Go.MapKept (Stamped stamped_push stamped_modify stamped_empty stamped_iff)
open Go.Maps (Keyed)
section
variable {G G' G'' : Nat → Prop} {w w' w'' : World}
end
section
variable {P : Program} {w w' : World} {k t e : TypeId} {b : Nat} {α β : Type} {ek : α → Value} {ev : β → Value} {A : α → Option β}
end
/-- a node's cells -/
structure Ndv where
  lv : Int
  r : List Int
deriving DecidableEq, Repr
def rowV (r : List Int) : Value := .agg (r.map fun x => .int .i32 x).toArray
def nodC (n : Ndv) : List Value := .int .i64 n.lv :: n.r.map fun x => .int .i32 x
def nodV (n : Ndv) : Value := .agg (nodC n).toArray
theorem map_i32_inj {l m : List Int} (h : (l.map fun x => Value.int .i32 x) = m.map fun x => .int .i32 x) : l = m := by
  induction l generalizing m with
  | nil => cases m with
    | nil => rfl
    | cons b m => simp at h
  | cons a l ih => cases m with
    | nil => simp at h
    | cons b m => simp at h; obtain ⟨h1, h2⟩ := h; rw [h1, ih (by simpa using h2)]
theorem nodV_inj {a b : Ndv} (h : nodV a = nodV b) : a = b := by
  unfold nodV nodC at h
  injection h with h
  have h := congrArg Array.toList h
  simp only at h
  injection h with h1 h2
  injection h1 with _ h1
  have := map_i32_inj h2
  cases a; cases b
  simp_all
theorem i32V_inj {a b : Int} (h : Value.int .i32 a = .int .i32 b) : a = b := by injection h

theorem Tryz.laidOut13 : laidOutB Tryz.prog = true := by kernel_rfl
theorem Tryz.rowNode : (134 : TypeId) < Tryz.prog.types.size := of_decide_eq_true (by kernel_rfl)
theorem Tryz.keyNode : Keyed Tryz.prog 134 := Keyed.of_law (deep_law_laid Tryz.laidOut13 (m := 3) (by omega) Tryz.rowNode (by kernel_rfl) (by rw [Tryz.underlying134]))
theorem Tryz.keyI32 : Keyed Tryz.prog 21 := Maps.int_keyed Tryz.underlying21
/-- a row in range -/
def R8 (r : List Int) : Prop := r.length = 8 ∧ ∀ x ∈ r, -2147483648 ≤ x ∧ x < 2147483648
def Nd8 (n : Ndv) : Prop := -9223372036854775808 ≤ n.lv ∧ n.lv < 9223372036854775808 ∧ R8 n.r
theorem key_i32 {n : Int} (h1 : -2147483648 ≤ n) (h2 : n < 2147483648) : keyOf Tryz.prog 21 (.int .i32 n) = some (.int .i32 n) := Maps.keyOf_int_mk Tryz.underlying21 (WalkArith.wf_i32 ⟨h1, by omega⟩)
theorem Tryz.keyTypeNode : Tryz.prog.keyType 134 = true := by kernel_rfl
theorem Tryz.sizeTypes : ∃ m, Tryz.prog.types.size = m + 2 := ⟨Tryz.prog.types.size - 2, by kernel_rfl⟩
theorem oct {l : List Int} (h : l.length = 8) : ∃ a b c d e f g i, l = [a, b, c, d, e, f, g, i] := by
  match l, h with
  | [a, b, c, d, e, f, g, i], _ => exact ⟨a, b, c, d, e, f, g, i, rfl⟩
theorem cellsNode : Tryz.prog.cellsOf 134 = 9 := by kernel_rfl
theorem cellsRow : Tryz.prog.cellsOf 132 = 8 := by kernel_rfl
theorem cellsI32 : Tryz.prog.cellsOf 21 = 1 := by kernel_rfl
theorem cellsInt : Tryz.prog.cellsOf 3 = 1 := by kernel_rfl
theorem lits_i32 {m : Nat} {a : Int} (h : -2147483648 ≤ a ∧ a < 2147483648) : Tryz.prog.keyLits (m + 1) 21 [.int .i32 a] = some [.int .i32 a] := by
  have w1 := WalkArith.wf_i32 (n := a) ⟨h.1, by omega⟩
  simp [Program.keyLits, Tryz.underlying21, w1]
theorem lits_row {m : Nat} {r : List Int} (h : R8 r) : ∃ l, Tryz.prog.keyLits (m + 2) 132 (r.map fun x => .int .i32 x) = some l := by
  obtain ⟨h3, h4⟩ := h
  obtain ⟨a, b, c, d, e, f, g, i, rfl⟩ := oct h3
  simp only [List.mem_cons, List.not_mem_nil, or_false, forall_eq_or_imp, forall_eq] at h4
  obtain ⟨a1, a2, a3, a4, a5, a6, a7, a8⟩ := h4
  unfold Program.keyLits
  simp only [Tryz.underlying132, cellsRow, cellsI32]
  simp [List.range, List.range.loop, lits_i32 a1, lits_i32 a2, lits_i32 a3, lits_i32 a4, lits_i32 a5, lits_i32 a6, lits_i32 a7, lits_i32 a8]
theorem key_node {n : Ndv} (h : Nd8 n) : ∃ l, keyOf Tryz.prog 134 (nodV n) = some l := by
  obtain ⟨lv, r⟩ := n
  obtain ⟨h1, h2, h3⟩ := h
  simp only at h1 h2 h3
  obtain ⟨m, hm⟩ := Tryz.sizeTypes
  obtain ⟨l, hl⟩ := lits_row (m := m) h3
  have w1 := WalkArith.wf_i64 (n := lv) ⟨h1, by omega⟩
  have hlen : r.length = 8 := h3.1
  unfold keyOf
  simp only [Tryz.underlying134]
  rw [if_pos (by simp [Tryz.keyTypeNode, Value.formed, Tryz.underlying134, cellsNode, nodV, nodC, hlen]), hm]
  unfold Program.keyLits
  have hl2 : List.take 8 (r.map fun x => Value.int .i32 x) = r.map fun x => Value.int .i32 x := List.take_of_length_le (by simp [hlen])
  have hi : Tryz.prog.keyLits (m + 2) 3 [.int .i64 lv] = some [.int .i64 lv] := by simp [Program.keyLits, Tryz.underlying3, w1]
  simp [Tryz.underlying134, cellsNode, cellsRow, cellsInt, nodV, nodC, hlen, Value.cells, hl2, hl, hi]
end Go.Proofs.YtcgkkppidkkjiaaGreatDoor
namespace Go.Proofs.YtcgkkppidkkjiaaGreatDoor
open Go.RowKit
section
variable {G G' : Nat → Prop} {w w' : World}
end
/-- a new node, or the number of one that is there -/
def addF (st : Int) (L : List Ndv) (n : Ndv) : Option (Int × List Ndv) :=
  match L.idxOf? n with
  | some i => some (st + (i : Int), L)
  | none => if st + (L.length : Int) < 2147483647 then some (st + (L.length : Int), L ++ [n]) else none
/-- the node with a number -/
def nodeF (st : Int) (L : List Ndv) (n : Int) : Option Ndv := if st ≤ n then L[(n - st).toNat]? else none
/-- the numbers of the nodes -/
def numF (st : Int) (L : List Ndv) (n : Ndv) : Option Int := (L.idxOf? n).map fun (i : Nat) => st + (i : Int)

theorem idxOf_lt {L : List Ndv} {n : Ndv} {i : Nat} (h : L.idxOf? n = some i) : i < L.length ∧ L[i]? = some n := by
  unfold List.idxOf? at h
  rw [List.findIdx?_eq_some_iff_getElem] at h
  obtain ⟨hi, h1, _⟩ := h
  exact ⟨hi, by rw [List.getElem?_eq_getElem hi]; congr; simpa using h1⟩
theorem idxOf_push {L : List Ndv} {n : Ndv} (h : L.idxOf? n = none) (m : Ndv) : (L ++ [n]).idxOf? m = if m = n then some L.length else L.idxOf? m := by
  unfold List.idxOf?
  rw [List.findIdx?_append]
  by_cases e : m = n
  · subst e
    unfold List.idxOf? at h
    rw [h, if_pos rfl]
    simp [List.findIdx?_cons]
  · rw [if_neg e]
    have : (n == m) = false := by simp [Ne.symm e]
    simp [List.findIdx?_cons, this]

/-- the forest's own cells -/
def Fo (w : World) (fb : Nat) (G : Nat → Prop) (st : Int) (L : List Ndv) : Prop :=
  ∃ A c mb, Blk w fb 129 #[.int .i64 st, .slice A L.length c, .map (some mb)] ∧ w.ownsRow 0 134 9 (.slice A L.length c) L.length (L.flatMap nodC) ∧
    MapOf Tryz.prog w 134 mb nodV (fun x => .int .i32 x) (numF st L) ∧ G fb ∧ G mb ∧ (∀ g, (Value.slice A L.length c).ownBlock = some g → G g ∧ g ≠ fb) ∧ (∀ b, G b → b < w.heap.size) ∧
    2 ≤ st ∧ st ≤ 8 ∧ (∀ n ∈ L, Nd8 n) ∧ st + (L.length : Int) ≤ 2147483647
section
variable {w w' : World} {fb : Nat} {G H H' : Nat → Prop} {st : Int} {L : List Ndv}
theorem Fo.keep (h : Fo w fb G st L) (hf : Fr H w H' w') (hd : ∀ b, G b → ¬ H b) : Fo w' fb G st L := by
  obtain ⟨A, c, mb, h1, h2, h3, h4, h5, h6, h7, h8⟩ := h
  exact ⟨A, c, mb, hf.blk h1 (hd _ h4), hf.row h2 (fun g hg => hd _ (h6 g hg).1), hf.map h3 (hd _ h5), h4, h5, h6, fun b hb => Nat.lt_of_lt_of_le (h7 b hb) hf.size, h8⟩
theorem Fo.below (h : Fo w fb G st L) (hb : Below w.heap.size w w') : Fo w' fb G st L := h.keep (Fr.of_below (G := fun _ => False) hb) (fun _ _ h => h)
end
theorem nodC_len {n : Ndv} (h : R8 n.r) : (nodC n).length = 9 := by simp [nodC, h.1]
theorem flat_at {L : List Ndv} (h : ∀ n ∈ L, Nd8 n) {i : Nat} {n : Ndv} (hi : L[i]? = some n) {j : Nat} (hj : j < 9) : (L.flatMap nodC)[i * 9 + j]? = (nodC n)[j]? := by
  induction L generalizing i with
  | nil => simp at hi
  | cons a L ih =>
    have ha : (nodC a).length = 9 := nodC_len (h a (by simp)).2.2
    rw [List.flatMap_cons]
    cases i with
    | zero =>
      simp at hi
      subst hi
      rw [List.getElem?_append_left (by omega)]
      congr 1; omega
    | succ i =>
      rw [List.getElem?_append_right (by omega), ha, show (i + 1) * 9 + j - 9 = i * 9 + j by omega]
      exact ih (fun n hn => h n (by simp [hn])) (by simpa using hi)
end Go.Proofs.YtcgkkppidkkjiaaGreatDoor
