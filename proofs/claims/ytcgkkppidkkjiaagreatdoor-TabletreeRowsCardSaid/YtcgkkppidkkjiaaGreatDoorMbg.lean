/- Min, Max of two numbers, isDefault. -/
/- allStates of two states. -/
/- The walk of rowsOf's closure, at what the examples ask. -/
/- The walk of rowsOf's closure at a node with two elements that differ, and at the end of a way with a row. -/
/- The walks of the reference's all, Constant and Read at the examples. -/
import Derived.Test.YtcgkkppidkkjiaaGreatDoorMab
import Derived.Test.YtcgkkppidkkjiaaGreatDoorMbf
import Derived.Test.YtcgkkppidkkjiaaGreatDoorMba
import Derived.Test.YtcgkkppidkkjiaaGreatDoorMaf
import Derived.Test.YtcgkkppidkkjiaaGreatDoorMan
import Derived.Deep.RegionHeldLaw
import Derived.Deep.AppendLies
import Derived.Test.YtcgkkppidkkjiaaGreatDoorMap
import Derived.Test.YtcgkkppidkkjiaaGreatDoorMah
import Derived.Test.YtcgkkppidkkjiaaGreatDoorMbc
namespace Go.Proofs.YtcgkkppidkkjiaaGreatDoor
open Go.RowKit

theorem il_two {w : World} {A : Option Addr} {a b : Int} (h : Reads w w.heap.size A 2 (il [a, b])) : ∃ ad : Addr, A = some ad ∧ w.cell? ad = some (.int .i64 a) ∧ w.cell? ⟨ad.block, ad.off + 1, none⟩ = some (.int .i64 b) := by
  obtain ⟨ad, rfl, _, h0⟩ := il_at h (show 0 < 2 by omega)
  obtain ⟨ad', e, _, h1⟩ := il_at h (show 1 < 2 by omega)
  injection e with e
  subst e
  exact ⟨ad, rfl, by simpa [Addr.add, ig] using h0, by simpa [Addr.add, ig] using h1⟩
set_option maxRecDepth 100000 in
set_option maxHeartbeats 2000000 in
theorem min_two (A : Option Addr) (c : Nat) (a b : Int) (w : World) (h : Reads w w.heap.size A 2 (il [a, b])) :
    Calls Tryz.prog 58 #[.slice A 2 c] w fun e w' => e = .returned (.int .i64 (min a b)) ∧ w = w' := by
  obtain ⟨ad, rfl, h0, h1⟩ := il_two h
  clear h
  go_enter Tryz.func58, Tryz.ntmps58
  go_wp2_with fail
  refine wp_loop_rounds 2 ?_
  rw [rounds_succ]
  go_wp2
  rw [rounds_succ]
  go_wp2
  go_ret
  exact ⟨rfl, rfl⟩
set_option maxRecDepth 100000 in
set_option maxHeartbeats 2000000 in
theorem max_two (A : Option Addr) (c : Nat) (a b : Int) (w : World) (h : Reads w w.heap.size A 2 (il [a, b])) :
    Calls Tryz.prog 59 #[.slice A 2 c] w fun e w' => e = .returned (.int .i64 (max a b)) ∧ w = w' := by
  obtain ⟨ad, rfl, h0, h1⟩ := il_two h
  clear h
  go_enter Tryz.func59, Tryz.ntmps59
  go_wp2_with fail
  refine wp_loop_rounds 2 ?_
  rw [rounds_succ]
  go_wp2
  rw [rounds_succ]
  go_wp2
  go_ret
  exact ⟨rfl, rfl⟩
set_option maxRecDepth 100000 in
set_option maxHeartbeats 2000000 in
theorem isdef_any (A : Option Addr) (n c k : Nat) (x : Int) (l : List Int) (w : World) (h : Reads w w.heap.size A n (il l)) (hk : k < n) (hn : n ≤ 1000) :
    Calls Tryz.prog 56 #[.slice A n c, .int .i64 (k : Int), .int .i64 x] w fun e w' => e = .returned (.bool (ig l k == x)) ∧ w = w' := by
  obtain ⟨ad, rfl, _, hc⟩ := il_at h hk
  clear h
  generalize ig l k = y at hc ⊢
  have hkI : (k : Int) < (n : Int) := by omega
  have d0 : decide ((k : Int) < 0) = false := decide_eq_false (by omega)
  go_enter Tryz.func56, Tryz.ntmps56
  go_wp2
  go_ret
  exact ⟨rfl, rfl⟩
end Go.Proofs.YtcgkkppidkkjiaaGreatDoor
namespace Go.Proofs.YtcgkkppidkkjiaaGreatDoor
open Go.RowKit

set_option maxRecDepth 100000 in
set_option maxHeartbeats 2000000 in
theorem alls_two (w : World) :
    Calls Tryz.prog 36 #[.int .i64 2] w fun e w' => e = .returned (.slice (some ⟨w.heap.size, 0, none⟩) 2 2) ∧ Blk w' w.heap.size 3 #[.int .i64 0, .int .i64 1] ∧ Below w.heap.size w w' := by
  have mk : (Instr.makeSlice 27 (.int .i64 2) (.int .i64 2)).run Tryz.prog w = .ok (.slice (some ⟨w.heap.size, 0, none⟩) 2 2) (w.alloc (.cells #[.int .i64 0, .int .i64 0] 3)) := mk_ints 2 (by omega) w
  have K := Blk.new w 3 #[.int .i64 0, .int .i64 0]
  have B := (Below.refl w.heap.size w).alloc (Nat.le_refl _) (.cells #[.int .i64 0, .int .i64 0] 3)
  go_enter Tryz.func36, Tryz.ntmps36
  go_wp2_with fail
  generalize w.alloc (.cells #[.int .i64 0, .int .i64 0] 3) = w0 at *
  obtain ⟨c0, c1, f0, f1, hlt⟩ := K.two
  refine wp_loop_rounds 3 ?_
  rw [rounds_succ]
  go_wp2
  rw [rounds_succ]
  go_wp2
  rw [rounds_succ]
  go_wp2
  go_ret
  exact ⟨rfl, (K.set_ 0 _).set_ 1 _, Below.set1 (Below.set1 B (Nat.le_refl _) _) (Nat.le_refl _) _⟩
end Go.Proofs.YtcgkkppidkkjiaaGreatDoor
namespace Go.Proofs.YtcgkkppidkkjiaaGreatDoor
open Go.RowKit

/-- what the closure has captured, as it lies; no row is there yet -/
structure WE (b0 b1 b3 b4 b5 Bi : Nat) (AH AN : Option Addr) (cH m cN : Nat) (lv : Nat → Int) (nx : Nat → List Int) (w : World) : Prop where
  k1 : Blk w b1 32 #[.int .i64 2, .slice AH 3 cH, .slice AN m cN]
  k3 : Blk w b3 24 #[.slice none 0 0]
  k4 : Blk w b4 3 #[.int .i64 1]
  k5 : Blk w b5 98 #[.func (.func 55) #[] #[.pointer (some ⟨b3, 0, none⟩), .pointer (some ⟨b1, 0, none⟩), .pointer (some ⟨b4, 0, none⟩), .pointer (some ⟨b5, 0, none⟩)]]
  nr : NR w b0 AN m lv nx
  lo : b1 < Bi ∧ b3 < Bi ∧ b4 < Bi ∧ b5 < Bi ∧ b0 ≤ b3 ∧ b3 < b5
  hi : Bi ≤ w.heap.size
section
variable {b0 b1 b3 b4 b5 Bi : Nat} {AH AN : Option Addr} {cH m cN : Nat} {lv : Nat → Int} {nx : Nat → List Int} {w w' : World}
theorem WE.below (h : WE b0 b1 b3 b4 b5 Bi AH AN cH m cN lv nx w) (hb : Below Bi w w') : WE b0 b1 b3 b4 b5 Bi AH AN cH m cN lv nx w' :=
  ⟨h.k1.below hb h.lo.1, h.k3.below hb h.lo.2.1, h.k4.below hb h.lo.2.2.1, h.k5.below hb h.lo.2.2.2.1, (h.nr.below ⟨hb.os, hb.tape, hb.output, hb.size, fun k hk => hb.block k (by have := h.lo; omega)⟩), h.lo, Nat.le_trans h.hi hb.size⟩
theorem WE.cells (h : WE b0 b1 b3 b4 b5 Bi AH AN cH m cN lv nx w) : w.cell? ⟨b1, 1, none⟩ = some (.slice AH 3 cH) ∧ w.cell? ⟨b1, 2, none⟩ = some (.slice AN m cN) ∧ w.cell? ⟨b3, 0, none⟩ = some (.slice none 0 0) ∧ w.cell? ⟨b4, 0, none⟩ = some (.int .i64 1) ∧ w.cell? ⟨b5, 0, none⟩ = some (.func (.func 55) #[] #[.pointer (some ⟨b3, 0, none⟩), .pointer (some ⟨b1, 0, none⟩), .pointer (some ⟨b4, 0, none⟩), .pointer (some ⟨b5, 0, none⟩)]) :=
  ⟨h.k1.three.2.1, h.k1.three.2.2.1, h.k3.one.1, h.k4.one.1, h.k5.one.1⟩
end
/-- cells below the lists', but that of the rows, are as they were -/
def KC (b3 Bi : Nat) (w w' : World) : Prop := ∀ p : Addr, p.block < Bi → p.block ≠ b3 → w'.cell? p = w.cell? p
theorem KC.trans {b3 Bi : Nat} {w w' w'' : World} (h : KC b3 Bi w w') (k : KC b3 Bi w' w'') : KC b3 Bi w w'' := fun p h1 h2 => (k p h1 h2).trans (h p h1 h2)
theorem KC.of {b3 Bi : Nat} {w w' : World} (h : Below Bi w w') : KC b3 Bi w w' := fun p h1 _ => h.cell h1
/-- the closure at a list of k elements -/
def WC (b0 b1 b3 b4 b5 Bi : Nat) (AH AN : Option Addr) (cH m cN : Nat) (lv : Nat → Int) (nx : Nat → List Int) (k : Nat) (ins : List Int) (i : Int) (D : World → Option Addr → Nat → World → Prop) : Prop :=
  ∀ (w : World) (A : Option Addr) (c : Nat), WE b0 b1 b3 b4 b5 Bi AH AN cH m cN lv nx w → w.ownsRow Bi 3 1 (.slice A k c) k (il ins) → Calls Tryz.prog 55 #[.slice A k c, .int .i64 i, .pointer (some ⟨b3, 0, none⟩), .pointer (some ⟨b1, 0, none⟩), .pointer (some ⟨b4, 0, none⟩), .pointer (some ⟨b5, 0, none⟩)] w fun e w' => (∃ v, e = .returned v) ∧ D w A c w' ∧ KC b3 Bi w w'
/-- nothing but the list's block has turned, and the list is as it was -/
def KeptR (Bi k : Nat) (ins : List Int) (w : World) (A : Option Addr) (c : Nat) (w' : World) : Prop := Fr (ob A) w (ob A) w' ∧ w'.ownsRow Bi 3 1 (.slice A k c) k (il ins)
theorem ob_own {A : Option Addr} {n c b : Nat} : ob A b ↔ (Value.slice A n c).ownBlock = some b := by cases A <;> rfl
theorem ob_ge {w : World} {A : Option Addr} {base k n c : Nat} {e : TypeId} {v : List Value} (h : w.ownsRow base e k (.slice A n c) n v) : ∀ b, ob A b → base ≤ b := fun b hb => (h.lt b (ob_own.1 hb)).1
/-- behind an append onto the list -/
theorem ap_fr {w w1 : World} {A : Option Addr} {n c g : Nat} {o : Obj} (hg : (w.alloc o).drew.grownBy w1 (Value.slice A n c).ownBlock) (hat : (Value.slice A n c).ownBlock = some g ∨ g = (w.alloc o).drew.heap.size) : Fr (ob A) w (ob (some ⟨g, 0, none⟩)) w1 := by
  have hs : (w.alloc o).drew.heap.size = w.heap.size + 1 := World.size_alloc _ _
  refine ⟨hg.os, hg.tape, hg.output, by have := hg.size; omega, fun k hk hn => ?_, fun k hk => ?_⟩
  · rw [hg.block k (by omega) (fun e => hn (ob_own.2 e.symm))]
    exact Below.heap_alloc w o k hk
  · have e : g = k := by simpa [ob, Value.ownBlock] using hk
    subst e
    rcases hat with h | h
    · exact .inl (ob_own.2 h)
    · right; omega
section
variable {b0 b1 b3 b4 b5 Bi : Nat} {AH AN : Option Addr} {cH m cN : Nat} {lv : Nat → Int} {nx : Nat → List Int}
set_option maxRecDepth 100000 in
set_option maxHeartbeats 2000000 in
/-- at the end of the way, where the default leads there -/
theorem wk_leaf (ins : List Int) (x : Int) (hx : ig ins 1 = x) : WC b0 b1 b3 b4 b5 Bi AH AN cH m cN lv nx 3 ins x (KeptR Bi 3 ins) := by
  intro w A c hw ho
  obtain ⟨c1, c2, c3, c4, c5⟩ := hw.cells
  have ID := Lib.hid (show ∀ W, Below w.heap.size w W → Calls Tryz.prog 56 #[.slice A 3 c, .int .i64 1, .int .i64 x] W fun e W' => e = .returned (.bool true) ∧ W = W' from fun W hb => (isdef_any A 3 c 1 x ins W ((Reads.of_own ho).later hb) (by omega) (by omega)).mono fun e W' ⟨he, hx2⟩ => ⟨by rw [he, hx]; simp, hx2⟩)
  have HO := Lib.hid ho
  clear hw ho hx
  go_enter Tryz.func55, Tryz.ntmps55
  go_wp2_with (go_at_call 56; (with_reducible refine (ID.out _ (Below.refl _ _)).mono ?_); rintro e w1 ⟨rfl, rfl⟩)
  refine bodyPost_ret (results_none rfl _ _ _) rfl ?_
  exact ⟨⟨_, rfl⟩, ⟨Fr.refl _ _, HO.out⟩, fun _ _ _ => rfl⟩
set_option maxRecDepth 100000 in
set_option maxHeartbeats 4000000 in
/-- a node with two equal elements -/
theorem wk_same (k : Nat) (hk : k < 3) (ins : List Int) (i : Nat) (hi : i < m) (a : Int) (hn : nx i = [a, a]) {D D' : World → Option Addr → Nat → World → Prop}
    (HC : WC b0 b1 b3 b4 b5 Bi AH AN cH m cN lv nx (k + 1) (ins ++ [-1 - (k : Int)]) a D')
    (HD : ∀ w A c w1 A1 c1 w', WE b0 b1 b3 b4 b5 Bi AH AN cH m cN lv nx w → w.ownsRow Bi 3 1 (.slice A k c) k (il ins) → Fr (ob A) w (ob A1) w1 → w1.ownsRow Bi 3 1 (.slice A k c) k (il ins) → w1.ownsRow Bi 3 1 (.slice A1 (k + 1) c1) (k + 1) (il (ins ++ [-1 - (k : Int)])) → D' w1 A1 c1 w' → D w A c w') :
    WC b0 b1 b3 b4 b5 Bi AH AN cH m cN lv nx k ins (i : Int) D := by
  intro w A c hw ho
  obtain ⟨i0, hii, hz0, hz1, hz2⟩ := info_parts Tryz.info_int
  obtain ⟨c1, c2, c3, c4, c5⟩ := hw.cells
  obtain ⟨gN, oN, rfl, hgN, hcN⟩ := hw.nr (by omega)
  obtain ⟨Ai, ci, n1, n2, n3⟩ := hcN i hi
  rw [hn] at n2 n3
  simp only [List.length_cons, List.length_nil, Nat.zero_add, Nat.reduceAdd] at n2 n3
  have hsz := hw.hi
  have hlo := hw.lo
  have hbs : b0 ≤ w.heap.size := by omega
  have MN := Lib.hid (show ∀ W, Below w.heap.size w W → Calls Tryz.prog 58 #[.slice Ai 2 ci] W fun e W' => e = .returned (.int .i64 a) ∧ W = W' from fun W hb => (min_two Ai ci a a W ((n3.more hbs).later hb)).mono fun e W' ⟨he, hx⟩ => ⟨by rw [he, Int.min_self], hx⟩)
  have MX := Lib.hid (show ∀ W, Below w.heap.size w W → Calls Tryz.prog 59 #[.slice Ai 2 ci] W fun e W' => e = .returned (.int .i64 a) ∧ W = W' from fun W hb => (max_two Ai ci a a W ((n3.more hbs).later hb)).mono fun e W' ⟨he, hx⟩ => ⟨by rw [he, Int.max_self], hx⟩)
  obtain ⟨ad, hAi, hadB, _⟩ := il_at n3 (show 0 < 2 by omega)
  obtain ⟨ad', rfl, q0, q1⟩ := il_two (n3.more hbs)
  injection hAi with hAi
  subst hAi
  have e0 : ((k : Int) == 3) = false := by rw [beq_eq_false_iff_ne]; omega
  have e1 : IntKind.i64.wrap (-1 - (k : Int)) = -1 - (k : Int) := IntWalk.i64_in _ ⟨by omega, by omega⟩
  have hiI : (i : Int) < (m : Int) := by omega
  have HW := Lib.hid hw
  have HO := Lib.hid ho
  have HHD := Lib.hid HD
  have HHC := Lib.hid (fun w A c h1 h2 => HC w A c h1 h2)
  have OD := Lib.hid (show (w.alloc (.cells #[.int .i64 (-1 - (k : Int))] 3)).drew.ownsRow Bi 3 1 (.slice A k c) k (il ins) from (ho.alloc (.cells #[.int .i64 (-1 - (k : Int))] 3)))
  have CE := Lib.hid (show (w.alloc (.cells #[.int .i64 (-1 - (k : Int))] 3)).drew.cell? ⟨w.heap.size, 0, none⟩ = some (.int .i64 (-1 - (k : Int))) from (Blk.new w 3 #[.int .i64 (-1 - (k : Int))]).cell 0)
  have HBZ := Lib.hid (show Bi ≤ (w.alloc (.cells #[.int .i64 (-1 - (k : Int))] 3)).drew.heap.size from by show Bi ≤ (w.alloc (.cells #[.int .i64 (-1 - (k : Int))] 3)).heap.size; rw [World.size_alloc]; exact Nat.le_succ_of_le hsz)
  have HLO := Lib.hid hlo
  have HAB := Lib.hid hadB
  have Q0 := Lib.hid q0
  have HLEN := Lib.hid (show k + 1 ≤ maxLen ∧ (k + 1) * 8 ≤ 140737488355328 from by unfold maxLen; omega)
  clear hw ho HD HC hn n1 n3 hcN q1 hi hbs hlo hadB
  have S0 : w.cell? ⟨b5, 0, none⟩ = some (.func (.func 55) #[] #[.pointer (some ⟨b3, 0, none⟩), .pointer (some ⟨b1, 0, none⟩), .pointer (some ⟨b4, 0, none⟩), .pointer (some ⟨b5, 0, none⟩)]) ∧ w.cell? ad' = some (.int .i64 a) := ⟨c5, q0⟩
  go_enter Tryz.func55, Tryz.ntmps55
  go_wp2_with (first | (go_at_call 58; (with_reducible refine (MN.out _ (Below.refl _ _)).mono ?_); rintro e w1 ⟨rfl, rfl⟩) | (go_at_call 59; (with_reducible refine (MX.out _ (Below.refl _ _)).mono ?_); rintro e w1 ⟨rfl, rfl⟩) | fail)
  go_region_held_law? (fun W => W.cell? ⟨b5, 0, none⟩ = some (.func (.func 55) #[] #[.pointer (some ⟨b3, 0, none⟩), .pointer (some ⟨b1, 0, none⟩), .pointer (some ⟨b4, 0, none⟩), .pointer (some ⟨b5, 0, none⟩)]) ∧ W.cell? ad' = some (.int .i64 a))
    (first | assumption | go_keep)
    (first
    | (refine step_append_kept (by rfl) _ _ _ (by rfl) Bi 3 i0 (.int .i64 0) 8 Tryz.underlying27 hii hz0 hz1 hz2 rfl A k c (il ins) (by rfl) OD.out ⟨w.heap.size, 0, none⟩ 1 (.int .i64 (-1 - (k : Int))) (by rfl) CE.out (by rfl) HLEN.out.1 HLEN.out.2 HBZ.out ?_; intro g1 d1 w1 hown1 hgrow hat hlt hkept; have F1 := Lib.hid (ap_fr hgrow hat); have B1 := Lib.hid (F1.out.below (ob_ge HO.out) hsz); have W1 := Lib.hid (HW.out.below B1.out); have O1 := Lib.hid (show w1.ownsRow Bi 3 1 (.slice (some ⟨g1, 0, none⟩) (k + 1) d1) (k + 1) (il (ins ++ [-1 - (k : Int)])) from by rw [il_add]; exact hown1); have P1 := Lib.hid hkept; have S1 : w1.cell? ⟨b5, 0, none⟩ = some (.func (.func 55) #[] #[.pointer (some ⟨b3, 0, none⟩), .pointer (some ⟨b1, 0, none⟩), .pointer (some ⟨b4, 0, none⟩), .pointer (some ⟨b5, 0, none⟩)]) ∧ w1.cell? ad' = some (.int .i64 a) := ⟨W1.out.cells.2.2.2.2, (B1.out.cell (by have := HAB.out; have := HLO.out; omega)).trans Q0.out⟩; clear hown1 hgrow hat hlt hkept)
    | ((with_reducible refine (HHC.out _ _ _ W1.out O1.out).mono ?_); rintro e w2 ⟨⟨v, rfl⟩, hD, hK⟩; have D2 := Lib.hid hD; have K2 := Lib.hid hK; have S2 : w2.cell? ⟨b5, 0, none⟩ = some (.func (.func 55) #[] #[.pointer (some ⟨b3, 0, none⟩), .pointer (some ⟨b1, 0, none⟩), .pointer (some ⟨b4, 0, none⟩), .pointer (some ⟨b5, 0, none⟩)]) ∧ w2.cell? ad' = some (.int .i64 a) := ⟨(hK ⟨b5, 0, none⟩ HLO.out.2.2.2.1 (by have := HLO.out; show b5 ≠ b3; omega)).trans S1.1, (hK ad' (by have := HAB.out; have := HLO.out; omega) (by have := HAB.out; have := HLO.out; omega)).trans S1.2⟩; clear hD hK))
  all_goals
    go_wp2_with fail
    refine bodyPost_ret (results_none rfl _ _ _) rfl ?_
    exact ⟨⟨_, rfl⟩, HHD.out _ _ _ _ _ _ _ HW.out HO.out F1.out P1.out O1.out D2.out, (KC.of B1.out).trans K2.out⟩
end
end Go.Proofs.YtcgkkppidkkjiaaGreatDoor
namespace Go.Proofs.YtcgkkppidkkjiaaGreatDoor
open Go.RowKit

theorem od_ {w : World} {A : Option Addr} {Bi k c : Nat} {xs : List Value} (h : w.ownsRow Bi 3 1 (.slice A k c) k xs) (u : Value) : (w.alloc (.cells #[u] 3)).drew.ownsRow Bi 3 1 (.slice A k c) k xs := h.alloc (.cells #[u] 3)
theorem ce_ (w : World) (u : Value) : (w.alloc (.cells #[u] 3)).drew.cell? ⟨w.heap.size, 0, none⟩ = some u := (Blk.new w 3 #[u]).cell 0
theorem hbz_ {w : World} {Bi : Nat} (h : Bi ≤ w.heap.size) (o : Obj) : Bi ≤ (w.alloc o).drew.heap.size := by show Bi ≤ (w.alloc o).heap.size; rw [World.size_alloc]; exact Nat.le_succ_of_le h
section
variable {b0 b1 b3 b4 b5 Bi : Nat} {AH AN : Option Addr} {cH m cN : Nat} {lv : Nat → Int} {nx : Nat → List Int}
/-- behind a call with the longer list -/
theorem kept_next {w w1 w2 : World} {A A1 : Option Addr} {k c c1 : Nat} {ins : List Int} {x : Int} (ho : w.ownsRow Bi 3 1 (.slice A k c) k (il ins)) (hf : Fr (ob A) w (ob A1) w1) (hp : w1.ownsRow Bi 3 1 (.slice A k c) k (il ins)) (h1 : w1.ownsRow Bi 3 1 (.slice A1 (k + 1) c1) (k + 1) (il (ins ++ [x]))) (hk : KeptR Bi (k + 1) (ins ++ [x]) w1 A1 c1 w2) : KeptR Bi k ins w A c w2 := by
  rw [il_add] at h1
  have h2 := hk.2
  rw [il_add] at h2
  exact ⟨(hf.trans hk.1).weak (fun _ h => h) (fun _ h => .inl h), own_back hp h1 hk.1 h2⟩
theorem KeptR.trans {w w1 w2 : World} {A : Option Addr} {k c : Nat} {ins : List Int} (h : KeptR Bi k ins w A c w1) (h' : KeptR Bi k ins w1 A c w2) : KeptR Bi k ins w A c w2 := ⟨h.1.trans h'.1, h'.2⟩
set_option maxRecDepth 100000 in
set_option maxHeartbeats 4000000 in
/-- a node with two elements that differ -/
theorem wk_both (k : Nat) (hk : k < 3) (ins : List Int) (i : Nat) (hi : i < m) (a b : Int) (hn : nx i = [a, b]) (hab : a ≠ b)
    (HC : WC b0 b1 b3 b4 b5 Bi AH AN cH m cN lv nx (k + 1) (ins ++ [0]) a (KeptR Bi (k + 1) (ins ++ [0]))) (HC2 : WC b0 b1 b3 b4 b5 Bi AH AN cH m cN lv nx (k + 1) (ins ++ [1]) b (KeptR Bi (k + 1) (ins ++ [1]))) :
    WC b0 b1 b3 b4 b5 Bi AH AN cH m cN lv nx k ins (i : Int) (KeptR Bi k ins) := by
  intro w A c hw ho
  obtain ⟨i0, hii, hz0, hz1, hz2⟩ := info_parts Tryz.info_int
  obtain ⟨c1, c2, c3, c4, c5⟩ := hw.cells
  obtain ⟨gN, oN, rfl, hgN, hcN⟩ := hw.nr (by omega)
  obtain ⟨Ai, ci, n1, n2, n3⟩ := hcN i hi
  rw [hn] at n2 n3
  simp only [List.length_cons, List.length_nil, Nat.zero_add, Nat.reduceAdd] at n2 n3
  have hsz := hw.hi
  have hlo := hw.lo
  have hbs : b0 ≤ w.heap.size := by omega
  have MN := Lib.hid (show ∀ W, Below w.heap.size w W → Calls Tryz.prog 58 #[.slice Ai 2 ci] W fun e W' => e = .returned (.int .i64 (min a b)) ∧ W = W' from fun W hb => min_two Ai ci a b W ((n3.more hbs).later hb))
  have MX := Lib.hid (show ∀ W, Below w.heap.size w W → Calls Tryz.prog 59 #[.slice Ai 2 ci] W fun e W' => e = .returned (.int .i64 (max a b)) ∧ W = W' from fun W hb => max_two Ai ci a b W ((n3.more hbs).later hb))
  have hmm : (min a b == max a b) = false := by rw [beq_eq_false_iff_ne]; omega
  obtain ⟨ad, hAi, hadB, _⟩ := il_at n3 (show 0 < 2 by omega)
  obtain ⟨ad', rfl, q0, q1⟩ := il_two (n3.more hbs)
  injection hAi with hAi
  subst hAi
  generalize min a b = mn at MN hmm
  generalize max a b = mx at MX hmm
  have e0 : ((k : Int) == 3) = false := by rw [beq_eq_false_iff_ne]; omega
  have hiI : (i : Int) < (m : Int) := by omega
  have HLO := Lib.hid hlo
  have HAB := Lib.hid hadB
  have HW := Lib.hid hw
  have HO := Lib.hid ho
  have HHC := Lib.hid (fun w A c h1 h2 => HC w A c h1 h2)
  have HHD := Lib.hid (fun w A c h1 h2 => HC2 w A c h1 h2)
  have Q0 := Lib.hid (fun W (hb : Below Bi w W) => show W.cell? ad' = some (.int .i64 a) ∧ W.cell? ⟨ad'.block, ad'.off + 1, none⟩ = some (.int .i64 b) from ⟨(hb.cell (by omega)).trans q0, (hb.cell (p := ⟨ad'.block, ad'.off + 1, none⟩) (by show ad'.block < Bi; omega)).trans q1⟩)
  have HLEN := Lib.hid (show k + 1 ≤ maxLen ∧ (k + 1) * 8 ≤ 140737488355328 from by unfold maxLen; omega)
  clear hw ho HC HC2 hn n1 n3 hcN hi hbs hlo hadB hab
  go_enter Tryz.func55, Tryz.ntmps55
  go_wp2_with (first | (go_at_call 58; (with_reducible refine (MN.out _ (Below.refl _ _)).mono ?_); rintro e w1 ⟨rfl, rfl⟩) | (go_at_call 59; (with_reducible refine (MX.out _ (Below.refl _ _)).mono ?_); rintro e w1 ⟨rfl, rfl⟩) | fail)
  refine wp_loop_rounds 3 ?_
  rw [rounds_succ]
  go_wp2_with fail
  go_region_held_law (fun W => W.cell? ⟨b5, 0, none⟩ = some (.func (.func 55) #[] #[.pointer (some ⟨b3, 0, none⟩), .pointer (some ⟨b1, 0, none⟩), .pointer (some ⟨b4, 0, none⟩), .pointer (some ⟨b5, 0, none⟩)]))
    (first | assumption | go_keep)
    (first
    | (refine step_append_kept (by rfl) _ _ _ (by rfl) Bi 3 i0 (.int .i64 0) 8 Tryz.underlying27 hii hz0 hz1 hz2 rfl A k c (il ins) (by rfl) (od_ HO.out (.int .i64 0)) ⟨w.heap.size, 0, none⟩ 1 (.int .i64 0) (by rfl) (ce_ w (.int .i64 0)) (by rfl) HLEN.out.1 HLEN.out.2 (hbz_ hsz _) ?_; intro g1 d1 w1 hown1 hgrow hat hlt hkept; have F1 := Lib.hid (ap_fr hgrow hat); have B1 := Lib.hid (F1.out.below (ob_ge HO.out) hsz); have W1 := Lib.hid (HW.out.below B1.out); have O1 := Lib.hid (show w1.ownsRow Bi 3 1 (.slice (some ⟨g1, 0, none⟩) (k + 1) d1) (k + 1) (il (ins ++ [0])) from by rw [il_add]; exact hown1); have P1 := Lib.hid hkept; have S1 : w1.cell? ⟨b5, 0, none⟩ = some (.func (.func 55) #[] #[.pointer (some ⟨b3, 0, none⟩), .pointer (some ⟨b1, 0, none⟩), .pointer (some ⟨b4, 0, none⟩), .pointer (some ⟨b5, 0, none⟩)]) := W1.out.cells.2.2.2.2; clear hown1 hgrow hat hlt hkept)
    | ((with_reducible refine (HHC.out _ _ _ W1.out O1.out).mono ?_); rintro e w2 ⟨⟨v, rfl⟩, hD, hK⟩; have D2 := Lib.hid (kept_next HO.out F1.out P1.out O1.out hD); have S2 : w2.cell? ⟨b5, 0, none⟩ = some (.func (.func 55) #[] #[.pointer (some ⟨b3, 0, none⟩), .pointer (some ⟨b1, 0, none⟩), .pointer (some ⟨b4, 0, none⟩), .pointer (some ⟨b5, 0, none⟩)]) := (hK ⟨b5, 0, none⟩ HLO.out.2.2.2.1 (by have := HLO.out; show b5 ≠ b3; omega)).trans S1; clear hD hK))
  have B2 := Lib.hid (D2.out.1.below (ob_ge HO.out) hsz)
  have W2 := Lib.hid (HW.out.below B2.out)
  have hsz2 : Bi ≤ w2.heap.size := W2.out.hi
  obtain ⟨x0, x1⟩ := Q0.out w2 B2.out
  have O2 := Lib.hid D2.out.2
  clear c1 c2 c3 c4 c5 q0 q1 n2 S1
  go_wp2_with fail
  rw [rounds_succ]
  go_wp2_with fail
  go_region_held_law (fun W => W.cell? ⟨b5, 0, none⟩ = some (.func (.func 55) #[] #[.pointer (some ⟨b3, 0, none⟩), .pointer (some ⟨b1, 0, none⟩), .pointer (some ⟨b4, 0, none⟩), .pointer (some ⟨b5, 0, none⟩)]))
    (first | assumption | go_keep)
    (first
    | (refine step_append_kept (by rfl) _ _ _ (by rfl) Bi 3 i0 (.int .i64 0) 8 Tryz.underlying27 hii hz0 hz1 hz2 rfl A k c (il ins) (by rfl) (od_ O2.out (.int .i64 1)) ⟨w2.heap.size, 0, none⟩ 1 (.int .i64 1) (by rfl) (ce_ w2 (.int .i64 1)) (by rfl) HLEN.out.1 HLEN.out.2 (hbz_ hsz2 _) ?_; intro g3 d3 w3 hown1 hgrow hat hlt hkept; have F3 := Lib.hid (ap_fr hgrow hat); have B3 := Lib.hid (F3.out.below (ob_ge O2.out) hsz2); have W3 := Lib.hid (W2.out.below B3.out); have O3 := Lib.hid (show w3.ownsRow Bi 3 1 (.slice (some ⟨g3, 0, none⟩) (k + 1) d3) (k + 1) (il (ins ++ [1])) from by rw [il_add]; exact hown1); have P3 := Lib.hid hkept; have S3 : w3.cell? ⟨b5, 0, none⟩ = some (.func (.func 55) #[] #[.pointer (some ⟨b3, 0, none⟩), .pointer (some ⟨b1, 0, none⟩), .pointer (some ⟨b4, 0, none⟩), .pointer (some ⟨b5, 0, none⟩)]) := W3.out.cells.2.2.2.2; clear hown1 hgrow hat hlt hkept)
    | ((with_reducible refine (HHD.out _ _ _ W3.out O3.out).mono ?_); rintro e w4 ⟨⟨v, rfl⟩, hD, hK⟩; have D4 := Lib.hid (kept_next O2.out F3.out P3.out O3.out hD); have S4 : w4.cell? ⟨b5, 0, none⟩ = some (.func (.func 55) #[] #[.pointer (some ⟨b3, 0, none⟩), .pointer (some ⟨b1, 0, none⟩), .pointer (some ⟨b4, 0, none⟩), .pointer (some ⟨b5, 0, none⟩)]) := (hK ⟨b5, 0, none⟩ HLO.out.2.2.2.1 (by have := HLO.out; show b5 ≠ b3; omega)).trans S3; clear hD hK))
  go_wp2_with fail
  rw [rounds_succ]
  go_wp2_with fail
  go_end0
  exact ⟨⟨_, rfl⟩, D2.out.trans D4.out, KC.of ((D2.out.trans D4.out).1.below (ob_ge HO.out) hsz)⟩
end
end Go.Proofs.YtcgkkppidkkjiaaGreatDoor
namespace Go.Proofs.YtcgkkppidkkjiaaGreatDoor
open Go.RowKit

theorem il_rep (x : Int) (j : Nat) : il (List.replicate j x) ++ [.int .i64 x] = il (List.replicate (j + 1) x) := by
  rw [← il_add, List.replicate_succ']
set_option maxRecDepth 100000 in
set_option maxHeartbeats 4000000 in
theorem rall_any (l x : Int) (S : Nat) (hS : S ≤ 8) (w : World) :
    Calls Tryz.prog 31 #[.int .i64 l, .int .i64 (S : Int), .int .i64 x] w fun e w' => ∃ A c, e = .returned (.agg #[.int .i64 l, .slice A S c]) ∧ w'.ownsRow w.heap.size 3 1 (.slice A S c) S (il (List.replicate S x)) ∧ Below w.heap.size w w' := by
  obtain ⟨i0, hi, hz0, hz1, hz2⟩ := info_parts Tryz.info_int
  have IL := Lib.hid (il_rep x)
  have K0 := (Blk.new w 66 #[.int .i64 0, .slice none 0 0]).alloc (.cells #[.int .i64 l, .slice none 0 0] 66)
  have K1 := Blk.new (w.alloc (.cells #[.int .i64 0, .slice none 0 0] 66)) 66 #[.int .i64 l, .slice none 0 0]
  rw [World.size_alloc] at K1
  have B0 := ((Below.refl w.heap.size w).alloc (Nat.le_refl _) (.cells #[.int .i64 0, .slice none 0 0] 66)).alloc (by simp) (.cells #[.int .i64 l, .slice none 0 0] 66)
  have s0 : ((w.alloc (.cells #[.int .i64 0, .slice none 0 0] 66)).alloc (.cells #[.int .i64 l, .slice none 0 0] 66)).heap.size = w.heap.size + 2 := by simp
  go_enter Tryz.func31, Tryz.ntmps31
  go_wp2_with fail
  generalize (w.alloc (.cells #[.int .i64 0, .slice none 0 0] 66)).alloc (.cells #[.int .i64 l, .slice none 0 0] 66) = w0 at *
  obtain ⟨g, hg⟩ : ∃ g, g = w.heap.size := ⟨_, rfl⟩
  rw [← hg] at K0 K1 B0 s0 ⊢
  have HG := Lib.hid hg
  clear hg
  have K0 := Lib.hid K0
  have K1 := Lib.hid K1
  have B0 := Lib.hid B0
  have O0 := Lib.hid (World.ownsRow_nil w0 (g + 2) 3 1)
  go_loopw [8] (fun iv wr => ∃ (j : Nat) (A : Option Addr) (c : Nat), j ≤ S ∧ iv = .int .i64 (j : Int) ∧ Hid (Blk wr (g + 1) 66 #[.int .i64 l, .slice A j c]) ∧ Hid (Blk wr g 66 #[.int .i64 0, .slice none 0 0]) ∧ Hid (wr.ownsRow (g + 2) 3 1 (.slice A j c) j (il (List.replicate j x))) ∧ Hid (Below g w wr) ∧ g + 2 ≤ wr.heap.size) (fun iv _ => S - (intOf iv).toNat)
  case atStart => exact ⟨0, none, 0, Nat.zero_le _, rfl, K1, K0, O0, B0, by omega⟩
  case round =>
    obtain ⟨j, A, c, hj, rfl, HK, HK0, HO, HB, hsz⟩ := hrel
    by_cases hlt : j < S
    · obtain ⟨a0, a1, a2, a3, a4⟩ := HK.out.two
      have ho := HO.out
      have hjI : (j : Int) < (S : Int) := by omega
      go_wp2_with (at_builtin; refine wpList_append1 rfl _ _ 27 rfl (g + 2) 3 i0 (.int .i64 0) 8 Tryz.underlying27 hi hz0 hz1 hz2 rfl A j c _ rfl ho (.int .i64 x) rfl rfl (by unfold maxLen; omega) (by omega) hsz ?_; intro g6 c6 w6 hown6 hbel6; have O6 := Lib.hid hown6; have B6 := Lib.hid hbel6; have K6 := Lib.hid (HK.out.below hbel6 (by omega)); have K60 := Lib.hid (HK0.out.below hbel6 (by omega)); clear hown6 hbel6 a0 a1 a2 a3 a4; obtain ⟨a0, a1, a2, a3, a4⟩ := K6.out.two)
      go_roundw
      case rel =>
        refine ⟨j + 1, some ⟨g6, 0, none⟩, c6, by omega, by go_num, Lib.hid (K6.out.set_ 1 _), Lib.hid (K60.out.far (by show g ≠ g + 1; omega) _), Lib.hid ?_, Lib.hid (Below.set1 (HB.out.trans (B6.out.mono (by omega))) (Nat.le_succ g) _), by have := B6.out.size; show g + 2 ≤ (w6.setCell _ _).heap.size; rw [World.size_setCell]; omega⟩
        have h := O6.out
        rw [IL.out] at h
        exact own_set h (fun e => by have := (h.lt _ e).1; simp only at this; omega) _
      case measure => simp [intOf]; omega
    · obtain rfl : j = S := by omega
      obtain ⟨a0, a1, a2, a3, a4⟩ := HK.out.two
      obtain ⟨b0, b1, b2, b3, b4⟩ := HK0.out.two
      go_wp2
      have h := HO.out
      have hne : (Value.slice A j c).ownBlock ≠ some g := fun e => by have := (h.lt _ e).1; omega
      have KZ : Blk ((wr.setCell ⟨g, 0, none⟩ (.int .i64 l)).setCell ⟨g, 1, none⟩ (.slice A j c)) g 66 #[.int .i64 l, .slice A j c] := by simpa using ((HK0.out.set_ 0 (.int .i64 l)).set_ 1 (.slice A j c))
      obtain ⟨y0, y1, y2, y3, y4⟩ := KZ.two
      have eg := HG.out
      subst eg
      have hR : ∃ A' c', Ending.returned (.agg #[.int .i64 l, .slice A j c]) = .returned (.agg #[.int .i64 l, .slice A' j c']) ∧ ((wr.setCell ⟨w.heap.size, 0, none⟩ (.int .i64 l)).setCell ⟨w.heap.size, 1, none⟩ (.slice A j c)).ownsRow w.heap.size 3 1 (.slice A' j c') j (il (List.replicate j x)) ∧ Below w.heap.size w ((wr.setCell ⟨w.heap.size, 0, none⟩ (.int .i64 l)).setCell ⟨w.heap.size, 1, none⟩ (.slice A j c)) :=
        ⟨A, c, rfl, own_base (own_set (own_set h hne _) hne _) (by omega), Below.set1 (Below.set1 HB.out (Nat.le_refl _) _) (Nat.le_refl _) _⟩
      exact bodyPost_ret (v := .agg #[.int .i64 l, .slice A j c]) (by simp [results, Tryz.results31, go_sem, y0, y1]) rfl hR
end Go.Proofs.YtcgkkppidkkjiaaGreatDoor
