/- The walks of BinarySearchFunc and of Set at the chapter's example. -/
import Derived.Test.YtegednbebmkmhaaCat
import Derived.Test.YtegednbebmkmhaaBox
namespace Go.Proofs.Ytegednbebmkmhaa
open Go.RowKit

theorem Row2.alloc {w : World} {g : Nat} {a b : C3} (h : Row2 w g a b) (o : Obj) : Row2 (w.alloc o) g a b := h.below ((Below.refl w.heap.size w).alloc (Nat.le_refl _) o) h.1
theorem Row2.later {w w' : World} {g : Nat} {a b : C3} (h : Row2 w g a b) (hb : Below w.heap.size w w') : Row2 w' g a b := h.below hb h.1

set_option maxRecDepth 100000 in
set_option maxHeartbeats 2000000 in
theorem search_ex (g c : Nat) (w : World) (h : Row2 w g (0, 0, 2) (1, 1, 1)) :
    Calls Try.prog 25 #[.slice (some ⟨g, 0, none⟩) 2 c, .agg #[.int .i64 0, .int .i64 0, .int .i64 0], .func (.func 19) #[] #[]] w fun e w' => e = .returned (.tuple #[.int .i64 0, .bool true]) ∧ Below w.heap.size w w' := by
  have P1 := Lib.hid (fun w => by have := places_any (1, 1, 1) (0, 0, 0) w; rwa [show cp (1, 1, 1) (0, 0, 0) = 1 by decide] at this)
  have P2 := Lib.hid (fun w => by have := places_any (0, 0, 2) (0, 0, 0) w; rwa [show cp (0, 0, 2) (0, 0, 0) = 0 by decide] at this)
  have K0 := Lib.hid (Blk.new w 34 #[.int .i64 0, .int .i64 0, .int .i64 0])
  have B0 := Lib.hid ((Below.refl w.heap.size w).alloc (Nat.le_refl _) (.cells #[.int .i64 0, .int .i64 0, .int .i64 0] 34))
  have R0 := Lib.hid (h.alloc (.cells #[.int .i64 0, .int .i64 0, .int .i64 0] 34))
  clear h
  go_enter Try.func25, Try.ntmps25
  go_wp2
  refine wp_loop_rounds 3 ?_
  rw [rounds_succ]
  obtain ⟨b, hb⟩ : ∃ b, b = w.heap.size := ⟨_, rfl⟩
  have HBB := Lib.hid hb
  rw [← hb] at K0
  go_wp2_with fail
  rw [← hb]
  clear hb
  generalize w.alloc (.cells #[.int .i64 0, .int .i64 0, .int .i64 0] 34) = w0 at K0 B0 R0 ⊢
  have c0 := fun p : LowW w0.heap.size w0 => (K0.out.below p.below K0.out.lt).three.1
  have c1 := fun p : LowW w0.heap.size w0 => (K0.out.below p.below K0.out.lt).three.2.1
  have c2 := fun p : LowW w0.heap.size w0 => (K0.out.below p.below K0.out.lt).three.2.2.1
  have k3 := fun p : LowW w0.heap.size w0 => (R0.out.below p.below R0.out.1).2.2.2.2.2.1
  have k4 := fun p : LowW w0.heap.size w0 => (R0.out.below p.below R0.out.1).2.2.2.2.2.2.1
  have k5 := fun p : LowW w0.heap.size w0 => (R0.out.below p.below R0.out.1).2.2.2.2.2.2.2
  simp only at k3 k4 k5
  refine wp_region_low w0.heap.size w0 (by kernel_rfl) (by kernel_rfl) (Below.refl _ _) ?_
  repeat (quiet_step (first | (go_at_call 19; with_reducible exact LowW.of_call _ (Nat.le_refl _) (P1.out _))))
  refine wpQuiet_nil ?_
  rintro w1 ⟨p, rfl⟩
  have R1 := Lib.hid (R0.out.below p.below R0.out.1)
  have K1 := Lib.hid (K0.out.below p.below K0.out.lt)
  have B1 := Lib.hid (B0.out.trans (p.below.mono B0.out.size))
  clear c0 c1 c2 k3 k4 k5
  generalize p.w = w1 at R1 K1 B1 ⊢
  go_wp2
  rw [rounds_succ]
  go_wp2_with fail
  have c0 := fun p : LowW w1.heap.size w1 => (K1.out.below p.below K1.out.lt).three.1
  have c1 := fun p : LowW w1.heap.size w1 => (K1.out.below p.below K1.out.lt).three.2.1
  have c2 := fun p : LowW w1.heap.size w1 => (K1.out.below p.below K1.out.lt).three.2.2.1
  have k3 := fun p : LowW w1.heap.size w1 => (R1.out.below p.below R1.out.1).2.2.1
  have k4 := fun p : LowW w1.heap.size w1 => (R1.out.below p.below R1.out.1).2.2.2.1
  have k5 := fun p : LowW w1.heap.size w1 => (R1.out.below p.below R1.out.1).2.2.2.2.1
  simp only at k3 k4 k5
  refine wp_region_low w1.heap.size w1 (by kernel_rfl) (by kernel_rfl) (Below.refl _ _) ?_
  repeat (quiet_step (first | (go_at_call 19; with_reducible exact LowW.of_call _ (Nat.le_refl _) (P2.out _))))
  refine wpQuiet_nil ?_
  rintro w2 ⟨p2, rfl⟩
  have R2 := Lib.hid (R1.out.below p2.below R1.out.1)
  have K2 := Lib.hid (K1.out.below p2.below K1.out.lt)
  have B2 := Lib.hid (B1.out.trans (p2.below.mono B1.out.size))
  clear c0 c1 c2 k3 k4 k5
  generalize p2.w = w2 at R2 K2 B2 ⊢
  go_wp2
  rw [rounds_succ]
  go_wp2_with fail
  have c0 := fun p : LowW w2.heap.size w2 => (K2.out.below p.below K2.out.lt).three.1
  have c1 := fun p : LowW w2.heap.size w2 => (K2.out.below p.below K2.out.lt).three.2.1
  have c2 := fun p : LowW w2.heap.size w2 => (K2.out.below p.below K2.out.lt).three.2.2.1
  have k3 := fun p : LowW w2.heap.size w2 => (R2.out.below p.below R2.out.1).2.2.1
  have k4 := fun p : LowW w2.heap.size w2 => (R2.out.below p.below R2.out.1).2.2.2.1
  have k5 := fun p : LowW w2.heap.size w2 => (R2.out.below p.below R2.out.1).2.2.2.2.1
  simp only at k3 k4 k5
  refine wp_region_low w2.heap.size w2 (by kernel_rfl) (by kernel_rfl) (Below.refl _ _) ?_
  repeat (quiet_step (first | (go_at_call 19; with_reducible exact LowW.of_call _ (Nat.le_refl _) (P2.out _))))
  refine wpQuiet_nil ?_
  rintro w3 ⟨p3, rfl⟩
  have B3 := Lib.hid (B2.out.trans (p3.below.mono B2.out.size))
  clear c0 c1 c2 k3 k4 k5
  generalize p3.w = w3 at B3 ⊢
  go_wp2
  go_ret2
  exact ⟨rfl, B3.out⟩
set_option maxRecDepth 100000 in
set_option maxHeartbeats 2000000 in
theorem set_ex (g c : Nat) (w : World) (h : Row2 w g (0, 0, 2) (1, 1, 1)) (hc : 2 ≤ c) :
    Calls Try.prog 10 #[.slice (some ⟨g, 0, none⟩) 2 c, .int .i64 0, .int .i64 0, .int .i64 0] w fun e w' => ∃ g' c', e = .returned (.tuple #[.slice (some ⟨g', 0, none⟩) 1 c', .int .i64 0]) ∧ CReads w' w'.heap.size (some ⟨g', 0, none⟩) 1 (fun _ => (1, 1, 1)) ∧ Below w.heap.size w w' := by
  have R := Lib.hid (by have := pright_any (some ⟨g, 0, none⟩) 2 c _ w h.reads (by decide); rwa [decide_eq_true ok_want] at this)
  have E := Lib.hid (fun w => by have := examine_any (0, 0, 0) w; rwa [show ex (0, 0, 0) = 0 by decide] at this)
  have S := Lib.hid (fun w h => search_ex g c w h)
  have H := Lib.hid h
  clear h
  go_enter Try.func10, Try.ntmps10
  go_wp2_with (first
    | (go_at_call 15; (with_reducible refine R.out.mono ?_); rintro e w1 ⟨rfl, hb⟩; have B1 := Lib.hid hb; have B7 := Lib.hid (hb.alloc hb.size (.cells #[.int .i64 0, .int .i64 0, .int .i64 0] 34)); have K7 := Lib.hid (Blk.new w1 34 #[.int .i64 0, .int .i64 0, .int .i64 0]); clear hb)
    | (go_at_call 22; (with_reducible refine (E.out _).mono ?_); rintro e w2 ⟨rfl, hb⟩; have B2 := Lib.hid (B7.out.trans (hb.mono B7.out.size)); obtain ⟨k0, k1, k2, k3⟩ := (K7.out.below hb K7.out.lt).three; have R2 := Lib.hid (H.out.later B2.out); clear hb)
    | (go_at_call 25; (with_reducible refine (S.out _ R2.out).mono ?_); rintro e w3 ⟨rfl, hb⟩; have B3 := Lib.hid (B2.out.trans (hb.mono B2.out.size)); have R3 := Lib.hid (R2.out.later hb); clear hb k0 k1 k2 k3))
  go_region
  have R4 := Lib.hid R3.out.drew
  have B4 := Lib.hid B3.out.drew
  generalize w3.drew = w4 at R4 B4 ⊢
  have K5 := Lib.hid (Blk.new w4 23 #[.slice (some ⟨g, 0, none⟩) 0 c, .slice none 0 0, .slice (some ⟨g, 3, none⟩) 1 (c - 1)])
  have R5 := Lib.hid (R4.out.alloc (.cells #[.slice (some ⟨g, 0, none⟩) 0 c, .slice none 0 0, .slice (some ⟨g, 3, none⟩) 1 (c - 1)] 23))
  have B5 := Lib.hid (B4.out.alloc B4.out.size (.cells #[.slice (some ⟨g, 0, none⟩) 0 c, .slice none 0 0, .slice (some ⟨g, 3, none⟩) 1 (c - 1)] 23))
  have C := Lib.hid (concat_ex g w4.heap.size c (c - 1) (1, 1, 1) _ R5.out K5.out)
  go_wp2_with (go_at_call 26; (with_reducible refine C.out.mono ?_); rintro e w6 ⟨g', c', rfl, h1, h2⟩; have C6 := Lib.hid h1; have B6 := Lib.hid (B5.out.trans (h2.mono B5.out.size)); clear h1 h2)
  go_ret2
  exact ⟨g', c', rfl, C6.out, B6.out⟩
end Go.Proofs.Ytegednbebmkmhaa
