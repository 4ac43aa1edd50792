/- The walk of Plain. -/
import Derived.Test.YtbdgfegafckkbaaGreatDoorSame
import Derived.Test.YtbdgfegafckkbaaGreatDoorIclone
import Derived.Test.YtbdgfegafckkbaaGreatDoorLst
import Derived.Deep.RegionHeld3
import Derived.Deep.DrawnRows
namespace Go.Proofs.YtbdgfegafckkbaaGreatDoor
open Go.RowKit

theorem Below.alloc' {w0 w : World} (h : Below w0.heap.size w0 w) (o : Obj) : Below w0.heap.size w0 (w.alloc o) := h.alloc h.size o
theorem Below.drew' {B : Nat} {w0 w : World} (h : Below B w0 w) : Below B w0 w.drew := h.drew
theorem Blk.below' {w w' : World} {g : Nat} {t : TypeId} {cs : Array Value} (h : Blk w g t cs) (hb : Below w.heap.size w w') : Blk w' g t cs := h.below hb h.lt
theorem Blk.four8 {w : World} {g : Nat} {t : TypeId} {a b c d : Value} (h : Blk w g t #[a, b, c, d]) : w.cell? ⟨g, 0, none⟩ = some a ∧ w.cell? ⟨g, 1, none⟩ = some b ∧ w.cell? ⟨g, 2, none⟩ = some c ∧ w.cell? ⟨g, 3, none⟩ = some d ∧ w.frozen? ⟨g, 0, none⟩ = false ∧ w.frozen? ⟨g, 1, none⟩ = false ∧ w.frozen? ⟨g, 2, none⟩ = false ∧ w.frozen? ⟨g, 3, none⟩ = false ∧ g < w.heap.size :=
  ⟨h.four.1, h.four.2.1, h.four.2.2.1, h.four.2.2.2.1, h.frozen 0, h.frozen 1, h.frozen 2, h.frozen 3, h.lt⟩
theorem Blk.all4 {w : World} {g : Nat} {t : TypeId} {z0 z1 z2 z3 : Value} (h : Blk w g t #[z0, z1, z2, z3]) (a b c d : Value) : Blk ((((w.setCell ⟨g, 0, none⟩ a).setCell ⟨g, 1, none⟩ b).setCell ⟨g, 2, none⟩ c).setCell ⟨g, 3, none⟩ d) g t #[a, b, c, d] := by
  have h9 := (((h.set_ 0 a).set_ 1 b).set_ 2 c).set_ 3 d
  simpa using h9
theorem Below.all4 {w0 w : World} {B g : Nat} (h : Below B w0 w) (hg : B ≤ g) (a b c d : Value) : Below B w0 ((((w.setCell ⟨g, 0, none⟩ a).setCell ⟨g, 1, none⟩ b).setCell ⟨g, 2, none⟩ c).setCell ⟨g, 3, none⟩ d) :=
  (((h.setCell (p := ⟨g, 0, none⟩) hg a).setCell (p := ⟨g, 1, none⟩) hg b).setCell (p := ⟨g, 2, none⟩) hg c).setCell (p := ⟨g, 3, none⟩) hg d

/-- a row stays owned behind a store into a block below its base -/
theorem own_far {w : World} {base k : Nat} {e : TypeId} {v : Value} {n : Nat} {xs : List Value} (h : w.ownsRow base e k v n xs) {g i : Nat} (hg : g < base) (u : Value) : (w.setCell ⟨g, i, none⟩ u).ownsRow base e k v n xs := by
  refine ⟨h.1, ?_⟩
  rcases h.2 with hn | ⟨g', cap, cur, rfl, hb', hg', rest⟩
  · exact .inl hn
  · refine .inr ⟨g', cap, cur, rfl, hb', ?_, rest⟩
    rw [Below.heap_setCell w ⟨g, i, none⟩ u g' (show g' ≠ g by omega)]
    exact hg'
theorem own_far4 {w : World} {base k : Nat} {e : TypeId} {v : Value} {n : Nat} {xs : List Value} (h : w.ownsRow base e k v n xs) {g : Nat} (hg : g < base) (a b c d : Value) : ((((w.setCell ⟨g, 0, none⟩ a).setCell ⟨g, 1, none⟩ b).setCell ⟨g, 2, none⟩ c).setCell ⟨g, 3, none⟩ d).ownsRow base e k v n xs :=
  own_far (own_far (own_far (own_far h hg a) hg b) hg c) hg d

section
variable (A : Option Addr) (n c : Nat) (f : Nat → P2) (s : Int) (Ab : Option Addr) (nb cb : Nat) (b : List Int) (As : Option Addr) (ns cs : Nat) (l : List Int)
set_option maxRecDepth 100000 in
set_option maxHeartbeats 4000000 in
theorem gplain_any (w : World) (h : TR w A n f Ab nb b As ns l) (hn : n ≤ 1000) (hnb : nb ≤ 1000) (hns : ns ≤ 1000) (hq : rt f n s b l = true) :
    Calls Tryz.prog 7 #[.agg #[.slice A n c, .int .i64 s, .slice Ab nb cb, .slice As ns cs]] w fun e w' => ∃ A1 c1 A2 c2 A3 c3, e = .returned (.agg #[.slice A1 n c1, .int .i64 2, .slice A2 nb c2, .slice A3 ns c3]) ∧ TR w' A1 n f A2 nb b A3 ns l ∧ Below w.heap.size w w' := by
  have PL := fun w' (hb : Below w.heap.size w w') => right_any A n c f s Ab nb cb b As ns cs l w' (h.later hb) (by omega) hnb hns
  rw [hq] at PL
  have PL := Lib.hid PL
  have CL := Lib.hid (fun w' (hb : Below w.heap.size w w') => clone_any A n c f w' (h.later hb).1 (by omega))
  have XB := Lib.hid (fun w' (hb : Below w.heap.size w w') => iclone_any Ab nb cb b w' (h.later hb).2.1 (by omega))
  have XS := Lib.hid (fun w' (hb : Below w.heap.size w w') => iclone_any As ns cs l w' (h.later hb).2.2 (by omega))
  obtain ⟨K1, K2, B0⟩ := two_blk w #[.slice A n c, .int .i64 s, .slice Ab nb cb, .slice As ns cs] #[.slice none 0 0, .int .i64 0, .slice none 0 0, .slice none 0 0] 25 25
  clear h hq
  go_enter Tryz.func7, Tryz.ntmps7
  go_wp2_with fail
  generalize (w.alloc (.cells #[.slice A n c, .int .i64 s, .slice Ab nb cb, .slice As ns cs] 25)).alloc (.cells #[.slice none 0 0, .int .i64 0, .slice none 0 0, .slice none 0 0] 25) = w0 at K1 K2 B0 ⊢
  obtain ⟨p0, p1, p2, p3, p4⟩ := K1.four
  have K1 := Lib.hid K1
  have K2 := Lib.hid K2
  have B0 := Lib.hid B0
  go_wp2_with (go_at_call 15; (with_reducible refine (PL.out _ B0.out).mono ?_); rintro e w2 ⟨rfl, hb⟩; have B2 := Lib.hid (B0.out.trans (hb.mono B0.out.size)); have K11 := Lib.hid (K1.out.below hb K1.out.lt); have K12 := Lib.hid (K2.out.below hb K2.out.lt); obtain ⟨u0, u1, u2, u3, u4⟩ := K11.out.four; clear hb)
  have KP := Lib.hid (show ∀ w', Below w2.heap.size w2 w' → w'.cell? ⟨w.heap.size, 0, none⟩ = some (.slice A n c) ∧ w'.cell? ⟨w.heap.size, 2, none⟩ = some (.slice Ab nb cb) ∧ w'.cell? ⟨w.heap.size, 3, none⟩ = some (.slice As ns cs) from
    fun w' hb => ⟨(K11.out.below' hb).four.1, (K11.out.below' hb).four.2.2.1, (K11.out.below' hb).four.2.2.2.1⟩)
  have P1 := Lib.hid (show ∀ w', Below w2.heap.size w2 w' → Calls Tryz.prog 16 #[.slice A n c] w' fun e w'' => ∃ A' c', e = .returned (.slice A' n c') ∧ w''.ownsRow w2.heap.size 41 2 (.slice A' n c') n (cells2 f n) ∧ Below w2.heap.size w2 w'' ∧ Below w'.heap.size w' w'' from
    fun w' hb => (CL.out w' (B2.out.trans (hb.mono B2.out.size))).mono fun e w'' ⟨A', c', he, hr, hx⟩ => ⟨A', c', he, own_base hr hb.size, hb.trans (hx.mono hb.size), hx⟩)
  have P2 := Lib.hid (show ∀ w', Below w2.heap.size w2 w' → Calls Tryz.prog 17 #[.slice Ab nb cb] w' fun e w'' => ∃ A' c', e = .returned (.slice A' nb c') ∧ w''.ownsRow w2.heap.size 3 1 (.slice A' nb c') nb (il b) ∧ Below w2.heap.size w2 w'' ∧ Below w'.heap.size w' w'' from
    fun w' hb => (XB.out w' (B2.out.trans (hb.mono B2.out.size))).mono fun e w'' ⟨A', c', he, hr, hx⟩ => ⟨A', c', he, own_base hr hb.size, hb.trans (hx.mono hb.size), hx⟩)
  have P3 := Lib.hid (show ∀ w', Below w2.heap.size w2 w' → Calls Tryz.prog 17 #[.slice As ns cs] w' fun e w'' => ∃ A' c', e = .returned (.slice A' ns c') ∧ w''.ownsRow w2.heap.size 3 1 (.slice A' ns c') ns (il l) ∧ Below w2.heap.size w2 w'' ∧ Below w'.heap.size w' w'' from
    fun w' hb => (XS.out w' (B2.out.trans (hb.mono B2.out.size))).mono fun e w'' ⟨A', c', he, hr, hx⟩ => ⟨A', c', he, own_base hr hb.size, hb.trans (hx.mono hb.size), hx⟩)
  clear PL CL XS XB K1 K2 B0 K11 p0 p1 p2 p3 p4
  obtain ⟨v0, v1, v2, v3, v4, v5, v6, v7, v8⟩ := K12.out.four8
  go_region_held3 (fun w' => w'.cell? ⟨w.heap.size, 0, none⟩ = some (.slice A n c) ∧ w'.cell? ⟨w.heap.size, 2, none⟩ = some (.slice Ab nb cb) ∧ w'.cell? ⟨w.heap.size, 3, none⟩ = some (.slice As ns cs))
    (first | (refine KP.out _ ?_; (with_reducible (repeat (first | assumption | exact Below.refl _ _ | refine Below.drew' ?_ | refine Below.alloc' ?_ _ | omega))); done) | go_keep)
    (first
      | (go_at_call 16; (with_reducible refine (P1.out _ ?_).mono ?_); (with_reducible (repeat (first | assumption | exact Below.refl _ _ | refine Below.drew' ?_ | refine Below.alloc' ?_ _))); rintro e wa ⟨A1, c1, rfl, ra, ha1, ha2⟩)
      | (go_at_call 17; (with_reducible refine (P2.out _ ?_).mono ?_); (with_reducible (repeat (first | assumption | exact Below.refl _ _ | refine Below.drew' ?_ | refine Below.alloc' ?_ _))); rintro e wb ⟨A2, c2, rfl, rb, hb1, hb2⟩)
      | (go_at_call 17; (with_reducible refine (P3.out _ ?_).mono ?_); (with_reducible (repeat (first | assumption | exact Below.refl _ _ | refine Below.drew' ?_ | refine Below.alloc' ?_ _))); rintro e wc ⟨A3, c3, rfl, rc, hc1, hc2⟩; obtain ⟨k0, k1, k2, k3, k4, k5, k6, k7, k8⟩ := (K12.out.below' hc1).four8))
  go_wp2_with fail
  have hlt : w.heap.size + 1 < w2.heap.size := K12.out.lt
  have o1 := own_far4 (own_below2 (own_below2 ra hb2) hc2) hlt (.slice A1 n c1) (.int .i64 2) (.slice A2 nb c2) (.slice A3 ns c3)
  have o2 := own_far4 (own_below rb hc2) hlt (.slice A1 n c1) (.int .i64 2) (.slice A2 nb c2) (.slice A3 ns c3)
  have o3 := own_far4 rc hlt (.slice A1 n c1) (.int .i64 2) (.slice A2 nb c2) (.slice A3 ns c3)
  have E := Blk.all4 (K12.out.below' hc1) (.slice A1 n c1) (.int .i64 2) (.slice A2 nb c2) (.slice A3 ns c3)
  have E2 := Below.all4 (B2.out.trans (hc1.mono B2.out.size)) (Nat.le_succ _) (.slice A1 n c1) (.int .i64 2) (.slice A2 nb c2) (.slice A3 ns c3)
  generalize (((wc.setCell ⟨w.heap.size + 1, 0, none⟩ (.slice A1 n c1)).setCell ⟨w.heap.size + 1, 1, none⟩ (.int .i64 2)).setCell ⟨w.heap.size + 1, 2, none⟩ (.slice A2 nb c2)).setCell ⟨w.heap.size + 1, 3, none⟩ (.slice A3 ns c3) = wz at o1 o2 o3 E E2 ⊢
  obtain ⟨j0, j1, j2, j3, j4⟩ := E.four
  exact bodyPost_ret (v := .agg #[.slice A1 n c1, .int .i64 2, .slice A2 nb c2, .slice A3 ns c3]) (by simp [results, Tryz.results7, go_sem, j0, j1, j2, j3]) rfl ⟨A1, c1, A2, c2, A3, c3, rfl, ⟨QReads.of_own o1, Reads.of_own o2, Reads.of_own o3⟩, E2⟩
end
end Go.Proofs.YtbdgfegafckkbaaGreatDoor
