/- The walk of the reference's Same on rules of the same numbers. -/
import Derived.Test.YtbdgfegafckkbaaGreatDoorTot
namespace Go.Proofs.YtbdgfegafckkbaaGreatDoor
open Go.RowKit

theorem two_blk (w : World) (c1 c2 : Array Value) (t1 t2 : TypeId) :
    Blk ((w.alloc (.cells c1 t1)).alloc (.cells c2 t2)) w.heap.size t1 c1 ∧ Blk ((w.alloc (.cells c1 t1)).alloc (.cells c2 t2)) (w.heap.size + 1) t2 c2 ∧ Below w.heap.size w ((w.alloc (.cells c1 t1)).alloc (.cells c2 t2)) := by
  have h2 := Blk.new (w.alloc (.cells c1 t1)) t2 c2
  rw [show (w.alloc (.cells c1 t1)).heap.size = w.heap.size + 1 by simp] at h2
  exact ⟨(Blk.new w t1 c1).alloc _, h2, ((Below.refl _ _).alloc (Nat.le_refl _) _).alloc (by simp) _⟩

section
variable (A A' : Option Addr) (n c c' : Nat) (f : Nat → P2) (s : Int) (Ab Ab' : Option Addr) (nb cb cb' : Nat) (b : List Int) (As As' : Option Addr) (ns cs cs' : Nat) (l : List Int)
set_option maxRecDepth 100000 in
set_option maxHeartbeats 2000000 in
theorem rsameT_yes (w : World) (h : TR w A n f Ab nb b As ns l) (h' : TR w A' n f Ab' nb b As' ns l) (hn : n ≤ 1000) (hnb : nb ≤ 1000) (hns : ns ≤ 1000) :
    Calls Tryz.prog 14 #[.agg #[.slice A n c, .int .i64 s, .slice Ab nb cb, .slice As ns cs], .agg #[.slice A' n c', .int .i64 s, .slice Ab' nb cb', .slice As' ns cs']] w fun e w' => e = .returned (.bool true) ∧ Below w.heap.size w w' := by
  have S0 := Lib.hid (fun w' (hb : Below w.heap.size w w') => (show Calls Tryz.prog 24 #[.slice A n c, .slice A' n c'] w' fun e w'' => e = .returned (.bool true) ∧ Below w'.heap.size w' w'' by
    have := rsame_any A A' n n c c' f f w' (h.later hb).1 (h'.later hb).1 (by omega) (by omega)
    rwa [sm_self] at this))
  have S1 := Lib.hid (fun w' (hb : Below w.heap.size w w') => isame_yes Ab Ab' nb cb cb' b w' (h.later hb).2.1 (h'.later hb).2.1 (by omega))
  have S2 := Lib.hid (fun w' (hb : Below w.heap.size w w') => isame_yes As As' ns cs cs' l w' (h.later hb).2.2 (h'.later hb).2.2 (by omega))
  obtain ⟨K1, K2, B0⟩ := two_blk w #[.slice A n c, .int .i64 s, .slice Ab nb cb, .slice As ns cs] #[.slice A' n c', .int .i64 s, .slice Ab' nb cb', .slice As' ns cs'] 25 25
  clear h h'
  go_enter Tryz.func14, Tryz.ntmps14
  go_wp2_with fail
  generalize (w.alloc (.cells #[.slice A n c, .int .i64 s, .slice Ab nb cb, .slice As ns cs] 25)).alloc (.cells #[.slice A' n c', .int .i64 s, .slice Ab' nb cb', .slice As' ns cs'] 25) = w0 at K1 K2 B0 ⊢
  obtain ⟨p0, p1, p2, p3, p4⟩ := K1.four
  obtain ⟨q0, q1, q2, q3, q4⟩ := K2.four
  have K1 := Lib.hid K1
  have K2 := Lib.hid K2
  have B0 := Lib.hid B0
  go_wp2_with (first
    | (go_at_call 31; (with_reducible refine (S2.out _ B2.out).mono ?_); rintro e w3 ⟨rfl, hb⟩; have B3 := Lib.hid (B2.out.trans (hb.mono B2.out.size)); clear hb)
    | (go_at_call 31; (with_reducible refine (S1.out _ B1.out).mono ?_); rintro e w2 ⟨rfl, hb⟩; have B2 := Lib.hid (B1.out.trans (hb.mono B1.out.size)); obtain ⟨x0, x1, x2, x3, x4⟩ := (K11.out.below hb K11.out.lt).four; obtain ⟨y0, y1, y2, y3, y4⟩ := (K12.out.below hb K12.out.lt).four; clear hb)
    | (go_at_call 24; (with_reducible refine (S0.out _ B0.out).mono ?_); rintro e w1 ⟨rfl, hb⟩; have B1 := Lib.hid (B0.out.trans (hb.mono B0.out.size)); have K11 := Lib.hid (K1.out.below hb K1.out.lt); have K12 := Lib.hid (K2.out.below hb K2.out.lt); obtain ⟨u0, u1, u2, u3, u4⟩ := K11.out.four; obtain ⟨v0, v1, v2, v3, v4⟩ := K12.out.four; clear hb))
  go_ret
  exact ⟨rfl, B3.out⟩
end
end Go.Proofs.YtbdgfegafckkbaaGreatDoor
