/- The walks of repeat and Tile at the chapter's example. -/
import Derived.Test.YtobaabankhpfjaaDoorOver
import Derived.Test.YtobaabankhpfjaaDoorShift
import Derived.LoopN
namespace Go.Proofs.YtobaabankhpfjaaDoor
open Go.RowKit

theorem mv_ok {f : Nat → C3} {n : Nat} {dx dy : Int} (h : OkL f n) (hp : ∀ i, i < n → OkP (mv dx dy f i)) : OkL (mv dx dy f) n := by
  refine okl_of h.1 (fun i hi => ⟨?_, (h.ex i hi).2⟩) (fun i j hij hj => ?_)
  · have h1 := (h.ex i hi).1
    have h2 := hp i hi
    unfold ex at h1 ⊢
    rw [if_neg (fun h' => h' h2)]
    by_cases e : ¬ OkP (f i)
    · rw [if_pos e] at h1; cases h1
    · rw [if_neg e] at h1; exact h1
  · have := h.up i j hij hj
    rw [cp_lt] at this ⊢
    simp only [mv]
    omega
theorem shift_ok (A : Option Addr) (n c : Nat) (f : Nat → C3) (dx dy : Int) (w : World) (h : CReads w w.heap.size A n f) (hok : OkL f n) (x1 : -2097152 ≤ dx) (x2 : dx ≤ 2097152) (y1 : -2097152 ≤ dy) (y2 : dy ≤ 2097152) (hp : ∀ i, i < n → OkP (mv dx dy f i)) :
    Calls Tryd.prog 10 #[.slice A n c, .int .i64 dx, .int .i64 dy] w fun e w' => ∃ g, e = .returned (.tuple #[.slice (some ⟨g, 0, none⟩) n n, .int .i64 0]) ∧ CReads w' w'.heap.size (some ⟨g, 0, none⟩) n (mv dx dy f) ∧ Below w.heap.size w w' :=
  (shift_by A n c f dx dy w h hok x1 x2 y1 y2 n (Nat.le_refl _) hp (fun h => absurd h (by omega))).mono fun e w' ⟨h1, h2⟩ => by
    rcases h1 with ⟨h1, _⟩ | ⟨_, g, h3, h4⟩
    · omega
    · exact ⟨g, h3, h4, h2⟩

set_option maxRecDepth 100000 in
set_option maxHeartbeats 1000000 in
theorem repeat_row (A : Option Addr) (c : Nat) (w : World) (h0 : 0 < w.heap.size) (h : CReads w w.heap.size A 1 (lf [(0, 0, 1)])) :
    Calls Tryd.prog 34 #[.slice A 1 c, .int .i64 2, .int .i64 0, .int .i64 2] w fun e w' => ∃ A2 c2, e = .returned (.tuple #[.slice A2 2 c2, .int .i64 0]) ∧ 2 ≤ c2 ∧ CReads w' w'.heap.size A2 2 (lf [(0, 0, 1), (2, 0, 1)]) ∧ Below w.heap.size w w' := by
  have k0 : OkL (lf [(0, 0, 1)]) 1 := by decide
  have p0 : ∀ i, i < 1 → OkP (mv 0 0 (lf [(0, 0, 1)]) i) := by decide
  have p1 : ∀ i, i < 1 → OkP (mv 2 0 (lf [(0, 0, 1)]) i) := by decide
  have e1 : mg or2 (lf []) 0 (mv 0 0 (lf [(0, 0, 1)])) 1 = [(0, 0, 1)] := by decide +kernel
  have e2 : mg or2 (lf [(0, 0, 1)]) 1 (mv 2 0 (lf [(0, 0, 1)])) 1 = [(0, 0, 1), (2, 0, 1)] := by decide +kernel
  have S0 := Lib.hid (fun w' (hb : Below w.heap.size w w') => shift_ok A 1 c (lf [(0, 0, 1)]) 0 0 w' ((h.below hb).more hb.size) k0 (by omega) (by omega) (by omega) (by omega) p0)
  have S1 := Lib.hid (fun w' (hb : Below w.heap.size w w') => shift_ok A 1 c (lf [(0, 0, 1)]) 2 0 w' ((h.below hb).more hb.size) k0 (by omega) (by omega) (by omega) (by omega) p1)
  have O0 := Lib.hid (fun g w' (h1 : 0 < w'.heap.size) (hr : CReads w' w'.heap.size (some ⟨g, 0, none⟩) 1 (mv 0 0 (lf [(0, 0, 1)]))) => by
    have := over_any none (some ⟨g, 0, none⟩) 0 1 0 1 (lf []) (mv 0 0 (lf [(0, 0, 1)])) w' h1 (fun h => absurd h (by omega)) hr (by decide) (mv_ok k0 p0) (by omega) (by omega) (by omega)
    rw [e1] at this
    exact this)
  have O1 := Lib.hid (fun A1 c1 g w' (hc : 1 ≤ c1) (h1 : 0 < w'.heap.size) (hq : CReads w' w'.heap.size A1 1 (lf [(0, 0, 1)])) (hr : CReads w' w'.heap.size (some ⟨g, 0, none⟩) 1 (mv 2 0 (lf [(0, 0, 1)]))) => by
    have := over_any A1 (some ⟨g, 0, none⟩) 1 1 c1 1 (lf [(0, 0, 1)]) (mv 2 0 (lf [(0, 0, 1)])) w' h1 hq hr (by decide) (mv_ok k0 p1) hc (by omega) (by omega)
    rw [e2] at this
    exact this)
  have BR := Lib.hid (Below.refl w.heap.size w)
  clear h k0 p0 p1 e1 e2
  go_enter Tryd.func34, Tryd.ntmps34
  go_wp2
  refine wp_loop_rounds 3 ?_
  rw [rounds_succ]
  go_wp2_with (first
    | (go_at_call 10; (with_reducible refine (S0.out _ BR.out).mono ?_); rintro e w1 ⟨g1, rfl, hr, hb⟩; have R1 := Lib.hid hr; have B1 := Lib.hid hb; have z1 := Nat.lt_of_lt_of_le h0 hb.size; clear hr hb)
    | (go_at_call 14; (with_reducible refine (O0.out _ _ z1 R1.out).mono ?_); rintro e w2 ⟨A2, c2, rfl, hl, hr, hb⟩; have R2 := Lib.hid hr; have L2 := Lib.hid hl; have B2 := Lib.hid (B1.out.trans (hb.mono B1.out.size)); clear hr hb hl))
  rw [rounds_succ]
  go_wp2_with (first
    | (go_at_call 10; (with_reducible refine (S1.out _ B2.out).mono ?_); rintro e w3 ⟨g3, rfl, hr, hb⟩; have R3 := Lib.hid hr; have B3 := Lib.hid (B2.out.trans (hb.mono B2.out.size)); have R2' := Lib.hid (R2.out.later hb); have z3 := Nat.lt_of_lt_of_le h0 B3.out.size; clear hr hb)
    | (go_at_call 14; (with_reducible refine (O1.out _ _ _ _ L2.out z3 R2'.out R3.out).mono ?_); rintro e w4 ⟨A4, c4, rfl, hl, hr, hb⟩; have R4 := Lib.hid hr; have L4 := Lib.hid hl; have B4 := Lib.hid (B3.out.trans (hb.mono B3.out.size)); clear hr hb hl))
  rw [rounds_succ]
  go_wp2
  go_ret2
  exact ⟨A4, c4, rfl, L4.out, R4.out, B4.out⟩
set_option maxRecDepth 100000 in
set_option maxHeartbeats 1000000 in
theorem repeat_col (A : Option Addr) (c : Nat) (w : World) (h0 : 0 < w.heap.size) (h : CReads w w.heap.size A 2 (lf [(0, 0, 1), (2, 0, 1)])) :
    Calls Tryd.prog 34 #[.slice A 2 c, .int .i64 0, .int .i64 3, .int .i64 2] w fun e w' => ∃ A2 c2, e = .returned (.tuple #[.slice A2 4 c2, .int .i64 0]) ∧ 4 ≤ c2 ∧ CReads w' w'.heap.size A2 4 (lf [(0, 0, 1), (2, 0, 1), (0, 3, 1), (2, 3, 1)]) ∧ Below w.heap.size w w' := by
  have k0 : OkL (lf [(0, 0, 1), (2, 0, 1)]) 2 := by decide
  have p0 : ∀ i, i < 2 → OkP (mv 0 0 (lf [(0, 0, 1), (2, 0, 1)]) i) := by decide
  have p1 : ∀ i, i < 2 → OkP (mv 0 3 (lf [(0, 0, 1), (2, 0, 1)]) i) := by decide
  have e1 : mg or2 (lf []) 0 (mv 0 0 (lf [(0, 0, 1), (2, 0, 1)])) 2 = [(0, 0, 1), (2, 0, 1)] := by decide +kernel
  have e2 : mg or2 (lf [(0, 0, 1), (2, 0, 1)]) 2 (mv 0 3 (lf [(0, 0, 1), (2, 0, 1)])) 2 = [(0, 0, 1), (2, 0, 1), (0, 3, 1), (2, 3, 1)] := by decide +kernel
  have S0 := Lib.hid (fun w' (hb : Below w.heap.size w w') => shift_ok A 2 c (lf [(0, 0, 1), (2, 0, 1)]) 0 0 w' ((h.below hb).more hb.size) k0 (by omega) (by omega) (by omega) (by omega) p0)
  have S1 := Lib.hid (fun w' (hb : Below w.heap.size w w') => shift_ok A 2 c (lf [(0, 0, 1), (2, 0, 1)]) 0 3 w' ((h.below hb).more hb.size) k0 (by omega) (by omega) (by omega) (by omega) p1)
  have O0 := Lib.hid (fun g w' (h1 : 0 < w'.heap.size) (hr : CReads w' w'.heap.size (some ⟨g, 0, none⟩) 2 (mv 0 0 (lf [(0, 0, 1), (2, 0, 1)]))) => by
    have := over_any none (some ⟨g, 0, none⟩) 0 2 0 2 (lf []) (mv 0 0 (lf [(0, 0, 1), (2, 0, 1)])) w' h1 (fun h => absurd h (by omega)) hr (by decide) (mv_ok k0 p0) (by omega) (by omega) (by omega)
    rw [e1] at this
    exact this)
  have O1 := Lib.hid (fun A1 c1 g w' (hc : 2 ≤ c1) (h1 : 0 < w'.heap.size) (hq : CReads w' w'.heap.size A1 2 (lf [(0, 0, 1), (2, 0, 1)])) (hr : CReads w' w'.heap.size (some ⟨g, 0, none⟩) 2 (mv 0 3 (lf [(0, 0, 1), (2, 0, 1)]))) => by
    have := over_any A1 (some ⟨g, 0, none⟩) 2 2 c1 2 (lf [(0, 0, 1), (2, 0, 1)]) (mv 0 3 (lf [(0, 0, 1), (2, 0, 1)])) w' h1 hq hr (by decide) (mv_ok k0 p1) hc (by omega) (by omega)
    rw [e2] at this
    exact this)
  have BR := Lib.hid (Below.refl w.heap.size w)
  clear h k0 p0 p1 e1 e2
  go_enter Tryd.func34, Tryd.ntmps34
  go_wp2
  refine wp_loop_rounds 3 ?_
  rw [rounds_succ]
  go_wp2_with (first
    | (go_at_call 10; (with_reducible refine (S0.out _ BR.out).mono ?_); rintro e w1 ⟨g1, rfl, hr, hb⟩; have R1 := Lib.hid hr; have B1 := Lib.hid hb; have z1 := Nat.lt_of_lt_of_le h0 hb.size; clear hr hb)
    | (go_at_call 14; (with_reducible refine (O0.out _ _ z1 R1.out).mono ?_); rintro e w2 ⟨A2, c2, rfl, hl, hr, hb⟩; have R2 := Lib.hid hr; have L2 := Lib.hid hl; have B2 := Lib.hid (B1.out.trans (hb.mono B1.out.size)); clear hr hb hl))
  rw [rounds_succ]
  go_wp2_with (first
    | (go_at_call 10; (with_reducible refine (S1.out _ B2.out).mono ?_); rintro e w3 ⟨g3, rfl, hr, hb⟩; have R3 := Lib.hid hr; have B3 := Lib.hid (B2.out.trans (hb.mono B2.out.size)); have R2' := Lib.hid (R2.out.later hb); have z3 := Nat.lt_of_lt_of_le h0 B3.out.size; clear hr hb)
    | (go_at_call 14; (with_reducible refine (O1.out _ _ _ _ L2.out z3 R2'.out R3.out).mono ?_); rintro e w4 ⟨A4, c4, rfl, hl, hr, hb⟩; have R4 := Lib.hid hr; have L4 := Lib.hid hl; have B4 := Lib.hid (B3.out.trans (hb.mono B3.out.size)); clear hr hb hl))
  rw [rounds_succ]
  go_wp2
  go_ret2
  exact ⟨A4, c4, rfl, L4.out, R4.out, B4.out⟩
theorem vstep_yes (d : Int) (w : World) (h1 : -1048576 ≤ d) (h2 : d ≤ 1048576) :
    Calls Tryd.prog 32 #[.int .i64 d] w fun e w' => e = .returned (.bool true) ∧ w = w' := by
  go_enter Tryd.func32, Tryd.ntmps32
  go_wp2
  go_ret
  exact ⟨rfl, rfl⟩
theorem vnum_yes (d : Int) (w : World) (h1 : 0 ≤ d) (h2 : d ≤ 50) :
    Calls Tryd.prog 33 #[.int .i64 d] w fun e w' => e = .returned (.bool true) ∧ w = w' := by
  go_enter Tryd.func33, Tryd.ntmps33
  go_wp2
  go_ret
  exact ⟨rfl, rfl⟩
set_option maxRecDepth 100000 in
set_option maxHeartbeats 1000000 in
theorem tile_ex (A : Option Addr) (c : Nat) (w : World) (h0 : 0 < w.heap.size) (h : CReads w w.heap.size A 1 (lf [(0, 0, 1)])) :
    Calls Tryd.prog 16 #[.slice A 1 c, .int .i64 2, .int .i64 3, .int .i64 2, .int .i64 2] w fun e w' => ∃ A2 c2, e = .returned (.tuple #[.slice A2 4 c2, .int .i64 0]) ∧ 4 ≤ c2 ∧ CReads w' w'.heap.size A2 4 (lf [(0, 0, 1), (2, 0, 1), (0, 3, 1), (2, 3, 1)]) ∧ Below w.heap.size w w' := by
  have k0 : OkL (lf [(0, 0, 1)]) 1 := by decide
  have p0 : ∀ i, i < 1 → OkP (mv 2 3 (lf [(0, 0, 1)]) i) := by decide
  have PR := Lib.hid (by have := pright_any A 1 c (lf [(0, 0, 1)]) w h (by omega); rwa [decide_eq_true k0] at this)
  have S0 := Lib.hid (fun w' (hb : Below w.heap.size w w') => shift_ok A 1 c (lf [(0, 0, 1)]) 2 3 w' ((h.below hb).more hb.size) k0 (by omega) (by omega) (by omega) (by omega) p0)
  have RR := Lib.hid (fun w' (hb : Below w.heap.size w w') => repeat_row A c w' (Nat.lt_of_lt_of_le h0 hb.size) ((h.below hb).more hb.size))
  have RC := Lib.hid repeat_col
  have V2 := Lib.hid (fun w => vstep_yes 2 w (by omega) (by omega))
  have V3 := Lib.hid (fun w => vstep_yes 3 w (by omega) (by omega))
  have VN := Lib.hid (fun w => vnum_yes 2 w (by omega) (by omega))
  clear h k0 p0
  go_enter Tryd.func16, Tryd.ntmps16
  go_wp2_with (first
    | (go_at_call 19; (with_reducible refine PR.out.mono ?_); rintro e w1 ⟨rfl, hb⟩; have B1 := Lib.hid hb; clear hb)
    | (go_at_call 32; (with_reducible refine (V2.out _).mono ?_); rintro e w' ⟨rfl, rfl⟩)
    | (go_at_call 32; (with_reducible refine (V3.out _).mono ?_); rintro e w' ⟨rfl, rfl⟩)
    | (go_at_call 33; (with_reducible refine (VN.out _).mono ?_); rintro e w' ⟨rfl, rfl⟩)
    | (go_at_call 10; (with_reducible refine (S0.out _ B1.out).mono ?_); rintro e w2 ⟨g2, rfl, hr, hb⟩; have B2 := Lib.hid (B1.out.trans (hb.mono B1.out.size)); clear hr hb)
    | (go_at_call 34; (with_reducible refine (RR.out _ B2.out).mono ?_); rintro e w3 ⟨A3, c3, rfl, hl, hr, hb⟩; have R3 := Lib.hid hr; have B3 := Lib.hid (B2.out.trans (hb.mono B2.out.size)); have z3 := Nat.lt_of_lt_of_le h0 B3.out.size; clear hr hb hl)
    | (go_at_call 34; (with_reducible refine (RC.out _ _ _ z3 R3.out).mono ?_); rintro e w4 ⟨A4, c4, rfl, hl, hr, hb⟩; have R4 := Lib.hid hr; have L4 := Lib.hid hl; have B4 := Lib.hid (B3.out.trans (hb.mono B3.out.size)); clear hr hb hl))
  go_ret2
  exact ⟨A4, c4, rfl, L4.out, R4.out, B4.out⟩
end Go.Proofs.YtobaabankhpfjaaDoor
