/- The walk of the law. -/
import Derived.Test.YtobaabankhpfjaaDoorAwk
import Derived.Test.YtobaabankhpfjaaDoorRRight
namespace Go.Proofs.YtobaabankhpfjaaDoor
open Go.RowKit

/-- the inverse's number -/
def inv (k : Nat) : Nat := if k < 4 then (4 - k) % 4 else k
theorem inv_lt : ∀ k, k < 8 → inv k < 8 := by decide
theorem inv_hi : ∀ k : Nat, k < 8 → 4 ≤ k → (bits .and .i64 (k : Int) 4 != 0) = true := by decide
theorem inv_lo : ∀ k : Nat, k < 8 → k < 4 → (bits .and .i64 (k : Int) 4 != 0) = false := by decide
theorem inv_val : ∀ k : Nat, k < 8 → k < 4 → bits .and .i64 (-(k : Int)) 3 = (inv k : Nat) := by decide
theorem inverse_any (k : Int) (w : World) : Calls Tryd.prog 8 #[.int .i64 k] w fun e w' => e = .returned (.int .i64 (inv (md k) : Nat)) ∧ w = w' := by
  have H := Lib.hid (fun w => number_any k w)
  have hm := md_lt k
  generalize md k = m at H hm ⊢
  by_cases h : 4 ≤ m
  · have t := inv_hi m hm h
    have e : inv m = m := if_neg (by omega)
    rw [e]
    clear h e
    go_enter Tryd.func8, Tryd.ntmps8
    go_wp2_with (go_at_call 22; (with_reducible refine (H.out _).mono ?_); rintro e w' ⟨rfl, rfl⟩)
    go_ret
    exact ⟨rfl, rfl⟩
  · have t := inv_lo m hm (by omega)
    have v := Lib.hid (inv_val m hm (by omega))
    clear h
    go_enter Tryd.func8, Tryd.ntmps8
    go_wp2_with (go_at_call 22; (with_reducible refine (H.out _).mono ?_); rintro e w' ⟨rfl, rfl⟩)
    go_ret
    exact ⟨congrArg Ending.returned (congrArg (Value.int IntKind.i64) v.out), rfl⟩

theorem turn_comp (a b : Nat) (ha : a < 8) (hb : b < 8) (x y : Int) : turnX b (turnX a x y) (turnY a x y) = turnX (comp a b) x y ∧ turnY b (turnX a x y) (turnY a x y) = turnY (comp a b) x y := by
  have hb' : b = 0 ∨ b = 1 ∨ b = 2 ∨ b = 3 ∨ b = 4 ∨ b = 5 ∨ b = 6 ∨ b = 7 := by omega
  have ha' : a = 0 ∨ a = 1 ∨ a = 2 ∨ a = 3 ∨ a = 4 ∨ a = 5 ∨ a = 6 ∨ a = 7 := by omega
  clear ha hb
  rcases ha' with rfl | rfl | rfl | rfl | rfl | rfl | rfl | rfl <;> rcases hb' with rfl | rfl | rfl | rfl | rfl | rfl | rfl | rfl <;> simp [turnX, turnY, comp]
theorem turn_inv (a : Nat) (ha : a < 8) (x y : Int) : turnX (inv a) (turnX a x y) (turnY a x y) = x ∧ turnY (inv a) (turnX a x y) (turnY a x y) = y := by
  refine eight (P := fun a => turnX (inv a) (turnX a x y) (turnY a x y) = x ∧ turnY (inv a) (turnX a x y) (turnY a x y) = y) ?_ ?_ ?_ ?_ ?_ ?_ ?_ ?_ a ha <;> simp [turnX, turnY, inv]
theorem tc_comp (a b : Nat) (ha : a < 8) (hb : b < 8) (x : C3) : tc b (tc a x) = tc (comp a b) x := by
  obtain ⟨h1, h2⟩ := turn_comp a b ha hb x.1 x.2.1
  unfold tc
  rw [h1, h2]
theorem tc_inv (a : Nat) (ha : a < 8) (x : C3) : tc (inv a) (tc a x) = x := by
  obtain ⟨h1, h2⟩ := turn_inv a ha x.1 x.2.1
  unfold tc
  rw [h1, h2]
/-- two turns of a list are the composed one -/
theorem two_turns {f fa fb fc : Nat → C3} {n a b : Nat} (ha : a < 8) (hb : b < 8) (pa : (lst fa n).Perm (lst (tn a f) n)) (pb : (lst fb n).Perm (lst (tn b fa) n)) (pc : (lst fc n).Perm (lst (tn (comp a b) f) n)) (ob : OkL fb n) (oc : OkL fc n) : ∀ i, i < n → fb i = fc i := by
  refine up_same ob.up oc.up (pb.trans ?_)
  refine List.Perm.trans ?_ pc.symm
  have h := pa.map (tc b)
  rw [← lst_map, ← lst_map] at h
  have e : (fun i => tc b (tn a f i)) = tn (comp a b) f := funext fun i => tc_comp a b ha hb (f i)
  rw [e] at h
  exact h
/-- a turn and its inverse -/
theorem back_turn {f fa fd : Nat → C3} {n a : Nat} (ha : a < 8) (pa : (lst fa n).Perm (lst (tn a f) n)) (pd : (lst fd n).Perm (lst (tn (inv a) fa) n)) (od : OkL fd n) (o : OkL f n) : ∀ i, i < n → fd i = f i := by
  refine up_same od.up o.up (pd.trans ?_)
  have h := pa.map (tc (inv a))
  rw [← lst_map, ← lst_map] at h
  have e : (fun i => tc (inv a) (tn a f i)) = f := funext fun i => tc_inv a ha (f i)
  rw [e] at h
  exact h
theorem lo_add (f : Nat → Int) (d : Int) : ∀ n, lo (fun k => f k + d) n = lo f n + d
  | 0 => rfl
  | n + 1 => by
    rw [lo, lo, lo_add f d n]
    omega
/-- home does not depend on moves -/
theorem home_mv (f : Nat → C3) (n : Nat) (dx dy : Int) (i : Nat) : mv (-(lx (mv dx dy f) n)) (-(ly (mv dx dy f) n)) (mv dx dy f) i = mv (-(lx f n)) (-(ly f n)) f i := by
  have h1 : lx (mv dx dy f) n = lx f n + dx := lo_add (fun k => (f k).1) dx n
  have h2 : ly (mv dx dy f) n = ly f n + dy := lo_add (fun k => (f k).2.1) dy n
  rw [h1, h2]
  unfold mv
  simp only [Prod.mk.injEq, and_true]
  omega
theorem first_bad {P : Nat → Prop} (n : Nat) (h : ¬ ∀ i, i < n → P i) : ∃ k, k < n ∧ (∀ i, i < k → P i) ∧ ¬ P k := by
  induction n with
  | zero => exact absurd (fun i hi => absurd hi (by omega)) h
  | succ n ih =>
    by_cases h2 : ∀ i, i < n → P i
    · exact ⟨n, by omega, h2, fun hp => h fun i hi => by
        by_cases e : i = n
        · rw [e]; exact hp
        · exact h2 i (by omega)⟩
    · obtain ⟨k, a, b, c⟩ := ih h2
      exact ⟨k, by omega, b, c⟩
theorem shift_no (A : Option Addr) (n c : Nat) (f : Nat → C3) (dx dy : Int) (w : World) (h : CReads w w.heap.size A n f) (hok : OkL f n) (x1 : -2097152 ≤ dx) (x2 : dx ≤ 2097152) (y1 : -2097152 ≤ dy) (y2 : dy ≤ 2097152) (hp : ¬ ∀ i, i < n → OkP (mv dx dy f i)) :
    Calls Tryd.prog 10 #[.slice A n c, .int .i64 dx, .int .i64 dy] w fun e w' => e = .returned (.tuple #[.slice none 0 0, .int .i64 5]) ∧ Below w.heap.size w w' := by
  obtain ⟨k, hk, h1, h2⟩ := first_bad n hp
  exact (shift_by A n c f dx dy w h hok x1 x2 y1 y2 k (by omega) h1 (fun _ => h2)).mono fun e w' ⟨h3, h4⟩ => by
    rcases h3 with ⟨_, h3⟩ | ⟨h3, _⟩
    · exact ⟨h3, h4⟩
    · omega
/-- the reference's Right on any list of at most 5000 cells -/
theorem rright_any (A : Option Addr) (n c : Nat) (f : Nat → C3) (w : World) (h : CReads w w.heap.size A n f) (h5 : n ≤ 5000) :
    Calls Tryd.prog 4 #[.slice A n c] w fun e w' => e = .returned (.bool (decide (OkL f n))) ∧ Below w.heap.size w w' := by
  by_cases hv : ∀ i, i < n → OkC f i
  · rw [decide_eq_true (show OkL f n from ⟨h5, hv⟩)]
    have := rright_by A n c f w h h5 n (Nat.le_refl _) hv (fun h => absurd h (by omega))
    rwa [decide_eq_true rfl] at this
  · rw [decide_eq_false (show ¬ OkL f n from fun h => hv h.2)]
    obtain ⟨k, hk, h1, h2⟩ := first_bad n hv
    have := rright_by A n c f w h h5 k (by omega) h1 (fun _ => h2)
    rwa [decide_eq_false (show ¬ k = n by omega)] at this

section
variable (A : Option Addr) (n c : Nat) (f : Nat → C3) (k0 k1 m0 m1 : Int) (w : World)
theorem law_long (hM : Mat w) (hn : 300 < n) :
    Calls Tryd.prog 3 #[.slice A n c, .agg #[.int .i64 k0, .int .i64 k1], .agg #[.int .i8 m0, .int .i8 m1]] w fun e w' => e = .returned (.bool true) ∧ Below w.heap.size w w' := by
  have AW := Lib.hid (fun w' (hb : Below w.heap.size w w') => awake_any w' (hM.below hb hM.1))
  have B2 : Below w.heap.size w ((w.alloc (.cells #[.int .i64 k0, .int .i64 k1] 24)).alloc (.cells #[.int .i8 m0, .int .i8 m1] 26)) := ((Below.refl _ _).alloc (Nat.le_refl _) _).alloc (by simp) _
  clear hM
  go_enter Tryd.func3, Tryd.ntmps3
  go_wp2_with (go_at_call 5; (with_reducible refine (AW.out _ B2).mono ?_); rintro e w2 ⟨rfl, hb⟩; have B3 := Lib.hid (B2.trans (hb.mono B2.size)); clear hb)
  go_ret
  exact ⟨rfl, B3.out⟩
theorem law_bad (hM : Mat w) (h : CReads w w.heap.size A n f) (hn : n ≤ 300) (hok : ¬ OkL f n) :
    Calls Tryd.prog 3 #[.slice A n c, .agg #[.int .i64 k0, .int .i64 k1], .agg #[.int .i8 m0, .int .i8 m1]] w fun e w' => e = .returned (.bool true) ∧ Below w.heap.size w w' := by
  have AW := Lib.hid (fun w' (hb : Below w.heap.size w w') => awake_any w' (hM.below hb hM.1))
  have B2 : Below w.heap.size w ((w.alloc (.cells #[.int .i64 k0, .int .i64 k1] 24)).alloc (.cells #[.int .i8 m0, .int .i8 m1] 26)) := ((Below.refl _ _).alloc (Nat.le_refl _) _).alloc (by simp) _
  have R := rright_any A n c f _ (h.later B2) (by omega)
  rw [decide_eq_false hok] at R
  have R := Lib.hid R
  clear hM h hok
  go_enter Tryd.func3, Tryd.ntmps3
  go_wp2_with (first
    | (go_at_call 4; (with_reducible refine R.out.mono ?_); rintro e w2 ⟨rfl, hb⟩; have B3 := Lib.hid (B2.trans (hb.mono B2.size)); clear hb)
    | (go_at_call 5; (with_reducible refine (AW.out _ B3.out).mono ?_); rintro e w3 ⟨rfl, hb⟩; have B4 := Lib.hid (B3.out.trans (hb.mono B3.out.size)); clear hb))
  go_ret
  exact ⟨rfl, B4.out⟩
theorem Mat.pos {w : World} (h : Mat w) : 0 < w.heap.size := h.1
theorem tmod_bd (m : Int) : -100 ≤ m.tmod 101 ∧ m.tmod 101 ≤ 100 := by
  rcases Int.le_total 0 m with h | h
  · rw [Int.tmod_eq_emod_of_nonneg h]; omega
  · obtain ⟨k, rfl⟩ : ∃ k, m = -k := ⟨-m, by omega⟩
    rw [Int.neg_tmod, Int.tmod_eq_emod_of_nonneg (by omega)]; omega
set_option maxRecDepth 100000 in
set_option maxHeartbeats 4000000 in
/-- a cell would leave the valid positions -/
theorem law_out (hM : Mat w) (h : CReads w w.heap.size A n f) (hn : n ≤ 300) (hok : OkL f n) (hm0 : -128 ≤ m0 ∧ m0 ≤ 127) (hm1 : -128 ≤ m1 ∧ m1 ≤ 127) (hv : ¬ ∀ i, i < n → OkP (mv (m0.tmod 101) (m1.tmod 101) f i)) :
    Calls Tryd.prog 3 #[.slice A n c, .agg #[.int .i64 k0, .int .i64 k1], .agg #[.int .i8 m0, .int .i8 m1]] w fun e w' => e = .returned (.bool true) ∧ Below w.heap.size w w' := by
  obtain ⟨k1', k2', bw⟩ := two_blk w #[.int .i64 k0, .int .i64 k1] #[.int .i8 m0, .int .i8 m1] 24 26
  have RA := h.later bw
  have MW := hM.below bw hM.1
  have hWe : (w.alloc (.cells #[.int .i64 k0, .int .i64 k1] 24)).alloc (.cells #[.int .i8 m0, .int .i8 m1] 26) = (w.alloc (.cells #[.int .i64 k0, .int .i64 k1] 24)).alloc (.cells #[.int .i8 m0, .int .i8 m1] 26) := rfl
  generalize hW : (w.alloc (.cells #[.int .i64 k0, .int .i64 k1] 24)).alloc (.cells #[.int .i8 m0, .int .i8 m1] 26) = W at k1' k2' bw RA MW
  have AW := Lib.hid (fun w' (hb : Below W.heap.size W w') => awake_any w' (MW.below hb MW.1))
  have R := rright_any A n c f W RA (by omega)
  rw [decide_eq_true hok] at R
  have R := Lib.hid R
  have hd := tmod_bd m0
  have hd' := tmod_bd m1
  have SH := Lib.hid (fun w' (hb : Below W.heap.size W w') => shift_no A n c f (m0.tmod 101) (m1.tmod 101) w' (RA.later hb) hok (by omega) (by omega) (by omega) (by omega) hv)
  have SBC := Lib.hid (fun f3 f4 f5 p3 p4 (p5 : (lst f5 n).Perm (lst (tn (md ((comp (md k0) (md k1) : Nat) : Int)) f) n)) o4 o5 => two_turns (f := f) (fa := f3) (fb := f4) (fc := f5) (n := n) (md_lt k0) (md_lt k1) p3 p4 (by rw [md_nat _ (comp_lt _ (md_lt k0) _ (md_lt k1))] at p5; exact p5) o4 o5)
  have SDP := Lib.hid (fun f3 f6 p3 (p6 : (lst f6 n).Perm (lst (tn (md ((inv (md k0) : Nat) : Int)) f3) n)) o6 => back_turn (f := f) (fa := f3) (fd := f6) (n := n) (md_lt k0) p3 (by rw [md_nat _ (inv_lt _ (md_lt k0))] at p6; exact p6) o6 hok)
  have K1 := Lib.hid k1'
  have K2 := Lib.hid k2'
  have BW := Lib.hid bw
  have HO := Lib.hid hok
  have hn6 : n ≤ 1000000 := by omega
  have zz := Lib.hid RA
  (try clear RA)
  have RA := zz
  clear zz
  have zz := Lib.hid MW
  (try clear MW)
  have MW := zz
  clear zz
  clear h hM hok k1' k2' bw hv hWe
  go_enter Tryd.func3, Tryd.ntmps3
  go_wp2_with fail
  (try rw [hW])
  obtain ⟨p0, p1, _, _, p4⟩ := K1.out.two
  obtain ⟨q0, q1, _, _, q4⟩ := K2.out.two
  clear hW
  go_wp2_with (first
    | (go_at_call 4; (with_reducible refine R.out.mono ?_); rintro e w2 ⟨rfl, hb⟩; have B2 := Lib.hid hb; (try clear p0 p1 p4 q0 q1 q4); obtain ⟨p0, p1, _, _, p4⟩ := (K1.out.below B2.out K1.out.lt).two; obtain ⟨q0, q1, _, _, q4⟩ := (K2.out.below B2.out K2.out.lt).two; clear hb)
    | (go_at_call 6; (with_reducible refine (turn_any k0 A n c f w2 (MW.out.below B2.out MW.out.pos) (RA.out.later B2.out) HO.out).mono ?_); rintro e w3 ⟨A3, c3, f3, rfl, hr, hpm, hok, hb⟩; have R3 := Lib.hid hr; have P3 := Lib.hid hpm; have O3 := Lib.hid hok; have X3 := Lib.hid hb; have B3 := Lib.hid (B2.out.trans (hb.mono B2.out.size)); (try clear p0 p1 p4 q0 q1 q4); obtain ⟨p0, p1, _, _, p4⟩ := (K1.out.below B3.out K1.out.lt).two; obtain ⟨q0, q1, _, _, q4⟩ := (K2.out.below B3.out K2.out.lt).two; clear hr hpm hok hb)
    | (go_at_call 6; (with_reducible refine (turn_any k1 A3 n c3 f3 w3 (MW.out.below B3.out MW.out.pos) R3.out O3.out).mono ?_); rintro e w4 ⟨A4, c4, f4, rfl, hr, hpm, hok, hb⟩; have R4 := Lib.hid hr; have P4 := Lib.hid hpm; have O4 := Lib.hid hok; have X4 := Lib.hid hb; have B4 := Lib.hid (B3.out.trans (hb.mono B3.out.size)); (try clear p0 p1 p4 q0 q1 q4); obtain ⟨p0, p1, _, _, p4⟩ := (K1.out.below B4.out K1.out.lt).two; obtain ⟨q0, q1, _, _, q4⟩ := (K2.out.below B4.out K2.out.lt).two; clear hr hpm hok hb)
    | (go_at_call 7; (with_reducible refine (compose_any k0 k1 _).mono ?_); rintro e w4' ⟨rfl, rfl⟩)
    | (go_at_call 6; (with_reducible refine (turn_any (comp (md k0) (md k1) : Nat) A n c f w4 (MW.out.below B4.out MW.out.pos) (RA.out.later B4.out) HO.out).mono ?_); rintro e w5 ⟨A5, c5, f5, rfl, hr, hpm, hok, hb⟩; have R5 := Lib.hid hr; have P5 := Lib.hid hpm; have O5 := Lib.hid hok; have X5 := Lib.hid hb; have B5 := Lib.hid (B4.out.trans (hb.mono B4.out.size)); (try clear p0 p1 p4 q0 q1 q4); obtain ⟨p0, p1, _, _, p4⟩ := (K1.out.below B5.out K1.out.lt).two; obtain ⟨q0, q1, _, _, q4⟩ := (K2.out.below B5.out K2.out.lt).two; clear hr hpm hok hb)
    | (go_at_call 8; (with_reducible refine (inverse_any k0 _).mono ?_); rintro e w5' ⟨rfl, rfl⟩)
    | (go_at_call 6; (with_reducible refine (turn_any (inv (md k0) : Nat) A3 n c3 f3 w5 (MW.out.below B5.out MW.out.pos) ((R3.out.later X4.out).later X5.out) O3.out).mono ?_); rintro e w6 ⟨A6, c6, f6, rfl, hr, hpm, hok, hb⟩; have R6 := Lib.hid hr; have P6 := Lib.hid hpm; have O6 := Lib.hid hok; have X6 := Lib.hid hb; have B6 := Lib.hid (B5.out.trans (hb.mono B5.out.size)); (try clear p0 p1 p4 q0 q1 q4); obtain ⟨p0, p1, _, _, p4⟩ := (K1.out.below B6.out K1.out.lt).two; obtain ⟨q0, q1, _, _, q4⟩ := (K2.out.below B6.out K2.out.lt).two; clear hr hpm hok hb)
    | (go_at_call 9; (with_reducible refine (rsame_yes A4 A5 n c4 c5 f4 f5 w6 ((R4.out.later X5.out).later X6.out) (R5.out.later X6.out) hn6 (SBC.out f3 f4 f5 P3.out P4.out P5.out O4.out O5.out)).mono ?_); rintro e w7 ⟨rfl, hb⟩; have X7 := Lib.hid hb; have B7 := Lib.hid (B6.out.trans (hb.mono B6.out.size)); (try clear p0 p1 p4 q0 q1 q4); obtain ⟨p0, p1, _, _, p4⟩ := (K1.out.below B7.out K1.out.lt).two; obtain ⟨q0, q1, _, _, q4⟩ := (K2.out.below B7.out K2.out.lt).two; clear hb)
    | (go_at_call 9; (with_reducible refine (rsame_yes A6 A n c6 c f6 f w7 (R6.out.later X7.out) (RA.out.later B7.out) hn6 (SDP.out f3 f6 P3.out P6.out O6.out)).mono ?_); rintro e w8 ⟨rfl, hb⟩; have B8 := Lib.hid (B7.out.trans (hb.mono B7.out.size)); (try clear p0 p1 p4 q0 q1 q4); obtain ⟨p0, p1, _, _, p4⟩ := (K1.out.below B8.out K1.out.lt).two; obtain ⟨q0, q1, _, _, q4⟩ := (K2.out.below B8.out K2.out.lt).two; clear hb)
    | (go_at_call 10; (with_reducible refine (SH.out _ B8.out).mono ?_); rintro e w9 ⟨rfl, hb⟩; have B9 := Lib.hid (B8.out.trans (hb.mono B8.out.size)); clear hb)
    | (go_at_call 11; (with_reducible refine (home_any A n c f w9 (RA.out.later B9.out) HO.out).mono ?_); rintro e w10 ⟨A10, c10, rfl, hr, hb⟩; have R10 := Lib.hid hr; have B10 := Lib.hid (B9.out.trans (hb.mono B9.out.size)); clear hr hb)
    | (go_at_call 5; (with_reducible refine (AW.out _ B10.out).mono ?_); rintro e wz ⟨rfl, hb⟩; have BZ := Lib.hid (B10.out.trans (hb.mono B10.out.size)); clear hb))
  go_ret
  exact ⟨rfl, BW.out.trans (BZ.out.mono BW.out.size)⟩
set_option maxRecDepth 100000 in
set_option maxHeartbeats 4000000 in
/-- all cells stay at valid positions -/
theorem law_in (hM : Mat w) (h : CReads w w.heap.size A n f) (hn : n ≤ 300) (hok : OkL f n) (hm0 : -128 ≤ m0 ∧ m0 ≤ 127) (hm1 : -128 ≤ m1 ∧ m1 ≤ 127) (hv : ∀ i, i < n → OkP (mv (m0.tmod 101) (m1.tmod 101) f i)) :
    Calls Tryd.prog 3 #[.slice A n c, .agg #[.int .i64 k0, .int .i64 k1], .agg #[.int .i8 m0, .int .i8 m1]] w fun e w' => e = .returned (.bool true) ∧ Below w.heap.size w w' := by
  obtain ⟨k1', k2', bw⟩ := two_blk w #[.int .i64 k0, .int .i64 k1] #[.int .i8 m0, .int .i8 m1] 24 26
  have RA := h.later bw
  have MW := hM.below bw hM.1
  have hWe : (w.alloc (.cells #[.int .i64 k0, .int .i64 k1] 24)).alloc (.cells #[.int .i8 m0, .int .i8 m1] 26) = (w.alloc (.cells #[.int .i64 k0, .int .i64 k1] 24)).alloc (.cells #[.int .i8 m0, .int .i8 m1] 26) := rfl
  generalize hW : (w.alloc (.cells #[.int .i64 k0, .int .i64 k1] 24)).alloc (.cells #[.int .i8 m0, .int .i8 m1] 26) = W at k1' k2' bw RA MW
  have AW := Lib.hid (fun w' (hb : Below W.heap.size W w') => awake_any w' (MW.below hb MW.1))
  have R := rright_any A n c f W RA (by omega)
  rw [decide_eq_true hok] at R
  have R := Lib.hid R
  have hd := tmod_bd m0
  have hd' := tmod_bd m1
  have SH := Lib.hid (fun w' (hb : Below W.heap.size W w') => shift_ok A n c f (m0.tmod 101) (m1.tmod 101) w' (RA.later hb) hok (by omega) (by omega) (by omega) (by omega) hv)
  have SBC := Lib.hid (fun f3 f4 f5 p3 p4 (p5 : (lst f5 n).Perm (lst (tn (md ((comp (md k0) (md k1) : Nat) : Int)) f) n)) o4 o5 => two_turns (f := f) (fa := f3) (fb := f4) (fc := f5) (n := n) (md_lt k0) (md_lt k1) p3 p4 (by rw [md_nat _ (comp_lt _ (md_lt k0) _ (md_lt k1))] at p5; exact p5) o4 o5)
  have SDP := Lib.hid (fun f3 f6 p3 (p6 : (lst f6 n).Perm (lst (tn (md ((inv (md k0) : Nat) : Int)) f3) n)) o6 => back_turn (f := f) (fa := f3) (fd := f6) (n := n) (md_lt k0) p3 (by rw [md_nat _ (inv_lt _ (md_lt k0))] at p6; exact p6) o6 hok)
  have K1 := Lib.hid k1'
  have K2 := Lib.hid k2'
  have BW := Lib.hid bw
  have HO := Lib.hid hok
  have hn6 : n ≤ 1000000 := by omega
  have HM := Lib.hid (fun g w' h => home_any (some ⟨g, 0, none⟩) n n (mv (m0.tmod 101) (m1.tmod 101) f) w' h (mv_ok hok hv))
  have zz := Lib.hid RA
  (try clear RA)
  have RA := zz
  clear zz
  have zz := Lib.hid MW
  (try clear MW)
  have MW := zz
  clear zz
  clear h hM hok k1' k2' bw hv hWe
  go_enter Tryd.func3, Tryd.ntmps3
  go_wp2_with fail
  (try rw [hW])
  obtain ⟨p0, p1, _, _, p4⟩ := K1.out.two
  obtain ⟨q0, q1, _, _, q4⟩ := K2.out.two
  clear hW
  go_wp2_with (first
    | (go_at_call 4; (with_reducible refine R.out.mono ?_); rintro e w2 ⟨rfl, hb⟩; have B2 := Lib.hid hb; (try clear p0 p1 p4 q0 q1 q4); obtain ⟨p0, p1, _, _, p4⟩ := (K1.out.below B2.out K1.out.lt).two; obtain ⟨q0, q1, _, _, q4⟩ := (K2.out.below B2.out K2.out.lt).two; clear hb)
    | (go_at_call 6; (with_reducible refine (turn_any k0 A n c f w2 (MW.out.below B2.out MW.out.pos) (RA.out.later B2.out) HO.out).mono ?_); rintro e w3 ⟨A3, c3, f3, rfl, hr, hpm, hok, hb⟩; have R3 := Lib.hid hr; have P3 := Lib.hid hpm; have O3 := Lib.hid hok; have X3 := Lib.hid hb; have B3 := Lib.hid (B2.out.trans (hb.mono B2.out.size)); (try clear p0 p1 p4 q0 q1 q4); obtain ⟨p0, p1, _, _, p4⟩ := (K1.out.below B3.out K1.out.lt).two; obtain ⟨q0, q1, _, _, q4⟩ := (K2.out.below B3.out K2.out.lt).two; clear hr hpm hok hb)
    | (go_at_call 6; (with_reducible refine (turn_any k1 A3 n c3 f3 w3 (MW.out.below B3.out MW.out.pos) R3.out O3.out).mono ?_); rintro e w4 ⟨A4, c4, f4, rfl, hr, hpm, hok, hb⟩; have R4 := Lib.hid hr; have P4 := Lib.hid hpm; have O4 := Lib.hid hok; have X4 := Lib.hid hb; have B4 := Lib.hid (B3.out.trans (hb.mono B3.out.size)); (try clear p0 p1 p4 q0 q1 q4); obtain ⟨p0, p1, _, _, p4⟩ := (K1.out.below B4.out K1.out.lt).two; obtain ⟨q0, q1, _, _, q4⟩ := (K2.out.below B4.out K2.out.lt).two; clear hr hpm hok hb)
    | (go_at_call 7; (with_reducible refine (compose_any k0 k1 _).mono ?_); rintro e w4' ⟨rfl, rfl⟩)
    | (go_at_call 6; (with_reducible refine (turn_any (comp (md k0) (md k1) : Nat) A n c f w4 (MW.out.below B4.out MW.out.pos) (RA.out.later B4.out) HO.out).mono ?_); rintro e w5 ⟨A5, c5, f5, rfl, hr, hpm, hok, hb⟩; have R5 := Lib.hid hr; have P5 := Lib.hid hpm; have O5 := Lib.hid hok; have X5 := Lib.hid hb; have B5 := Lib.hid (B4.out.trans (hb.mono B4.out.size)); (try clear p0 p1 p4 q0 q1 q4); obtain ⟨p0, p1, _, _, p4⟩ := (K1.out.below B5.out K1.out.lt).two; obtain ⟨q0, q1, _, _, q4⟩ := (K2.out.below B5.out K2.out.lt).two; clear hr hpm hok hb)
    | (go_at_call 8; (with_reducible refine (inverse_any k0 _).mono ?_); rintro e w5' ⟨rfl, rfl⟩)
    | (go_at_call 6; (with_reducible refine (turn_any (inv (md k0) : Nat) A3 n c3 f3 w5 (MW.out.below B5.out MW.out.pos) ((R3.out.later X4.out).later X5.out) O3.out).mono ?_); rintro e w6 ⟨A6, c6, f6, rfl, hr, hpm, hok, hb⟩; have R6 := Lib.hid hr; have P6 := Lib.hid hpm; have O6 := Lib.hid hok; have X6 := Lib.hid hb; have B6 := Lib.hid (B5.out.trans (hb.mono B5.out.size)); (try clear p0 p1 p4 q0 q1 q4); obtain ⟨p0, p1, _, _, p4⟩ := (K1.out.below B6.out K1.out.lt).two; obtain ⟨q0, q1, _, _, q4⟩ := (K2.out.below B6.out K2.out.lt).two; clear hr hpm hok hb)
    | (go_at_call 9; (with_reducible refine (rsame_yes A4 A5 n c4 c5 f4 f5 w6 ((R4.out.later X5.out).later X6.out) (R5.out.later X6.out) hn6 (SBC.out f3 f4 f5 P3.out P4.out P5.out O4.out O5.out)).mono ?_); rintro e w7 ⟨rfl, hb⟩; have X7 := Lib.hid hb; have B7 := Lib.hid (B6.out.trans (hb.mono B6.out.size)); (try clear p0 p1 p4 q0 q1 q4); obtain ⟨p0, p1, _, _, p4⟩ := (K1.out.below B7.out K1.out.lt).two; obtain ⟨q0, q1, _, _, q4⟩ := (K2.out.below B7.out K2.out.lt).two; clear hb)
    | (go_at_call 9; (with_reducible refine (rsame_yes A6 A n c6 c f6 f w7 (R6.out.later X7.out) (RA.out.later B7.out) hn6 (SDP.out f3 f6 P3.out P6.out O6.out)).mono ?_); rintro e w8 ⟨rfl, hb⟩; have B8 := Lib.hid (B7.out.trans (hb.mono B7.out.size)); (try clear p0 p1 p4 q0 q1 q4); obtain ⟨p0, p1, _, _, p4⟩ := (K1.out.below B8.out K1.out.lt).two; obtain ⟨q0, q1, _, _, q4⟩ := (K2.out.below B8.out K2.out.lt).two; clear hb)
    | (go_at_call 10; (with_reducible refine (SH.out _ B8.out).mono ?_); rintro e w9 ⟨g9, rfl, hr, hb⟩; have R9 := Lib.hid hr; have B9 := Lib.hid (B8.out.trans (hb.mono B8.out.size)); clear hr hb)
    | (go_at_call 11; (with_reducible refine (home_any A n c f w9 (RA.out.later B9.out) HO.out).mono ?_); rintro e w10 ⟨A10, c10, rfl, hr, hb⟩; have R10 := Lib.hid hr; have X10 := Lib.hid hb; have B10 := Lib.hid (B9.out.trans (hb.mono B9.out.size)); clear hr hb)
    | (go_at_call 11; (with_reducible refine (HM.out g9 w10 ((R9.out.later X10.out))).mono ?_); rintro e w11 ⟨A11, c11, rfl, hr, hb⟩; have R11 := Lib.hid hr; have X11 := Lib.hid hb; have B11 := Lib.hid (B10.out.trans (hb.mono B10.out.size)); clear hr hb)
    | (go_at_call 9; (with_reducible refine (rsame_yes A11 A10 n c11 c10 _ _ w11 R11.out (R10.out.later X11.out) hn6 (fun i _ => home_mv f n (m0.tmod 101) (m1.tmod 101) i)).mono ?_); rintro e w12 ⟨rfl, hb⟩; have B12 := Lib.hid (B11.out.trans (hb.mono B11.out.size)); clear hb)
    | (go_at_call 5; (with_reducible refine (AW.out _ B12.out).mono ?_); rintro e wz ⟨rfl, hb⟩; have BZ := Lib.hid (B12.out.trans (hb.mono B12.out.size)); clear hb))
  go_ret
  exact ⟨rfl, BW.out.trans (BZ.out.mono BW.out.size)⟩
end
end Go.Proofs.YtobaabankhpfjaaDoor
