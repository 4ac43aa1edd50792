/- The walk of the chapter's examples. -/
import Derived.Test.YtobaabankhpfjaaDoorTile
import Derived.Test.YtobaabankhpfjaaDoorHome
import Derived.Test.YtobaabankhpfjaaDoorRef
namespace Go.Proofs.YtobaabankhpfjaaDoor
open Go.RowKit

/-- a block that was made of cells reads as their list -/
theorem CReads.of_blk {w : World} {g : Nat} {t : TypeId} {l : List C3} (h : Blk w g t (l.flatMap fun x => [Value.int .i64 x.1, .int .i64 x.2.1, .int .i64 x.2.2]).toArray) : CReads w w.heap.size (some ⟨g, 0, none⟩) l.length (lf l) := fun _ => by
  refine ⟨g, 0, rfl, h.lt, fun k hk => ?_⟩
  have e : l.flatMap (fun x => [Value.int .i64 x.1, .int .i64 x.2.1, .int .i64 x.2.2]) = cells3 (lf l) l.length := by rw [cells3_lst, lf_lst]
  rw [e] at h
  obtain ⟨c1, c2, c3⟩ := cells3_at (lf l) l.length k hk
  simp only [Nat.zero_add]
  refine ⟨?_, ?_, ?_⟩
  · rw [h.cell, List.getElem?_toArray, c1]
  · rw [h.cell, List.getElem?_toArray, c2]
  · rw [h.cell, List.getElem?_toArray, c3]
theorem CReads.to {w : World} {B n : Nat} {A : Option Addr} {f f' : Nat → C3} (h : CReads w B A n f) (e : ∀ k, k < n → f k = f' k) : CReads w B A n f' := fun hn => by
  obtain ⟨g, o, ha, hg, hc⟩ := h hn
  exact ⟨g, o, ha, hg, fun k hk => by rw [← e k hk]; exact hc k hk⟩
/-- Turn by 1 of the example -/
theorem turn_ex (A : Option Addr) (c : Nat) (w : World) (hM : Mat w) (h : CReads w w.heap.size A 2 (lf [(1, 0, 1), (2, 0, 1)])) :
    Calls Tryd.prog 6 #[.int .i64 1, .slice A 2 c] w fun e w' => ∃ A' c', e = .returned (.tuple #[.slice A' 2 c', .int .i64 0]) ∧ CReads w' w'.heap.size A' 2 (lf [(0, 1, 1), (0, 2, 1)]) ∧ Below w.heap.size w w' :=
  (turn_any 1 A 2 c (lf [(1, 0, 1), (2, 0, 1)]) w hM h (by decide)).mono fun e w' ⟨A', c', f', he, hr, hp, hok, hb⟩ => ⟨A', c', he, hr.to (up_same hok.up (show OkL (lf [(0, 1, 1), (0, 2, 1)]) 2 by decide).up (by
    have e1 : lst (tn (md 1) (lf [(1, 0, 1), (2, 0, 1)])) 2 = lst (lf [(0, 1, 1), (0, 2, 1)]) 2 := by decide +kernel
    rwa [e1] at hp)), hb⟩
theorem home_ex (A : Option Addr) (c : Nat) (w : World) (h : CReads w w.heap.size A 2 (lf [(0, 1, 1), (0, 2, 1)])) :
    Calls Tryd.prog 11 #[.slice A 2 c] w fun e w' => ∃ A' c', e = .returned (.slice A' 2 c') ∧ CReads w' w'.heap.size A' 2 (lf [(0, 0, 1), (0, 1, 1)]) ∧ Below w.heap.size w w' :=
  (home_any A 2 c (lf [(0, 1, 1), (0, 2, 1)]) w h (by decide)).mono fun e w' ⟨A', c', he, hr, hb⟩ => ⟨A', c', he, hr.to (by decide +kernel), hb⟩
/-- a list held and a new one of the same cells -/
theorem same_new (A : Option Addr) (c n : Nat) (l : List C3) (cs : Array Value) (w w' : World) (hl : l.length = n) (hcs : cs = (l.flatMap fun x => [Value.int .i64 x.1, .int .i64 x.2.1, .int .i64 x.2.2]).toArray) (h : CReads w w.heap.size A n (lf l)) (hb : Below w.heap.size w w') (hn : n ≤ 100) :
    Calls Tryd.prog 9 #[.slice A n c, .slice (some ⟨w'.heap.size, 0, none⟩) n n] (w'.alloc (.cells cs 40)) fun e w'' => e = .returned (.bool true) ∧ Below w'.heap.size w' w'' := by
  subst hl
  subst hcs
  have K := Blk.new w' 40 (l.flatMap fun x => [Value.int .i64 x.1, .int .i64 x.2.1, .int .i64 x.2.2]).toArray
  have hal := (Below.refl w'.heap.size w').alloc (Nat.le_refl _) (.cells (l.flatMap fun x => [Value.int .i64 x.1, .int .i64 x.2.1, .int .i64 x.2.2]).toArray 40)
  exact (rsame_yes A (some ⟨w'.heap.size, 0, none⟩) l.length c l.length (lf l) (lf l) _ ((h.later hb).later hal) (CReads.of_blk K) (by omega) (fun _ _ => rfl)).mono fun e w'' ⟨he, hx⟩ => ⟨he, hal.trans (hx.mono hal.size)⟩

set_option maxRecDepth 100000 in
set_option maxHeartbeats 4000000 in
theorem awake_any (w : World) (hM : Mat w) : Calls Tryd.prog 5 #[] w fun e w' => e = .returned (.bool true) ∧ Below w.heap.size w w' := by
  obtain ⟨k1, k2, bw⟩ := two_blk w #[.int .i64 0, .int .i64 0, .int .i64 1, .int .i64 1, .int .i64 0, .int .i64 1] #[.int .i64 1, .int .i64 0, .int .i64 2, .int .i64 2, .int .i64 0, .int .i64 2] 40 40
  obtain ⟨W, hW⟩ : ∃ W, W = (w.alloc (.cells #[.int .i64 0, .int .i64 0, .int .i64 1, .int .i64 1, .int .i64 0, .int .i64 1] 40)).alloc (.cells #[.int .i64 1, .int .i64 0, .int .i64 2, .int .i64 2, .int .i64 0, .int .i64 2] 40) := ⟨_, rfl⟩
  rw [← hW] at k1 k2 bw
  have RA : CReads W W.heap.size (some ⟨w.heap.size, 0, none⟩) 2 (lf [(0, 0, 1), (1, 0, 1)]) := CReads.of_blk (l := [(0, 0, 1), (1, 0, 1)]) k1
  have RB : CReads W W.heap.size (some ⟨w.heap.size + 1, 0, none⟩) 2 (lf [(1, 0, 2), (2, 0, 2)]) := CReads.of_blk (l := [(1, 0, 2), (2, 0, 2)]) k2
  have MW : Mat W := hM.below bw hM.1
  have oka : OkL (lf [(0, 0, 1), (1, 0, 1)]) 2 := by decide
  have okb : OkL (lf [(1, 0, 2), (2, 0, 2)]) 2 := by decide
  have eO : mg or2 (lf [(0, 0, 1), (1, 0, 1)]) 2 (lf [(1, 0, 2), (2, 0, 2)]) 2 = [(0, 0, 1), (1, 0, 1), (2, 0, 2)] := by decide +kernel
  have eX : mg chX (lf [(0, 0, 1), (1, 0, 1)]) 2 (lf [(1, 0, 2), (2, 0, 2)]) 2 = [(0, 0, 1), (2, 0, 2)] := by decide +kernel
  have eA : mg chA (lf [(0, 0, 1), (1, 0, 1)]) 2 (lf [(1, 0, 2), (2, 0, 2)]) 2 = [(1, 0, 1)] := by decide +kernel
  have eD : (run (fun _ _ => 0) upD (lf [(0, 0, 1), (1, 0, 1)]) 2 (lf [(1, 0, 2), (2, 0, 2)]) 2 (2 + 2) 0 0 [] true).2 = false := by decide +kernel
  have OV : Calls Tryd.prog 14 #[.slice (some ⟨w.heap.size, 0, none⟩) 2 2, .slice (some ⟨w.heap.size + 1, 0, none⟩) 2 2] W fun e w' => ∃ A2 c2, e = .returned (.tuple #[.slice A2 3 c2, .int .i64 0]) ∧ CReads w' w'.heap.size A2 3 (lf [(0, 0, 1), (1, 0, 1), (2, 0, 2)]) ∧ Below W.heap.size W w' := by
    have := over_any (some ⟨w.heap.size, 0, none⟩) (some ⟨w.heap.size + 1, 0, none⟩) 2 2 2 2 (lf [(0, 0, 1), (1, 0, 1)]) (lf [(1, 0, 2), (2, 0, 2)]) W MW.1 RA RB oka okb (by omega) (by omega) (by omega)
    rw [eO] at this
    exact this.mono fun e w' ⟨A2, c2, h1, _, h2, h3⟩ => ⟨A2, c2, h1, h2, h3⟩
  have XO : ∀ w', Below W.heap.size W w' → Calls Tryd.prog 15 #[.slice (some ⟨w.heap.size, 0, none⟩) 2 2, .slice (some ⟨w.heap.size + 1, 0, none⟩) 2 2] w' fun e w'' => ∃ A2 c2, e = .returned (.tuple #[.slice A2 2 c2, .int .i64 0]) ∧ CReads w'' w''.heap.size A2 2 (lf [(0, 0, 1), (2, 0, 2)]) ∧ Below w'.heap.size w' w'' := fun w' hb => by
    have := xor_any (some ⟨w.heap.size, 0, none⟩) (some ⟨w.heap.size + 1, 0, none⟩) 2 2 2 2 (lf [(0, 0, 1), (1, 0, 1)]) (lf [(1, 0, 2), (2, 0, 2)]) w' (MW.below hb MW.1).1 (RA.later hb) (RB.later hb) oka okb (by omega) (by omega) (by omega)
    rw [eX] at this
    exact this.mono fun e w' ⟨A2, c2, h1, _, h2, h3⟩ => ⟨A2, c2, h1, h2, h3⟩
  have AN : ∀ w', Below W.heap.size W w' → Calls Tryd.prog 17 #[.slice (some ⟨w.heap.size, 0, none⟩) 2 2, .slice (some ⟨w.heap.size + 1, 0, none⟩) 2 2] w' fun e w'' => ∃ A2 c2, e = .returned (.slice A2 1 c2) ∧ CReads w'' w''.heap.size A2 1 (lf [(1, 0, 1)]) ∧ Below w'.heap.size w' w'' := fun w' hb => by
    have := and_any (some ⟨w.heap.size, 0, none⟩) (some ⟨w.heap.size + 1, 0, none⟩) 2 2 2 2 (lf [(0, 0, 1), (1, 0, 1)]) (lf [(1, 0, 2), (2, 0, 2)]) w' (MW.below hb MW.1).1 (RA.later hb) (RB.later hb) oka okb (by omega) (by omega) (by omega)
    rw [eA] at this
    exact this.mono fun e w' ⟨A2, c2, h1, _, h2, h3⟩ => ⟨A2, c2, h1, h2, h3⟩
  have DJ : ∀ w', Below W.heap.size W w' → Calls Tryd.prog 18 #[.slice (some ⟨w.heap.size, 0, none⟩) 2 2, .slice (some ⟨w.heap.size + 1, 0, none⟩) 2 2] w' fun e w'' => e = .returned (.bool false) ∧ Below w'.heap.size w' w'' := fun w' hb => by
    have := disj_any (some ⟨w.heap.size, 0, none⟩) (some ⟨w.heap.size + 1, 0, none⟩) 2 2 2 2 (lf [(0, 0, 1), (1, 0, 1)]) (lf [(1, 0, 2), (2, 0, 2)]) w' (RA.later hb) (RB.later hb) oka okb (by omega) (by omega) (by omega)
    rw [eD] at this
    exact this
  have zz := Lib.hid OV
  (try clear OV)
  have OV := zz
  clear zz
  have zz := Lib.hid XO
  (try clear XO)
  have XO := zz
  clear zz
  have zz := Lib.hid AN
  (try clear AN)
  have AN := zz
  clear zz
  have zz := Lib.hid DJ
  (try clear DJ)
  have DJ := zz
  clear zz
  have TU := Lib.hid (fun w' (hb : Below W.heap.size W w') => by
    have hal := (Below.refl w'.heap.size w').alloc (Nat.le_refl _) (.cells #[.int .i64 1, .int .i64 0, .int .i64 1, .int .i64 2, .int .i64 0, .int .i64 1] 40)
    have K := Blk.new w' 40 #[.int .i64 1, .int .i64 0, .int .i64 1, .int .i64 2, .int .i64 0, .int .i64 1]
    have := (turn_ex (some ⟨w'.heap.size, 0, none⟩) 2 (w'.alloc (.cells #[.int .i64 1, .int .i64 0, .int .i64 1, .int .i64 2, .int .i64 0, .int .i64 1] 40)) ((MW.below hb MW.1).alloc _) (CReads.of_blk (l := [(1, 0, 1), (2, 0, 1)]) K)).mono fun e w'' ⟨A', c', he, hr, hx⟩ => (⟨A', c', he, hr, hal.trans (hx.mono hal.size)⟩ : ∃ A' c', e = Ending.returned (.tuple #[.slice A' 2 c', .int .i64 0]) ∧ CReads w'' w''.heap.size A' 2 (lf [(0, 1, 1), (0, 2, 1)]) ∧ Below w'.heap.size w' w'')
    exact this)
  have TI := Lib.hid (fun w' (hb : Below W.heap.size W w') => by
    have hal := (Below.refl w'.heap.size w').alloc (Nat.le_refl _) (.cells #[.int .i64 0, .int .i64 0, .int .i64 1] 40)
    have K := Blk.new w' 40 #[.int .i64 0, .int .i64 0, .int .i64 1]
    have := (tile_ex (some ⟨w'.heap.size, 0, none⟩) 1 (w'.alloc (.cells #[.int .i64 0, .int .i64 0, .int .i64 1] 40)) ((MW.below hb MW.1).alloc _).1 (CReads.of_blk (l := [(0, 0, 1)]) K)).mono fun e w'' ⟨A', c', he, hl, hr, hx⟩ => (⟨A', c', he, hr, hal.trans (hx.mono hal.size)⟩ : ∃ A' c', e = Ending.returned (.tuple #[.slice A' 4 c', .int .i64 0]) ∧ CReads w'' w''.heap.size A' 4 (lf [(0, 0, 1), (2, 0, 1), (0, 3, 1), (2, 3, 1)]) ∧ Below w'.heap.size w' w'')
    exact this)
  have BW := Lib.hid bw
  clear k1 k2 bw RA RB hM oka okb eO eX eA eD
  go_enter Tryd.func5, Tryd.ntmps5
  go_wp2_with fail
  rw [← hW]
  clear hW
  go_wp2_with (first
    | (go_at_call 14; (with_reducible refine OV.out.mono ?_); rintro e w2 ⟨A2, c2, rfl, hr, hb⟩; have RO := Lib.hid hr; have B2 := Lib.hid hb; clear hr hb)
    | (go_at_call 15; (with_reducible refine (XO.out _ B2.out).mono ?_); rintro e w3 ⟨A3, c3, rfl, hr, hb⟩; have RX := Lib.hid hr; have B3 := Lib.hid (B2.out.trans (hb.mono B2.out.size)); have D3 := Lib.hid hb; clear hr hb)
    | (go_at_call 6; (with_reducible refine (TU.out _ B3.out).mono ?_); rintro e w4 ⟨A4, c4, rfl, hr, hb⟩; have RT := Lib.hid hr; have B4 := Lib.hid (B3.out.trans (hb.mono B3.out.size)); have D4 := Lib.hid hb; clear hr hb)
    | (go_at_call 16; (with_reducible refine (TI.out _ B4.out).mono ?_); rintro e w5 ⟨A5, c5, rfl, hr, hb⟩; have RL := Lib.hid hr; have B5 := Lib.hid (B4.out.trans (hb.mono B4.out.size)); have RO5 := Lib.hid (((RO.out.later D3.out).later D4.out).later hb); have RX5 := Lib.hid ((RX.out.later D4.out).later hb); have RT5 := Lib.hid (RT.out.later hb); clear hr hb)
    | (go_at_call 9; (with_reducible refine (same_new A2 c2 3 [(0, 0, 1), (1, 0, 1), (2, 0, 2)] #[.int .i64 0, .int .i64 0, .int .i64 1, .int .i64 1, .int .i64 0, .int .i64 1, .int .i64 2, .int .i64 0, .int .i64 2] w5 w5 rfl rfl RO5.out (Below.refl _ _) (by omega)).mono ?_); rintro e w6 ⟨rfl, hb⟩; have B6 := Lib.hid (hb); clear hb)
    | (go_at_call 9; (with_reducible refine (same_new A3 c3 2 [(0, 0, 1), (2, 0, 2)] #[.int .i64 0, .int .i64 0, .int .i64 1, .int .i64 2, .int .i64 0, .int .i64 2] w5 w6 rfl rfl RX5.out B6.out (by omega)).mono ?_); rintro e w7 ⟨rfl, hb⟩; have B7 := Lib.hid (B6.out.trans (hb.mono B6.out.size)); clear hb)
    | (go_at_call 17; (with_reducible refine (AN.out _ (B5.out.trans (B7.out.mono B5.out.size))).mono ?_); rintro e w8 ⟨A8, c8, rfl, hr, hb⟩; have RN := Lib.hid hr; have B8 := Lib.hid (B7.out.trans (hb.mono B7.out.size)); clear hr hb)
    | (go_at_call 9; (with_reducible refine (same_new A8 c8 1 [(1, 0, 1)] #[.int .i64 1, .int .i64 0, .int .i64 1] w8 w8 rfl rfl RN.out (Below.refl _ _) (by omega)).mono ?_); rintro e w9 ⟨rfl, hb⟩; have B9 := Lib.hid (B8.out.trans (hb.mono B8.out.size)); clear hb)
    | (go_at_call 9; (with_reducible refine (same_new A4 c4 2 [(0, 1, 1), (0, 2, 1)] #[.int .i64 0, .int .i64 1, .int .i64 1, .int .i64 0, .int .i64 2, .int .i64 1] w5 w9 rfl rfl RT5.out B9.out (by omega)).mono ?_); rintro e w10 ⟨rfl, hb⟩; have B10 := Lib.hid (B9.out.trans (hb.mono B9.out.size)); clear hb)
    | (go_at_call 11; (with_reducible refine (home_ex A4 c4 w10 (RT5.out.later B10.out)).mono ?_); rintro e w11 ⟨A11, c11, rfl, hr, hb⟩; have RH := Lib.hid hr; have B11 := Lib.hid (B10.out.trans (hb.mono B10.out.size)); clear hr hb)
    | (go_at_call 9; (with_reducible refine (same_new A11 c11 2 [(0, 0, 1), (0, 1, 1)] #[.int .i64 0, .int .i64 0, .int .i64 1, .int .i64 0, .int .i64 1, .int .i64 1] w11 w11 rfl rfl RH.out (Below.refl _ _) (by omega)).mono ?_); rintro e w12 ⟨rfl, hb⟩; have B12 := Lib.hid (B11.out.trans (hb.mono B11.out.size)); clear hb)
    | (go_at_call 9; (with_reducible refine (same_new A5 c5 4 [(0, 0, 1), (2, 0, 1), (0, 3, 1), (2, 3, 1)] #[.int .i64 0, .int .i64 0, .int .i64 1, .int .i64 2, .int .i64 0, .int .i64 1, .int .i64 0, .int .i64 3, .int .i64 1, .int .i64 2, .int .i64 3, .int .i64 1] w5 w12 rfl rfl RL.out B12.out (by omega)).mono ?_); rintro e w13 ⟨rfl, hb⟩; have B13 := Lib.hid (B12.out.trans (hb.mono B12.out.size)); clear hb)
    | (go_at_call 18; (with_reducible refine (DJ.out _ (B5.out.trans (B13.out.mono B5.out.size))).mono ?_); rintro e w14 ⟨rfl, hb⟩; have B14 := Lib.hid (B13.out.trans (hb.mono B13.out.size)); clear hb))
  go_ret
  exact ⟨rfl, BW.out.trans ((B5.out.trans (B14.out.mono B5.out.size)).mono BW.out.size)⟩
end Go.Proofs.YtobaabankhpfjaaDoor
