/- The walks of Constant and Read at the examples. -/
import Derived.Test.YtkdcciajihoimaaClone
import Derived.Test.YtkdcciajihoimaaRi
namespace Go.Proofs.Ytkdcciajihoimaa
open Go.RowKit

/-- the neighbourhood of the examples -/
def line : Nat → P2 := lf [(-1, 0), (0, 0)]
/-- the tree of the constant 2 with three states -/
def TC : Tr := ⟨3, 2, line, 2, fun k => (k : Int) + 1, fun k => if k = 0 then [2, 2, 2] else [0, 0, 0]⟩
/-- the tree that reads the first position, with two states -/
def TP : Tr := ⟨2, 2, line, 3, fun k => if k = 2 then 2 else 1, fun k => if k = 0 then [0, 0] else if k = 1 then [1, 1] else [0, 1]⟩
theorem line_hd : Hd line 2 := by decide +kernel
theorem passC (base : Nat) (w : World) (hb : base ≤ w.heap.size) : Calls Try.prog 23 #[.slice none 0 0, .int .i64 3, .int .i64 1, .int .i64 2, .int .i64 2] w fun e w' => PassOut base 2 1 TC.lv TC.nx w e w' :=
  pass_any base 3 0 2 0 none 1 2 2 TC.lv TC.nx w (.inr rfl) (LR.nil _ _ _ _) hb (by omega) (by omega) (by omega) (by omega) (by decide) (fun i hi => by
    match i, hi with
    | 0, _ => exact ⟨rfl, rfl⟩
    | 1, _ => exact ⟨rfl, rfl⟩)
theorem passP0 (base : Nat) (w : World) (hb : base ≤ w.heap.size) : Calls Try.prog 23 #[.slice none 0 0, .int .i64 2, .int .i64 1, .int .i64 1, .int .i64 0] w fun e w' => PassOut base 1 0 TP.lv TP.nx w e w' :=
  pass_any base 2 0 1 0 none 1 1 0 TP.lv TP.nx w (.inl rfl) (LR.nil _ _ _ _) hb (by omega) (by omega) (by omega) (by omega) (by decide) (fun i hi => by
    match i, hi with
    | 0, _ => exact ⟨rfl, rfl⟩)
theorem passP1 (base : Nat) (A : Option Addr) (c : Nat) (w : World) (h : LR w base A 1 c TP.lv TP.nx) (hb : base ≤ w.heap.size) : Calls Try.prog 23 #[.slice A 1 c, .int .i64 2, .int .i64 1, .int .i64 1, .int .i64 1] w fun e w' => PassOut base 2 1 TP.lv TP.nx w e w' :=
  pass_any base 2 1 1 c A 1 1 1 TP.lv TP.nx w (.inl rfl) h hb (by omega) (by omega) (by omega) (by omega) (by decide) (fun i hi => by
    match i, hi with
    | 0, _ => exact ⟨rfl, rfl⟩)
theorem passP2 (base : Nat) (A : Option Addr) (c : Nat) (w : World) (h : LR w base A 3 c TP.lv TP.nx) (hb : base ≤ w.heap.size) : Calls Try.prog 23 #[.slice A 3 c, .int .i64 2, .int .i64 3, .int .i64 2, .int .i64 2] w fun e w' => PassOut base 3 2 TP.lv TP.nx w e w' :=
  pass_any base 2 3 0 c A 3 2 2 TP.lv TP.nx w (.inl rfl) h hb (by omega) (by omega) (by omega) (by omega) (by decide) (fun i hi => absurd hi (by omega))

/-- a tree came back -/
def TreeOut (T : Tr) (w : World) (e : Ending) (w' : World) : Prop := ∃ AH cH AN cN, e = .returned (.tuple #[.agg #[.int .i64 T.st, .slice AH T.n cH, .slice AN T.m cN], .int .i64 0]) ∧ TS w' AH AN T ∧ Below w.heap.size w w'
theorem Blk.all3 {w : World} {g : Nat} {t : TypeId} {x y z : Value} (h : Blk w g t #[x, y, z]) (a b c : Value) : Blk (((w.setCell ⟨g, 0, none⟩ a).setCell ⟨g, 1, none⟩ b).setCell ⟨g, 2, none⟩ c) g t #[a, b, c] :=
  ((h.set_ 0 a).set_ 1 b).set_ 2 c

set_option maxRecDepth 100000 in
set_option maxHeartbeats 4000000 in
theorem constant_ex (AH : Option Addr) (cH : Nat) (w : World) (h : QReads w w.heap.size AH 2 line) :
    Calls Try.prog 11 #[.int .i64 3, .slice AH 2 cH, .int .i64 2] w fun e w' => TreeOut TC w e w' := by
  have PO := Lib.hid (fun w' (hb : Below w.heap.size w w') => possible_yes 3 AH 2 cH line w' (h.later hb) line_hd (by omega) (by omega))
  have IS := Lib.hid (fun w => by have := isState_any 3 2 w; rwa [show sta 3 2 = true by decide] at this)
  have PC := Lib.hid (fun w' (hb : w.heap.size + 1 ≤ w'.heap.size) => passC (w.heap.size + 1) w' hb)
  have CL := Lib.hid (fun w' (hb : Below w.heap.size w w') => clone_any AH 2 cH line w' (h.later hb) (by omega))
  clear h
  have K0 := Blk.new w 25 #[.int .i64 0, .slice none 0 0, .slice none 0 0]
  have B0 := (Below.refl w.heap.size w).alloc (Nat.le_refl _) (.cells #[.int .i64 0, .slice none 0 0, .slice none 0 0] 25)
  have s0 : w.heap.size + 1 ≤ (w.alloc (.cells #[.int .i64 0, .slice none 0 0, .slice none 0 0] 25)).heap.size := by simp
  go_enter Try.func11, Try.ntmps11
  go_wp2_with fail
  generalize w.alloc (.cells #[.int .i64 0, .slice none 0 0, .slice none 0 0] 25) = w0 at *
  have K0 := Lib.hid K0
  have B0 := Lib.hid B0
  go_wp2_with (first
    | (go_at_call 24; (with_reducible refine (CL.out _ B2.out).mono ?_); rintro e w3 ⟨AC, cC, rfl, hoC, hb⟩; have B3 := Lib.hid (B2.out.trans (hb.mono B2.out.size)); have K3 := Lib.hid (K2.out.below hb K2.out.lt); have L3 := Lib.hid (L2.out.below hb); have OC := Lib.hid hoC; have s3 := B2.out.size; obtain ⟨k0, k1, k2, k3, k4, k5, k6⟩ := K3.out.three6; clear hb hoC)
    | (go_at_call 23; (with_reducible refine (PC.out _ s1).mono ?_); rintro e w2 ⟨AN, cN, rfl, hlr, hb⟩; have B2 := Lib.hid (B1.out.trans (hb.mono (Nat.le_succ _))); have K2 := Lib.hid (K1.out.below hb (Nat.lt_succ_self _)); have L2 := Lib.hid hlr; have s2 := Nat.le_trans s1 hb.size; clear hb hlr)
    | (go_at_call 18; (with_reducible refine (IS.out _).mono ?_); rintro e w9 ⟨rfl, rfl⟩)
    | (go_at_call 20; (with_reducible refine (PO.out _ B0.out).mono ?_); rintro e w1 ⟨rfl, hb⟩; have B1 := Lib.hid (B0.out.trans (hb.mono B0.out.size)); have K1 := Lib.hid (K0.out.below hb K0.out.lt); have s1 := Nat.le_trans s0 hb.size; clear hb))
  have K4 := K3.out.all3 (.int .i64 3) (.slice AC 2 cC) (.slice AN 2 cN)
  have B4 := ((B3.out.setCell (Nat.le_refl _) (p := ⟨w.heap.size, 0, none⟩) (.int .i64 3)).setCell (Nat.le_refl _) (p := ⟨w.heap.size, 1, none⟩) (.slice AC 2 cC)).setCell (Nat.le_refl _) (p := ⟨w.heap.size, 2, none⟩) (.slice AN 2 cN)
  have L4 := ((L3.out.far (p := ⟨w.heap.size, 0, none⟩) (Nat.lt_succ_self _) (.int .i64 3)).far (p := ⟨w.heap.size, 1, none⟩) (Nat.lt_succ_self _) (.slice AC 2 cC)).far (p := ⟨w.heap.size, 2, none⟩) (Nat.lt_succ_self _) (.slice AN 2 cN)
  have hOC : (Value.slice AC 2 cC).ownBlock ≠ some w.heap.size := fun e => by have := (OC.out.lt _ e).1; omega
  have O4 := own_set (p := ⟨w.heap.size, 2, none⟩) (own_set (p := ⟨w.heap.size, 1, none⟩) (own_set (p := ⟨w.heap.size, 0, none⟩) OC.out hOC (.int .i64 3)) hOC (.slice AC 2 cC)) hOC (.slice AN 2 cN)
  generalize ((w3.setCell ⟨w.heap.size, 0, none⟩ (.int .i64 3)).setCell ⟨w.heap.size, 1, none⟩ (.slice AC 2 cC)).setCell ⟨w.heap.size, 2, none⟩ (.slice AN 2 cN) = w4 at K4 B4 L4 O4 ⊢
  obtain ⟨j0, j1, j2, j3⟩ := K4.three
  exact bodyPost_ret (v := .tuple #[.agg #[.int .i64 3, .slice AC 2 cC, .slice AN 2 cN], .int .i64 0]) (by simp [results, Try.results11, go_sem, j0, j1, j2]) rfl ⟨AC, cC, AN, cN, rfl, ⟨QReads.of_own O4, L4.nr⟩, B4⟩

set_option maxRecDepth 100000 in
set_option maxHeartbeats 4000000 in
theorem read_ex (AH : Option Addr) (cH : Nat) (w : World) (h : QReads w w.heap.size AH 2 line) :
    Calls Try.prog 10 #[.int .i64 2, .slice AH 2 cH, .int .i64 0] w fun e w' => TreeOut TP w e w' := by
  have PO := Lib.hid (fun w' (hb : Below w.heap.size w w') => possible_yes 2 AH 2 cH line w' (h.later hb) line_hd (by omega) (by omega))
  have CL := Lib.hid (fun w' (hb : Below w.heap.size w w') => clone_any AH 2 cH line w' (h.later hb) (by omega))
  have mk := fun w => show (Instr.makeSlice 26 (.int .i64 2) (.int .i64 2)).run Try.prog w = .ok (.slice (some ⟨w.heap.size, 0, none⟩) 2 2) (w.alloc (.cells (zs 2) 3)) from mk_zs (S := 2) (by omega) (by omega) w
  obtain ⟨i0, ji, jz0, jz1, jz2⟩ := info_parts Try.info_node
  clear h
  have K0 := Blk.new w 25 #[.int .i64 0, .slice none 0 0, .slice none 0 0]
  have B0 := (Below.refl w.heap.size w).alloc (Nat.le_refl _) (.cells #[.int .i64 0, .slice none 0 0, .slice none 0 0] 25)
  have s0 : w.heap.size + 1 ≤ (w.alloc (.cells #[.int .i64 0, .slice none 0 0, .slice none 0 0] 25)).heap.size := by simp
  go_enter Try.func10, Try.ntmps10
  go_wp2_with fail
  generalize w.alloc (.cells #[.int .i64 0, .slice none 0 0, .slice none 0 0] 25) = w0 at *
  have K0 := Lib.hid K0
  have B0 := Lib.hid B0
  go_upto_region 6 with (go_at_call 20; (with_reducible refine (PO.out _ B0.out).mono ?_); rintro e w1 ⟨rfl, hb⟩; have B1 := Lib.hid (B0.out.trans (hb.mono B0.out.size)); have K1 := Lib.hid (K0.out.below hb K0.out.lt); have s1 := Nat.le_trans s0 hb.size; clear hb)
  have KB := Blk.new w1 3 (zs 2)
  have KB : Blk (w1.alloc (.cells (zs 2) 3)) w1.heap.size 3 #[.int .i64 0, .int .i64 0] := KB
  have K2 := K1.out.alloc (.cells (zs 2) 3)
  have B2 := B1.out.alloc B1.out.size (.cells (zs 2) 3)
  have s2 : (w1.alloc (.cells (zs 2) 3)).heap.size = w1.heap.size + 1 := by simp
  generalize w1.alloc (.cells (zs 2) 3) = w2 at *
  generalize w1.heap.size = gb at KB s2 s1 ⊢
  have KB := Lib.hid KB
  have K2 := Lib.hid K2
  have B2 := Lib.hid B2
  clear B0 K0 B1 K1 mk PO
  have P0 := Lib.hid (passP0 (gb + 1) w2 (by omega))
  go_wp2_with fail
  refine wp_loop_rounds 3 ?_
  rw [rounds_succ]
  go_wp2_with (go_at_call 23; (with_reducible refine P0.out.mono ?_); rintro e w3 ⟨AN, cN, rfl, hlr, hb⟩; have B3 := Lib.hid (B2.out.trans (hb.mono (by omega))); have K3 := Lib.hid (K2.out.below hb (by omega)); have L3 := Lib.hid hlr; have KB3 := Lib.hid (KB.out.below hb (by omega)); have s3 := hb.size; obtain ⟨k0, k1, k2, k3, k4⟩ := KB3.out.two; clear hb hlr)
  have KB4 := Lib.hid (show Blk (w3.setCell ⟨gb, 0, none⟩ (.int .i64 0)) gb 3 #[.int .i64 0, .int .i64 0] from KB3.out.set_ 0 (.int .i64 0))
  have K4 := Lib.hid (K3.out.far (p := ⟨gb, 0, none⟩) (by simp only; omega) (.int .i64 0))
  have L4 := Lib.hid (L3.out.far (p := ⟨gb, 0, none⟩) (Nat.lt_succ_self _) (.int .i64 0))
  have B4 := Lib.hid (B3.out.setCell (p := ⟨gb, 0, none⟩) (by simp only; omega) (.int .i64 0))
  have s4 : w3.heap.size ≤ (w3.setCell ⟨gb, 0, none⟩ (.int .i64 0)).heap.size := by simp [World.setCell]
  clear KB3 K3 L3 B3 KB K2 B2 P0 k0 k1 k2 k3 k4
  generalize w3.setCell ⟨gb, 0, none⟩ (.int .i64 0) = w4 at *
  have P1 := Lib.hid (passP1 (gb + 1) AN cN w4 L4.out (by omega))
  rw [rounds_succ]
  go_wp2_with (go_at_call 23; (with_reducible refine P1.out.mono ?_); rintro e w5 ⟨A5, c5, rfl, hlr, hb⟩; have B5 := Lib.hid (B4.out.trans (hb.mono (by omega))); have K5 := Lib.hid (K4.out.below hb (by omega)); have L5 := Lib.hid hlr; have KB5 := Lib.hid (KB4.out.below hb (by omega)); have s5 := hb.size; obtain ⟨k0, k1, k2, k3, k4⟩ := KB5.out.two; clear hb hlr)
  have KB6 := Lib.hid (show Blk (w5.setCell ⟨gb, 1, none⟩ (.int .i64 1)) gb 3 #[.int .i64 0, .int .i64 1] from KB5.out.set_ 1 (.int .i64 1))
  have K6 := Lib.hid (K5.out.far (p := ⟨gb, 1, none⟩) (by simp only; omega) (.int .i64 1))
  have L6 := Lib.hid (L5.out.far (p := ⟨gb, 1, none⟩) (Nat.lt_succ_self _) (.int .i64 1))
  have B6 := Lib.hid (B5.out.setCell (p := ⟨gb, 1, none⟩) (by simp only; omega) (.int .i64 1))
  have s6 : w5.heap.size ≤ (w5.setCell ⟨gb, 1, none⟩ (.int .i64 1)).heap.size := by simp [World.setCell]
  clear KB5 K5 L5 B5 KB4 K4 L4 B4 P1 k0 k1 k2 k3 k4
  generalize w5.setCell ⟨gb, 1, none⟩ (.int .i64 1) = w6 at *
  obtain ⟨xs, ho, hi⟩ := L6.out
  have HO := Lib.hid ho
  have HI := Lib.hid hi
  have s6b : gb + 1 ≤ w6.heap.size := by omega
  have RB := Lib.hid (show Reads w6 w6.heap.size (some ⟨gb, 0, none⟩) 2 (il [0, 1]) from ⟨by simp [il], fun _ => ⟨_, rfl, KB6.out.lt, fun j u hj => by
    match j, hj with
    | 0, hj => simp [il] at hj; subst hj; exact KB6.out.two.1
    | 1, hj => simp [il] at hj; subst hj; exact KB6.out.two.2.1⟩⟩)
  clear ho hi
  rw [rounds_succ]
  have PL := Lib.hid (fun A c wx (h : LR wx (w.heap.size + 1) A 3 c TP.lv TP.nx) (hb : w.heap.size + 1 ≤ wx.heap.size) => passP2 (w.heap.size + 1) A c wx h hb)
  go_wp2_with (first
    | (go_at_call 24; (with_reducible refine (CL.out _ B8.out).mono ?_); rintro e w9 ⟨AC, cC, rfl, hoC, hb⟩; have B9 := Lib.hid (B8.out.trans (hb.mono B8.out.size)); have K9 := Lib.hid (K8.out.below hb K8.out.lt); have L9 := Lib.hid (L8.out.below hb); have OC := Lib.hid hoC; obtain ⟨k0, k1, k2, k3, k4, k5, k6⟩ := K9.out.three6; clear hb hoC)
    | (go_at_call 23; (with_reducible refine (PL.out _ _ _ L7.out s7).mono ?_); rintro e w8 ⟨A8, c8, rfl, hlr, hb⟩; have B8 := Lib.hid (B7.out.trans (hb.mono (Nat.le_succ _))); have K8 := Lib.hid (K7.out.below hb (Nat.lt_succ_self _)); have L8 := Lib.hid hlr; have s8 := hb.size; clear hb hlr)
    | (at_builtin; refine wpList_append2L rfl _ _ 23 rfl (gb + 1) 30 i0 (.agg #[.int .i64 0, .slice none 0 0]) 32 Try.underlying23 ji jz0 jz1 jz2 rfl A5 2 c5 xs rfl HO.out (.int .i64 2) (.slice (some ⟨gb, 0, none⟩) 2 2) rfl rfl rfl (by unfold maxLen; omega) (by omega) s6b ?_; intro g7 c7 w7 hown7 hbel7 hgr7 hat7; have B7 := Lib.hid (B6.out.trans (hbel7.mono (by omega))); have K7 := Lib.hid (K6.out.below hbel7 (by omega)); have s7 : w.heap.size + 1 ≤ w7.heap.size := (by have := hbel7.size; omega); have L7 := Lib.hid (show LR w7 (w.heap.size + 1) (some ⟨g7, 0, none⟩) 3 c7 TP.lv TP.nx from LR.push (X := [0, 1]) (B := some ⟨gb, 0, none⟩) (c2 := 2) (fun k hk => (by obtain ⟨A', c', a1, a2, a3, a4⟩ := HI.out k hk; exact ⟨A', c', a1, a2, a3, fun h0 ad e hG => a4 h0 ad e (hG.imp id (fun h => (by omega)))⟩)) (by have := HO.out.1; omega) (own_base HO.out (by omega)) RB.out (fun _ ad e => (by injection e with e; subst e; exact ⟨fun e2 => (by have := (HO.out.lt _ e2).1; simp only at this; omega), (by simp only; omega)⟩)) rfl rfl (own_base hown7 (by omega)) hgr7 hat7)))
  have K4 := K9.out.all3 (.int .i64 2) (.slice AC 2 cC) (.slice A8 3 c8)
  have B4 := ((B9.out.setCell (Nat.le_refl _) (p := ⟨w.heap.size, 0, none⟩) (.int .i64 2)).setCell (Nat.le_refl _) (p := ⟨w.heap.size, 1, none⟩) (.slice AC 2 cC)).setCell (Nat.le_refl _) (p := ⟨w.heap.size, 2, none⟩) (.slice A8 3 c8)
  have L4 := ((L9.out.far (p := ⟨w.heap.size, 0, none⟩) (Nat.lt_succ_self _) (.int .i64 2)).far (p := ⟨w.heap.size, 1, none⟩) (Nat.lt_succ_self _) (.slice AC 2 cC)).far (p := ⟨w.heap.size, 2, none⟩) (Nat.lt_succ_self _) (.slice A8 3 c8)
  have hOC : (Value.slice AC 2 cC).ownBlock ≠ some w.heap.size := fun e => by have := (OC.out.lt _ e).1; omega
  have O4 := own_set (p := ⟨w.heap.size, 2, none⟩) (own_set (p := ⟨w.heap.size, 1, none⟩) (own_set (p := ⟨w.heap.size, 0, none⟩) OC.out hOC (.int .i64 2)) hOC (.slice AC 2 cC)) hOC (.slice A8 3 c8)
  generalize ((w9.setCell ⟨w.heap.size, 0, none⟩ (.int .i64 2)).setCell ⟨w.heap.size, 1, none⟩ (.slice AC 2 cC)).setCell ⟨w.heap.size, 2, none⟩ (.slice A8 3 c8) = w4 at K4 B4 L4 O4 ⊢
  obtain ⟨j0, j1, j2, j3⟩ := K4.three
  exact bodyPost_ret (v := .tuple #[.agg #[.int .i64 2, .slice AC 2 cC, .slice A8 3 c8], .int .i64 0]) (by simp [results, Try.results10, go_sem, j0, j1, j2]) rfl ⟨AC, cC, A8, c8, rfl, ⟨QReads.of_own O4, L4.nr⟩, B4⟩
end Go.Proofs.Ytkdcciajihoimaa
