/- The walk of the reference's Read at the example: two states, three positions, the second read. -/
/- Two rows of the call's own, in different blocks; the numbers of the two parts. -/
/- slices.Clone of rows. -/
/- A region that draws its order, in the round of a range over a function: by the laws that serve outside of rounds. -/
import Derived.Test.YtcgkkppidkkjiaaGreatDoorMbh
import Derived.Test.YtcgkkppidkkjiaaGreatDoorMah
import Derived.Deep.RegionHeldLaw
import Derived.RangeFuncNested
import Derived.RangeFuncBound
import Derived.RangeFuncCalls
import Derived.RangeFuncLeaves
import Derived.OwnWalkIn
import Derived.TacticsInMore
import Derived.LoopNIn
import Derived.LoopIn
namespace Go.Proofs.YtcgkkppidkkjiaaGreatDoor
open Go.RowKit

def lvR (k : Nat) : Int := if k ≤ 1 then 1 else (k : Int)
def nxR (k : Nat) : List Int := if k = 0 then [0, 0] else if k = 1 then [1, 1] else if k = 2 then [0, 1] else [2, 2]
/-- the tree that reads the second of three positions -/
def TRd (f : Nat → P2) : Tr := ⟨2, 3, f, 4, lvR, nxR⟩
def numR (i : Nat) : List Int := (List.range i).map fun k : Nat => (k : Int)
theorem numR_succ (i : Nat) : il (numR i) ++ [.int .i64 (i : Int)] = il (numR (i + 1)) := by
  rw [← il_add, numR, numR, List.range_succ, List.map_append]
  rfl
set_option maxRecDepth 100000 in
set_option maxHeartbeats 8000000 in
theorem rread_ex (AH : Option Addr) (cH : Nat) (f : Nat → P2) (w : World) (h : QReads w w.heap.size AH 3 f) (hd : Hd f 3) :
    Calls Tryz.prog 13 #[.int .i64 2, .slice AH 3 cH, .int .i64 1] w fun e w' => ∃ AN cN, e = .returned (.tuple #[.agg #[.int .i64 2, .slice AH 3 cH, .slice AN 4 cN], .int .i64 0]) ∧ TS w' AH AN (TRd f) ∧ Below w.heap.size w w' := by
  obtain ⟨i0, hi, hz0, hz1, hz2⟩ := info_parts Tryz.info_node
  obtain ⟨ii, hii, hiz0, hiz1, hiz2⟩ := info_parts Tryz.info_int
  have RI := Lib.hid (fun w' (hb : Below w.heap.size w w') => rright_yes AH 3 cH f w' (h.later hb) hd)
  have HQ := Lib.hid (fun w' (hb : Below w.heap.size w w') => h.later hb)
  have RA := Lib.hid (fun l x w' => show Calls Tryz.prog 31 #[.int .i64 l, .int .i64 2, .int .i64 x] w' fun e w'' => ∃ A c, e = .returned (.agg #[.int .i64 l, .slice A 2 c]) ∧ w''.ownsRow w'.heap.size 3 1 (.slice A 2 c) 2 (il (List.replicate 2 x)) ∧ Below w'.heap.size w' w'' from rall_any l x 2 (by omega) w')
  clear h hd
  have K0 := Lib.hid (Blk.new w 32 #[.int .i64 0, .slice none 0 0, .slice none 0 0])
  have B0 := Lib.hid ((Below.refl w.heap.size w).alloc (Nat.le_refl _) (.cells #[.int .i64 0, .slice none 0 0, .slice none 0 0] 32))
  go_enter Tryz.func13, Tryz.ntmps13
  go_wp2_with fail
  generalize w.alloc (.cells #[.int .i64 0, .slice none 0 0, .slice none 0 0] 32) = w0 at *
  go_wp2_with (go_at_call 30; (with_reducible refine (RI.out _ B0.out).mono ?_); rintro e w1 ⟨rfl, hb⟩; have B1 := Lib.hid (B0.out.trans (hb.mono B0.out.size)); have K1 := Lib.hid (K0.out.below hb K0.out.lt); clear hb)
  obtain ⟨gT, hgT⟩ : ∃ gT, gT = w1.heap.size := ⟨_, rfl⟩
  have KT := Lib.hid ((Blk.new w1 32 #[.int .i64 2, .slice AH 3 cH, .slice none 0 0]).alloc (.cells #[.int .i64 2, .slice none 0 0] 66))
  have KN := Blk.new (w1.alloc (.cells #[.int .i64 2, .slice AH 3 cH, .slice none 0 0] 32)) 66 #[.int .i64 2, .slice none 0 0]
  have KR := Lib.hid ((K1.out.alloc (.cells #[.int .i64 2, .slice AH 3 cH, .slice none 0 0] 32)).alloc (.cells #[.int .i64 2, .slice none 0 0] 66))
  have B2 := Lib.hid ((B1.out.alloc B1.out.size (.cells #[.int .i64 2, .slice AH 3 cH, .slice none 0 0] 32)).alloc (by have := B1.out.size; simp; omega) (.cells #[.int .i64 2, .slice none 0 0] 66))
  have s2 : ((w1.alloc (.cells #[.int .i64 2, .slice AH 3 cH, .slice none 0 0] 32)).alloc (.cells #[.int .i64 2, .slice none 0 0] 66)).heap.size = gT + 2 := by rw [World.size_alloc, World.size_alloc, hgT]
  have hwT : w.heap.size < gT := by rw [hgT]; exact K1.out.lt
  rw [World.size_alloc, ← hgT] at KN
  have KN := Lib.hid KN
  generalize (w1.alloc (.cells #[.int .i64 2, .slice AH 3 cH, .slice none 0 0] 32)).alloc (.cells #[.int .i64 2, .slice none 0 0] 66) = w2 at KT KR KN B2 s2 ⊢
  rw [← hgT] at KT ⊢
  clear hgT B1 K1 B0 K0 RI
  have L0 := Lib.hid (LQ.nil w2 (gT + 2) lvR nxR)
  have O0 := Lib.hid (show w2.ownsRow (gT + 2) 3 1 (.slice none 0 0) 0 (il (numR 0)) from World.ownsRow_nil _ _ _ _)
  go_loopw [11] (fun sv wr => ∃ (s : Nat) (A : Option Addr) (c : Nat) (B : Option Addr) (d : Nat), s ≤ 2 ∧ sv = .int .i64 (s : Int) ∧ Hid (Blk wr gT 32 #[.int .i64 2, .slice AH 3 cH, .slice A s c]) ∧ Hid (Blk wr (gT + 1) 66 #[.int .i64 2, .slice B s d]) ∧ Hid (Blk wr w.heap.size 32 #[.int .i64 0, .slice none 0 0, .slice none 0 0]) ∧ Hid (LQ wr (gT + 2) A s c B s d lvR nxR) ∧ Hid (wr.ownsRow (gT + 2) 3 1 (.slice B s d) s (il (numR s))) ∧ Hid (Below w.heap.size w wr) ∧ gT + 2 ≤ wr.heap.size) (fun sv _ => 2 - (intOf sv).toNat)
  case atStart => exact ⟨0, none, 0, none, 0, by omega, rfl, KT, KN, KR, L0, O0, B2, by omega⟩
  case round =>
    obtain ⟨s, A, c, B, d, hs, rfl, HT, HN, HR, HL, HO, HB, hsz⟩ := hrel
    by_cases hlt : s < 2
    · have hsI : (s : Int) < 2 := by omega
      obtain ⟨t0, t1, t2, t3⟩ := HT.out.three
      have t2f := HT.out.frozen 2
      obtain ⟨xs, hown, hin⟩ := HL.out
      have hw1 : IntKind.i64.wrap ((s : Int) + 1 - 1) = (s : Int) := by rw [show (s : Int) + 1 - 1 = (s : Int) by omega]; exact IntWalk.i64_in _ (by omega)
      have hw2 : IntKind.i64.wrap ((s : Int) + 1) = (s : Int) + 1 := IntWalk.i64_in _ (by omega)
      go_wp2_with fail
      refine wp_loop_rounds 2 ?_
      rw [rounds_succ]
      go_wp2_with fail
      go_region_law (first
        | (refine step_append_lies _ (by rfl) _ _ _ (by rfl) (gT + 2) 66 i0 (.agg #[.int .i64 0, .slice none 0 0]) 2 32 Tryz.underlying30 hi hz0 hz1 hz2 rfl (by decide) (.slice A s c) s xs (by rfl) (ownA.alloc _) ⟨wa.heap.size, 0, none⟩ 1 1 [.int .i64 1, .slice A' 2 c'] (by rfl) (by rfl) (World.news_of_block (cs := #[.int .i64 1, .slice A' 2 c']) (t := 66) (fr := (0, 0)) (heap_alloc_new wa _)) (by simp [Value.oneCell']) (by omega) (by unfold maxLen; omega) (by omega) (by have := ha.size; simp; omega) (wa.heap.size + 1) (by simp) ?_; intro gg cap w3 hown3 hgrow hat hglt; have hke := (show Blk w3 gT _ _ from (hgrow.block gT (by have := ka.lt; simp; omega) (fun e => by have := (hown.lt gT e.symm).1; omega)).trans (ka.alloc _)); have q2 := hke.three.2.2.1; have q2f := hke.frozen 2)
        | (go_simp; go_at_call 31; (with_reducible refine (RA.out _ _ _).mono ?_); rintro e wa ⟨A', c', rfl, hoA, ha⟩; have ha := (show Below wr.heap.size wr wa from ⟨ha.os, ha.tape, ha.output, ha.size, ha.block⟩); have ownA := own_below2 hown ha; have ka := HT.out.below ha HT.out.lt; have d2 := ka.three.2.2.1; have d2f := ka.frozen 2; have dd2 := (ka.alloc (.cells #[.int .i64 1, .slice A' 2 c'] 66)).three.2.2.1))
      all_goals
        have hat' : (Value.slice A s c).ownBlock = some gg ∨ gg = wa.heap.size + 1 := hat
        have has := ha.size
        have hrr := hgrow.block w.heap.size (by have := HR.out.lt; simp; omega) (fun e => by have := (hown.lt _ e.symm).1; omega)
        have hR3 : Blk w3 w.heap.size 32 #[.int .i64 0, .slice none 0 0, .slice none 0 0] := hrr.trans ((HR.out.below ha HR.out.lt).alloc _)
        have hnn := hgrow.block (gT + 1) (by have := HN.out.lt; simp; omega) (fun e => by have := (hown.lt _ e.symm).1; omega)
        have hN3 : Blk w3 (gT + 1) 66 #[.int .i64 2, .slice B s d] := hnn.trans ((HN.out.below ha HN.out.lt).alloc _)
        have hOa := (own_below HO.out ha).alloc (.cells #[.int .i64 1, .slice A' 2 c'] 66)
        have hO3 : w3.ownsRow (gT + 2) 3 1 (.slice B s d) s (il (numR s)) := own_keep hOa (fun g hgl hgo => hgrow.block g hgl (fun e => own_ne2 hOa (ownA.alloc (.cells #[.int .i64 1, .slice A' 2 c'] 66)) (by decide) hgo e.symm))
        have e01 : s = 0 ∨ s = 1 := by omega
        have hln : (List.replicate 2 (s : Int)).length = 2 := rfl
        have hLQ : LQ w3 (gT + 2) (some ⟨gg, 0, none⟩) (s + 1) cap B s d lvR nxR := LQ.push (L := List.replicate 2 (s : Int)) (X := A') (c2 := c') (l := 1) (hin.below ha) (by have := hown.1; omega) (Reads.of_own hoA) (fun _ ad e => by
          subst e
          have hAd : wr.heap.size ≤ ad.block := own_ge hoA (by omega)
          exact ⟨fun hoo => by have := (hown.lt _ hoo).2; omega, by omega, fun hoo => by have := (HO.out.lt _ hoo).2; omega⟩) (by rcases e01 with rfl | rfl <;> rfl) (by rcases e01 with rfl | rfl <;> rfl) hown3 hgrow hat'
        have T4 := hke.set_ 2 (.slice (some ⟨gg, 0, none⟩) (s + 1) cap)
        have N4 := hN3.far (p := ⟨gT, 2, none⟩) (by show gT + 1 ≠ gT; omega) (.slice (some ⟨gg, 0, none⟩) (s + 1) cap)
        have R4 := hR3.far (p := ⟨gT, 2, none⟩) (by show w.heap.size ≠ gT; omega) (.slice (some ⟨gg, 0, none⟩) (s + 1) cap)
        have O4 := own_set (p := ⟨gT, 2, none⟩) hO3 (fun e => by have := (hO3.lt _ e).1; simp only at this; omega) (.slice (some ⟨gg, 0, none⟩) (s + 1) cap)
        have L4 := hLQ.far (p := ⟨gT, 2, none⟩) (by show gT < gT + 2; omega) (.slice (some ⟨gg, 0, none⟩) (s + 1) cap)
        have B4 := ((HB.out.trans (ha.mono (by omega))).trans (Below.grown ((Below.refl w.heap.size wa).alloc (by omega) _) hgrow (by simp; omega) (fun k hk => by have := (hown.lt k hk).1; omega))).setCell (p := ⟨gT, 2, none⟩) (by show w.heap.size ≤ gT; omega) (.slice (some ⟨gg, 0, none⟩) (s + 1) cap)
        have z4 : gT + 2 ≤ (w3.setCell ⟨gT, 2, none⟩ (.slice (some ⟨gg, 0, none⟩) (s + 1) cap)).heap.size := by
          have := hgrow.size
          simp only [World.size_alloc] at this
          rw [World.size_setCell]
          omega
        have T4 : Blk (w3.setCell ⟨gT, 2, none⟩ (.slice (some ⟨gg, 0, none⟩) (s + 1) cap)) gT 32 #[.int .i64 2, .slice AH 3 cH, .slice (some ⟨gg, 0, none⟩) (s + 1) cap] := T4
        clear hgrow hat hat' hglt hown3 hLQ hO3 hOa hN3 hR3 hrr hnn hke q2 q2f hoA ha ownA ka d2 d2f
        try clear dd2
        generalize w3.setCell ⟨gT, 2, none⟩ (.slice (some ⟨gg, 0, none⟩) (s + 1) cap) = w4 at *
        have T4 := Lib.hid T4
        have N4 := Lib.hid N4
        have R4 := Lib.hid R4
        have O4 := Lib.hid O4
        have L4 := Lib.hid L4
        have B4 := Lib.hid B4
        have hw3 : IntKind.i64.wrap (s : Int) = (s : Int) := IntWalk.i64_in _ (by omega)
        clear t0 t1 t2 t3 t2f
        obtain ⟨t0, t1, t2, t3⟩ := T4.out.three
        obtain ⟨n0, n1, n2, n3, n4⟩ := N4.out.two
        go_wp2
        rw [rounds_succ]
        go_wp2_with (at_builtin; refine wpList_append1L rfl _ _ 27 rfl (gT + 2) 3 ii (.int .i64 0) 8 Tryz.underlying27 hii hiz0 hiz1 hiz2 rfl B s d _ rfl O4.out (.int .i64 (s : Int)) rfl rfl (by unfold maxLen; omega) (by omega) z4 ?_; intro g6 c6 w6 hown6 hbel6 hgr6 hat6; have B6 := Lib.hid hbel6; have O6 := Lib.hid hown6; have L6 := Lib.hid (LQ.num (d' := c6) L4.out O4.out hgr6 hat6); have N6 := Lib.hid (N4.out.below hbel6 (by omega)); have T6 := Lib.hid (T4.out.below hbel6 (by omega)); have R6 := Lib.hid (R4.out.below hbel6 (by omega)); clear hown6 hbel6 hgr6 hat6 t0 t1 t2 t3 n0 n1 n2 n3 n4; obtain ⟨n0, n1, n2, n3, n4⟩ := N6.out.two)
        go_roundw
        case rel =>
          have hs6 := B6.out.size
          have o6 := O6.out
          rw [numR_succ] at o6
          refine ⟨s + 1, some ⟨gg, 0, none⟩, cap, some ⟨g6, 0, none⟩, c6, by omega, by go_num, Lib.hid (T6.out.far (by show gT ≠ gT + 1; omega) _), Lib.hid (N6.out.set_ 1 _), Lib.hid (R6.out.far (by show w.heap.size ≠ gT + 1; omega) _), Lib.hid (L6.out.far (by show gT + 1 < gT + 2; omega) _), Lib.hid (own_set o6 (fun e => by have := (o6.lt _ e).1; simp only at this; omega) _), Lib.hid (Below.set1 (B4.out.trans (B6.out.mono (by omega))) (by omega) _), ?_⟩
          rw [World.size_setCell]
          omega
        case measure => simp [intOf]; omega
    · obtain rfl : s = 2 := by omega
      obtain ⟨t0, t1, t2, t3⟩ := HT.out.three
      have t2f := HT.out.frozen 2
      obtain ⟨n0, n1, n2, n3, n4⟩ := HN.out.two
      obtain ⟨xs, hown, hin⟩ := HL.out.lr
      go_wp2_with (at_builtin; refine wpList_append2L rfl _ _ 30 rfl (gT + 2) 66 i0 (.agg #[.int .i64 0, .slice none 0 0]) 32 Tryz.underlying30 hi hz0 hz1 hz2 rfl A 2 c xs rfl hown (.int .i64 2) (.slice B 2 d) rfl rfl rfl (by unfold maxLen; omega) (by omega) hsz ?_; intro g3 c3 w3 hown3 hbel3 hgr3 hat3; have B3 := Lib.hid hbel3; have O3 := Lib.hid (And.intro hown3 (And.intro hgr3 hat3)); have T3 := Lib.hid (HT.out.below hbel3 (by omega)); have R3 := Lib.hid (HR.out.below hbel3 (by omega)); clear hown3 hbel3 hgr3 hat3 t0 t1 t2 t3 t2f n0 n1 n2 n3 n4; obtain ⟨t0, t1, t2, t3⟩ := T3.out.three; have t2f := T3.out.frozen 2)
      obtain ⟨hown3, hgr3, hat3⟩ := O3.out
      have hLR3 : LR w3 (gT + 2) (some ⟨g3, 0, none⟩) 3 c3 lvR nxR := LR.push (X := numR 2) (B := B) (c2 := d) (l := 2) hin (by have := hown.1; omega) hown (Reads.of_own HO.out) (fun _ ad e => by
        subst e
        exact ⟨fun hoo => own_ne2 hown HO.out (by decide) hoo rfl, own_ge HO.out (by omega)⟩) rfl rfl hown3 hgr3 hat3
      have hs3 := B3.out.size
      have T4 : Blk (w3.setCell ⟨gT, 2, none⟩ (.slice (some ⟨g3, 0, none⟩) 3 c3)) gT 32 #[.int .i64 2, .slice AH 3 cH, .slice (some ⟨g3, 0, none⟩) 3 c3] := T3.out.set_ 2 (.slice (some ⟨g3, 0, none⟩) 3 c3)
      have R4 := R3.out.far (p := ⟨gT, 2, none⟩) (by show w.heap.size ≠ gT; omega) (.slice (some ⟨g3, 0, none⟩) 3 c3)
      have L4 := hLR3.far (p := ⟨gT, 2, none⟩) (by show gT < gT + 2; omega) (.slice (some ⟨g3, 0, none⟩) 3 c3)
      have B4 := Below.set1 (i := 2) (HB.out.trans (B3.out.mono (by omega))) (show w.heap.size ≤ gT by omega) (.slice (some ⟨g3, 0, none⟩) 3 c3)
      have z4 : gT + 2 ≤ (w3.setCell ⟨gT, 2, none⟩ (.slice (some ⟨g3, 0, none⟩) 3 c3)).heap.size := by
        rw [World.size_setCell]
        omega
      clear hLR3 hgr3 hat3 hown3 t0 t1 t2 t3 t2f T3 R3 O3 hin hown HL HO HT HN HR
      generalize w3.setCell ⟨gT, 2, none⟩ (.slice (some ⟨g3, 0, none⟩) 3 c3) = w4 at *
      have T4 := Lib.hid T4
      have R4 := Lib.hid R4
      have B4 := Lib.hid B4
      obtain ⟨t0, t1, t2, t3⟩ := T4.out.three
      have t2f := T4.out.frozen 2
      obtain ⟨xs, hown, hin⟩ := L4
      refine wp_loop_rounds 2 ?_
      rw [rounds_succ]
      go_wp2_with fail
      go_region_law (first
        | (refine step_append_lies _ (by rfl) _ _ _ (by rfl) (gT + 2) 66 i0 (.agg #[.int .i64 0, .slice none 0 0]) 2 32 Tryz.underlying30 hi hz0 hz1 hz2 rfl (by decide) (.slice (some ⟨g3, 0, none⟩) 3 c3) 3 xs (by rfl) (ownA.alloc _) ⟨wa.heap.size, 0, none⟩ 1 1 [.int .i64 3, .slice A' 2 c'] (by rfl) (by rfl) (World.news_of_block (cs := #[.int .i64 3, .slice A' 2 c']) (t := 66) (fr := (0, 0)) (heap_alloc_new wa _)) (by simp [Value.oneCell']) (by omega) (by unfold maxLen; omega) (by omega) (by have := ha.size; simp; omega) (wa.heap.size + 1) (by simp) ?_; intro gg cap w5 hown5 hgrow hat hglt; have hke := (show Blk w5 gT _ _ from (hgrow.block gT (by have := ka.lt; simp; omega) (fun e => by have := (hown.lt gT e.symm).1; omega)).trans (ka.alloc _)); have q2 := hke.three.2.2.1; have q2f := hke.frozen 2)
        | (go_simp; go_at_call 31; (with_reducible refine (RA.out _ _ _).mono ?_); rintro e wa ⟨A', c', rfl, hoA, ha⟩; have ha := (show Below w4.heap.size w4 wa from ⟨ha.os, ha.tape, ha.output, ha.size, ha.block⟩); have ownA := own_below2 hown ha; have ka := T4.out.below ha T4.out.lt; have d2 := ka.three.2.2.1; have d2f := ka.frozen 2; have dd2 := (ka.alloc (.cells #[.int .i64 3, .slice A' 2 c'] 66)).three.2.2.1))
      all_goals
        have hat' : (Value.slice (some ⟨g3, 0, none⟩) 3 c3).ownBlock = some gg ∨ gg = wa.heap.size + 1 := hat
        have has := ha.size
        have hrr := hgrow.block w.heap.size (by have := R4.out.lt; simp; omega) (fun e => by have := (hown.lt _ e.symm).1; omega)
        have hR5 : Blk w5 w.heap.size 32 #[.int .i64 0, .slice none 0 0, .slice none 0 0] := hrr.trans ((R4.out.below ha R4.out.lt).alloc _)
        have hLR : LR w5 (gT + 2) (some ⟨gg, 0, none⟩) 4 cap lvR nxR := LR.push (X := List.replicate 2 (2 : Int)) (B := A') (c2 := c') (l := 3) (hin.below ha) (by have := hown.1; omega) ownA (Reads.of_own hoA) (fun _ ad e => by
          subst e
          have hAd : w4.heap.size ≤ ad.block := own_ge hoA (by omega)
          exact ⟨fun hoo => by have := (hown.lt _ hoo).2; omega, by omega⟩) rfl rfl hown5 hgrow hat'
        have T6 : Blk (w5.setCell ⟨gT, 2, none⟩ (.slice (some ⟨gg, 0, none⟩) 4 cap)) gT 32 #[.int .i64 2, .slice AH 3 cH, .slice (some ⟨gg, 0, none⟩) 4 cap] := hke.set_ 2 (.slice (some ⟨gg, 0, none⟩) 4 cap)
        have R6 := Lib.hid (hR5.far (p := ⟨gT, 2, none⟩) (by show w.heap.size ≠ gT; omega) (.slice (some ⟨gg, 0, none⟩) 4 cap))
        have L6 := Lib.hid (hLR.far (p := ⟨gT, 2, none⟩) (by show gT < gT + 2; omega) (.slice (some ⟨gg, 0, none⟩) 4 cap))
        have B6 := Lib.hid (((B4.out.trans (ha.mono (by omega))).trans (Below.grown ((Below.refl w.heap.size wa).alloc (by omega) _) hgrow (by simp; omega) (fun k hk => by have := (hown.lt k hk).1; omega))).setCell (p := ⟨gT, 2, none⟩) (by show w.heap.size ≤ gT; omega) (.slice (some ⟨gg, 0, none⟩) 4 cap))
        clear hgrow hat hat' hglt hown5 hLR hR5 hrr hke q2 q2f hoA ha ownA ka d2 d2f t0 t1 t2 t3 t2f hin hown
        try clear dd2
        generalize w5.setCell ⟨gT, 2, none⟩ (.slice (some ⟨gg, 0, none⟩) 4 cap) = w6 at *
        obtain ⟨t0, t1, t2, t3⟩ := T6.three
        obtain ⟨r0, r1, r2, r3, r4, r5, r6⟩ := R6.out.three6
        go_wp2
        rw [rounds_succ]
        go_wp2
        have KZ : Blk (((w6.setCell ⟨w.heap.size, 0, none⟩ (.int .i64 2)).setCell ⟨w.heap.size, 1, none⟩ (.slice AH 3 cH)).setCell ⟨w.heap.size, 2, none⟩ (.slice (some ⟨gg, 0, none⟩) 4 cap)) w.heap.size 32 #[.int .i64 2, .slice AH 3 cH, .slice (some ⟨gg, 0, none⟩) 4 cap] := by simpa using ((R6.out.set_ 0 (.int .i64 2)).set_ 1 (.slice AH 3 cH)).set_ 2 (.slice (some ⟨gg, 0, none⟩) 4 cap)
        obtain ⟨y0, y1, y2, y3⟩ := KZ.three
        have BZ := below_set3 B6.out (Nat.le_refl _) (.int .i64 2) (.slice AH 3 cH) (.slice (some ⟨gg, 0, none⟩) 4 cap)
        have LZ := ((L6.out.far (p := ⟨w.heap.size, 0, none⟩) (by show w.heap.size < gT + 2; omega) (.int .i64 2)).far (p := ⟨w.heap.size, 1, none⟩) (by show w.heap.size < gT + 2; omega) (.slice AH 3 cH)).far (p := ⟨w.heap.size, 2, none⟩) (by show w.heap.size < gT + 2; omega) (.slice (some ⟨gg, 0, none⟩) 4 cap)
        exact bodyPost_ret (v := .tuple #[.agg #[.int .i64 2, .slice AH 3 cH, .slice (some ⟨gg, 0, none⟩) 4 cap], .int .i64 0]) (by simp [results, Tryz.results13, go_sem, y0, y1, y2]) rfl ⟨some ⟨gg, 0, none⟩, cap, rfl, ⟨HQ.out _ BZ, LZ.nr⟩, BZ⟩
end Go.Proofs.YtcgkkppidkkjiaaGreatDoor
namespace Go.Proofs.YtcgkkppidkkjiaaGreatDoor
open Go.RowKit

/-- two rows of the call's own, in different blocks -/
def Two (w : World) (base : Nat) (e : TypeId) (v1 : Value) (n1 : Nat) (x1 : List Value) (v2 : Value) (n2 : Nat) (x2 : List Value) : Prop :=
  w.ownsRow base e 1 v1 n1 x1 ∧ w.ownsRow base e 1 v2 n2 x2 ∧ ∀ k, v1.ownBlock = some k → v2.ownBlock ≠ some k
section
variable {w w' : World} {base : Nat} {e : TypeId} {v1 v2 : Value} {n1 n2 : Nat} {x1 x2 : List Value}
theorem Two.swap (h : Two w base e v1 n1 x1 v2 n2 x2) : Two w base e v2 n2 x2 v1 n1 x1 := ⟨h.2.1, h.1, fun k h2 h1 => h.2.2 k h1 h2⟩
theorem Two.left {o : Obj} {g n c : Nat} {x : List Value} (h : Two w base e v1 n1 x1 v2 n2 x2) (ho : w'.ownsRow base e 1 (.slice (some ⟨g, 0, none⟩) n c) n x) (hg : (w.alloc o).grownBy w' v1.ownBlock) (ha : v1.ownBlock = some g ∨ g = w.heap.size + 1) :
    Two w' base e (.slice (some ⟨g, 0, none⟩) n c) n x v2 n2 x2 := by
  refine ⟨ho, (h.2.1.alloc o).kept hg ?_, fun k hk => ?_⟩
  · cases hv : v2.ownBlock with
    | none => exact .inl rfl
    | some k => exact .inr fun e1 => h.2.2 k e1.symm hv
  · have hk : g = k := by simpa [Value.ownBlock] using hk
    subst hk
    intro h2
    rcases ha with ha | ha
    · exact h.2.2 _ ha h2
    · have := (h.2.1.lt _ h2).2
      omega
theorem Two.far {g i : Nat} (h : Two w base e v1 n1 x1 v2 n2 x2) (hg : g < base) (u : Value) : Two (w.setCell ⟨g, i, none⟩ u) base e v1 n1 x1 v2 n2 x2 := ⟨own_set h.1 (fun e => by have := (h.1.lt _ e).1; simp only at this; omega) u, own_set h.2.1 (fun e => by have := (h.2.1.lt _ e).1; simp only at this; omega) u, h.2.2⟩
theorem Two.alloc (h : Two w base e v1 n1 x1 v2 n2 x2) (o : Obj) : Two (w.alloc o) base e v1 n1 x1 v2 n2 x2 := ⟨h.1.alloc o, h.2.1.alloc o, h.2.2⟩
end

/-- behind the draw and a store below the base -/
theorem Two.below {w w' : World} {base : Nat} {e : TypeId} {v1 v2 : Value} {n1 n2 : Nat} {x1 x2 : List Value} (h : Two w base e v1 n1 x1 v2 n2 x2) (hb : Below w.heap.size w w') : Two w' base e v1 n1 x1 v2 n2 x2 :=
  ⟨own_keep h.1 (fun g hg _ => hb.block g hg), own_keep h.2.1 (fun g hg _ => hb.block g hg), h.2.2⟩
/-- the numbers below j of a part -/
def fp (p j : Nat) : List Int := ((List.range j).filter fun k => k / 2 % 2 == p).map fun k : Nat => (k : Int)
theorem fp_yes {p j : Nat} (h : j / 2 % 2 = p) : fp p (j + 1) = fp p j ++ [(j : Int)] := by simp [fp, List.range_succ, List.filter_append, h]
theorem fp_no {p j : Nat} (h : j / 2 % 2 ≠ p) : fp p (j + 1) = fp p j := by simp [fp, List.range_succ, List.filter_append, h]
theorem fp_le (p : Nat) : ∀ j, j ≤ 8 → (fp p j).length ≤ 8 := fun j hj => by
  have := List.length_filter_le (fun k => k / 2 % 2 == p) (List.range j)
  simp only [List.length_range] at this
  simp only [fp, List.length_map]
  omega
theorem fp_zero : fp 0 8 = [0, 1, 4, 5] := by decide
theorem fp_one : fp 1 8 = [2, 3, 6, 7] := by decide
theorem numR_at : ∀ j, j < 8 → ig ((List.range 8).map fun k : Nat => (k : Int)) j = (j : Int) := by decide
end Go.Proofs.YtcgkkppidkkjiaaGreatDoor
namespace Go.Proofs.YtcgkkppidkkjiaaGreatDoor
open Go.RowKit

theorem Tryz.info_rowT : (Tryz.prog.info? 41).map (fun i => (i.zero, i.size, i.bytes)) = some (some (.agg #[.slice none 0 0, .int .i64 0]), 2, 32) := by kernel_rfl
set_option maxRecDepth 100000 in
set_option maxHeartbeats 1000000 in
theorem rclone_any (ad : Addr) (n c : Nat) (xs : List Value) (w : World) (hx : ∀ (j : Nat) (u : Value), xs[j]? = some u → w.cell? (ad.add j) = some u) (hlt : ad.block < w.heap.size) (L : xs.length = n * 2) (O : ∀ u ∈ xs, u.oneCell' = true) (h0 : 0 < n) (hn : n ≤ 5000) :
    Calls Tryz.prog 50 #[.slice (some ad) n c] w fun e w' => ∃ g' c', e = .returned (.slice (some ⟨g', 0, none⟩) n c') ∧ w'.ownsRow w.heap.size 41 2 (.slice (some ⟨g', 0, none⟩) n c') n xs ∧ Below w.heap.size w w' := by
  obtain ⟨i0, hi, hz0, hz1, hz2⟩ := info_parts Tryz.info_rowT
  have HN := Lib.hid (show ∀ (j : Nat) (u : Value), xs[j]? = some u → (w.alloc (.cells #[] 41)).cell? (ad.add j) = some u from fun j u hj => (World.cell?_alloc_lt w _ _ (by rw [block_of_add]; exact hlt)).trans (hx j u hj))
  have B1 := Lib.hid ((Below.refl w.heap.size w).alloc (Nat.le_refl _) (.cells #[] 41))
  have HO := Lib.hid (World.ownsRow_made (base := w.heap.size) (e := 41) (size := 2) w #[] 0 (Nat.le_refl _) (by unfold maxLen; omega) (by rfl))
  have s1 := B1.out.size
  clear hx hlt
  have q22 : ∀ (w : World) (a : Option Addr) (n c n' c' : Nat), (binOp .eql 24 (.slice a n c) (.slice none n' c')).run Tryz.prog w = .ok (.bool a.isNone) w := fun w a n c n' c' => Lib.run_eql_slice_nil w _ _ a n c n' c' Tryz.underlying24
  go_enter Tryz.func50, Tryz.ntmps50
  go_wp2_with (at_builtin; refine wpList_append_own _ rfl _ _ 24 rfl w.heap.size 41 i0 (.agg #[.slice none 0 0, .int .i64 0]) 2 32 Tryz.underlying24 hi hz0 hz1 hz2 rfl (by decide) _ 0 [] rfl HO.out ad n c xs rfl L HN.out O (by unfold maxLen; omega) (by omega) s1 ?_; intro v' w2 hown2 hg2 hiff; have B2 := Lib.hid (B1.out.grown hg2 s1 (fun k hk => (HO.out.lt k hk).1)); have HO2 := Lib.hid hown2; clear hown2 hg2 hiff)
  have h := HO2.out
  rw [Nat.zero_add, List.nil_append] at h
  obtain ⟨g, cap, rfl, _, _⟩ := h.form h0
  go_ret
  exact ⟨g, cap, rfl, h, B2.out⟩
end Go.Proofs.YtcgkkppidkkjiaaGreatDoor
namespace Go.Proofs.YtcgkkppidkkjiaaGreatDoor
open Go.RowKit

theorem stepsIn_wideR {P : Program} {l : Nat} {m m' : Machine} : StepsIn (Machine.fenced P (Fence.wide.inRound l)) P m m' ↔ Steps P m m' := by
  rw [fenced_inRound]; exact stepsIn_wide
/-- one operation -/
theorem wpIn_of_op {P : Program} {o : Oper} {l n : Nat} {a : Act} {w : World} {next next' : Act → World → Prop} {Q : Exit → Act → World → Prop} (hnd : ∀ c : Call, o.op ≠ Op.defer c) (h : o.wp P a w next Q) (hk : ∀ a w, next a w → next' a w) : o.wpIn (Fence.wide.inRound l) n P a w next' Q := by
  refine ⟨fun _ _ => trivial, ?_⟩
  rw [Fence.inRound_round, Oper.semAt_some l _ _ hnd]
  unfold Oper.wp at h
  generalize (execOp a.eval o).run P w = r at h ⊢
  match r, h with
  | .ok (.value v) w', h => exact hk _ _ h
  | .ok .skip w', h => exact hk _ _ h
  | .ok (.defer d) w', h => exact hk _ _ h
  | .ok (.enter f args) w', h =>
    refine ⟨fun h0 => by simp [Fence.wide] at h0, CallsIn.inRound l ?_⟩
    refine callsIn_wide.2 (h.mono ?_)
    intro e w'' he
    cases e with
    | returned v => exact hk _ _ he
    | panicked c => exact he
    | outgrown => exact he
  | .ok (.row row args) w', h =>
    refine ⟨fun h0 => by simp [Fence.wide] at h0, fun c cs _ => ?_⟩
    obtain ⟨v, w'', h1, h2⟩ := h c cs
    exact ⟨v, w'', hk _ _ h1, stepsIn_wideR.2 h2⟩
  | .halt (.panic v) w', h => exact h
/-- the operations in one order -/
theorem wpOpsIn_of {P : Program} {ops : Array Oper} {Q : Exit → Act → World → Prop} {l n : Nat} (hL : ∀ a w, ¬ Q .outgrown a w) (hnd : ∀ (i : Nat) (o : Oper), ops[i]? = some o → ∀ c : Call, o.op ≠ Op.defer c) : ∀ (s : List Nat) (a : Act) (w : World), wpOps P ops Q s a w → wpOpsIn (Fence.wide.inRound l) n P ops Q s a w
  | [], _, _, h => h
  | i :: rest, a, w, h => by
    unfold wpOps at h
    unfold wpOpsIn
    cases ho : ops[i]? with
    | none =>
      simp only [ho] at h ⊢
      exact wpOpsIn_of hL hnd rest a w h
    | some o =>
      simp only [ho] at h ⊢
      by_cases hw : Region.wanted o (yielded ops a.tmps) = true
      · simp only [hw, if_true] at h ⊢
        rcases h with h | ⟨_, a0, w0, h0⟩
        · exact wpIn_of_op (hnd i o ho) h (fun a' w' h' => wpOpsIn_of hL hnd rest a' w' h')
        · exact absurd h0 (hL _ _)
      · simp only [hw, if_false, Bool.false_eq_true] at h ⊢
        exact ⟨fun _ _ => trivial, wpOpsIn_of hL hnd rest _ w h⟩
/-- the region -/
theorem wpIn_region_round {P : Program} {id : Nat} {ops : Array Oper} {Q : Exit → Act → World → Prop} {l n : Nat} {a : Act} {w : World} (S : World → Prop) (hm : P.follows .mixedOrders = true) (hL : ∀ a w, ¬ Q .outgrown a w) (hnd : ops.all (fun (o : Oper) => match o.op with | Op.defer _ => false | _ => true) = true)
    (hS : S w.drew) (h : S w.drew → wpAnyH P .any ops Q S ops.size (Array.replicate ops.size false) a w.drew) : (Code.region id ops true).wpIn (Fence.wide.inRound l) n P Q a w := by
  refine wpIn_region_draw fun t => ?_
  simp only [Region.schedule, hm, Bool.true_or, if_true]
  refine wpOpsIn_of hL (fun i o hi c hc => ?_) _ _ _ (wpAny_sound ops.size t _ a _ (wpAny_of_held _ _ _ _ (h hS)))
  have hmem : o ∈ ops := Array.mem_of_getElem? hi
  have := Array.all_eq_true_iff_forall_mem.1 hnd o hmem
  rw [hc] at this
  cases this
end Go.Proofs.YtcgkkppidkkjiaaGreatDoor
