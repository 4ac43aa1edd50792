/- The walks of slices.Equal and hood.Same on any two lists. -/
/- The walks of alike and Equal at trees of one neighbourhood. -/
/- Planting a tree in any forest; two planted trees have one root just if they mean the same. -/
import Derived.Test.YtjekpmkghpjamaaGreatDoorMab
import Derived.Test.YtjekpmkghpjamaaGreatDoorMaa
import Derived.Below
import Derived.BigQuiet
import Derived.Deep.AppendLies
import Derived.Deep.Draws
import Derived.Deep.QuietTactic
import Derived.IntWalk
import Derived.Laws.OwnMore
import Derived.Laws.Rows
import Derived.Lib.Hide
import Derived.LoopN
import Derived.OwnWalk
import Derived.StillTail
import Derived.StillTailTactics
import Derived.Test.YtjekpmkghpjamaaGreatDoorRows
import Derived.WalkKit
import Derived.Test.YtjekpmkghpjamaaGreatDoorMak
import Derived.Test.YtjekpmkghpjamaaGreatDoorMaj
import Derived.Test.YtjekpmkghpjamaaGreatDoorMal
import Derived.Test.YtjekpmkghpjamaaGreatDoorMae
import Derived.Test.YtjekpmkghpjamaaGreatDoorMad
import Derived.Test.YtjekpmkghpjamaaGreatDoorMar
import Derived.Test.YtjekpmkghpjamaaGreatDoorMac
import Derived.Test.YtjekpmkghpjamaaGreatDoorMat
import Derived.Test.YtjekpmkghpjamaaGreatDoorMag
import Derived.Test.YtjekpmkghpjamaaGreatDoorMah
import Derived.Carry
import Derived.Deep.CutRange
import Derived.Deep.RegionHeldLaw
import Derived.Deep.RegionLaw
import Derived.DeepKeys4
import Derived.Laws.BitsLemmas
import Derived.Laws.MakeOwn
import Derived.Lib.SliceRun
import Derived.Maps.OwnOps
import Derived.Shelf.Abstract
import Derived.Sort.Statements
import Derived.Test.YtjekpmkghpjamaaGreatDoorMap
namespace Go.Proofs.YtjekpmkghpjamaaGreatDoor
open Go.RowKit
/-- whether two lists have the same positions in the same order -/
def sm (f : Nat → P2) (n : Nat) (g : Nat → P2) (m : Nat) : Bool := decide (n = m) && (List.range n).all fun i => decide (f i = g i)
theorem sm_iff (f : Nat → P2) (n : Nat) (g : Nat → P2) (m : Nat) : sm f n g m = true ↔ (n = m ∧ ∀ i, i < n → f i = g i) := by
  simp [sm, Bool.and_eq_true, List.all_eq_true]
set_option maxRecDepth 100000 in
set_option maxHeartbeats 1000000 in
theorem equal_any (A A' : Option Addr) (n m c c' : Nat) (f g : Nat → P2) (w : World) (h : QReads w w.heap.size A n f) (h' : QReads w w.heap.size A' m g) (hn : n ≤ 1000000) (hm : m ≤ 1000000) :
    Calls Tryz.prog 162 #[.slice A n c, .slice A' m c'] w fun e w' => e = .returned (.bool (sm f n g m)) ∧ Below w.heap.size w w' := by
  by_cases hnm : n = m
  · subst hnm
    have H := Lib.hid h
    have H' := Lib.hid h'
    clear h h'
    go_enter Tryz.func162, Tryz.ntmps162
    go_wp2
    go_loopw [13] (fun iv wr => ∃ j : Nat, j ≤ n ∧ iv = .int .i64 (j : Int) ∧ (∀ i, i < j → f i = g i) ∧ Below w.heap.size w wr) (fun iv _ => n - (intOf iv).toNat)
    case atStart => exact ⟨0, Nat.zero_le _, rfl, fun i hi => absurd hi (by omega), Below.refl _ _⟩
    case round =>
      obtain ⟨j, hj, rfl, hE, hbel⟩ := hrel
      have R := H.out.below hbel
      have R' := H'.out.below hbel
      have HB := Lib.hid hbel
      have HE := Lib.hid hE
      clear hbel hE
      by_cases hk : j < n
      · obtain ⟨g1, o1, rfl, hb1, hc1⟩ := R (by omega)
        obtain ⟨g2, o2, rfl, hb2, hc2⟩ := R' (by omega)
        obtain ⟨c10, c11⟩ := hc1 j (by omega)
        obtain ⟨c20, c21⟩ := hc2 j (by omega)
        clear hc1 hc2 R R'
        by_cases heq : f j = g j
        · have HQ := Lib.hid heq
          rw [← heq] at c20 c21
          clear heq
          generalize f j = x at c10 c11 c20 c21
          obtain ⟨x1, x2⟩ := x
          simp only at c10 c11 c20 c21
          go_wp2_with fail
          go_quiet (fail)
          go_wp2
          go_roundw
          case rel => exact ⟨j + 1, by omega, by go_num, fun i hi => by
            by_cases e : i < j
            · exact HE.out i e
            · obtain rfl : i = j := by omega
              exact HQ.out, below_drewN HB.out _⟩
          case measure => simp [intOf]; omega
        · have HF := Lib.hid (show sm f n g n = false by rw [← Bool.not_eq_true, sm_iff]; exact fun h => heq (h.2 j hk))
          obtain ⟨⟨x1, x2⟩, hx⟩ : ∃ x, x = f j := ⟨_, rfl⟩
          obtain ⟨⟨y1, y2⟩, hy⟩ : ∃ y, y = g j := ⟨_, rfl⟩
          rw [← hx] at c10 c11 heq
          rw [← hy] at c20 c21 heq
          clear hx hy
          simp only at c10 c11 c20 c21
          by_cases e1 : x1 = y1
          · subst e1
            have e2 : (x2 == y2) = false := by rw [beq_eq_false_iff_ne]; intro e; exact heq (by rw [e])
            clear heq
            go_wp2_with fail
            go_quiet (fail)
            go_wp2
            go_ret
            exact ⟨ret_bool HF.out.symm, below_drewN HB.out _⟩
          · have e1 : (x1 == y1) = false := by rw [beq_eq_false_iff_ne]; exact e1
            clear heq
            go_wp2_with fail
            go_quiet (fail)
            go_wp2
            go_ret
            exact ⟨ret_bool HF.out.symm, below_drewN HB.out _⟩
      · obtain rfl : j = n := by omega
        have HF := Lib.hid (show sm f j g j = true by rw [sm_iff]; exact ⟨rfl, HE.out⟩)
        clear hk R R'
        go_wp2
        go_ret
        exact ⟨ret_bool HF.out.symm, HB.out⟩
  · have HF := Lib.hid (show sm f n g m = false by rw [← Bool.not_eq_true, sm_iff]; exact fun h => hnm h.1)
    have e1 : ((n : Int) != (m : Int)) = true := by rw [bne_iff_ne]; omega
    clear h h'
    go_enter Tryz.func162, Tryz.ntmps162
    go_wp2
    go_ret
    exact ⟨ret_bool HF.out.symm, Below.refl _ _⟩
theorem hsame_any (A A' : Option Addr) (n m c c' : Nat) (f g : Nat → P2) (w : World) (h : QReads w w.heap.size A n f) (h' : QReads w w.heap.size A' m g) (hn : n ≤ 1000000) (hm : m ≤ 1000000) :
    Calls Tryz.prog 107 #[.slice A n c, .slice A' m c'] w fun e w' => e = .returned (.bool (sm f n g m)) ∧ Below w.heap.size w w' := by
  have C := Lib.hid (equal_any A A' n m c c' f g w h h' hn hm)
  clear h h'
  go_enter Tryz.func107, Tryz.ntmps107
  go_wp2_with (go_at_call 162; (with_reducible refine C.out.mono ?_); rintro e w' ⟨rfl, hb⟩; have HB := Lib.hid hb; clear hb)
  go_ret
  exact ⟨rfl, HB.out⟩
end Go.Proofs.YtjekpmkghpjamaaGreatDoor
namespace Go.Proofs.YtjekpmkghpjamaaGreatDoor
open Go.RowKit
set_option maxRecDepth 100000 in
set_option maxHeartbeats 8000000 in
theorem alike_yes {T U : Tr} {sn : Nat} {AH AN AH' AN' : Option Addr} {cH cN cH' cN' : Nat} {w : World} (h : TS w AH AN T) (h' : TS w AH' AN' U) (hn : T.n ≤ 1000000) (hm : U.n ≤ 1000000) (hs : sm T.f T.n U.f U.n = true) :
    Calls Tryz.prog 58 #[.agg #[.int .i64 (sn : Int), .slice AH T.n cH, .slice AN T.m cN], .agg #[.int .i64 (sn : Int), .slice AH' U.n cH', .slice AN' U.m cN']] w fun e w' => e = .returned (.bool true) ∧ Below w.heap.size w w' := by
  have HS := Lib.hid (fun w' (hb : Below w.heap.size w w') => hs ▸ hsame_any AH AH' T.n U.n cH cH' T.f U.f w' (h.1.later hb) (h'.1.later hb) hn hm)
  clear h h' hs hn hm
  go_enter Tryz.func58, Tryz.ntmps58
  have Z1 := Lib.hid ((Below.refl w.heap.size w).alloc (Nat.le_refl _) (.cells #[.int .i64 (sn : Int), .slice AH T.n cH, .slice AN T.m cN] 25))
  have Z2 := Lib.hid (Z1.out.alloc Z1.out.size (.cells #[.int .i64 (sn : Int), .slice AH' U.n cH', .slice AN' U.m cN'] 25))
  have KT := Lib.hid ((Blk.new w 25 #[.int .i64 (sn : Int), .slice AH T.n cH, .slice AN T.m cN]).alloc (.cells #[.int .i64 (sn : Int), .slice AH' U.n cH', .slice AN' U.m cN'] 25))
  have KR := Blk.new (w.alloc (.cells #[.int .i64 (sn : Int), .slice AH T.n cH, .slice AN T.m cN] 25)) 25 #[.int .i64 (sn : Int), .slice AH' U.n cH', .slice AN' U.m cN']
  simp only [World.size_alloc] at KR
  have KR := Lib.hid KR
  obtain ⟨t0, t1, t2, t3⟩ := KT.out.three
  obtain ⟨r0, r1, r2, r3⟩ := KR.out.three
  go_wp2_with (go_at_call 107; (with_reducible refine (HS.out _ Z2.out).mono ?_); rintro e w1 ⟨rfl, hb⟩; have B1 := Lib.hid (Z2.out.trans (hb.mono Z2.out.size)); clear hb)
  all_goals
    go_ret
    exact ⟨rfl, B1.out⟩

set_option maxRecDepth 100000 in
set_option maxHeartbeats 16000000 in
/-- Equal, at two trees with the same number of states and the same offsets -/
theorem teq_any {T U : Tr} {sn : Nat} {AH AN AH' AN' : Option Addr} {cH cN cH' cN' : Nat} {w : World} {nums nums' : List Int} {L L' : List Ndv} (hst : T.st = (sn : Int)) (hsu : U.st = (sn : Int)) (h : TS w AH AN T) (h' : TS w AH' AN' U) (hT : Rt T) (hU : Rt U)
    (hs : sm T.f T.n U.f U.n = true) (hp : plantF (sn : Int) T.lv T.nx T.m [] = some (nums, L)) (hp' : plantF (sn : Int) U.lv U.nx U.m L = some (nums', L')) :
    Calls Tryz.prog 28 #[.agg #[.int .i64 (sn : Int), .slice AH T.n cH, .slice AN T.m cN], .agg #[.int .i64 (sn : Int), .slice AH' U.n cH', .slice AN' U.m cN']] w fun e w' => e = .returned (.bool (decide (ig nums (T.m - 1) = ig nums' (U.m - 1)))) ∧ Below w.heap.size w w' := by
  have s1 := hT.s1
  have s2 := hT.s2
  have n25 := hT.hd.1.2
  have m25 := hU.hd.1.2
  have RI := Lib.hid (fun w' (hb : Below w.heap.size w w') => tright_yes AH cH AN cN T w' (h.later hb) hT)
  have RJ := Lib.hid (fun w' (hb : Below w.heap.size w w') => tright_yes AH' cH' AN' cN' U w' (h'.later hb) hU)
  rw [hst] at RI s1 s2
  rw [hsu] at RJ
  have AL := Lib.hid (fun w' (hb : Below w.heap.size w w') => alike_yes (sn := sn) (cH := cH) (cN := cN) (cH' := cH') (cN' := cN') (h.later hb) (h'.later hb) (by omega) (by omega) hs)
  have NF := Lib.hid (fun w' => newForest_any (sn := sn) (w := w') (by omega) (by omega))
  have HTS := Lib.hid h
  have HUS := Lib.hid h'
  have HTT := Lib.hid hT
  have HUU := Lib.hid hU
  have HST := Lib.hid hst
  have HSU := Lib.hid hsu
  have HP := Lib.hid hp
  have HP' := Lib.hid hp'
  clear h h' hs hp hp' hT hU hst hsu
  go_enter Tryz.func28, Tryz.ntmps28
  have Z1 := Lib.hid ((Below.refl w.heap.size w).alloc (Nat.le_refl _) (.cells #[.int .i64 (sn : Int), .slice AH T.n cH, .slice AN T.m cN] 25))
  have Z2 := Lib.hid (Z1.out.alloc Z1.out.size (.cells #[.int .i64 (sn : Int), .slice AH' U.n cH', .slice AN' U.m cN'] 25))
  have KT := Lib.hid ((Blk.new w 25 #[.int .i64 (sn : Int), .slice AH T.n cH, .slice AN T.m cN]).alloc (.cells #[.int .i64 (sn : Int), .slice AH' U.n cH', .slice AN' U.m cN'] 25))
  have KR := Blk.new (w.alloc (.cells #[.int .i64 (sn : Int), .slice AH T.n cH, .slice AN T.m cN] 25)) 25 #[.int .i64 (sn : Int), .slice AH' U.n cH', .slice AN' U.m cN']
  simp only [World.size_alloc] at KR
  have KR := Lib.hid KR
  obtain ⟨t0, t1, t2, t3⟩ := KT.out.three
  obtain ⟨r0, r1, r2, r3⟩ := KR.out.three
  go_wp2_with (first
    | (go_at_call 22; (with_reducible refine (RI.out _ Z2.out).mono ?_); rintro e w1 ⟨rfl, hb⟩; have B1 := Lib.hid (Z2.out.trans (hb.mono Z2.out.size)); have KT1 := Lib.hid (KT.out.below hb KT.out.lt); have KR1 := Lib.hid (KR.out.below hb KR.out.lt); clear hb; obtain ⟨u0, u1, u2, u3⟩ := KT1.out.three; obtain ⟨v0, v1, v2, v3⟩ := KR1.out.three)
    | (go_at_call 22; (with_reducible refine (RJ.out _ B1.out).mono ?_); rintro e w2 ⟨rfl, hb⟩; have B2 := Lib.hid (B1.out.trans (hb.mono B1.out.size)); have KT2 := Lib.hid (KT1.out.below hb KT1.out.lt); have KR2 := Lib.hid (KR1.out.below hb KR1.out.lt); clear hb; obtain ⟨u0', u1', u2', u3'⟩ := KT2.out.three; obtain ⟨v0', v1', v2', v3'⟩ := KR2.out.three)
    | (go_at_call 58; (with_reducible refine (AL.out _ B2.out).mono ?_); rintro e w3 ⟨rfl, hb⟩; have B3 := Lib.hid (B2.out.trans (hb.mono B2.out.size)); have KT3 := Lib.hid (KT2.out.below hb KT2.out.lt); have KR3 := Lib.hid (KR2.out.below hb KR2.out.lt); clear hb; obtain ⟨p0, p1, p2, p3⟩ := KT3.out.three; obtain ⟨q0, q1, q2, q3⟩ := KR3.out.three)
    | (go_at_call 54; (with_reducible refine (NF.out _).mono ?_); rintro e w4 ⟨fb, G, rfl, hf, hg, hb⟩; have F4 := Lib.hid hf; have G4 := Lib.hid hg; have B4 := Lib.hid ((B3.out.trans (hb.mono B3.out.size)).drew); have KT4 := Lib.hid (KT3.out.below hb KT3.out.lt).drew; have KR4 := Lib.hid (KR3.out.below hb KR3.out.lt).drew; have hr3 := KR3.out.lt; clear hb hf hg))
  have S0 := tri KT4.out
  have S1 := tri KR4.out
  have SZ4 : w.heap.size + 1 + 1 ≤ w4.drew.heap.size := KR4.out.lt
  have hGb : ∀ k, G k → w.heap.size + 1 + 1 ≤ k := fun k hk => by have := G4.out k hk; omega
  have HGB := Lib.hid hGb
  have hk0 : w.heap.size < w.heap.size + 1 + 1 := by omega
  have hk1 : w.heap.size + 1 < w.heap.size + 1 + 1 := by omega
  have hk2 : w.heap.size ≤ w.heap.size + 1 + 1 := by omega
  have PL := Lib.hid (fun w' (hb : Below w.heap.size w w') (hz : w.heap.size + 1 + 1 ≤ w'.heap.size) (hf : Fo w' fb G (sn : Int) []) => by
    have := plant_any (w := w') (AH := AH) (nh := T.n) (ch := cH) (cN := cN) (B := w.heap.size) (HST.out ▸ hf) HTT.out (HTS.out.2.below hb) (by omega) (fun k hk => by have := HGB.out k hk; omega) (HST.out.symm ▸ HP.out)
    rw [HST.out] at this
    exact this.mono (R' := fun e w'' => ∃ G', e = .returned (.int .i32 (ig nums (T.m - 1))) ∧ Fo w'' fb G' (sn : Int) L ∧ Below (w.heap.size + 1 + 1) w' w'' ∧ ∀ k, G' k → w.heap.size + 1 + 1 ≤ k) fun e w'' ⟨G', h1, h2, h3⟩ => ⟨G', h1, h2, h3.below HGB.out hz, fun k hk => by
      rcases h3.new k hk with q | q
      · exact HGB.out k q
      · omega⟩)
  have PM := Lib.hid (fun w' G5 (hb : Below w.heap.size w w') (hz : w.heap.size + 1 + 1 ≤ w'.heap.size) (hf : Fo w' fb G5 (sn : Int) L) (hg : ∀ k, G5 k → w.heap.size + 1 + 1 ≤ k) => by
    have := plant_any (w := w') (AH := AH') (nh := U.n) (ch := cH') (cN := cN') (B := w.heap.size) (HSU.out ▸ hf) HUU.out (HUS.out.2.below hb) (by omega) (fun k hk => by have := hg k hk; omega) (HSU.out.symm ▸ HP'.out)
    rw [HSU.out] at this
    exact this.mono (R' := fun e w'' => e = .returned (.int .i32 (ig nums' (U.m - 1))) ∧ Below (w.heap.size + 1 + 1) w' w'') fun e w'' ⟨G', h1, h2, h3⟩ => ⟨h1, h3.below hg hz⟩)
  clear t0 t1 t2 t3 r0 r1 r2 r3 u0 u1 u2 u3 v0 v1 v2 v3 u0' u1' u2' u3' v0' v1' v2' v3' p0 p1 p2 p3 q0 q1 q2 q3 hGb
  obtain ⟨S0, S0', S0''⟩ := S0
  obtain ⟨S1, S1', S1''⟩ := S1
  have SS : (w4.drew.cell? ⟨w.heap.size, 0, none⟩ = some (.int .i64 (sn : Int)) ∧ w4.drew.cell? ⟨w.heap.size, 1, none⟩ = some (.slice AH T.n cH) ∧ w4.drew.cell? ⟨w.heap.size, 2, none⟩ = some (.slice AN T.m cN)) ∧ (w4.drew.cell? ⟨w.heap.size + 1, 0, none⟩ = some (.int .i64 (sn : Int)) ∧ w4.drew.cell? ⟨w.heap.size + 1, 1, none⟩ = some (.slice AH' U.n cH') ∧ w4.drew.cell? ⟨w.heap.size + 1, 2, none⟩ = some (.slice AN' U.m cN')) := ⟨⟨S0, S0', S0''⟩, S1, S1', S1''⟩
  clear S0 S0' S0'' S1 S1' S1''
  go_region_held_law (fun w' => (w'.cell? ⟨w.heap.size, 0, none⟩ = some (.int .i64 (sn : Int)) ∧ w'.cell? ⟨w.heap.size, 1, none⟩ = some (.slice AH T.n cH) ∧ w'.cell? ⟨w.heap.size, 2, none⟩ = some (.slice AN T.m cN)) ∧ (w'.cell? ⟨w.heap.size + 1, 0, none⟩ = some (.int .i64 (sn : Int)) ∧ w'.cell? ⟨w.heap.size + 1, 1, none⟩ = some (.slice AH' U.n cH') ∧ w'.cell? ⟨w.heap.size + 1, 2, none⟩ = some (.slice AN' U.m cN'))) (first | assumption | go_keep)
    (first
    | (go_at_call 57; (with_reducible refine (PL.out w4.drew B4.out SZ4 (F4.out.below (Below.refl _ _).drew)).mono ?_); rintro e wb ⟨G5, rfl, hf5, hb5, hg5⟩; have Fwb := Lib.hid hf5; have GGwb := Lib.hid hg5; have KTwb := Lib.hid (below_blk hb5 KT4.out hk0); have KRwb := Lib.hid (below_blk hb5 KR4.out hk1); have BTwb := Lib.hid (B4.out.trans (hb5.mono hk2)); have SZwb := Nat.le_trans SZ4 hb5.size; have Swb := And.intro (tri KTwb.out) (tri KRwb.out); clear hf5 hb5 hg5)
    | (go_at_call 57; (with_reducible refine (PM.out wb _ BTwb.out SZwb Fwb.out GGwb.out).mono ?_); rintro e wc ⟨rfl, hb6⟩; have KTwc := Lib.hid (below_blk hb6 KTwb.out hk0); have KRwc := Lib.hid (below_blk hb6 KRwb.out hk1); have BTwc := Lib.hid (BTwb.out.trans (hb6.mono hk2)); have Swc := And.intro (tri KTwc.out) (tri KRwc.out); clear hb6))
  all_goals
    go_wp2
    go_ret
    exact ⟨ret_bool (by first | rfl | simp), BTwc.out⟩
end Go.Proofs.YtjekpmkghpjamaaGreatDoor
namespace Go.Proofs.YtjekpmkghpjamaaGreatDoor
open Go.RowKit

theorem plant_from {sn : Nat} {T : Tr} (hT : Rt T) (hst : T.st = (sn : Int)) (L0 : List Ndv) (h0 : L0.Nodup) (hc : L0.length ≤ 100000) : ∀ (i : Nat), i ≤ T.m → ∃ nums L, plantF (sn : Int) T.lv T.nx i L0 = some (nums, L) ∧ nums.length = i ∧ L0 <+: L ∧ L.Nodup ∧ L.length ≤ L0.length + i ∧ ∀ k, k < i → Wf sn L (dl (T.lv k).toNat) (ig nums k) ∧ ∀ e : Env sn, fv sn L (dl (T.lv k).toNat) (ig nums k) (eI e) = tvx T.nx (T.lv k).toNat (k : Int) e
  | 0, _ => ⟨[], L0, rfl, rfl, List.prefix_refl _, h0, Nat.le_refl _, fun k hk => absurd hk (by omega)⟩
  | i + 1, hi => by
    obtain ⟨nums, L, p1, p2, p0, p3, p4, p5⟩ := plant_from hT hst L0 h0 hc i (by omega)
    obtain ⟨n1, n2, n3, n4⟩ := hT.nd i (by omega)
    have s1 := hT.s1
    have s2 := hT.s2
    have m2 := hT.m2
    have hlen : (T.nx i).length = sn := by omega
    obtain ⟨r, L', a1, a2, a3, a4, a5⟩ := addF_ok (sn := sn) (n := pn (T.lv i) nums (T.nx i) (T.nx i).length) p3 (by omega)
    obtain ⟨l, hl⟩ : ∃ l : Nat, T.lv i = ((l + 1 : Nat) : Int) := ⟨(T.lv i).toNat - 1, by omega⟩
    have hgr : ∀ k, k < i → ig (nums ++ [r]) k = ig nums k := fun k hk => by simp [ig, List.getD, List.getElem?_append_left (show k < nums.length by omega)]
    have hgl : ig (nums ++ [r]) i = r := by simp [ig, List.getD, p2]
    have hcell : ∀ s, s < sn → ig (pn (T.lv i) nums (T.nx i) (T.nx i).length).r s = pv (T.lv i) nums (ig (T.nx i) s) := fun s hs => by
      have h1 : s < (T.nx i).length := by omega
      have h2 : s < (((T.nx i).take (T.nx i).length).map (pv (T.lv i) nums)).length := by rw [List.length_map, List.take_length]; exact h1
      show (((T.nx i).take (T.nx i).length).map (pv (T.lv i) nums) ++ List.replicate (8 - (T.nx i).length) 0).getD s 0 = _
      rw [List.getD, List.getElem?_append_left h2]
      simp [ig, h1]
    have hzero : ∀ s, sn ≤ s → ig (pn (T.lv i) nums (T.nx i) (T.nx i).length).r s = 0 := fun s hs => by
      have h2 : (((T.nx i).take (T.nx i).length).map (pv (T.lv i) nums)).length ≤ s := by rw [List.length_map, List.take_length]; omega
      show (((T.nx i).take (T.nx i).length).map (pv (T.lv i) nums) ++ List.replicate (8 - (T.nx i).length) 0).getD s 0 = _
      rw [List.getD, List.getElem?_append_right h2, List.getElem?_replicate]
      split <;> rfl
    have hchild : ∀ s, s < sn → Wf sn L (dl l) (pv (T.lv i) nums (ig (T.nx i) s)) ∧ ∀ e : Env sn, fv sn L (dl l) (pv (T.lv i) nums (ig (T.nx i) s)) (eI e) = tvx T.nx l (ig (T.nx i) s) e := fun s hs => by
      obtain ⟨e1, e2, e3⟩ := n4 s (by omega)
      by_cases h1 : 1 < T.lv i
      · obtain ⟨e4, e5⟩ := e3 h1
        simp only [pv, if_pos h1]
        obtain ⟨q1, q2⟩ := p5 (ig (T.nx i) s).toNat (by omega)
        have hll : (T.lv (ig (T.nx i) s).toNat).toNat = l := by rw [e5]; omega
        rw [hll, show (((ig (T.nx i) s).toNat : Nat) : Int) = ig (T.nx i) s by omega] at q2
        rw [hll] at q1
        exact ⟨q1, q2⟩
      · have h2 : T.lv i = 1 := by omega
        obtain rfl : l = 0 := by omega
        simp only [pv, if_neg h1]
        have := e2 h2
        exact ⟨⟨e1, by omega⟩, fun e => rfl⟩
    refine ⟨nums ++ [r], L', ?_, by simp [p2], p0.trans a2, a3, by omega, fun k hk => ?_⟩
    · simp only [plantF, p1, Option.bind_some, a1]
    · rcases Nat.lt_or_ge k i with h | h
      · rw [hgr k h]
        obtain ⟨q1, q2⟩ := p5 k h
        exact ⟨q1.grow a2, fun e => by rw [fv_grow a2 (eI_lt e) q1]; exact q2 e⟩
      · obtain rfl : k = i := by omega
        rw [hgl, hl]
        simp only [Int.toNat_natCast, dl]
        have hW : Wf sn L' (((l + 1 : Nat) : Int) :: dl l) r := by
          refine ⟨_, a5, hl, pn_len (Nat.le_refl _) (by omega), fun s hs => ?_, hzero⟩
          rw [hcell s hs]
          exact (hchild s hs).1.grow a2
        refine ⟨hW, fun e => ?_⟩
        simp only [fv, a5, tvx, Int.toNat_natCast]
        have hee : eI e ((l + 1 : Nat) : Int) = (e (l + 1)).val := by simp [eI]
        rw [hee, hcell _ (e (l + 1)).isLt, fv_grow a2 (eI_lt e) (hchild _ (e (l + 1)).isLt).1]
        exact (hchild _ (e (l + 1)).isLt).2 e
/-- two trees planted one behind the other -/
theorem eq_sem {sn : Nat} {T U : Tr} (hT : Rt T) (hU : Rt U) (hst : T.st = (sn : Int)) (hsu : U.st = (sn : Int)) (hn : T.n = U.n) : ∃ nums L nums' L', plantF (sn : Int) T.lv T.nx T.m [] = some (nums, L) ∧ plantF (sn : Int) U.lv U.nx U.m L = some (nums', L') ∧
    (ig nums (T.m - 1) = ig nums' (U.m - 1) ↔ ∀ e : Env sn, Phi T e = Phi U e) := by
  obtain ⟨nums, L, p1, _, _, p3, p4, p5⟩ := plant_from hT hst [] List.nodup_nil (by simp) T.m (Nat.le_refl _)
  have m2 := hT.m2
  have m1 := hT.m1
  have k1 := hU.m1
  have s1 := hT.s1
  obtain ⟨nums', L', q1, _, q0, q3, q4, q5⟩ := plant_from hU hsu L p3 (by simp at p4; omega) U.m (Nat.le_refl _)
  obtain ⟨a1, a2⟩ := p5 (T.m - 1) (by omega)
  obtain ⟨b1, b2⟩ := q5 (U.m - 1) (by omega)
  rw [hT.top, Int.toNat_natCast] at a1 a2
  rw [hU.top, Int.toNat_natCast, ← hn] at b1 b2
  have c1 := a1.grow q0
  have c2 : ∀ e : Env sn, fv sn L' (dl T.n) (ig nums (T.m - 1)) (eI e) = tvx T.nx T.n ((T.m - 1 : Nat) : Int) e := fun e => by rw [fv_grow q0 (eI_lt e) a1]; exact a2 e
  refine ⟨nums, L, nums', L', p1, q1, fun h e => ?_, fun h => ?_⟩
  · show tvx T.nx T.n _ e = tvx U.nx U.n _ e
    rw [← c2 e, h, b2 e, hn]
  · refine Wf.inj (by omega) q3 (dl_nodup _) c1 b1 (fun e he => ?_)
    have hc : ∀ x, x ∈ dl T.n → e x = eI (sn := sn) (fun k => ⟨e (k : Int), he _⟩) x := fun x hx => by
      have := (mem_dl.1 hx).1
      show e x = e ((x.toNat : Nat) : Int)
      rw [Int.toNat_of_nonneg (by omega)]
    rw [fv_congr hc, fv_congr (n := ig nums' (U.m - 1)) hc, c2, b2]
    have := h (fun k => ⟨e (k : Int), he _⟩)
    show tvx T.nx T.n _ _ = _
    rw [show tvx T.nx T.n ((T.m - 1 : Nat) : Int) _ = Phi T _ from rfl, this]
    show tvx U.nx U.n _ _ = _
    rw [hn]
end Go.Proofs.YtjekpmkghpjamaaGreatDoor
