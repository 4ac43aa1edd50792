/- The walk of totaltree.Totals at a valid rule of two states. -/
/- The walks of wolfram.Elementary at 110 and of totaltree's row. -/
/- The walk of totaltree.Elementary at 110. -/
import Derived.Test.YtjekpmkghpjamaaGreatDoorMbr
import Derived.Test.YtjekpmkghpjamaaGreatDoorMbb
import Derived.Test.YtjekpmkghpjamaaGreatDoorMax
import Derived.Test.YtjekpmkghpjamaaGreatDoorMaa
import Derived.Test.YtjekpmkghpjamaaGreatDoorMab
import Derived.Test.YtjekpmkghpjamaaGreatDoorMae
import Derived.Below
import Derived.BigQuiet
import Derived.Carry
import Derived.Deep.AppendLies
import Derived.Deep.CutRange
import Derived.Deep.Draws
import Derived.Deep.OwnRows
import Derived.Deep.QuietTactic
import Derived.Deep.RegionHeld3
import Derived.Deep.RegionHeldLaw
import Derived.DeepKeys
import Derived.DeepKeys4
import Derived.IntWalk
import Derived.Laws.BitsLemmas
import Derived.Laws.IdiomStrings
import Derived.Laws.OwnMore
import Derived.Laws.Rows
import Derived.Lib.Hide
import Derived.Lib.SliceRun
import Derived.LoopIn
import Derived.LoopN
import Derived.LoopNIn
import Derived.Maps.AppendAt
import Derived.Maps.OwnOps
import Derived.OpenShut
import Derived.OwnWalk
import Derived.OwnWalkIn
import Derived.Shelf.Abstract
import Derived.Shelf.SlLaysF0
import Derived.Shelf.Slices.Clone
import Derived.Sort.Grow
import Derived.Sort.Statements
import Derived.StillTail
import Derived.StillTailTactics
import Derived.StringKeys
import Derived.TacticsInMore
import Derived.Test.YtjekpmkghpjamaaGreatDoorRows
import Derived.WalkKit
import Derived.Test.YtjekpmkghpjamaaGreatDoorMaw
import Derived.Test.YtjekpmkghpjamaaGreatDoorMbn
import Derived.Test.YtjekpmkghpjamaaGreatDoorMay
import Derived.Test.YtjekpmkghpjamaaGreatDoorMad
import Derived.Test.YtjekpmkghpjamaaGreatDoorMac
import Derived.Test.YtjekpmkghpjamaaGreatDoorMag
import Derived.Test.YtjekpmkghpjamaaGreatDoorMaj
import Derived.Deep.RegionLaw
import Derived.DeepKeys5
namespace Go.Proofs.YtjekpmkghpjamaaGreatDoor
open Go.RowKit

/-- what Totals returns -/
def TlsOut (n : Nat) (wt : Nat → Nat) (rb : Nat → Int) (f : Nat → P2) (w : World) (e : Ending) (w' : World) : Prop :=
  ∃ AI cI AN cN out, e = .returned (.tuple #[.agg #[.int .i64 2, .slice AI n cI, .slice AN out.length cN], .int .i64 0]) ∧ TL w' w.heap.size n f AI cI AN cN out ∧ Gd 2 n out ∧ 1 ≤ out.length ∧ out.length ≤ 512 ∧ Mn 2 out n (fun q => rb (wn wt q)) ((out.length : Int) - 1) ∧ Below w.heap.size w w'
theorem set_alloc {wa : World} {g : Nat} {t t2 : TypeId} {z : Value} (hk : Blk wa g t #[z]) (a b : Value) : Blk ((wa.setCell ⟨g, 0, none⟩ a).alloc (.cells #[b] t2)) g t #[a] ∧ Blk ((wa.setCell ⟨g, 0, none⟩ a).alloc (.cells #[b] t2)) wa.heap.size t2 #[b] := by
  have h1 : Blk (wa.setCell ⟨g, 0, none⟩ a) g t #[a] := by simpa using hk.set_ 0 a
  have h2 := Blk.new (wa.setCell ⟨g, 0, none⟩ a) t2 #[b]
  rw [show (wa.setCell ⟨g, 0, none⟩ a).heap.size = wa.heap.size by simp [World.setCell]] at h2
  exact ⟨h1.alloc _, h2⟩
theorem set_set {wa : World} {g g' : Nat} {t t2 : TypeId} {z z' : Value} (hk : Blk wa g t #[z]) (hj : Blk wa g' t2 #[z']) (hne : g ≠ g') (a b : Value) : Blk ((wa.setCell ⟨g, 0, none⟩ a).setCell ⟨g', 0, none⟩ b) g t #[a] ∧ Blk ((wa.setCell ⟨g, 0, none⟩ a).setCell ⟨g', 0, none⟩ b) g' t2 #[b] := by
  have h1 : Blk (wa.setCell ⟨g, 0, none⟩ a) g t #[a] := by simpa using hk.set_ 0 a
  have h2 := hj.far (p := ⟨g, 0, none⟩) (Ne.symm hne) a
  exact ⟨h1.far (p := ⟨g', 0, none⟩) hne b, by simpa using h2.set_ 0 b⟩
set_option maxRecDepth 100000 in
set_option maxHeartbeats 4000000 in
theorem totals_any {n cen k : Nat} {A Ab As : Option Addr} {c nb cb ns cs : Nat} {f : Nat → P2} {b l : List Int} {w : World} (h : TR w A n f Ab nb b As ns l) (hn : n ≤ 9) (hk : n = k + 1) (hnb : nb ≤ 1000) (hns : ns ≤ 1000) (hq : rt f n 2 b l = true) (hd : Hd f n) (hc : px f n (0, 0) = (cen : Int)) (hcn : cen < n) :
    Calls Tryz.prog 32 #[.agg #[.slice A n c, .int .i64 2, .slice Ab nb cb, .slice As ns cs]] w (TlsOut n (wtT n cen) (rbT n b l) f w) := by
  have RI := fun w' (hb : Below w.heap.size w w') => right_any A n c f 2 Ab nb cb b As ns cs l w' (h.later hb) (by omega) hnb hns
  rw [hq] at RI
  have CE := fun w' (hb : Below w.heap.size w w') => hcentre_any A n c f w' (h.later hb).1 hd
  rw [hc] at CE
  have TQ1 := Lib.hid (fun w' gc gp gx (hb : Below w.heap.size w w') h1 h2 h3 => tq_of (cb := cb) (cs := cs) (c := c) (w := w') (gc := gc) (gp := gp) (gx := gx) (n := n) (cen := cen) h1 h2 h3 (h.later hb) hn (by omega) hnb hns hq)
  have HH := Lib.hid h
  have HK := Lib.hid hk
  have HC := Lib.hid hcn
  have RI := Lib.hid RI
  have CE := Lib.hid CE
  have hnI : (n : Int) ≤ 9 := by omega
  have K0 := Blk.new w 44 #[.slice A n c, .int .i64 2, .slice Ab nb cb, .slice As ns cs]
  obtain ⟨w1, hw1⟩ : ∃ w1, w1 = w.alloc (.cells #[.slice A n c, .int .i64 2, .slice Ab nb cb, .slice As ns cs] 44) := ⟨_, rfl⟩
  have s1 : w1.heap.size = w.heap.size + 1 := by rw [hw1]; simp
  obtain ⟨w2, hw2⟩ : ∃ w2, w2 = w1.alloc (.cells #[.int .i64 0, .slice none 0 0, .slice none 0 0] 25) := ⟨_, rfl⟩
  have s2 : w2.heap.size = w.heap.size + 1 + 1 := by rw [hw2, World.size_alloc, s1]
  have KX := Lib.hid (show Blk w2 w.heap.size 44 #[.slice A n c, .int .i64 2, .slice Ab nb cb, .slice As ns cs] by rw [hw2, hw1]; exact K0.alloc _)
  have KT := Lib.hid (show Blk w2 (w.heap.size + 1) 25 #[.int .i64 0, .slice none 0 0, .slice none 0 0] by rw [hw2, ← s1]; exact Blk.new w1 _ _)
  have B2 := Lib.hid (show Below w.heap.size w w2 by rw [hw2, hw1]; exact ((Below.refl _ _).alloc (Nat.le_refl _) _).alloc (by simp) _)
  rw [hw1] at hw2
  clear h hk hcn hq hd hc K0 hw1 s1 hnb hns
  obtain ⟨x0, x1, x2, x3, x4⟩ := KX.out.four
  go_enter Tryz.func32, Tryz.ntmps32
  go_upto_region 1 with (fail)
  rw [← hw2]
  clear hw2
  go_upto_region 3 with (go_at_call 37; (with_reducible refine (RI.out _ B2.out).mono ?_); rintro e w3 ⟨rfl, hb3⟩; have B3 := Lib.hid (B2.out.trans (hb3.mono B2.out.size)); have B23 := Lib.hid hb3; have X3 := Lib.hid (KX.out.below hb3 KX.out.lt); have T3 := Lib.hid (KT.out.below hb3 KT.out.lt); clear hb3)
  have s3 := B23.out.size
  have CE3 := Lib.hid (fun W (hb : Below w3.heap.size w3 W) => CE.out W (B3.out.trans (hb.mono B3.out.size)))
  have KP := Lib.hid (fun W (hb : Below w3.heap.size w3 W) => (X3.out.below hb X3.out.lt).four.1)
  have S0 := KP.out w3 (Below.refl _ _)
  clear x0 x1 x2 x3 x4
  go_cut [4, 5] from 11 to 16 (fun s4 s5 wx => ∃ (g4 g5 : Nat), s4 = .pointer (some ⟨g4, 0, none⟩) ∧ s5 = .pointer (some ⟨g5, 0, none⟩) ∧ Blk wx g4 3 #[.int .i64 (n : Int)] ∧ Blk wx g5 3 #[.int .i64 (cen : Int)] ∧ Below w3.heap.size w3 wx)
  case first =>
    go_region_held_law (fun w' => w'.cell? ⟨w.heap.size, 0, none⟩ = some (.slice A n c))
      (first | assumption | (refine KP.out _ ?_; (with_reducible (repeat (first | assumption | exact Below.refl _ _ | refine Below.drew' ?_ | refine Below.alloc' ?_ _ | refine Below.set1 ?_ ?_ _ | exact Nat.le_refl _ | exact Nat.le_succ _))); done) | go_keep)
      (first
      | (go_at_call 64; (with_reducible refine (CE3.out _ ?_).mono ?_); (with_reducible (repeat (first | assumption | exact Below.refl _ _ | refine Below.drew' ?_ | refine Below.alloc' ?_ _))); rintro e wa ⟨rfl, hb⟩; have hba : Below w3.heap.size w3 wa := b_via (by with_reducible (repeat (first | exact Below.refl _ _ | refine Below.drew' ?_ | refine Below.alloc' ?_ _))) hb; have hsa : w3.heap.size ≤ wa.heap.size := hba.size; (try (have hk := Blk.below' (Blk.drew (Blk.new w3 3 #[.int .i64 0])) hb; obtain ⟨z0, z1, z2⟩ := hk.one)); (try (have hk := Blk.below' (Blk.drew ((Blk.new w3 3 #[.int .i64 0]).alloc (.cells #[.int .i64 0] 3))) hb; have hj := Blk.below' (Blk.drew (Blk.new (w3.alloc (.cells #[.int .i64 0] 3)) 3 #[.int .i64 0])) hb; rw [World.size_alloc] at hj; obtain ⟨z0, z1, z2⟩ := hk.one; obtain ⟨y0, y1, y2⟩ := hj.one)); clear hb))
    all_goals
      go_wp2_with fail
      go_meet
      first
        | exact ⟨_, _, rfl, rfl, (two_blk wa _ _ _ _).1, (two_blk wa _ _ _ _).2.1, hba.trans ((two_blk wa _ _ _ _).2.2.mono hsa)⟩
        | exact ⟨_, _, rfl, rfl, (two_blk wa _ _ _ _).2.1, (two_blk wa _ _ _ _).1, hba.trans ((two_blk wa _ _ _ _).2.2.mono hsa)⟩
        | exact ⟨_, _, rfl, rfl, (set_alloc hk _ _).1, (set_alloc hk _ _).2, Below.alloc' (Below.set1 hba (Nat.le_refl _) _) _⟩
        | exact ⟨_, _, rfl, rfl, (set_alloc hk _ _).2, (set_alloc hk _ _).1, Below.alloc' (Below.set1 hba (Nat.le_refl _) _) _⟩
        | exact ⟨_, _, rfl, rfl, (set_set hk hj (by omega) _ _).1, (set_set hk hj (by omega) _ _).2, Below.set1 (Below.set1 hba (Nat.le_refl _) _) (Nat.le_succ _) _⟩
        | exact ⟨_, _, rfl, rfl, (set_set hj hk (by omega) _ _).1, (set_set hj hk (by omega) _ _).2, Below.set1 (Below.set1 hba (Nat.le_succ _) _) (Nat.le_refl _) _⟩
  case rest =>
    obtain ⟨g4, g5, rfl, rfl, b4, b5, hB⟩ := hcut
    have BC := Lib.hid (B3.out.trans (hB.mono B3.out.size))
    have XC := Lib.hid (X3.out.below hB X3.out.lt)
    have TC := Lib.hid (T3.out.below hB T3.out.lt)
    have CO := Lib.hid (tcollect (cH := c) (l := k) HK.out (ws_T HC.out) (TQ1.out wc g5 g4 w.heap.size BC.out b5 XC.out b4) (HH.out.later BC.out).1)
    obtain ⟨x0, x1, x2, x3, x4⟩ := XC.out.four
    have hs : w.heap.size + 1 < wc.heap.size := TC.out.lt
    clear b4 b5 hB
    go_wp2_with (go_at_call 66; (with_reducible refine (CO.out).mono ?_); rintro e w4 ⟨AI, cI, AN, cN, out, rfl, hTL, hg, h1, h8, hmn, hb4⟩; have B4 := Lib.hid (BC.out.trans (hb4.mono BC.out.size)); have TL4 := Lib.hid hTL; have G4 := Lib.hid hg; have H14 := Lib.hid h1; have H84 := Lib.hid h8; have M4 := Lib.hid hmn; have K4 := Lib.hid (TC.out.below hb4 TC.out.lt); obtain ⟨r0, r1, r2, r3, r4, r5, r6⟩ := K4.out.three6; clear hTL hg h1 h8 hmn hb4)
    have KZ : Blk (((w4.setCell ⟨w.heap.size + 1, 0, none⟩ (.int .i64 2)).setCell ⟨w.heap.size + 1, 1, none⟩ (.slice AI n cI)).setCell ⟨w.heap.size + 1, 2, none⟩ (.slice AN out.length cN)) (w.heap.size + 1) 25 #[.int .i64 2, .slice AI n cI, .slice AN out.length cN] := by simpa using ((K4.out.set_ 0 (.int .i64 2)).set_ 1 (.slice AI n cI)).set_ 2 (.slice AN out.length cN)
    have TZ := TL4.out.keep (Fr.set3 w4 (w.heap.size + 1) (.int .i64 2) (.slice AI n cI) (.slice AN out.length cN)) (fun k hk => by subst hk; exact hs)
    have BZ := below_set3 (g := w.heap.size + 1) B4.out (Nat.le_succ _) (.int .i64 2) (.slice AI n cI) (.slice AN out.length cN)
    obtain ⟨v0, v1, v2, v3⟩ := KZ.three
    exact bodyPost_ret (v := .tuple #[.agg #[.int .i64 2, .slice AI n cI, .slice AN out.length cN], .int .i64 0]) (by simp [results, Tryz.results32, go_sem, v0, v1, v2]) rfl ⟨AI, cI, AN, cN, out, rfl, TZ.low (by omega), G4.out, H14.out, H84.out, M4.out, BZ⟩
end Go.Proofs.YtjekpmkghpjamaaGreatDoor
namespace Go.Proofs.YtjekpmkghpjamaaGreatDoor
open Go.RowKit
theorem row_any (w : World) : Calls Tryz.prog 80 #[] w fun e w' => ∃ A c, e = .returned (.slice A 3 c) ∧ QReads w' w'.heap.size A 3 (fun k => ((k : Int) - 1, 0)) ∧ Below w.heap.size w w' := by
  go_enter Tryz.func80, Tryz.ntmps80
  go_wp2
  go_ret
  refine ⟨_, 3, rfl, fun _ => ⟨w.heap.size, 0, rfl, by simp, fun k hk => ?_⟩, (Below.refl w.heap.size w).alloc (Nat.le_refl _) _⟩
  have K := Blk.new w 140 #[.int .i64 (-1), .int .i64 0, .int .i64 0, .int .i64 0, .int .i64 1, .int .i64 0]
  obtain rfl | rfl | rfl : k = 0 ∨ k = 1 ∨ k = 2 := by omega
  · exact ⟨by rw [K.cell]; rfl, by rw [K.cell]; rfl⟩
  · exact ⟨by rw [K.cell]; rfl, by rw [K.cell]; rfl⟩
  · exact ⟨by rw [K.cell]; rfl, by rw [K.cell]; rfl⟩
end Go.Proofs.YtjekpmkghpjamaaGreatDoor
namespace Go.Proofs.YtjekpmkghpjamaaGreatDoor
open Go.RowKit
/-- the row's offsets -/
def rowf (k : Nat) : P2 := ((k : Int) - 1, 0)
def ElOut (rb : Nat → Int) (w : World) (e : Ending) (w' : World) : Prop :=
  ∃ AI cI AN cN out, e = .returned (.tuple #[.agg #[.int .i64 2, .slice AI 3 cI, .slice AN out.length cN], .int .i64 0]) ∧ TL w' w.heap.size 3 rowf AI cI AN cN out ∧ Gd 2 3 out ∧ 1 ≤ out.length ∧ out.length ≤ 8 ∧ Mn 2 out 3 (fun q => rb (nm 2 q)) ((out.length : Int) - 1) ∧ Below w.heap.size w w'
set_option maxRecDepth 100000 in
set_option maxHeartbeats 2000000 in
theorem elementary_of {rb : Nat → Int} (hb8 : Bits8 rb) (n : Int) (hE : ∀ w, Calls Tryz.prog 7 #[.int .i64 n] w fun e w' => e = .returned (.tuple #[.agg (b8 rb), .int .i64 0]) ∧ Below w.heap.size w w') (w : World) : Calls Tryz.prog 42 #[.int .i64 n] w (ElOut rb w) := by
  unfold b8 at hE
  have EE := Lib.hid hE
  clear hE
  have K0 := Blk.new w 25 #[.int .i64 0, .slice none 0 0, .slice none 0 0]
  have B0 := (Below.refl w.heap.size w).alloc (Nat.le_refl _) (.cells #[.int .i64 0, .slice none 0 0, .slice none 0 0] 25)
  obtain ⟨w1, hw1⟩ : ∃ w1, w1 = w.alloc (.cells #[.int .i64 0, .slice none 0 0, .slice none 0 0] 25) := ⟨_, rfl⟩
  rw [← hw1] at K0 B0
  have K0 := Lib.hid K0
  have B0 := Lib.hid B0
  go_enter Tryz.func42, Tryz.ntmps42
  go_upto_region 1 with (fail)
  rw [← hw1]
  clear hw1
  have h10 := K0.out.lt
  go_wp2_with (first
    | (go_at_call 7; (with_reducible refine (EE.out _).mono ?_); rintro e w2 ⟨rfl, hb2⟩; have B2 := Lib.hid hb2; have hs2 : w1.heap.size ≤ w2.heap.size := hb2.size; have K2 := Lib.hid (Blk.new w2 32 #[.int .i64 (rb 0), .int .i64 (rb 1), .int .i64 (rb 2), .int .i64 (rb 3), .int .i64 (rb 4), .int .i64 (rb 5), .int .i64 (rb 6), .int .i64 (rb 7)]); clear hb2)
    | (go_at_call 80; (with_reducible refine (row_any _).mono ?_); rintro e w3 ⟨A, c, rfl, hq, hb3⟩; have B3 := Lib.hid hb3; have Q3 := Lib.hid hq; have hs3 := hb3.size; have K3 := Lib.hid (Blk.new w3 22 #[.slice A 3 c]); have E3 := Lib.hid (ecollect hb8 (f := rowf) (gr := w3.heap.size) (g8 := w2.heap.size) (w := w3.alloc (.cells #[.slice A 3 c] 22)) (Blk.new w3 22 #[.slice A 3 c]) ((K2.out.below hb3 K2.out.lt).alloc _) (hq.later ((Below.refl _ _).alloc (Nat.le_refl _) _))); clear hq hb3)
    | (go_at_call 66; (with_reducible refine (E3.out).mono ?_); rintro e w4 ⟨AI, cI, AN, cN, out, rfl, hTL, hg, h1, h8, hmn, hb4⟩; have B4 := Lib.hid (show Below w1.heap.size w1 w4 from ((B2.out.alloc hs2 _).trans (B3.out.mono (by simp; omega))).trans (((Below.refl _ _).alloc (Nat.le_refl _) _ : Below w3.heap.size w3 _).mono (by simp at hs3; omega) |>.trans (hb4.mono (by simp at hs3 ⊢; omega)))); have TL4 := Lib.hid hTL; have G4 := Lib.hid hg; have H14 := Lib.hid h1; have H84 := Lib.hid h8; have M4 := Lib.hid hmn; have K4 := Lib.hid (K0.out.below B4.out h10); obtain ⟨r0, r1, r2, r3, r4, r5, r6⟩ := K4.out.three6; clear hTL hg h1 h8 hmn hb4))
  have hz4 : w.heap.size < (w3.alloc (.cells #[.slice A 3 c] 22)).heap.size := by simp at hs3 ⊢; omega
  have KZ : Blk (((w4.setCell ⟨w.heap.size, 0, none⟩ (.int .i64 2)).setCell ⟨w.heap.size, 1, none⟩ (.slice AI 3 cI)).setCell ⟨w.heap.size, 2, none⟩ (.slice AN out.length cN)) w.heap.size 25 #[.int .i64 2, .slice AI 3 cI, .slice AN out.length cN] := by simpa using ((K4.out.set_ 0 (.int .i64 2)).set_ 1 (.slice AI 3 cI)).set_ 2 (.slice AN out.length cN)
  have TZ := TL4.out.keep (Fr.set3 w4 w.heap.size (.int .i64 2) (.slice AI 3 cI) (.slice AN out.length cN)) (fun k hk => by subst hk; exact hz4)
  have BZ := below_set3 (g := w.heap.size) (B0.out.trans (B4.out.mono (by omega))) (Nat.le_refl _) (.int .i64 2) (.slice AI 3 cI) (.slice AN out.length cN)
  obtain ⟨v0, v1, v2, v3⟩ := KZ.three
  exact bodyPost_ret (v := .tuple #[.agg #[.int .i64 2, .slice AI 3 cI, .slice AN out.length cN], .int .i64 0]) (by simp [results, Tryz.results42, go_sem, v0, v1, v2]) rfl ⟨AI, cI, AN, cN, out, rfl, TZ.low (by omega), G4.out, H14.out, H84.out, M4.out, BZ⟩
end Go.Proofs.YtjekpmkghpjamaaGreatDoor
