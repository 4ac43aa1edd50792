/- The walk of totaltree's add. -/
/- The walk of totaltree's visit at an elementary rule: what it promises, and its easy ways. -/
import Derived.Test.YtjekpmkghpjamaaGreatDoorMbk
import Derived.Test.YtjekpmkghpjamaaGreatDoorMay
import Derived.Test.YtjekpmkghpjamaaGreatDoorMbb
import Derived.Test.YtjekpmkghpjamaaGreatDoorMax
import Derived.Test.YtjekpmkghpjamaaGreatDoorMaw
import Derived.Test.YtjekpmkghpjamaaGreatDoorMaf
import Derived.Test.YtjekpmkghpjamaaGreatDoorMaa
import Derived.Test.YtjekpmkghpjamaaGreatDoorMab
import Derived.Test.YtjekpmkghpjamaaGreatDoorMag
import Derived.Test.YtjekpmkghpjamaaGreatDoorMae
import Derived.Test.YtjekpmkghpjamaaGreatDoorMad
import Derived.Test.YtjekpmkghpjamaaGreatDoorMac
import Derived.Test.YtjekpmkghpjamaaGreatDoorMah
import Derived.Below
import Derived.BigQuiet
import Derived.Deep.AppendLies
import Derived.Deep.CutRange
import Derived.Deep.Draws
import Derived.Deep.QuietTactic
import Derived.Deep.RegionHeldLaw
import Derived.Deep.RegionLaw
import Derived.DeepKeys
import Derived.DeepKeys4
import Derived.DeepKeys5
import Derived.IntWalk
import Derived.Laws.BitsLemmas
import Derived.Laws.OwnMore
import Derived.Laws.Rows
import Derived.Lib.Hide
import Derived.Lib.SliceRun
import Derived.LoopIn
import Derived.LoopN
import Derived.LoopNIn
import Derived.Maps.AppendAt
import Derived.Maps.OwnOps
import Derived.OpenShut
import Derived.OwnWalk
import Derived.OwnWalkIn
import Derived.Shelf.Abstract
import Derived.Shelf.SlLaysF0
import Derived.Shelf.Slices.Clone
import Derived.Sort.Grow
import Derived.Sort.Statements
import Derived.StillTail
import Derived.StillTailTactics
import Derived.StringKeys
import Derived.TacticsInMore
import Derived.Test.YtjekpmkghpjamaaGreatDoorRows
import Derived.WalkKit
namespace Go.Proofs.YtjekpmkghpjamaaGreatDoor
open Go.RowKit
/-- the numbers that add knows -/
def NOK (out : List (Int × List Int)) (N : Int × Int × Int → Option Int) : Prop := ∀ x k, N x = some k → 0 ≤ k ∧ k < out.length ∧ lvO out k.toNat = x.1 ∧ nxO out k.toNat = [x.2.1, x.2.2]
theorem NOK.push {out : List (Int × List Int)} {N : Int × Int × Int → Option Int} (h : NOK out N) (x : Int × Int × Int) : NOK (out ++ [(x.1, [x.2.1, x.2.2])]) (fun y => if y = x then some (out.length : Int) else N y) := by
  intro y k hk
  have hk : (if y = x then some (out.length : Int) else N y) = some k := hk
  by_cases e : y = x
  · rw [if_pos e] at hk
    injection hk with hk
    subst hk e
    refine ⟨by omega, by rw [List.length_append, List.length_singleton]; omega, ?_, ?_⟩
    · rw [Int.toNat_natCast, lvO_new]
    · rw [Int.toNat_natCast, nxO_new]
  · rw [if_neg e] at hk
    obtain ⟨h1, h2, h3, h4⟩ := h y k hk
    refine ⟨h1, by rw [List.length_append, List.length_singleton]; omega, ?_, ?_⟩
    · rw [lvO_app (by omega)]; exact h3
    · rw [nxO_app (by omega)]; exact h4
section
variable {p : EP} {w : World} {T U : Nat → Prop} {out : List (Int × List Int)} {N : Int × Int × Int → Option Int} {M : Int × Int → Option Int}
set_option maxRecDepth 100000 in
set_option maxHeartbeats 2000000 in
theorem add_foundE {lv a b r : Int} (h : Tst p w T U out N M) (h1 : R64 lv) (h2 : R64 a) (h3 : R64 b) (ha : N (lv, a, b) = some r) :
    Calls Tryz.prog 117 #[.agg #[.int .i64 lv, .int .i64 a, .int .i64 b, .int .i64 0, .int .i64 0, .int .i64 0, .int .i64 0, .int .i64 0, .int .i64 0], .pointer (some ⟨p.xN, 0, none⟩), .pointer (some ⟨p.xo, 0, none⟩), .pointer (some ⟨p.xS, 0, none⟩)] w fun e w' => e = .returned (.int .i64 r) ∧ Below w.heap.size w w' := by
  have B1 := Lib.hid ((Below.refl w.heap.size w).alloc (Nat.le_refl _) (.cells (nod2 (lv, a, b)) 167))
  have lk := node_look (h.below B1.out).mpN (x := (lv, a, b)) h1 h2 h3
  rw [ha] at lk
  simp only [nodV2, nod2] at lk
  obtain ⟨k0, k1, k2⟩ := (h.below B1.out).c.cN.one
  have B1 := B1
  simp only [nod2] at B1 k0 k1 k2
  clear h ha
  go_enter Tryz.func117, Tryz.ntmps117
  go_wp2
  go_ret
  exact ⟨rfl, B1.out⟩
set_option maxRecDepth 100000 in
set_option maxHeartbeats 4000000 in
theorem add_newE {lv a b : Int} (h : Tst p w T U out N M) (hok : NOK out N) (h1 : R64 lv) (h2 : R64 a) (h3 : R64 b) (ha : N (lv, a, b) = none) (hcap : out.length ≤ 1000000) :
    Calls Tryz.prog 117 #[.agg #[.int .i64 lv, .int .i64 a, .int .i64 b, .int .i64 0, .int .i64 0, .int .i64 0, .int .i64 0, .int .i64 0, .int .i64 0], .pointer (some ⟨p.xN, 0, none⟩), .pointer (some ⟨p.xo, 0, none⟩), .pointer (some ⟨p.xS, 0, none⟩)] w fun e w' =>
      ∃ T' N', e = .returned (.int .i64 (out.length : Int)) ∧ Tst p w' T' (fun k => U k ∨ T' k) (out ++ [(lv, [a, b])]) N' M ∧ Fr T w T' w' ∧ NOK (out ++ [(lv, [a, b])]) N' := by
  obtain ⟨w1, hw1⟩ : ∃ w1, w1 = w.alloc (.cells (nod2 (lv, a, b)) 167) := ⟨_, rfl⟩
  have B1 : Below w.heap.size w w1 := by rw [hw1]; exact (Below.refl w.heap.size w).alloc (Nat.le_refl _) _
  have H1 := h.below B1
  have K1 : Blk w1 w.heap.size 167 #[.int .i64 lv, .int .i64 a, .int .i64 b, .int .i64 0, .int .i64 0, .int .i64 0, .int .i64 0, .int .i64 0, .int .i64 0] := by rw [hw1]; exact Blk.new w _ _
  have hs1 : w1.heap.size = w.heap.size + 1 := by rw [hw1]; simp
  have lk := node_look H1.mpN (x := (lv, a, b)) h1 h2 h3
  rw [ha] at lk
  simp only [nodV2, nod2] at lk
  obtain ⟨kl, hkl⟩ := key_nodeE (x := (lv, a, b)) h1 h2 h3
  obtain ⟨k0, k1, k2⟩ := H1.c.cN.one
  obtain ⟨A, c, ys, r1, r2, r3, r4⟩ := H1.rest
  obtain ⟨o0, o1, o2, o3⟩ := r1.three
  obtain ⟨w5, hr5, hm5, hs5, hf5⟩ := MapOf.store (t := 165) H1.mpN Tryz.keyNodeE Tryz.underlying165 (out.length : Int) hkl (fun y _ _ e => nodV2_inj e)
  simp only [nodV2, nod2] at hr5
  obtain ⟨ys', O5, PUSH⟩ := H1.push (l := lv) (X := [a, b]) (U' := U) H1.tU (fun _ h => h) hm5 hf5 r1
  have hno : p.xo ≠ p.mN := fun e => by
    obtain ⟨es, clock, hb, _⟩ := H1.mpN
    rw [← e, r1] at hb
    cases hb
  have hnm : ∀ k, p.K k → ¬ (k = p.mN) := fun k hk e => H1.cT k hk (e ▸ H1.tN)
  have hbm : w.heap.size ≠ p.mN := fun e => by have := h.uL _ (h.tU _ h.tN); omega
  have hbo : w.heap.size ≠ p.xo := fun e => by have := h.uL _ (h.tU _ h.tO); omega
  have hso : p.xS ≠ p.xo := fun e => H1.cT _ (.inr (.inl rfl)) (e ▸ H1.tO)
  have K5 : Blk w5 w.heap.size 167 _ := hf5.blk K1 hbm
  have X5 : Blk w5 p.xo 25 _ := hf5.blk r1 hno
  have S5 : Blk w5 p.xS 3 #[.int .i64 2] := hf5.blk H1.c.cS (hnm _ (.inr (.inl rfl)))
  have hrow : ∀ g, (Value.slice A out.length c).ownBlock = some g → T g ∧ g ≠ p.xo ∧ g ≠ p.mN ∧ g ≠ p.mV := r3
  have hUl := H1.uL
  have hTU := H1.tU
  have hcK := H1.cT
  have hbs : p.bs ≤ w5.heap.size := by rw [hs5]; exact H1.bL
  have H1K := Lib.hid K1
  have KL5 := K5.lt
  have XL5 := X5.lt
  have SL5 := S5.lt
  have hal : w.heap.size < w5.heap.size := KL5
  obtain ⟨i0, hi, hz0, hz1, hz2⟩ := info_parts Tryz.info_node
  have RD5 : Reads w5 w5.heap.size (some ⟨w.heap.size, 1, none⟩) 2 (il [a, b]) := ⟨rfl, fun _ => ⟨_, rfl, KL5, fun j u hj => by
    match j, hj with
    | 0, hj => simp [il] at hj; subst hj; exact K5.nine.2.1
    | 1, hj => simp [il] at hj; subst hj; exact K5.nine.2.2.1⟩⟩
  have CL := Lib.hid (iclone_any (some ⟨w.heap.size, 1, none⟩) 8 2 [a, b] w5.drew RD5 (by omega) (by omega))
  have s0 : w5.drew.cell? ⟨w.heap.size, 0, none⟩ = some (.int .i64 lv) := K5.nine.1
  have s1 : w5.drew.cell? ⟨p.xS, 0, none⟩ = some (.int .i64 2) := S5.one.1
  have s2 : w5.drew.cell? ⟨p.xo, 2, none⟩ = some (.slice A out.length c) := X5.three.2.2.1
  have KH := Lib.hid K5
  have PU := Lib.hid PUSH
  have O5H := Lib.hid O5
  have XH := Lib.hid X5
  have HOK := Lib.hid (hok.push (lv, a, b))
  have F1 := Lib.hid (Fr.of_below (G := T) B1)
  have hW1 := Lib.hid hw1
  obtain ⟨q0, q1, q2, q3, q4, q5, q6, q7, q8⟩ := H1K.out.nine
  have hs15 := Lib.hid hs5
  have HR3 := Lib.hid hrow
  clear h hok ha B1 H1 hs1 hkl r1 r2 r3 r4 hm5 hs5 hf5 O5 PUSH hnm K5 X5 S5 hrow hUl hTU hcK RD5 KL5 hw1
  go_enter Tryz.func117, Tryz.ntmps117
  go_upto_region 1 with (fail)
  have hgw : w.alloc (.cells #[.int .i64 lv, .int .i64 a, .int .i64 b, .int .i64 0, .int .i64 0, .int .i64 0, .int .i64 0, .int .i64 0, .int .i64 0] 167) = w1 := hW1.out.symm
  rw [hgw]
  clear hgw
  go_wp2
  go_region_law (first
    | (refine step_append_lies _ (by rfl) _ _ _ (by rfl) p.bs 101 i0 (.agg #[.int .i64 0, .slice none 0 0]) 2 32 Tryz.underlying23 hi hz0 hz1 hz2 rfl (by decide) (.slice A out.length c) out.length ys' (by rfl) (OA.out.alloc _) ⟨wa.heap.size, 0, none⟩ 1 1 [.int .i64 lv, .slice (some ⟨g, 0, none⟩) 2 cap] (by rfl) (by rfl) (World.news_of_block (cs := #[.int .i64 lv, .slice (some ⟨g, 0, none⟩) 2 cap]) (t := 101) (fr := (0, 0)) (heap_alloc_new wa _)) (by simp [Value.oneCell']) (by omega) (by unfold maxLen; omega) (by omega) (by simp; omega) (wa.heap.size + 1) (by simp) ?_; intro g6 c6 w6 hown6 hgrow6 hat6 hlt6; have hgr6 : (wa.alloc (.cells #[.int .i64 lv, .slice (some ⟨g, 0, none⟩) 2 cap] 101)).grownBy w6 (Value.slice A out.length c).ownBlock := ⟨hgrow6.os, hgrow6.tape, hgrow6.output, hgrow6.size, hgrow6.block⟩; have K6 := Lib.hid (show Blk w6 p.xo 25 _ from (hgr6.block p.xo (by simp; have := XA.out.lt; omega) (fun e => (HR3.out _ e.symm).2.1 rfl)).trans (XA.out.alloc _)); obtain ⟨z0, z1, z2, z3, z4, z5, z6⟩ := K6.out.three6; have PG := Lib.hid (PU.out g wa _ g6 c6 cap w6 (by obtain ⟨cur, _, _, _, _, _, _, hh⟩ := R6.out; have := hs15.out; have hh : w5.heap.size ≤ g := hh; omega) BA.out ((Below.refl _ _).alloc (Nat.le_refl _) _) (by obtain ⟨cur, hbl, _⟩ := R6.out; exact hbl.lt) R6.out.reads hown6 hgr6 (hat6.imp id (fun e => by simp; omega)) hlt6); clear hown6 hgr6 hgrow6 hat6 hlt6)
    | (go_simp; go_wp2_with (go_at_call 118; (with_reducible refine CL.out.mono ?_); rintro e wa ⟨g, cap, rfl, hrw, hb⟩; have R6 := Lib.hid hrw; have hba : Below w5.heap.size w5 wa := ((Below.refl _ w5).drew).trans hb; have BA := Lib.hid hba; have XA := Lib.hid (XH.out.below hba XL5); have OA := Lib.hid (own_below2 O5H.out hba); have hsa := hba.size; have hbsa : p.bs ≤ wa.heap.size := Nat.le_trans hbs hba.size; have y0 := (KH.out.below hba KH.out.lt).nine.1; have y2 := XA.out.three.2.2.1; have y4 := fun o => (XA.out.alloc o).three.2.2.1; clear hrw hb)))
  all_goals
    clear z0 z1 z2 z3 z4 z5 z6 y0 y2 y4 s0 s1 s2
    obtain ⟨T7, W7, F7⟩ := PG.out
    have W7 := Lib.hid W7
    have F7 := Lib.hid F7
    generalize w6.setCell ⟨p.xo, 2, none⟩ (.slice (some ⟨g6, 0, none⟩) (out.length + 1) c6) = w8 at W7 F7 ⊢
    go_wp2
    go_ret
    exact ⟨T7, _, rfl, W7.out, F1.out.trans F7.out, HOK.out⟩
end
end Go.Proofs.YtjekpmkghpjamaaGreatDoor
namespace Go.Proofs.YtjekpmkghpjamaaGreatDoor
open Go.RowKit
/-- the pairs that were met -/
def VOK (f : Nat → Int) (out : List (Int × List Int)) (M : Int × Int → Option Int) : Prop := ∀ x k, M x = some k → ∃ l s : Nat, x = ((l : Int), (s : Int)) ∧ 1 ≤ l ∧ Mn 2 out l (fun q => f (s + nm 2 q)) k
theorem VOK.pre {f : Nat → Int} {a b : List (Int × List Int)} {M : Int × Int → Option Int} (h : VOK f a M) (hb : Gd 2 3 b) (hp : Pre a b) (hga : Gd 2 3 a) : VOK f b M := fun x k hx => by
  obtain ⟨l, s, h1, h2, h3⟩ := h x k hx
  exact ⟨l, s, h1, h2, h3.pre hb hp hga⟩
/-- what a visit promises -/
def VisE (p : EP) (w : World) (T U : Nat → Prop) (out : List (Int × List Int)) (l s : Nat) (e : Ending) (w' : World) : Prop :=
  ∃ T' out' N' M' r, e = .returned (.int .i64 r) ∧ Tst p w' T' (fun k => U k ∨ T' k) out' N' M' ∧ Fr T w T' w' ∧ Gd 2 3 out' ∧ Pre out out' ∧ NOK out' N' ∧ VOK p.rb out' M' ∧ Mn 2 out' l (fun q => p.rb (s + nm 2 q)) r ∧ (∀ i, out.length ≤ i → i < out'.length → lvO out' i ≤ l) ∧ out'.length + 1 ≤ out.length + 2 ^ l
section
variable {p : EP} {w : World} {T U : Nat → Prop} {out : List (Int × List Int)} {N : Int × Int × Int → Option Int} {M : Int × Int → Option Int}
theorem result_any (s : Nat) (hs : s < 8) (h : EC p w) : Calls Tryz.prog 83 #[.int .i64 (s : Int), .pointer (some ⟨p.g8, 0, none⟩)] w fun e w' => e = .returned (.int .i64 (p.rb s)) ∧ w' = w := by
  have k := h.c8
  have hc : w.cell? ⟨p.g8, s, none⟩ = some (.int .i64 (p.rb s)) := by
    rw [k.cell]
    obtain rfl | rfl | rfl | rfl | rfl | rfl | rfl | rfl : s = 0 ∨ s = 1 ∨ s = 2 ∨ s = 3 ∨ s = 4 ∨ s = 5 ∨ s = 6 ∨ s = 7 := by omega
    all_goals rfl
  have hsI : (s : Int) < 8 := by omega
  clear k h
  go_enter Tryz.func83, Tryz.ntmps83
  go_wp2
  go_ret
  exact ⟨rfl, rfl⟩
theorem amount_any (l s : Nat) (hl : 1 ≤ l) (hl3 : l ≤ 3) (hs : s < 2) (h : EC p w) : Calls Tryz.prog 82 #[.int .i64 (3 - (l : Int)), .int .i64 (s : Int), .pointer (some ⟨p.gr, 0, none⟩)] w fun e w' => e = .returned (.int .i64 ((s * 2 ^ (l - 1) : Nat) : Int)) ∧ w' = w := by
  obtain ⟨k0, k1, k2⟩ := h.cG.one
  clear h
  obtain rfl | rfl : s = 0 ∨ s = 1 := by omega
  all_goals
    obtain rfl | rfl | rfl : l = 1 ∨ l = 2 ∨ l = 3 := by omega
    all_goals
      go_enter Tryz.func82, Tryz.ntmps82
      go_wp2
      go_ret
      exact ⟨rfl, rfl⟩
set_option maxRecDepth 100000 in
theorem vise_zero {s : Nat} (hs : s < 8) (h : Tst p w T U out N M) (hg : Gd 2 3 out) (hn : NOK out N) (hm : VOK p.rb out M) :
    Calls Tryz.prog 119 #[.int .i64 0, .int .i64 (s : Int), .pointer (some ⟨p.xR, 0, none⟩), .pointer (some ⟨p.xV, 0, none⟩), .pointer (some ⟨p.xS, 0, none⟩), .pointer (some ⟨p.xF, 0, none⟩), .pointer (some ⟨p.xM, 0, none⟩), .pointer (some ⟨p.xL, 0, none⟩), .pointer (some ⟨p.xA, 0, none⟩)] w (VisE p w T U out 0 s) := by
  have H := Lib.hid h
  have HG := Lib.hid hg
  have HN := Lib.hid hn
  have HM := Lib.hid hm
  have RE := Lib.hid (result_any s hs h.c)
  obtain ⟨k0, k1, k2⟩ := h.c.cR.one
  unfold fnResult at k0
  have hrb : 0 ≤ p.rb s ∧ p.rb s < 2 := by
    exact h.c.hb s hs
  have HRB := Lib.hid hrb
  clear h hg hn hm hrb
  go_enter Tryz.func119, Tryz.ntmps119
  go_wp2_with ((with_reducible refine RE.out.mono ?_); rintro e w1 ⟨rfl, rfl⟩)
  go_ret
  exact ⟨T, out, N, M, p.rb s, rfl, H.out.here, Fr.refl _ _, HG.out, Pre.refl _, HN.out, HM.out, ⟨⟨HRB.out.1, fun _ => HRB.out.2, fun h => absurd h (by omega)⟩, fun q hq _ => by
    have : q = [] := List.length_eq_zero_iff.1 hq
    subst this
    rfl⟩, fun i h1 h2 => absurd h2 (by omega), by simp⟩
set_option maxRecDepth 100000 in
theorem vise_found {s l : Nat} {i : Int} (hl : 1 ≤ l) (hl2 : l ≤ 3) (hs : s < 8) (h : Tst p w T U out N M) (hg : Gd 2 3 out) (hn : NOK out N) (hm : VOK p.rb out M) (hf : M ((l : Int), (s : Int)) = some i) :
    Calls Tryz.prog 119 #[.int .i64 (l : Int), .int .i64 (s : Int), .pointer (some ⟨p.xR, 0, none⟩), .pointer (some ⟨p.xV, 0, none⟩), .pointer (some ⟨p.xS, 0, none⟩), .pointer (some ⟨p.xF, 0, none⟩), .pointer (some ⟨p.xM, 0, none⟩), .pointer (some ⟨p.xL, 0, none⟩), .pointer (some ⟨p.xA, 0, none⟩)] w (VisE p w T U out l s) := by
  have H := Lib.hid h
  have HG := Lib.hid hg
  have HN := Lib.hid hn
  have HM := Lib.hid hm
  have lk := pair_look h.mpV (x := ((l : Int), (s : Int))) ⟨by simp only; omega, by simp only; omega⟩ ⟨by simp only; omega, by simp only; omega⟩
  rw [hf] at lk
  simp only [parV] at lk
  obtain ⟨k0, k1, k2⟩ := h.c.cV.one
  have HI := Lib.hid (show Mn 2 out l (fun q => p.rb (s + nm 2 q)) i by
    obtain ⟨l', s', h1, h2, h3⟩ := hm _ _ hf
    simp only [Prod.mk.injEq] at h1
    obtain rfl : l = l' := by omega
    obtain rfl : s = s' := by omega
    exact h3)
  clear h hg hn hm hf
  go_enter Tryz.func119, Tryz.ntmps119
  go_wp2
  go_ret
  exact ⟨T, out, N, M, i, rfl, H.out.here, Fr.refl _ _, HG.out, Pre.refl _, HN.out, HM.out, HI.out, fun i h1 h2 => absurd h2 (by omega), by have := Nat.pow_pos (n := l) (show 0 < 2 by omega); omega⟩
end
end Go.Proofs.YtjekpmkghpjamaaGreatDoor
