/- The walk of nodesOf$1: a text that is new. -/
/- The new state is a state; it depends on the numbers of states only, if positions may be exchanged. -/
import Derived.Test.YtcgkkppidkkjiaaGreatDoorMaa
import Derived.Test.YtcgkkppidkkjiaaGreatDoorMac
import Derived.Test.YtcgkkppidkkjiaaGreatDoorMab
import Derived.Test.YtcgkkppidkkjiaaGreatDoorMax
import Derived.Test.YtcgkkppidkkjiaaGreatDoorMaf
import Derived.Test.YtcgkkppidkkjiaaGreatDoorMan
import Derived.Test.YtcgkkppidkkjiaaGreatDoorMaj
import Derived.Test.YtcgkkppidkkjiaaGreatDoorMao
import Derived.Below
import Derived.BigQuiet
import Derived.Deep.AppendLies
import Derived.Deep.CutRange
import Derived.Deep.Draws
import Derived.Deep.OwnRows
import Derived.Deep.QuietTactic
import Derived.DeepKeys4
import Derived.IntWalk
import Derived.Laws.BitsLemmas
import Derived.Laws.OwnMore
import Derived.Laws.Rows
import Derived.Lib.Hide
import Derived.Lib.SliceRun
import Derived.LoopIn
import Derived.LoopN
import Derived.LoopNIn
import Derived.Maps.AppendAt
import Derived.Maps.OwnOps
import Derived.OpenShut
import Derived.OwnWalk
import Derived.OwnWalkIn
import Derived.RangeFuncBound
import Derived.RangeFuncCalls
import Derived.RangeFuncLeaves
import Derived.RangeFuncNested
import Derived.Shelf.Abstract
import Derived.Shelf.RegionOpen
import Derived.Shelf.SlIterI.Sorted
import Derived.Shelf.SlLaysF0
import Derived.Shelf.Slices.Clone
import Derived.Shelf.Slices.Delete
import Derived.Shelf.Sort.Plain
import Derived.Shelf.Spec.SlicesInsert
import Derived.Sort.Grow
import Derived.Sort.OwnSortedInts
import Derived.Sort.Statements
import Derived.StillTail
import Derived.StillTailTactics
import Derived.StringKeys
import Derived.TacticsInMore
import Derived.Test.YtcgkkppidkkjiaaGreatDoorRows
import Derived.WalkKit
import Derived.Test.YtcgkkppidkkjiaaGreatDoorMar
import Derived.Test.YtcgkkppidkkjiaaGreatDoorMap
import Derived.Test.YtcgkkppidkkjiaaGreatDoorMal
import Derived.Test.YtcgkkppidkkjiaaGreatDoorMaz
import Derived.Test.YtcgkkppidkkjiaaGreatDoorMad
import Derived.Test.YtcgkkppidkkjiaaGreatDoorMam
import Derived.Test.YtcgkkppidkkjiaaGreatDoorMak
import Derived.Test.YtcgkkppidkkjiaaGreatDoorMai
import Derived.Deep.RegionHeld3
import Derived.Deep.RegionHeldLaw
import Derived.Deep.RegionLaw
import Derived.DeepKeys
namespace Go.Proofs.YtcgkkppidkkjiaaGreatDoor
open Go.RowKit
theorem byt_step {S l j : Nat} {rest : ByteArray} (hj : j < S) (hr : rest.size = S ^ (l + 1)) {p : List Int} (hp : p.length = l) (hs : Sts S p) : byt (rest.extract (j * S ^ l) ((j + 1) * S ^ l)) (nm S p) = byt rest (nm S ((j : Int) :: p)) := by
  have h1 := nm_lt hs
  rw [hp] at h1
  have h2 : (j + 1) * S ^ l ≤ rest.size := by
    rw [hr, Nat.pow_succ, Nat.mul_comm (S ^ l) S]
    exact Nat.mul_le_mul_right _ hj
  have h3 : (j + 1) * S ^ l = j * S ^ l + S ^ l := by rw [Nat.add_mul, Nat.one_mul]
  rw [byt_ext rest h2 (by omega), nm, hp, Int.toNat_natCast]
set_option maxRecDepth 100000 in
set_option maxHeartbeats 4000000 in
theorem vis_go {S L xm xs xv xn mb bs l lv : Nat} {gV : FuncId} {w : World} {T U : Nat → Prop} {out : List (Int × List Int)} {M : ByteArray → Option Int} {rest : ByteArray}
    (hlv : lv = l + 1) (hL : lv ≤ L) (hL2 : L ≤ 1000) (hs1 : 2 ≤ S) (hs2 : S ≤ 8) (hz : rest.size = S ^ lv) (hz2 : S ^ lv ≤ 65536)
    (egV : ∀ args w, (callFunc gV args).run Tryz.prog w = .ok (.enter gV args) w)
    (IH : ∀ (x : ByteArray) (w : World) (T U : Nat → Prop) (out : List (Int × List Int)) (M : ByteArray → Option Int), x.size = S ^ l → (∀ k, k < x.size → byt x k < S) → out.length + 2 * S ^ l ≤ 1000000 →
      Wst S xm xs xv xn mb bs (.func (.func gV) #[] #[.pointer (some ⟨xm, 0, none⟩), .pointer (some ⟨xs, 0, none⟩), .pointer (some ⟨xv, 0, none⟩), .pointer (some ⟨xn, 0, none⟩)]) w T U out M → Gd S L out → MOK S L out M →
      Calls Tryz.prog gV #[.int .i64 (l : Int), .string x, .pointer (some ⟨xm, 0, none⟩), .pointer (some ⟨xs, 0, none⟩), .pointer (some ⟨xv, 0, none⟩), .pointer (some ⟨xn, 0, none⟩)] w (VisOut S L xm xs xv xn mb bs (.func (.func gV) #[] #[.pointer (some ⟨xm, 0, none⟩), .pointer (some ⟨xs, 0, none⟩), .pointer (some ⟨xv, 0, none⟩), .pointer (some ⟨xn, 0, none⟩)]) w T U out l x))
    (h : Wst S xm xs xv xn mb bs (.func (.func gV) #[] #[.pointer (some ⟨xm, 0, none⟩), .pointer (some ⟨xs, 0, none⟩), .pointer (some ⟨xv, 0, none⟩), .pointer (some ⟨xn, 0, none⟩)]) w T U out M) (hg : Gd S L out) (hm : MOK S L out M) (hf : M rest = none) (hbt : ∀ k, k < rest.size → byt rest k < S) (hcap : out.length + 2 * S ^ lv ≤ 1000000) :
    Calls Tryz.prog 70 #[.int .i64 (lv : Int), .string rest, .pointer (some ⟨xm, 0, none⟩), .pointer (some ⟨xs, 0, none⟩), .pointer (some ⟨xv, 0, none⟩), .pointer (some ⟨xn, 0, none⟩)] w fun e w' =>
      ∃ T' out' M', e = .returned (.int .i64 ((out'.length : Int) - 1)) ∧ 1 ≤ out'.length ∧ Wst S xm xs xv xn mb bs (.func (.func gV) #[] #[.pointer (some ⟨xm, 0, none⟩), .pointer (some ⟨xs, 0, none⟩), .pointer (some ⟨xv, 0, none⟩), .pointer (some ⟨xn, 0, none⟩)]) w' T' (fun k => U k ∨ T' k) out' M' ∧ Fr T w T' w' ∧ Gd S L out' ∧ Pre out out' ∧ MOK S L out' M' ∧ Mn S out' lv (fun p => byt rest (nm S p)) ((out'.length : Int) - 1) ∧ out'.length + 1 ≤ out.length + 2 * S ^ lv := by
  obtain ⟨vv, hvv⟩ : ∃ v, v = Value.func (.func gV) #[] #[.pointer (some ⟨xm, 0, none⟩), .pointer (some ⟨xs, 0, none⟩), .pointer (some ⟨xv, 0, none⟩), .pointer (some ⟨xn, 0, none⟩)] := ⟨_, rfl⟩
  rw [← hvv] at IH h ⊢
  subst hlv
  have lk := str_look h.map (s := rest) (by omega) true
  rw [hf] at lk
  simp only [if_true] at lk
  obtain ⟨f0, f1, f2⟩ := h.cm.one
  obtain ⟨p0, p1, p2⟩ := h.cs.one
  have mz := mk_zs hs1 hs2 w
  obtain ⟨q, hq⟩ : ∃ q, q = S ^ l := ⟨_, rfl⟩
  have hzq : rest.size = q * S := by rw [hz, Nat.pow_succ, hq]
  have hqq : q * S ≤ 65536 := by rw [hq, ← Nat.pow_succ]; exact hz2
  have hS0 : ¬ S = 0 := by omega
  have hS1 : ((S : Int) == 0) = false := by rw [beq_eq_false_iff_ne]; omega
  have hszI : (rest.size : Int) = (q : Int) * (S : Int) := by rw [hzq]; simp
  have dv1 : Int.tdiv (rest.size : Int) (S : Int) = (q : Int) := by rw [hszI, Int.mul_tdiv_cancel _ (by omega)]
  have dv2 : (rest.size : Int) / (S : Int) = (q : Int) := by rw [hszI, Int.mul_ediv_cancel _ (by omega)]
  have hqS : q ≤ 65536 := Nat.le_trans (Nat.le_mul_of_pos_right q (by omega)) hqq
  have HH := Lib.hid h
  have HG := Lib.hid hg
  have HM := Lib.hid hm
  have HBT := Lib.hid hbt
  have IHH := Lib.hid IH
  have HQ := Lib.hid hq
  have HZ := Lib.hid hz
  have HZ2 := Lib.hid hz2
  have HCAP := Lib.hid hcap
  have HVV := Lib.hid hvv
  have HU := Lib.hid h.uL
  have HTU := Lib.hid h.tU
  have hl1 : IntKind.i64.wrap (((l + 1 : Nat) : Int) - 1) = (l : Int) := by rw [IntWalk.i64_in _ ⟨by omega, by omega⟩]; omega
  have hl2 : ((l + 1 : Nat) : Int) - 1 = (l : Int) := by omega
  have hl3 : (((l + 1 : Nat) : Int) == 0) = false := by rw [beq_eq_false_iff_ne]; omega
  have hl4 : IntKind.i64.wrap (l : Int) = (l : Int) := IntWalk.i64_in _ ⟨by omega, by omega⟩
  have qI : (q : Int) ≤ 65536 := by omega
  generalize hlv : l + 1 = lv at *
  have HLV := Lib.hid hlv
  have hlvI : (lv : Int) ≤ 1000 := by omega
  have hlv1 : 1 ≤ lv := by omega
  clear h hg hm hbt IH hq hz hz2 hcap hzq hszI hf hlv hvv hqq
  go_enter Tryz.func70, Tryz.ntmps70
  go_wp2
  have F0 : Fr (fun _ => False) w (fun _ => False) ((w.alloc (.cells (zs S) 3)).alloc (.cells #[.int .i64 (lv : Int), .slice (some ⟨w.heap.size, 0, none⟩) S S] 66)) := (Fr.alloc _ w _).trans (Fr.alloc _ _ _)
  have FT : Fr T w T ((w.alloc (.cells (zs S) 3)).alloc (.cells #[.int .i64 (lv : Int), .slice (some ⟨w.heap.size, 0, none⟩) S S] 66)) := (Fr.alloc _ w _).trans (Fr.alloc _ _ _)
  have KZ0 : Blk ((w.alloc (.cells (zs S) 3)).alloc (.cells #[.int .i64 (lv : Int), .slice (some ⟨w.heap.size, 0, none⟩) S S] 66)) w.heap.size 3 (zs S) := (Blk.new w _ _).alloc _
  have KN0 : Blk ((w.alloc (.cells (zs S) 3)).alloc (.cells #[.int .i64 (lv : Int), .slice (some ⟨w.heap.size, 0, none⟩) S S] 66)) (w.heap.size + 1) 66 #[.int .i64 (lv : Int), .slice (some ⟨w.heap.size, 0, none⟩) S S] := by
    have := Blk.new (w.alloc (.cells (zs S) 3)) 66 #[.int .i64 (lv : Int), .slice (some ⟨w.heap.size, 0, none⟩) S S]
    rwa [World.size_alloc] at this
  have W0 := HH.out.keep F0 (fun _ _ h => h) ⟨id, id, id⟩ (fun _ h => h.elim) (fun k => U k ∨ k = w.heap.size ∨ k = w.heap.size + 1) (fun k hk => .inl hk) (fun k hk => hk.elim .inl (fun e => .inr (by omega))) (fun k hk => by
    rcases hk with hk | hk
    · have := HU.out k hk; simp; omega
    · simp; omega)
  have W0 := Lib.hid (W0.wide (U' := fun k => (U k ∨ k = w.heap.size ∨ k = w.heap.size + 1) ∨ T k) (fun k hk => .inr hk) (fun k hk => hk.elim id (fun h => .inl (HTU.out k h))))
  have FT := Lib.hid FT
  have KZ0 := Lib.hid KZ0
  have KN0 := Lib.hid KN0
  have hT0 := Lib.hid (show ¬ T w.heap.size ∧ ¬ T (w.heap.size + 1) from ⟨fun h => by have := HU.out _ (HTU.out _ h); omega, fun h => by have := HU.out _ (HTU.out _ h); omega⟩)
  clear F0 lk f0 f1 f2 p0 p1 p2 mz dv1 dv2
  go_loopw [38] (fun jv wr => ∃ (j : Nat) (ys : List Int) (Tj : Nat → Prop) (outj : List (Int × List Int)) (Mj : ByteArray → Option Int), j ≤ S ∧ jv = .int .i64 (j : Int) ∧ Hid (ys.length = j) ∧ Hid (Wst S xm xs xv xn mb bs vv wr Tj (fun k => (U k ∨ k = w.heap.size ∨ k = w.heap.size + 1) ∨ Tj k) outj Mj) ∧ Hid (Fr T w Tj wr) ∧ Hid (¬ Tj w.heap.size ∧ ¬ Tj (w.heap.size + 1)) ∧
    Hid (Blk wr w.heap.size 3 (il (ys ++ List.replicate (S - ys.length) 0)).toArray) ∧ Hid (Blk wr (w.heap.size + 1) 66 #[.int .i64 (lv : Int), .slice (some ⟨w.heap.size, 0, none⟩) S S]) ∧ Hid (Gd S L outj) ∧ Hid (Pre out outj) ∧ Hid (MOK S L outj Mj) ∧ Hid (∀ s, s < j → Mn S outj l (fun p => byt rest (nm S ((s : Int) :: p))) (ig ys s)) ∧ Hid (outj.length + j ≤ out.length + j * (2 * S ^ l))) (fun jv _ => S - (intOf jv).toNat)
  case atStart => exact ⟨0, [], T, out, M, Nat.zero_le _, rfl, Lib.hid rfl, W0, FT, hT0, KZ0, KN0, HG, Lib.hid (Pre.refl _), HM, Lib.hid (fun s hs => absurd hs (by omega)), Lib.hid (by simp)⟩
  case round =>
    obtain ⟨j, ys, Tj, outj, Mj, hj, rfl, HYL, HW, HF, HT, HKZ, HKN, HGj, HPj, HMj, HMn, HCj⟩ := hrel
    have hzl : w.heap.size < wr.heap.size := HKZ.out.lt
    have hnl : w.heap.size + 1 < wr.heap.size := HKN.out.lt
    by_cases hjn : j < S
    · have d1 : decide ((j : Int) < (S : Int)) = true := by rw [decide_eq_true_iff]; omega
      obtain ⟨a, ha⟩ : ∃ a, a = j * q := ⟨_, rfl⟩
      obtain ⟨b, hb⟩ : ∃ b, b = (j + 1) * q := ⟨_, rfl⟩
      have hab : b = a + q := by rw [hb, ha, Nat.add_mul, Nat.one_mul]
      have hbr : b ≤ rest.size := by
        rw [hb, HZ.out, ← HLV.out, Nat.pow_succ, ← HQ.out, Nat.mul_comm q S]
        exact Nat.mul_le_mul_right _ hjn
      have hr6 : rest.size ≤ 65536 := by rw [HZ.out]; exact HZ2.out
      have e1 : IntKind.i64.wrap ((j : Int) * (q : Int)) = (a : Int) := by
        rw [show (j : Int) * (q : Int) = (a : Int) by rw [ha]; simp]
        exact IntWalk.i64_in _ ⟨by omega, by omega⟩
      have e2 : IntKind.i64.wrap (((j : Int) + 1) * (q : Int)) = (b : Int) := by
        rw [show ((j : Int) + 1) * (q : Int) = (b : Int) by rw [hb]; simp]
        exact IntWalk.i64_in _ ⟨by omega, by omega⟩
      have e3 : IntKind.i64.wrap ((j : Int) + 1) = (j : Int) + 1 := IntWalk.i64_in _ ⟨by omega, by omega⟩
      have haI : (a : Int) ≤ (b : Int) := by omega
      have hbI : (b : Int) ≤ (rest.size : Int) := by omega
      have haN : a ≤ b := by omega
      have i0 : (0 : Int) ≤ (j : Int) := by omega
      have i2 : (j : Int) < (S : Int) := by omega
      have hwd := HW.out.below ((Below.refl wr.heap.size wr).drew)
      have hxs : (rest.extract a b).size = S ^ l := by rw [ext_size rest hbr, ← HQ.out]; omega
      have hxb : ∀ k, k < (rest.extract a b).size → byt (rest.extract a b) k < S := fun k hk => by
        rw [ext_size rest hbr] at hk
        rw [byt_ext rest hbr (by omega)]
        exact HBT.out _ (by omega)
      have hcp : outj.length + 2 * S ^ l ≤ 1000000 := by
        have h1 := HCj.out
        have h2 := HCAP.out
        have h3 : (j + 1) * (2 * S ^ l) ≤ S * (2 * S ^ l) := Nat.mul_le_mul_right _ hjn
        have h4 : S * (2 * S ^ l) = 2 * S ^ lv := by rw [← HLV.out, Nat.pow_succ, Nat.mul_comm (S ^ l) S, Nat.mul_left_comm]
        rw [h4] at h3
        rw [Nat.add_mul, Nat.one_mul] at h3
        omega
      have CC := Lib.hid (IHH.out (rest.extract a b) _ _ _ _ _ hxs hxb hcp hwd HGj.out HMj.out)
      have HAB := Lib.hid (show a = j * S ^ l ∧ b = (j + 1) * S ^ l by rw [← HQ.out]; exact ⟨ha, hb⟩)
      obtain ⟨v0, v1, v2⟩ := HW.out.cv.one
      have hvf := HVV.out
      rw [hvf] at v0
      have n1 : wr.cell? ⟨w.heap.size + 1, 1, none⟩ = some (.slice (some ⟨w.heap.size, 0, none⟩) S S) := by rw [HKN.out.cell]; rfl
      clear ha hb hab hwd hxs hxb hcp hvf
      go_wp2
      go_region_with ((with_reducible refine (CC.out).mono ?_); rintro e w4 ⟨T4, out4, M4, y, rfl, hW4, hF4, hG4, hP4, hM4, hMn4, hC4⟩; have W4 := Lib.hid hW4; have F4 := Lib.hid hF4; have G4 := Lib.hid hG4; have P4 := Lib.hid hP4; have M4H := Lib.hid hM4; have MN4 := Lib.hid hMn4; have C4 := Lib.hid hC4; have KZ4 := Lib.hid (F4.out.blk (show Blk wr.drew _ _ _ from HKZ.out) HT.out.1); have KN4 := Lib.hid (F4.out.blk (show Blk wr.drew _ _ _ from HKN.out) HT.out.2); have n4 : w4.cell? ⟨w.heap.size + 1, 1, none⟩ = some (.slice (some ⟨w.heap.size, 0, none⟩) S S) := (by rw [KN4.out.cell]; rfl); have z0 := KZ4.out.cell j; have z1 := KZ4.out.frozen j; rw [il_get0 (by have := HYL.out; simp; omega)] at z0; clear hW4 hF4 hG4 hP4 hM4 hMn4 hC4)
      all_goals
        have hw4l : wr.heap.size ≤ w4.heap.size := F4.out.size
        have hN := Lib.hid F4.out.new
        have t41 : ¬ T4 w.heap.size := fun h => (hN.out _ h).elim HT.out.1 (fun h' => by have h' : wr.heap.size ≤ w.heap.size := h'; omega)
        have t42 : ¬ T4 (w.heap.size + 1) := fun h => (hN.out _ h).elim HT.out.2 (fun h' => by have h' : wr.heap.size ≤ w.heap.size + 1 := h'; omega)
        have W5 := Lib.hid ((W4.out.wide (U' := fun k => (U k ∨ k = w.heap.size ∨ k = w.heap.size + 1) ∨ T4 k) (fun k hk => .inr hk) (fun k hk => hk.elim (fun h => .inl (.inl h)) .inr)).keep (Fr.set_ (G := fun k => k = w.heap.size) w4 (p := ⟨w.heap.size, j, none⟩) (.int .i64 y) rfl) (fun k hk e => t41 (e ▸ hk)) ⟨fun e => by have h1 := HH.out.cm.lt; have : xm = w.heap.size := e; omega, fun e => by have h1 := HH.out.cs.lt; have : xs = w.heap.size := e; omega, fun e => by have h1 := HH.out.cv.lt; have : xv = w.heap.size := e; omega⟩ (fun k e => .inl (.inr (.inl e))) _ (fun k hk => hk) (fun k hk => .inl hk) (fun k hk => by
          have : k < w4.heap.size := by
            rcases hk with hk | hk
            · exact W4.out.uL k (.inl (.inl hk))
            · exact W4.out.uL k (.inr hk)
          simpa [World.setCell] using this))
        have F5 := Lib.hid ((HF.out.trans (show Fr Tj wr T4 w4 from ⟨F4.out.os, F4.out.tape, F4.out.output, F4.out.size, F4.out.block, F4.out.new⟩)).set_new (p := ⟨w.heap.size, j, none⟩) (Nat.le_refl _) (.int .i64 y))
        have KZ5 := KZ4.out.set_ j (.int .i64 y)
        have hy2 := HYL.out
        rw [← hy2, zs_step (by omega), hy2] at KZ5
        have KZ5 := Lib.hid KZ5
        have KN5 := Lib.hid (KN4.out.far (p := ⟨w.heap.size, j, none⟩) (by show w.heap.size + 1 ≠ w.heap.size; omega) (.int .i64 y))
        have MN5 := Lib.hid (show ∀ s, s < j + 1 → Mn S out4 l (fun p => byt rest (nm S ((s : Int) :: p))) (ig (ys ++ [y]) s) from fun s hs => by
          by_cases e : s < j
          · have : ig (ys ++ [y]) s = ig ys s := by simp [ig, List.getElem?_append_left (show s < ys.length by omega)]
            rw [this]
            exact (HMn.out s e).pre G4.out P4.out HGj.out
          · obtain rfl : s = j := by omega
            have : ig (ys ++ [y]) s = y := by rw [← hy2]; simp [ig]
            rw [this]
            have hab := HAB.out
            refine MN4.out.congr (fun p hp hs => ?_)
            rw [hab.1, hab.2]
            exact byt_step hjn (by rw [HZ.out, HLV.out]) hp hs)
        have C5 := Lib.hid (show out4.length + (j + 1) ≤ out.length + (j + 1) * (2 * S ^ l) by
          have h1 := C4.out
          have h2 := HCj.out
          rw [Nat.add_mul, Nat.one_mul]
          omega)
        have P5 := Lib.hid (HPj.out.trans P4.out)
        clear z0 z1 hy2 hN n1 n4 v0 v1 v2
        generalize w4.setCell ⟨w.heap.size, j, none⟩ (.int .i64 y) = w5 at W5 F5 KZ5 KN5 ⊢
        go_wp2
        go_roundw
        case rel => exact ⟨j + 1, ys ++ [y], T4, out4, M4, by omega, by go_num, Lib.hid (by simp [HYL.out]), W5, F5, Lib.hid ⟨t41, t42⟩, KZ5, KN5, G4, P5, M4H, MN5, C5⟩
        case measure => simp [intOf]; omega
    · obtain rfl : j = S := by omega
      have d1 : decide ((j : Int) < (j : Int)) = false := by rw [decide_eq_false_iff_not]; omega
      have kz := HKZ.out
      rw [HYL.out, Nat.sub_self, List.replicate_zero, List.append_nil] at kz
      have hw := HW.out
      obtain ⟨Ar, cr, xr, r3, r4, r5, r6⟩ := hw.rest
      have hrs : rest.size ≤ 1000000 := by have := HZ.out; have := HZ2.out; omega
      obtain ⟨w5, hr5, hm5, hs5, hf5⟩ := MapOf.store (t := 114) hw.map Tryz.keyStr Tryz.underlying114 (outj.length : Int) (key_str hrs) (fun y _ _ e => strV_inj e)
      have hX : Reads wr wr.heap.size (some ⟨w.heap.size, 0, none⟩) ys.length (il ys) := by
        refine ⟨by simp [il], fun _ => ⟨_, rfl, hzl, fun i u hi => ?_⟩⟩
        have : (⟨w.heap.size, 0, none⟩ : Addr).add i = ⟨w.heap.size, i, none⟩ := by
          unfold Addr.add
          split
          · next h => subst h; rfl
          · simp
        rw [this, kz.cell, ← hi]
        simp
      obtain ⟨xs7, ho5, PUSH⟩ := hw.push (l := (lv : Int)) (X := ys) (gz := w.heap.size) (U' := fun k => U k ∨ Tj k) (fun k hk => .inr hk) (fun k hk => hk.elim (fun h => .inl (.inl h)) .inr) hX (fun h => h.elim (fun h => by have := HU.out _ h; omega) HT.out.1) hzl hm5 hf5 hs5 r3
      obtain ⟨g0, g1, g2⟩ := hw.cm.one
      obtain ⟨n0, n1, n2⟩ := r3.one
      have hmn : mb ≠ xn := fun e => by
        obtain ⟨es, clock, hb, _⟩ := hw.map
        rw [e, r3] at hb
        cases hb
      have hmm : w.heap.size + 1 ≠ mb := fun e => HT.out.2 (by rw [e]; exact hw.tm)
      have KN5 := Lib.hid (hf5.blk r3 (Ne.symm hmn))
      obtain ⟨n50, n51, n52⟩ := KN5.out.one
      have KD5 := Lib.hid (hf5.blk HKN.out hmm)
      have kd0 : w5.cell? ⟨w.heap.size + 1, 0, none⟩ = some (.int .i64 (lv : Int)) := by rw [KD5.out.cell]; rfl
      have kd1 : w5.cell? ⟨w.heap.size + 1, 1, none⟩ = some (.slice (some ⟨w.heap.size, 0, none⟩) j j) := by rw [KD5.out.cell]; rfl
      have PU := Lib.hid PUSH
      have O5 := Lib.hid ho5
      obtain ⟨i0, ji, jz0, jz1, jz2⟩ := info_parts Tryz.info_node
      have hrow5 : ∀ g, (Value.slice Ar outj.length cr).ownBlock = some g → g ≠ xn := fun g hg => (r5 g hg).2.1
      have HR5 := Lib.hid hrow5
      have hnl5 : xn < w5.heap.size := KN5.out.lt
      have hb5 : bs ≤ w5.heap.size := by rw [hs5]; exact hw.bL
      have HS5 := Lib.hid hs5
      have hol : outj.length ≤ 1000000 := by
        have h1 := HCj.out
        have h2 := HCAP.out
        have h4 : j * (2 * j ^ l) = 2 * j ^ lv := by rw [← HLV.out, Nat.pow_succ, Nat.mul_comm (j ^ l) j, Nat.mul_left_comm]
        omega
      clear hs5 hX PUSH ho5 kz r3 r4 r5 r6 hm5 hf5 hw hrow5
      go_wp2_with (first
        | (at_builtin; refine wpList_append2L rfl _ _ 30 rfl bs 66 i0 (.agg #[.int .i64 0, .slice none 0 0]) 32 Tryz.underlying30 ji jz0 jz1 jz2 rfl Ar outj.length cr xs7 rfl O5.out (.int .i64 (lv : Int)) (.slice (some ⟨w.heap.size, 0, none⟩) j j) rfl rfl rfl (by unfold maxLen; omega) (by omega) hb5 ?_; intro g6 c6 w6 hown6 hbel6 hgr6 hat6; have K6 := Lib.hid (show Blk w6 xn 30 _ from (hgr6.block xn (by simp; omega) (fun e => HR5.out _ e.symm rfl)).trans (KN5.out.alloc _)); obtain ⟨q60, q61, q62⟩ := K6.out.one; obtain ⟨T7, W7, F7⟩ := PU.out _ g6 c6 j w6 (by rw [HYL.out]; exact hown6) hgr6 hat6 (hown6.lt g6 rfl).2; have lk7 := str_look W7.map hrs false; rw [if_pos rfl] at lk7; simp only [Bool.false_eq_true, if_false] at lk7; obtain ⟨q70, q71, q72⟩ := W7.cm.one; have HW7 := Lib.hid W7; have HF7 := Lib.hid F7; clear W7 F7 hown6 hbel6 hgr6 hat6))
      go_ret
      have hL' : l + 1 ≤ L := by have := HLV.out; omega
      have hG7 := Gd.push (l := l) (ys := ys) HGj.out hL' HYL.out (fun s hs => (HMn.out s hs).1)
      have hN7 := Mn.push (l := l) (ys := ys) (f := fun p => byt rest (nm j p)) HGj.out hL' HYL.out HMn.out
      rw [HLV.out] at hG7 hN7
      have e7 : (((outj ++ [((lv : Int), ys)]).length : Nat) : Int) - 1 = (outj.length : Int) := by simp
      refine ⟨T7, outj ++ [((lv : Int), ys)], _, by rw [e7]; rfl, by simp, HW7.out.wide (fun k hk => .inr hk) (fun k hk => hk.elim (fun h => .inl (.inl h)) .inr), HF.out.trans HF7.out, hG7, HPj.out.trans (Pre.push _ _), ?_, by rw [e7]; exact hN7, ?_⟩
      · intro x k hx
        have hx : (if x = rest then some (outj.length : Int) else Mj x) = some k := hx
        by_cases e : x = rest
        · rw [if_pos e] at hx
          injection hx with hx
          subst hx e
          exact ⟨lv, hlv1, HZ.out, hN7⟩
        · rw [if_neg e] at hx
          obtain ⟨l', h1, h2, h3⟩ := HMj.out x k hx
          exact ⟨l', h1, h2, h3.app HGj.out⟩
      · have h1 := HCj.out
        have h4 : j * (2 * j ^ l) = 2 * j ^ lv := by rw [← HLV.out, Nat.pow_succ, Nat.mul_comm (j ^ l) j, Nat.mul_left_comm]
        simp only [List.length_append, List.length_singleton]
        omega
/-- nodesOf$1 at every level -/
theorem vis_any {S L xm xs xv xn mb bs : Nat} (hL2 : L ≤ 1000) (hs1 : 2 ≤ S) (hs2 : S ≤ 8) : ∀ (l : Nat) (rest : ByteArray) (w : World) (T U : Nat → Prop) (out : List (Int × List Int)) (M : ByteArray → Option Int), l ≤ L → S ^ l ≤ 65536 → rest.size = S ^ l → (∀ k, k < rest.size → byt rest k < S) → out.length + 2 * S ^ l ≤ 1000000 →
      Wst S xm xs xv xn mb bs (.func (.func 70) #[] #[.pointer (some ⟨xm, 0, none⟩), .pointer (some ⟨xs, 0, none⟩), .pointer (some ⟨xv, 0, none⟩), .pointer (some ⟨xn, 0, none⟩)]) w T U out M → Gd S L out → MOK S L out M →
      Calls Tryz.prog 70 #[.int .i64 (l : Int), .string rest, .pointer (some ⟨xm, 0, none⟩), .pointer (some ⟨xs, 0, none⟩), .pointer (some ⟨xv, 0, none⟩), .pointer (some ⟨xn, 0, none⟩)] w (VisOut S L xm xs xv xn mb bs (.func (.func 70) #[] #[.pointer (some ⟨xm, 0, none⟩), .pointer (some ⟨xs, 0, none⟩), .pointer (some ⟨xv, 0, none⟩), .pointer (some ⟨xn, 0, none⟩)]) w T U out l rest)
  | 0, rest, w, T, U, out, M, _, _, hz, hb, _, h, hg, hm => vis_zero (by omega) (by rw [hz]; rfl) (hb 0 (by rw [hz]; simp)) h hg hm
  | l + 1, rest, w, T, U, out, M, hl, hp, hz, hb, hc, h, hg, hm => by
    cases hf : M rest with
    | some i => exact vis_found hs1 (by omega) (by omega) hz hp h hg hm hf
    | none =>
      refine (vis_go rfl hl hL2 hs1 hs2 hz hp (enters_of Tryz.func70 (by kernel_rfl) rfl) (fun x w T U out M h1 h2 h3 h4 h5 h6 => vis_any hL2 hs1 hs2 l x w T U out M (by omega) (Nat.le_trans (Nat.pow_le_pow_right (by omega) (by omega)) hp) h1 h2 h3 h4 h5 h6) h hg hm hf hb hc).mono ?_
      rintro e w' ⟨T', out', M', h1, _, h2⟩
      exact ⟨T', out', M', _, h1, h2⟩
end Go.Proofs.YtcgkkppidkkjiaaGreatDoor
namespace Go.Proofs.YtcgkkppidkkjiaaGreatDoor
open Go.RowKit
theorem ch_st {v : Nat → List Int} {nv : Nat} {st : Int} (hv : Vd v nv st) (hs : st ≤ 8) (l : List Int) (ce sc : Int) {e : Int} (h1 : -(nv : Int) ≤ e) (h2 : e < st) (k : Nat) (hk : k < (ch v l e ce sc).length) : 0 ≤ ig (ch v l e ce sc) k ∧ ig (ch v l e ce sc) k < st := by
  exact (ch_bd hv hs l ce sc h1 h2).2 _ (ig_mem hk)
/-- the new state is a state -/
theorem av_st {T : Tab} (ht : Rt T) {l r : List Int} {o : Int} (hr : rr T.n T.st T.nv r o = true) (hl : l.length = T.n) (hs : als T.st l = true) (h2 : (av T l r o).2 = true) : 0 ≤ (av T l r o).1 ∧ (av T l r o).1 < T.st := by
  have hw := rw_of hr
  have s2 := ht.s2
  have s1 := ht.s1
  have hst := (als_iff _ _).1 hs
  by_cases h3 : T.sy = 3
  · have hob : -(T.nv : Int) ≤ o ∧ o < T.st := by
      rcases hw.out with h | h
      · omega
      · obtain ⟨i, hi, rfl⟩ := mem_ig h
        exact hw.els i (by rw [← hw.len]; exact hi)
    unfold av at *
    rw [if_pos h3] at *
    unfold pm at *
    split at h2
    · cases h2
    · rename_i hne
      rw [if_neg hne]
      split at h2
      · rename_i h0
        rw [if_pos h0]
        rcases fx_cases (pg T.v r o (px T.f T.n (0, 0)) (ig l (px T.f T.n (0, 0)).toNat) (pf T.v r o (px T.f T.n (0, 0)) (ig l (px T.f T.n (0, 0)).toNat) (cl8 l T.n) r.length)) (ch T.v r o (px T.f T.n (0, 0)) (ig l (px T.f T.n (0, 0)).toNat)).length with ⟨j, hj, e, _⟩ | ⟨e, _⟩
        · rw [e, show ((j : Int)).toNat = j from rfl]
          exact ch_st ht.bd.2 s2 r _ _ hob.1 hob.2 j hj
        · rw [e] at h0
          omega
      · cases h2
  · unfold av at *
    rw [if_neg h3] at *
    unfold ta at *
    split at h2
    · cases h2
    · rename_i hne
      rw [if_neg hne]
      have h4 := (le_tl (st := T.st) (v := T.v) (l := r) (o := o) (vs := fun k => vw T.f T.n l k T.n) (m := nwv T.sy) (tl T.st T.v r o (fun k => vw T.f T.n l k T.n) (nwv T.sy))).1 (Int.le_refl _)
      have h5 := (le_tl (st := T.st) (v := T.v) (l := r) (o := o) (vs := fun k => vw T.f T.n l k T.n) (m := nwv T.sy) 0).2 ⟨by omega, fun k hk _ => by
        unfold so
        split
        · rename_i ho
          have hmem : o ∈ r := by
            rcases hw.out with h | h
            · omega
            · exact h
          obtain ⟨i, hi, hix, _⟩ := ix_mem hmem
          rw [hix, show ((i : Int)).toNat = i from rfl]
          have hin : i < T.n := by rw [← hw.len]; exact hi
          have hk2 := (keeps_at (ht.keeps k hk) hin).1
          have : ig (vw T.f T.n l k T.n) i = ig l (vi T.f T.n k i) := by
            unfold vw
            simp [ig, hin, List.getD_eq_getElem?_getD]
          rw [this]
          exact (hst _ (by rw [hl]; exact hk2)).1
        · omega⟩
      dsimp only
      omega
theorem nx_st {T : Tab} (ht : Rt T) {l : List Int} (hl : l.length = T.n) (hs : als T.st l = true) : 0 ≤ nx T l ∧ nx T l < T.st := by
  have s2 := ht.s2
  have s1 := ht.s1
  rcases fx_cases (fun k => (av T l (T.ri k) (T.ro k)).2) T.nr with ⟨k, hk, e, h1, h2⟩ | ⟨e, h1⟩
  · rw [nx_row hk h2 h1]
    exact av_st ht (ht.rs k hk) hl hs h1
  · rw [nx_none h1]
    split
    · omega
    · have := px_bd T.f T.n (0, 0)
      have := (als_iff _ _).1 hs (px T.f T.n (0, 0)).toNat (by omega)
      omega

/-- counting, as the library counts -/
theorem cnt_take (l : List Int) (k : Int) (n : Nat) (hn : n ≤ l.length) : cnt l k n = (((l.take n).count k : Nat) : Int) := by
  induction n with
  | zero => simp [cnt]
  | succ n ih =>
    have e : ig l n = l[n] := by simp [ig, show n < l.length by omega]
    rw [cnt, ih (by omega), List.take_succ_eq_append_getElem (by omega), List.count_append, List.count_singleton, e]
    by_cases h : l[n] = k
    · simp [h]
    · simp [h]
theorem cnt_count (l : List Int) (k : Int) : cnt l k l.length = ((l.count k : Nat) : Int) := by
  rw [cnt_take l k l.length (Nat.le_refl _), List.take_length]
theorem nx_eqv {T : Tab} (h3 : T.sy = 3) {l m : List Int} (hl : l.length = T.n) (h : Eqv T.n T.f l m) : nx T m = nx T l := by
  have hm : m.length = T.n := h.1.length_eq.trans hl
  have h8 : cl8 m T.n = cl8 l T.n := by
    have e : ∀ k, cnt m k T.n = cnt l k T.n := fun k => by
      have h1 := cnt_count m k
      have h2 := cnt_count l k
      rw [hm] at h1
      rw [hl] at h2
      rw [h1, h2, h.1.count_eq]
    simp only [cl8, e]
  refine nx_congr (fun r o => ?_) h.2
  unfold av
  rw [if_pos h3, if_pos h3, h8]
  by_cases h0 : 0 ≤ px T.f T.n (0, 0)
  · rw [h.2 h0]
  · exact pm_neg _ _ _ _ _ _ _ (by omega)
end Go.Proofs.YtcgkkppidkkjiaaGreatDoor
