/- The walk of totaltree's add, both ways; a pair that is new. -/
import Derived.Test.YtjekpmkghpjamaaGreatDoorMbk
import Derived.Test.YtjekpmkghpjamaaGreatDoorMaw
import Derived.Test.YtjekpmkghpjamaaGreatDoorMbl
import Derived.Test.YtjekpmkghpjamaaGreatDoorMay
import Derived.Test.YtjekpmkghpjamaaGreatDoorMbb
import Derived.Test.YtjekpmkghpjamaaGreatDoorMax
import Derived.Test.YtjekpmkghpjamaaGreatDoorMaf
import Derived.Test.YtjekpmkghpjamaaGreatDoorMaa
import Derived.Test.YtjekpmkghpjamaaGreatDoorMab
import Derived.Test.YtjekpmkghpjamaaGreatDoorMau
import Derived.Test.YtjekpmkghpjamaaGreatDoorMae
import Derived.Test.YtjekpmkghpjamaaGreatDoorMad
import Derived.Test.YtjekpmkghpjamaaGreatDoorMac
import Derived.Test.YtjekpmkghpjamaaGreatDoorMai
import Derived.Test.YtjekpmkghpjamaaGreatDoorMah
import Derived.Below
import Derived.BigQuiet
import Derived.Deep.AppendLies
import Derived.Deep.CutRange
import Derived.Deep.Draws
import Derived.Deep.QuietTactic
import Derived.Deep.RegionHeldLaw
import Derived.Deep.RegionLaw
import Derived.DeepKeys
import Derived.DeepKeys4
import Derived.DeepKeys5
import Derived.IntWalk
import Derived.Laws.BitsLemmas
import Derived.Laws.OwnMore
import Derived.Laws.Rows
import Derived.Lib.Hide
import Derived.Lib.SliceRun
import Derived.LoopIn
import Derived.LoopN
import Derived.LoopNIn
import Derived.Maps.AppendAt
import Derived.Maps.OwnOps
import Derived.OpenShut
import Derived.OwnWalk
import Derived.OwnWalkIn
import Derived.Shelf.Abstract
import Derived.Shelf.SlLaysF0
import Derived.Shelf.Slices.Clone
import Derived.Sort.Grow
import Derived.Sort.Statements
import Derived.StillTail
import Derived.StillTailTactics
import Derived.StringKeys
import Derived.TacticsInMore
import Derived.Test.YtjekpmkghpjamaaGreatDoorRows
import Derived.WalkKit
namespace Go.Proofs.YtjekpmkghpjamaaGreatDoor
open Go.RowKit
theorem Mn.node {S l : Nat} {out : List (Int × List Int)} {f : List Int → Int} {r : Int} {ys : List Int} (h0 : 0 ≤ r) (h1 : r < out.length) (h2 : lvO out r.toNat = ((l + 1 : Nat) : Int)) (h3 : nxO out r.toNat = ys)
    (h : ∀ s, s < S → Mn S out l (fun q => f ((s : Int) :: q)) (ig ys s)) : Mn S out (l + 1) f r := by
  refine ⟨⟨h0, by omega, fun _ => ⟨h1, h2⟩⟩, fun q hq hs => ?_⟩
  cases q with
  | nil => simp at hq
  | cons s q =>
    have hs1 := hs s (by simp)
    obtain ⟨n, rfl⟩ : ∃ n : Nat, s = (n : Int) := ⟨s.toNat, by omega⟩
    rw [fo, h3, Int.toNat_natCast]
    exact (h n (by omega)).2 q (by simpa using hq) (fun x hx => hs x (by simp [hx]))
/-- what add promises -/
def AddOut (p : EP) (w : World) (T U : Nat → Prop) (out : List (Int × List Int)) (M : Int × Int → Option Int) (lv a b : Int) (e : Ending) (w' : World) : Prop :=
  ∃ T' out' N' r, e = .returned (.int .i64 r) ∧ Tst p w' T' (fun k => U k ∨ T' k) out' N' M ∧ Fr T w T' w' ∧ Gd 2 3 out' ∧ Pre out out' ∧ NOK out' N' ∧ (0 ≤ r ∧ r < out'.length ∧ lvO out' r.toNat = lv ∧ nxO out' r.toNat = [a, b]) ∧
    (∀ i, out.length ≤ i → i < out'.length → lvO out' i ≤ lv) ∧ out'.length ≤ out.length + 1 ∧ ((∀ i, i < out.length → lvO out i ≠ lv) → r + 1 = out'.length)
section
variable {p : EP} {w : World} {T U : Nat → Prop} {out : List (Int × List Int)} {N : Int × Int × Int → Option Int} {M : Int × Int → Option Int}
theorem add_anyE {l lv : Nat} {a b : Int} (hlv : lv = l + 1) (hl : lv ≤ 3) (h : Tst p w T U out N M) (hg : Gd 2 3 out) (hok : NOK out N) (ha : Lvl 2 out l a) (hb : Lvl 2 out l b) (h2 : R64 a) (h3 : R64 b) (hcap : out.length ≤ 1000000) :
    Calls Tryz.prog 117 #[.agg #[.int .i64 (lv : Int), .int .i64 a, .int .i64 b, .int .i64 0, .int .i64 0, .int .i64 0, .int .i64 0, .int .i64 0, .int .i64 0], .pointer (some ⟨p.xN, 0, none⟩), .pointer (some ⟨p.xo, 0, none⟩), .pointer (some ⟨p.xS, 0, none⟩)] w (AddOut p w T U out M lv a b) := by
  have h1 : R64 (lv : Int) := ⟨by omega, by omega⟩
  cases hx : N ((lv : Int), a, b) with
  | some r =>
    obtain ⟨q1, q2, q3, q4⟩ := hok _ _ hx
    refine (add_foundE h h1 h2 h3 hx).mono ?_
    rintro e w' ⟨rfl, hbel⟩
    exact ⟨T, out, N, r, rfl, (h.below hbel).here, Fr.of_below hbel, hg, Pre.refl _, hok, ⟨q1, q2, q3, q4⟩, fun i h1 h2 => absurd h2 (by omega), by omega, fun hn => absurd q3 (hn _ (by omega))⟩
  | none =>
    refine (add_newE h hok h1 h2 h3 hx hcap).mono ?_
    rintro e w' ⟨T', N', rfl, hw, hf, hk⟩
    subst hlv
    refine ⟨T', _, N', (out.length : Int), rfl, hw, hf, Gd.push hg hl rfl (fun s hs => ?_), Pre.push _ _, hk, ⟨by omega, by rw [List.length_append, List.length_singleton]; omega, by rw [Int.toNat_natCast, lvO_new], by rw [Int.toNat_natCast, nxO_new]⟩, fun i h1 h2 => ?_, by simp, fun _ => by simp⟩
    · obtain rfl | rfl : s = 0 ∨ s = 1 := by omega
      · exact ha
      · exact hb
    · rw [List.length_append, List.length_singleton] at h2
      obtain rfl : i = out.length := by omega
      rw [lvO_new]
      exact Int.le_refl _
theorem Pre.lvO {a b : List (Int × List Int)} (h : Pre a b) {i : Nat} (hi : i < a.length) : lvO b i = lvO a i := by
  obtain ⟨c, rfl⟩ := h
  simp [Proofs.YtjekpmkghpjamaaGreatDoor.lvO, List.getD_eq_getElem?_getD, List.getElem?_append_left hi]
theorem keep_S {p : EP} {w : World} (h : EC p w) {g : Nat} (hg : ∀ k, p.K k → ¬ k = g) (i : Nat) (u : Value) : (w.setCell ⟨g, i, none⟩ u).cell? ⟨p.xF, 0, none⟩ = some (.func (.func 119) #[] #[.pointer (some ⟨p.xR, 0, none⟩), .pointer (some ⟨p.xV, 0, none⟩), .pointer (some ⟨p.xS, 0, none⟩), .pointer (some ⟨p.xF, 0, none⟩), .pointer (some ⟨p.xM, 0, none⟩), .pointer (some ⟨p.xL, 0, none⟩), .pointer (some ⟨p.xA, 0, none⟩)]) ∧ (w.setCell ⟨g, i, none⟩ u).cell? ⟨p.xM, 0, none⟩ = some (.func (.func 82) #[] #[.pointer (some ⟨p.gr, 0, none⟩)]) ∧ (w.setCell ⟨g, i, none⟩ u).cell? ⟨p.xL, 0, none⟩ = some (.slice p.AH 3 p.cH) := by
  have h1 := h.keep (H := fun k => k = g) (H' := fun k => k = g) (Fr.set_ (G := fun k => k = g) w (p := ⟨g, i, none⟩) u rfl) hg
  exact ⟨h1.cF.one.1, h1.cM.one.1, h1.cL.one.1⟩
set_option maxRecDepth 100000 in
set_option maxHeartbeats 4000000 in
theorem vise_go {s l lv : Nat} (hlv : lv = l + 1) (hl : lv ≤ 3) (hs : s + 2 ^ lv ≤ 8) (h : Tst p w T U out N M) (hg : Gd 2 3 out) (hn : NOK out N) (hm : VOK p.rb out M) (hf : M ((lv : Int), (s : Int)) = none) (hcap : out.length + 2 * 2 ^ lv ≤ 100000)
    (IH : ∀ (s : Nat) (w : World) (T U : Nat → Prop) (out : List (Int × List Int)) (N : Int × Int × Int → Option Int) (M : Int × Int → Option Int), s + 2 ^ l ≤ 8 → Tst p w T U out N M → Gd 2 3 out → NOK out N → VOK p.rb out M → out.length + 2 * 2 ^ l ≤ 100000 →
      Calls Tryz.prog 119 #[.int .i64 (l : Int), .int .i64 (s : Int), .pointer (some ⟨p.xR, 0, none⟩), .pointer (some ⟨p.xV, 0, none⟩), .pointer (some ⟨p.xS, 0, none⟩), .pointer (some ⟨p.xF, 0, none⟩), .pointer (some ⟨p.xM, 0, none⟩), .pointer (some ⟨p.xL, 0, none⟩), .pointer (some ⟨p.xA, 0, none⟩)] w (VisE p w T U out l s)) :
    Calls Tryz.prog 119 #[.int .i64 (lv : Int), .int .i64 (s : Int), .pointer (some ⟨p.xR, 0, none⟩), .pointer (some ⟨p.xV, 0, none⟩), .pointer (some ⟨p.xS, 0, none⟩), .pointer (some ⟨p.xF, 0, none⟩), .pointer (some ⟨p.xM, 0, none⟩), .pointer (some ⟨p.xL, 0, none⟩), .pointer (some ⟨p.xA, 0, none⟩)] w fun e w' =>
      ∃ T' out' N' M' r, e = .returned (.int .i64 r) ∧ Tst p w' T' (fun k => U k ∨ T' k) out' N' M' ∧ Fr T w T' w' ∧ Gd 2 3 out' ∧ Pre out out' ∧ NOK out' N' ∧ VOK p.rb out' M' ∧ Mn 2 out' lv (fun q => p.rb (s + nm 2 q)) r ∧ (∀ i, out.length ≤ i → i < out'.length → lvO out' i ≤ lv) ∧ out'.length + 1 ≤ out.length + 2 ^ lv ∧ (out.length = 0 → r + 1 = out'.length) := by
  have lk := pair_look h.mpV (x := ((lv : Int), (s : Int))) ⟨by simp only; omega, by simp only; omega⟩ ⟨by simp only; omega, by simp only; omega⟩
  rw [hf] at lk
  simp only [parV] at lk
  obtain ⟨k0, k1, k2⟩ := h.c.cV.one
  obtain ⟨c0, c1, c2⟩ := h.c.cS.one
  have HH := Lib.hid h
  have HG := Lib.hid hg
  have HN := Lib.hid hn
  have HM := Lib.hid hm
  have IHH := Lib.hid IH
  have HU := Lib.hid h.uL
  have HTU := Lib.hid h.tU
  have HLV := Lib.hid hlv
  have HSS := Lib.hid hs
  have HCAP := Lib.hid hcap
  have hlvI : (lv : Int) ≤ 3 := by omega
  have hlvP : 1 ≤ (lv : Int) := by omega
  have hlv1 : 1 ≤ lv := by omega
  have hp2 : 1 ≤ 2 ^ lv := Nat.pow_pos (by omega)
  have hsI : (s : Int) < 8 := by omega
  have hl1 : IntKind.i64.wrap ((lv : Int) - 1) = (l : Int) := by rw [IntWalk.i64_in _ ⟨by omega, by omega⟩]; omega
  have hl2 : (lv : Int) - 1 = (l : Int) := by omega
  have hl5 : IntKind.i64.wrap (l : Int) = (l : Int) := IntWalk.i64_in _ ⟨by omega, by omega⟩
  have hl3 : ((lv : Int) == 0) = false := by rw [beq_eq_false_iff_ne]; omega
  have hl4 : IntKind.i64.wrap (3 - (lv : Int)) = 3 - (lv : Int) := IntWalk.i64_in _ ⟨by omega, by omega⟩
  have F0 := Lib.hid (Fr.alloc T w (.cells (nod2 ((lv : Int), 0, 0)) 167))
  have KN0 := Lib.hid (Blk.new w 167 (nod2 ((lv : Int), 0, 0)))
  have W0 := Lib.hid ((h.keep (Fr.alloc (fun _ => False) w (.cells (nod2 ((lv : Int), 0, 0)) 167)) (fun _ _ h => h) (fun _ _ h => h) (fun _ h => h.elim) (fun k => U k ∨ k = w.heap.size) (fun k hk => .inl hk) (fun k hk => hk.elim .inl (fun e => .inr (by omega))) (fun k hk => by
    rcases hk with hk | hk
    · have := h.uL k hk; simp; omega
    · simp; omega)).wide (U' := fun k => (U k ∨ k = w.heap.size) ∨ T k) (fun k hk => .inr hk) (fun k hk => hk.elim id (fun h' => .inl (h.tU k h'))))
  have hT0 := Lib.hid (show ¬ T w.heap.size from fun h' => by have := h.uL _ (h.tU _ h'); omega)
  have HKQ0 := Lib.hid h.c.lt
  clear h hg hn hm hf IH hs hcap hlv
  go_enter Tryz.func119, Tryz.ntmps119
  go_wp2
  have hwl : w.heap.size < (w.alloc (.cells (nod2 ((lv : Int), 0, 0)) 167)).heap.size := by simp
  simp only [nod2] at F0 KN0 W0 hwl ⊢
  clear lk k0 k1 k2 c0 c1 c2
  go_loopw [35] (fun jv wr => ∃ (j a b : Int) (Tj : Nat → Prop) (outj : List (Int × List Int)) (Nj : Int × Int × Int → Option Int) (Mj : Int × Int → Option Int), (j = 0 ∨ j = 1 ∨ j = 2) ∧ jv = .int .i64 j ∧ Hid (Tst p wr Tj (fun k => (U k ∨ k = w.heap.size) ∨ Tj k) outj Nj Mj) ∧ Hid (Fr T w Tj wr) ∧ Hid (¬ Tj w.heap.size) ∧
    Hid (Blk wr w.heap.size 167 #[.int .i64 (lv : Int), .int .i64 a, .int .i64 b, .int .i64 0, .int .i64 0, .int .i64 0, .int .i64 0, .int .i64 0, .int .i64 0]) ∧ Hid (Gd 2 3 outj) ∧ Hid (Pre out outj) ∧ Hid (NOK outj Nj) ∧ Hid (VOK p.rb outj Mj) ∧
    Hid (0 < j → Mn 2 outj l (fun q => p.rb (s + nm 2 ((0 : Int) :: q))) a) ∧ Hid (1 < j → Mn 2 outj l (fun q => p.rb (s + nm 2 ((1 : Int) :: q))) b) ∧ Hid (∀ i, out.length ≤ i → i < outj.length → lvO outj i ≤ l) ∧ Hid (outj.length + j.toNat ≤ out.length + j.toNat * 2 ^ l)) (fun jv _ => 2 - (intOf jv).toNat)
  case atStart => exact ⟨0, 0, 0, T, out, N, M, .inl rfl, rfl, W0, F0, hT0, KN0, HG, Lib.hid (Pre.refl _), HN, HM, Lib.hid (fun h => absurd h (by decide)), Lib.hid (fun h => absurd h (by decide)), Lib.hid (fun i h1 h2 => absurd h2 (by omega)), Lib.hid (by simp)⟩
  case round =>
    obtain ⟨j, a, b, Tj, outj, Nj, Mj, hj, rfl, HW, HF, HT, HKN, HGj, HPj, HNj, HMj, HA, HB, HLj, HCj⟩ := hrel
    have hnl : w.heap.size < wr.heap.size := HKN.out.lt
    have hP2 : 2 ^ lv = 2 * 2 ^ l := by rw [HLV.out, Nat.pow_succ, Nat.mul_comm]
    rcases hj with rfl | rfl | rfl
    · obtain ⟨sm, hsm⟩ : ∃ sm, sm = s + 0 * 2 ^ l := ⟨_, rfl⟩
      obtain ⟨m, hm⟩ : ∃ m, m = 0 * 2 ^ l := ⟨_, rfl⟩
      have hsm2 : sm + 2 ^ l ≤ 8 := by have := HSS.out; omega
      have hp1 : 1 ≤ 2 ^ l := Nat.pow_pos (by omega)
      have hmI : (m : Int) ≤ 8 := by omega
      have e50 : IntKind.i64.wrap ((s : Int) + (m : Int)) = (sm : Int) := by
        rw [show (s : Int) + (m : Int) = (sm : Int) by omega]
        exact IntWalk.i64_in _ ⟨by omega, by omega⟩
      have hcp : outj.length + 2 * 2 ^ l ≤ 100000 := by
        have h1 := HCj.out
        have h2 := HCAP.out
        have h3 : (0 : Int).toNat = 0 := rfl
        rw [h3] at h1
        omega
      have CC := Lib.hid (fun W (hb : Below wr.heap.size wr W) => show Calls Tryz.prog 119 #[.int .i64 (l : Int), .int .i64 (sm : Int), .pointer (some ⟨p.xR, 0, none⟩), .pointer (some ⟨p.xV, 0, none⟩), .pointer (some ⟨p.xS, 0, none⟩), .pointer (some ⟨p.xF, 0, none⟩), .pointer (some ⟨p.xM, 0, none⟩), .pointer (some ⟨p.xL, 0, none⟩), .pointer (some ⟨p.xA, 0, none⟩)] W (VisE p wr Tj (fun k => (U k ∨ k = w.heap.size) ∨ Tj k) outj l sm) from (IHH.out sm W Tj _ outj Nj Mj hsm2 (HW.out.below hb) HGj.out HNj.out HMj.out hcp).mono (by
        rintro e w' ⟨T', out', N', M', r, h1, h2, h3, h4⟩
        exact ⟨T', out', N', M', r, h1, h2, (Fr.of_below hb).trans h3, h4⟩))
      have AM := Lib.hid (fun W (hb : Below wr.heap.size wr W) => show Calls Tryz.prog 82 #[.int .i64 (3 - (lv : Int)), .int .i64 0, .pointer (some ⟨p.gr, 0, none⟩)] W (fun e w' => e = .returned (.int .i64 (m : Int)) ∧ w' = W) from (amount_any (p := p) lv 0 hlv1 (by omega) (by omega) ((HW.out.below hb).c)).mono (by
        rintro e w' ⟨h1, h2⟩
        refine ⟨?_, h2⟩
        rw [h1, hm, HLV.out, Nat.add_sub_cancel]))
      have KP := Lib.hid (fun W (hb : Below wr.heap.size wr W) => show W.cell? ⟨p.xF, 0, none⟩ = some (fnVisit p) ∧ W.cell? ⟨p.xM, 0, none⟩ = some (fnAmount p) ∧ W.cell? ⟨p.xL, 0, none⟩ = some (.slice p.AH 3 p.cH) from ⟨(HW.out.below hb).c.cF.one.1, (HW.out.below hb).c.cM.one.1, (HW.out.below hb).c.cL.one.1⟩)
      unfold fnVisit fnAmount at KP
      have S0 := KP.out wr (Below.refl _ _)
      have z0 := HKN.out.cell 1
      obtain ⟨g0, g1, g2⟩ := HW.out.c.cS.one
      have HSM := Lib.hid hsm
      have HKQ := Lib.hid (show ∀ k, p.K k → k < w.heap.size from HKQ0.out)
      clear hsm hm hsm2 hcp
      go_upto_region 10 with (fail)
      go_region_held_law (fun w' => w'.cell? ⟨p.xF, 0, none⟩ = some (.func (.func 119) #[] #[.pointer (some ⟨p.xR, 0, none⟩), .pointer (some ⟨p.xV, 0, none⟩), .pointer (some ⟨p.xS, 0, none⟩), .pointer (some ⟨p.xF, 0, none⟩), .pointer (some ⟨p.xM, 0, none⟩), .pointer (some ⟨p.xL, 0, none⟩), .pointer (some ⟨p.xA, 0, none⟩)]) ∧ w'.cell? ⟨p.xM, 0, none⟩ = some (.func (.func 82) #[] #[.pointer (some ⟨p.gr, 0, none⟩)]) ∧ w'.cell? ⟨p.xL, 0, none⟩ = some (.slice p.AH 3 p.cH))
        (first | assumption | exact S5.out _ _ | (refine KP.out _ ?_; (with_reducible (repeat (first | assumption | exact Below.refl _ _ | refine Below.drew' ?_))); done) | go_keep)
        (first
        | ((with_reducible refine (AM.out _ ?_).mono ?_); (with_reducible (repeat (first | assumption | exact Below.refl _ _ | refine Below.drew' ?_))); rintro e w3 ⟨rfl, rfl⟩)
        | ((with_reducible refine (CC.out _ ?_).mono ?_); (with_reducible (repeat (first | assumption | exact Below.refl _ _ | refine Below.drew' ?_))); rintro e w4 ⟨T4, out4, N4, M4, y, rfl, hW4, hF4, hG4, hP4, hN4, hM4, hMn4, hL4, hC4⟩; have W4 := Lib.hid hW4; have F4 := Lib.hid hF4; have G4 := Lib.hid hG4; have P4 := Lib.hid hP4; have N4H := Lib.hid hN4; have M4H := Lib.hid hM4; have MN4 := Lib.hid hMn4; have L4 := Lib.hid hL4; have C4 := Lib.hid hC4; have KN4 := Lib.hid (hF4.blk HKN.out HT.out); have z4 := KN4.out.cell 1; have z5 := KN4.out.frozen 1; have S4 : w4.cell? ⟨p.xF, 0, none⟩ = some (.func (.func 119) #[] #[.pointer (some ⟨p.xR, 0, none⟩), .pointer (some ⟨p.xV, 0, none⟩), .pointer (some ⟨p.xS, 0, none⟩), .pointer (some ⟨p.xF, 0, none⟩), .pointer (some ⟨p.xM, 0, none⟩), .pointer (some ⟨p.xL, 0, none⟩), .pointer (some ⟨p.xA, 0, none⟩)]) ∧ w4.cell? ⟨p.xM, 0, none⟩ = some (.func (.func 82) #[] #[.pointer (some ⟨p.gr, 0, none⟩)]) ∧ w4.cell? ⟨p.xL, 0, none⟩ = some (.slice p.AH 3 p.cH) := ⟨hW4.c.cF.one.1, hW4.c.cM.one.1, hW4.c.cL.one.1⟩; have S5 := Lib.hid (keep_S (hW4.c) (g := w.heap.size) (fun k hk e => by have h1 := HKQ.out k hk; omega)); clear hW4 hF4 hG4 hP4 hN4 hM4 hMn4 hL4 hC4))
      all_goals
        have hw4l : wr.heap.size ≤ w4.heap.size := F4.out.size
        have t41 : ¬ T4 w.heap.size := fun h => (F4.out.new _ h).elim HT.out (fun h' => by have h' : wr.heap.size ≤ w.heap.size := h'; omega)
        have W5 := Lib.hid ((W4.out.wide (U' := fun k => (U k ∨ k = w.heap.size) ∨ T4 k) (fun k hk => .inr hk) (fun k hk => hk.elim (fun h => .inl (.inl h)) .inr)).keep (Fr.set_ (G := fun k => k = w.heap.size) w4 (p := ⟨w.heap.size, 1, none⟩) (.int .i64 y) rfl) (fun k hk e => t41 (e ▸ hk)) (fun k hk e => by have e : k = w.heap.size := e; have h1 := HKQ.out k hk; omega) (fun k e => .inl (.inr e)) _ (fun k hk => hk) (fun k hk => .inl hk) (fun k hk => by
          have : k < w4.heap.size := by
            rcases hk with hk | hk
            · exact W4.out.uL k (.inl (.inl hk))
            · exact W4.out.uL k (.inr hk)
          simpa [World.setCell] using this))
        have F5 := Lib.hid ((HF.out.trans F4.out).set_new (p := ⟨w.heap.size, 1, none⟩) (Nat.le_refl _) (.int .i64 y))
        have KN5 := Lib.hid (show Blk (w4.setCell ⟨w.heap.size, 1, none⟩ (.int .i64 y)) w.heap.size 167 #[.int .i64 (lv : Int), .int .i64 y, .int .i64 b, .int .i64 0, .int .i64 0, .int .i64 0, .int .i64 0, .int .i64 0, .int .i64 0] from by simpa using KN4.out.set_ 1 (.int .i64 y))
        have C5 := Lib.hid (show out4.length + (1 : Int).toNat ≤ out.length + (1 : Int).toNat * 2 ^ l by
          have h1 := C4.out
          have h2 := HCj.out
          rw [show (1 : Int).toNat = 1 from rfl]
          rw [show (0 : Int).toNat = 0 from rfl] at h2
          omega)
        have P5 := Lib.hid (HPj.out.trans P4.out)
        have L5 := Lib.hid (show ∀ i, out.length ≤ i → i < out4.length → lvO out4 i ≤ l from fun i q1 q2 => by
          by_cases e : outj.length ≤ i
          · exact L4.out i e q2
          · have h3 := HLj.out i q1 (by omega)
            have h4 := Pre.lvO P4.out (i := i) (by omega)
            rw [h4]
            exact h3)
        have MNJ := Lib.hid (show Mn 2 out4 l (fun q => p.rb (s + nm 2 ((0 : Int) :: q))) y from MN4.out.congr (fun q hq hs => by
          have : sm + nm 2 q = s + nm 2 ((0 : Int) :: q) := by
            rw [nm, hq, HSM.out]
            simp
            try omega
          rw [this]))
        clear z0 z4 z5 S4 S0
        generalize w4.setCell ⟨w.heap.size, 1, none⟩ (.int .i64 y) = w5 at W5 F5 KN5 ⊢
        go_wp2
        go_roundw
        case rel => exact ⟨1, y, b, T4, out4, N4, M4, by decide, by go_num, W5, F5, Lib.hid t41, KN5, G4, P5, N4H, M4H, Lib.hid (fun _ => MNJ.out), Lib.hid (fun h => absurd h (by decide)), L5, C5⟩
        case measure => simp [intOf]
    · obtain ⟨sm, hsm⟩ : ∃ sm, sm = s + 1 * 2 ^ l := ⟨_, rfl⟩
      obtain ⟨m, hm⟩ : ∃ m, m = 1 * 2 ^ l := ⟨_, rfl⟩
      have hsm2 : sm + 2 ^ l ≤ 8 := by have := HSS.out; omega
      have hp1 : 1 ≤ 2 ^ l := Nat.pow_pos (by omega)
      have hmI : (m : Int) ≤ 8 := by omega
      have e50 : IntKind.i64.wrap ((s : Int) + (m : Int)) = (sm : Int) := by
        rw [show (s : Int) + (m : Int) = (sm : Int) by omega]
        exact IntWalk.i64_in _ ⟨by omega, by omega⟩
      have hcp : outj.length + 2 * 2 ^ l ≤ 100000 := by
        have h1 := HCj.out
        have h2 := HCAP.out
        have h3 : (1 : Int).toNat = 1 := rfl
        rw [h3] at h1
        omega
      have CC := Lib.hid (fun W (hb : Below wr.heap.size wr W) => show Calls Tryz.prog 119 #[.int .i64 (l : Int), .int .i64 (sm : Int), .pointer (some ⟨p.xR, 0, none⟩), .pointer (some ⟨p.xV, 0, none⟩), .pointer (some ⟨p.xS, 0, none⟩), .pointer (some ⟨p.xF, 0, none⟩), .pointer (some ⟨p.xM, 0, none⟩), .pointer (some ⟨p.xL, 0, none⟩), .pointer (some ⟨p.xA, 0, none⟩)] W (VisE p wr Tj (fun k => (U k ∨ k = w.heap.size) ∨ Tj k) outj l sm) from (IHH.out sm W Tj _ outj Nj Mj hsm2 (HW.out.below hb) HGj.out HNj.out HMj.out hcp).mono (by
        rintro e w' ⟨T', out', N', M', r, h1, h2, h3, h4⟩
        exact ⟨T', out', N', M', r, h1, h2, (Fr.of_below hb).trans h3, h4⟩))
      have AM := Lib.hid (fun W (hb : Below wr.heap.size wr W) => show Calls Tryz.prog 82 #[.int .i64 (3 - (lv : Int)), .int .i64 1, .pointer (some ⟨p.gr, 0, none⟩)] W (fun e w' => e = .returned (.int .i64 (m : Int)) ∧ w' = W) from (amount_any (p := p) lv 1 hlv1 (by omega) (by omega) ((HW.out.below hb).c)).mono (by
        rintro e w' ⟨h1, h2⟩
        refine ⟨?_, h2⟩
        rw [h1, hm, HLV.out, Nat.add_sub_cancel]))
      have KP := Lib.hid (fun W (hb : Below wr.heap.size wr W) => show W.cell? ⟨p.xF, 0, none⟩ = some (fnVisit p) ∧ W.cell? ⟨p.xM, 0, none⟩ = some (fnAmount p) ∧ W.cell? ⟨p.xL, 0, none⟩ = some (.slice p.AH 3 p.cH) from ⟨(HW.out.below hb).c.cF.one.1, (HW.out.below hb).c.cM.one.1, (HW.out.below hb).c.cL.one.1⟩)
      unfold fnVisit fnAmount at KP
      have S0 := KP.out wr (Below.refl _ _)
      have z0 := HKN.out.cell 2
      obtain ⟨g0, g1, g2⟩ := HW.out.c.cS.one
      have HSM := Lib.hid hsm
      have HKQ := Lib.hid (show ∀ k, p.K k → k < w.heap.size from HKQ0.out)
      clear hsm hm hsm2 hcp
      go_upto_region 10 with (fail)
      go_region_held_law (fun w' => w'.cell? ⟨p.xF, 0, none⟩ = some (.func (.func 119) #[] #[.pointer (some ⟨p.xR, 0, none⟩), .pointer (some ⟨p.xV, 0, none⟩), .pointer (some ⟨p.xS, 0, none⟩), .pointer (some ⟨p.xF, 0, none⟩), .pointer (some ⟨p.xM, 0, none⟩), .pointer (some ⟨p.xL, 0, none⟩), .pointer (some ⟨p.xA, 0, none⟩)]) ∧ w'.cell? ⟨p.xM, 0, none⟩ = some (.func (.func 82) #[] #[.pointer (some ⟨p.gr, 0, none⟩)]) ∧ w'.cell? ⟨p.xL, 0, none⟩ = some (.slice p.AH 3 p.cH))
        (first | assumption | exact S5.out _ _ | (refine KP.out _ ?_; (with_reducible (repeat (first | assumption | exact Below.refl _ _ | refine Below.drew' ?_))); done) | go_keep)
        (first
        | ((with_reducible refine (AM.out _ ?_).mono ?_); (with_reducible (repeat (first | assumption | exact Below.refl _ _ | refine Below.drew' ?_))); rintro e w3 ⟨rfl, rfl⟩)
        | ((with_reducible refine (CC.out _ ?_).mono ?_); (with_reducible (repeat (first | assumption | exact Below.refl _ _ | refine Below.drew' ?_))); rintro e w4 ⟨T4, out4, N4, M4, y, rfl, hW4, hF4, hG4, hP4, hN4, hM4, hMn4, hL4, hC4⟩; have W4 := Lib.hid hW4; have F4 := Lib.hid hF4; have G4 := Lib.hid hG4; have P4 := Lib.hid hP4; have N4H := Lib.hid hN4; have M4H := Lib.hid hM4; have MN4 := Lib.hid hMn4; have L4 := Lib.hid hL4; have C4 := Lib.hid hC4; have KN4 := Lib.hid (hF4.blk HKN.out HT.out); have z4 := KN4.out.cell 2; have z5 := KN4.out.frozen 2; have S4 : w4.cell? ⟨p.xF, 0, none⟩ = some (.func (.func 119) #[] #[.pointer (some ⟨p.xR, 0, none⟩), .pointer (some ⟨p.xV, 0, none⟩), .pointer (some ⟨p.xS, 0, none⟩), .pointer (some ⟨p.xF, 0, none⟩), .pointer (some ⟨p.xM, 0, none⟩), .pointer (some ⟨p.xL, 0, none⟩), .pointer (some ⟨p.xA, 0, none⟩)]) ∧ w4.cell? ⟨p.xM, 0, none⟩ = some (.func (.func 82) #[] #[.pointer (some ⟨p.gr, 0, none⟩)]) ∧ w4.cell? ⟨p.xL, 0, none⟩ = some (.slice p.AH 3 p.cH) := ⟨hW4.c.cF.one.1, hW4.c.cM.one.1, hW4.c.cL.one.1⟩; have S5 := Lib.hid (keep_S (hW4.c) (g := w.heap.size) (fun k hk e => by have h1 := HKQ.out k hk; omega)); clear hW4 hF4 hG4 hP4 hN4 hM4 hMn4 hL4 hC4))
      all_goals
        have hw4l : wr.heap.size ≤ w4.heap.size := F4.out.size
        have t41 : ¬ T4 w.heap.size := fun h => (F4.out.new _ h).elim HT.out (fun h' => by have h' : wr.heap.size ≤ w.heap.size := h'; omega)
        have W5 := Lib.hid ((W4.out.wide (U' := fun k => (U k ∨ k = w.heap.size) ∨ T4 k) (fun k hk => .inr hk) (fun k hk => hk.elim (fun h => .inl (.inl h)) .inr)).keep (Fr.set_ (G := fun k => k = w.heap.size) w4 (p := ⟨w.heap.size, 2, none⟩) (.int .i64 y) rfl) (fun k hk e => t41 (e ▸ hk)) (fun k hk e => by have e : k = w.heap.size := e; have h1 := HKQ.out k hk; omega) (fun k e => .inl (.inr e)) _ (fun k hk => hk) (fun k hk => .inl hk) (fun k hk => by
          have : k < w4.heap.size := by
            rcases hk with hk | hk
            · exact W4.out.uL k (.inl (.inl hk))
            · exact W4.out.uL k (.inr hk)
          simpa [World.setCell] using this))
        have F5 := Lib.hid ((HF.out.trans F4.out).set_new (p := ⟨w.heap.size, 2, none⟩) (Nat.le_refl _) (.int .i64 y))
        have KN5 := Lib.hid (show Blk (w4.setCell ⟨w.heap.size, 2, none⟩ (.int .i64 y)) w.heap.size 167 #[.int .i64 (lv : Int), .int .i64 a, .int .i64 y, .int .i64 0, .int .i64 0, .int .i64 0, .int .i64 0, .int .i64 0, .int .i64 0] from by simpa using KN4.out.set_ 2 (.int .i64 y))
        have C5 := Lib.hid (show out4.length + (2 : Int).toNat ≤ out.length + (2 : Int).toNat * 2 ^ l by
          have h1 := C4.out
          have h2 := HCj.out
          rw [show (2 : Int).toNat = 2 from rfl]
          rw [show (1 : Int).toNat = 1 from rfl] at h2
          omega)
        have P5 := Lib.hid (HPj.out.trans P4.out)
        have L5 := Lib.hid (show ∀ i, out.length ≤ i → i < out4.length → lvO out4 i ≤ l from fun i q1 q2 => by
          by_cases e : outj.length ≤ i
          · exact L4.out i e q2
          · have h3 := HLj.out i q1 (by omega)
            have h4 := Pre.lvO P4.out (i := i) (by omega)
            rw [h4]
            exact h3)
        have MNJ := Lib.hid (show Mn 2 out4 l (fun q => p.rb (s + nm 2 ((1 : Int) :: q))) y from MN4.out.congr (fun q hq hs => by
          have : sm + nm 2 q = s + nm 2 ((1 : Int) :: q) := by
            rw [nm, hq, HSM.out]
            simp
            try omega
          rw [this]))
        clear z0 z4 z5 S4 S0
        generalize w4.setCell ⟨w.heap.size, 2, none⟩ (.int .i64 y) = w5 at W5 F5 KN5 ⊢
        go_wp2
        go_roundw
        case rel => exact ⟨2, a, y, T4, out4, N4, M4, by decide, by go_num, W5, F5, Lib.hid t41, KN5, G4, P5, N4H, M4H, Lib.hid (fun _ => (HA.out (by decide)).pre G4.out P4.out HGj.out), Lib.hid (fun _ => MNJ.out), L5, C5⟩
        case measure => simp [intOf]
    · have ha := (HA.out (by decide))
      have hb := (HB.out (by decide))
      have hle : outj.length ≤ 100000 := by
        have h1 := HCj.out
        have h2 := HCAP.out
        have h3 : (2 : Int).toNat = 2 := rfl
        rw [h3] at h1
        omega
      have AD := Lib.hid (add_anyE (lv := lv) HLV.out (by omega) HW.out HGj.out HNj.out ha.1 hb.1 ⟨by have := ha.1.1; omega, by have := ha.1.1; have h2 := ha.1.2; by_cases e : l = 0; (· have := h2.1 e; omega); (· have := h2.2 (by omega); omega)⟩ ⟨by have := hb.1.1; omega, by have h2 := hb.1.2; by_cases e : l = 0; (· have := h2.1 e; omega); (· have := h2.2 (by omega); omega)⟩ (by omega))
      obtain ⟨n0, n1, n2, n3, n4, n5, n6, n7, n8⟩ := HKN.out.nine
      obtain ⟨a0, a1, a2⟩ := HW.out.c.cA.one
      obtain ⟨g0, g1, g2⟩ := HW.out.c.cS.one
      unfold fnAdd at a0
      obtain ⟨kl, hkl⟩ := key_pair (x := ((lv : Int), (s : Int))) ⟨by simp only; omega, by simp only; omega⟩ ⟨by simp only; omega, by simp only; omega⟩
      clear ha hb
      go_wp2_with ((with_reducible refine (AD.out).mono ?_); rintro e w5 ⟨T5, out5, N5, r, rfl, hW5, hF5, hG5, hP5, hN5, hr5, hl5, hc5, hz5⟩; obtain ⟨w6, hr6, hm6, hs6, hf6⟩ := MapOf.store (t := 170) hW5.mpV Tryz.keyPair Tryz.underlying170 r hkl (fun y _ _ e => parV_inj e); simp only [parV] at hr6; obtain ⟨v0, v1, v2⟩ := hW5.c.cV.one; have W6 := Lib.hid (hW5.setV hm6 hf6 hs6); have F6 := Lib.hid (hF5.trans (hf6.weak (fun k e => e ▸ hW5.tV) (fun k h => .inl h))); have G5 := Lib.hid hG5; have P5 := Lib.hid hP5; have N5H := Lib.hid hN5; have R5 := Lib.hid hr5; have L5 := Lib.hid hl5; have C5 := Lib.hid hc5; have Z5 := Lib.hid hz5; clear hW5 hF5 hG5 hP5 hN5 hr5 hl5 hc5 hz5 hm6 hs6 hf6)
      go_ret
      have h1 := HCj.out
      have h2 := C5.out
      rw [show (2 : Int).toNat = 2 from rfl] at h1
      obtain ⟨r0, r1, r2, r3⟩ := R5.out
      have MN : Mn 2 out5 lv (fun q => p.rb (s + nm 2 q)) r := by
        have e := HLV.out
        subst e
        refine Mn.node r0 r1 r2 r3 (fun s' hs' => ?_)
        obtain rfl | rfl : s' = 0 ∨ s' = 1 := by omega
        · exact (HA.out (by decide)).pre G5.out P5.out HGj.out
        · exact (HB.out (by decide)).pre G5.out P5.out HGj.out
      refine ⟨T5, out5, N5, _, r, rfl, W6.out.wide (fun k hk => .inr hk) (fun k hk => hk.elim (fun h => .inl (.inl (.inl h))) .inr), HF.out.trans F6.out, G5.out, HPj.out.trans P5.out, N5H.out, ?_, MN, fun i q1 q2 => ?_, by omega, fun e => Z5.out (fun i hi => ?_)⟩
      · intro x k hx
        have hx : (if x = ((lv : Int), (s : Int)) then some r else Mj x) = some k := hx
        by_cases e : x = ((lv : Int), (s : Int))
        · rw [if_pos e] at hx
          injection hx with hx
          subst hx e
          exact ⟨lv, s, rfl, hlv1, MN⟩
        · rw [if_neg e] at hx
          exact (HMj.out).pre G5.out P5.out HGj.out x k hx
      · by_cases e : outj.length ≤ i
        · exact L5.out i e q2
        · have h3 := HLj.out i q1 (by omega)
          have h4 := Pre.lvO P5.out (i := i) (by omega)
          rw [h4]
          omega
      · have h3 := HLj.out i (by omega) hi
        omega
end
end Go.Proofs.YtjekpmkghpjamaaGreatDoor
