/- The walk of walk$1: a node that is new. -/
/- The walk of walk. -/
/- Plain mathematics: what the nodes of a forest mean. -/
import Derived.Test.YtcgkkppidkkjiaaGreatDoorMaa
import Derived.Test.YtcgkkppidkkjiaaGreatDoorMaf
import Derived.Test.YtcgkkppidkkjiaaGreatDoorMab
import Derived.Test.YtcgkkppidkkjiaaGreatDoorMan
import Derived.Test.YtcgkkppidkkjiaaGreatDoorMaj
import Derived.Test.YtcgkkppidkkjiaaGreatDoorMao
import Derived.Test.YtcgkkppidkkjiaaGreatDoorMat
import Derived.Test.YtcgkkppidkkjiaaGreatDoorMar
import Derived.Below
import Derived.BigQuiet
import Derived.Deep.AppendLies
import Derived.Deep.CutRange
import Derived.Deep.Draws
import Derived.Deep.QuietTactic
import Derived.Deep.RegionHeldLaw
import Derived.Deep.RegionLaw
import Derived.DeepKeys4
import Derived.IntWalk
import Derived.Laws.OwnMore
import Derived.Laws.Rows
import Derived.Lib.Hide
import Derived.LoopN
import Derived.Maps.OwnOps
import Derived.OwnWalk
import Derived.Shelf.Abstract
import Derived.Sort.Statements
import Derived.StillTail
import Derived.StillTailTactics
import Derived.Test.YtcgkkppidkkjiaaGreatDoorRows
import Derived.WalkKit
import Derived.Carry
import Derived.Laws.MakeOwn
namespace Go.Proofs.YtcgkkppidkkjiaaGreatDoor
open Go.RowKit
theorem il_get {l : List Int} {j : Nat} (h : j < l.length) : (il l).toArray[j]? = some (.int .i64 (ig l j)) := by
  simp [il, ig, h]
theorem row_get {l : List Int} {j : Nat} (h : j < l.length) : ((l.map fun x => Value.int .i32 x).toArray)[j]? = some (.int .i32 (ig l j)) := by
  simp [ig, h]
theorem ig_take {l : List Int} {j k : Nat} (h : j < k) : ig (l.take k) j = ig l j := by
  simp [ig, List.getD, List.getElem?_take, h]

theorem rowV_eight (a b c d e f g i : Int) : rowV [a, b, c, d, e, f, g, i] = .agg #[.int .i32 a, .int .i32 b, .int .i32 c, .int .i32 d, .int .i32 e, .int .i32 f, .int .i32 g, .int .i32 i] := rfl
set_option maxRecDepth 100000 in
set_option maxHeartbeats 4000000 in
theorem vis_goR {σ : Type} {sn lm : Nat} {St : World → (Nat → Prop) → σ → Prop} {el : σ → Int → Nat → Option (List Int × σ)} {xf xn xp xe xv mb fb bs : Nat} {w : World} {T U : Nat → Prop} {S S2 : Wk σ} {gE gV : FuncId} {cb : Array Value} {n : Int} {l : Nat} {own next : List Int} {e1 : σ}
    {lv : Nat} (hlv : lv = l + 1) (hl : lv ≤ lm) (hlm : lm ≤ 100) (hs1 : 2 ≤ sn) (hs2 : sn ≤ 8) (E : Els sn St el ⟨xf, xn, xp, xe, xv, mb, fb, .func (.func gE) #[] cb, .func (.func gV) #[] #[.pointer (some ⟨xf, 0, none⟩), .pointer (some ⟨xn, 0, none⟩), .pointer (some ⟨xp, 0, none⟩), .pointer (some ⟨xe, 0, none⟩), .pointer (some ⟨xv, 0, none⟩)], bs⟩ lm gE cb)
    (eg : ∀ args w, (callFunc gE args).run Tryz.prog w = .ok (.enter gE args) w) (egV : ∀ args w, (callFunc gV args).run Tryz.prog w = .ok (.enter gV args) w)
    (IH : ∀ (n r : Int) (S S' : Wk σ) (w : World) (T U : Nat → Prop), I32 n → visitF sn el l n S = some (r, S') → WstR (sn : Int) St ⟨xf, xn, xp, xe, xv, mb, fb, .func (.func gE) #[] cb, .func (.func gV) #[] #[.pointer (some ⟨xf, 0, none⟩), .pointer (some ⟨xn, 0, none⟩), .pointer (some ⟨xp, 0, none⟩), .pointer (some ⟨xe, 0, none⟩), .pointer (some ⟨xv, 0, none⟩)], bs⟩ w T U S →
      Calls Tryz.prog gV #[.int .i32 n, .int .i64 (l : Int), .pointer (some ⟨xf, 0, none⟩), .pointer (some ⟨xn, 0, none⟩), .pointer (some ⟨xp, 0, none⟩), .pointer (some ⟨xe, 0, none⟩), .pointer (some ⟨xv, 0, none⟩)] w fun e w' => VisOutR (sn : Int) St ⟨xf, xn, xp, xe, xv, mb, fb, .func (.func gE) #[] cb, .func (.func gV) #[] #[.pointer (some ⟨xf, 0, none⟩), .pointer (some ⟨xn, 0, none⟩), .pointer (some ⟨xp, 0, none⟩), .pointer (some ⟨xe, 0, none⟩), .pointer (some ⟨xv, 0, none⟩)], bs⟩ w T U r S' e w')
    (hn : I32 n) (h : WstR (sn : Int) St ⟨xf, xn, xp, xe, xv, mb, fb, .func (.func gE) #[] cb, .func (.func gV) #[] #[.pointer (some ⟨xf, 0, none⟩), .pointer (some ⟨xn, 0, none⟩), .pointer (some ⟨xp, 0, none⟩), .pointer (some ⟨xe, 0, none⟩), .pointer (some ⟨xv, 0, none⟩)], bs⟩ w T U S) (hf : S.fin.lookup n = none) (ho : S.out.length ≤ 4096)
    (he : el S.s n lv = some (own, e1)) (hr : rowF (visitF sn el l) (own.take sn) { S with s := e1 } = some (next, S2)) (hS2 : S2.out.length ≤ 5000) :
    Calls Tryz.prog 107 #[.int .i32 n, .int .i64 (lv : Int), .pointer (some ⟨xf, 0, none⟩), .pointer (some ⟨xn, 0, none⟩), .pointer (some ⟨xp, 0, none⟩), .pointer (some ⟨xe, 0, none⟩), .pointer (some ⟨xv, 0, none⟩)] w fun e w' =>
      VisOutR (sn : Int) St ⟨xf, xn, xp, xe, xv, mb, fb, .func (.func gE) #[] cb, .func (.func gV) #[] #[.pointer (some ⟨xf, 0, none⟩), .pointer (some ⟨xn, 0, none⟩), .pointer (some ⟨xp, 0, none⟩), .pointer (some ⟨xe, 0, none⟩), .pointer (some ⟨xv, 0, none⟩)], bs⟩ w T U (S2.out.length : Int) { S2 with fin := (n, (S2.out.length : Int)) :: S2.fin, out := S2.out ++ [((lv : Int), next)] } e w' := by
  obtain ⟨b, hb⟩ : ∃ b : WB, b = ⟨xf, xn, xp, xe, xv, mb, fb, .func (.func gE) #[] cb, .func (.func gV) #[] #[.pointer (some ⟨xf, 0, none⟩), .pointer (some ⟨xn, 0, none⟩), .pointer (some ⟨xp, 0, none⟩), .pointer (some ⟨xe, 0, none⟩), .pointer (some ⟨xv, 0, none⟩)], bs⟩ := ⟨_, rfl⟩
  rw [← hb] at E IH h ⊢
  obtain ⟨b1, b2, b3, b4, b5, b6, b7, b8, b9⟩ : b.xf = xf ∧ b.xn = xn ∧ b.xp = xp ∧ b.xe = xe ∧ b.xv = xv ∧ b.mb = mb ∧ b.fb = fb ∧ b.ev = .func (.func gE) #[] cb ∧ b.vv = .func (.func gV) #[] #[.pointer (some ⟨xf, 0, none⟩), .pointer (some ⟨xn, 0, none⟩), .pointer (some ⟨xp, 0, none⟩), .pointer (some ⟨xe, 0, none⟩), .pointer (some ⟨xv, 0, none⟩)] := by subst hb; exact ⟨rfl, rfl, rfl, rfl, rfl, rfl, rfl, rfl, rfl⟩
  clear hb
  have hcl : ∀ k, b.cst k → k < w.heap.size := fun k hk => by
    rcases hk with rfl | rfl | rfl | rfl
    · exact h.cf.lt
    · exact h.cp.lt
    · exact h.ce.lt
    · exact h.cv.lt
  have HCL := Lib.hid hcl
  have lk := fin_look (P := Tryz.prog) h.map hn true
  rw [hf, b6] at lk
  simp only [if_true] at lk
  have kf := h.cf
  rw [b1, b6] at kf
  have kp := h.cp
  rw [b3, b7] at kp
  obtain ⟨f0, f1, f2⟩ := kf.one
  obtain ⟨p0, p1, p2⟩ := kp.one
  obtain ⟨G, A, c, xs, a1, a2, a3, a4, a5, a6⟩ := h.rest
  rw [b2] at a3
  obtain ⟨m0, m1, m2⟩ := a3.one
  obtain ⟨t0, t1⟩ := E.sts a1
  rw [b7] at t0 t1
  have mz := mk_zs hs1 hs2 w
  have F1 : Fr T w T (w.alloc (.cells (zs sn) 3)) := Fr.alloc T w _
  have W1 := h.keep E (Fr.alloc (fun _ => False) w (.cells (zs sn) 3)) (fun _ _ h => h) (fun _ _ h => h) (fun _ h => h.elim) (fun k => U k ∨ k = w.heap.size) (fun k hk => .inl hk) (fun k hk => hk.elim .inl (fun e => .inr (by omega))) (fun k hk => by
    rcases hk with hk | hk
    · have := h.uL k hk; simp; omega
    · simp; omega)
  obtain ⟨G1, hG1, hEl1⟩ := W1.elm E
  obtain ⟨hR8, C1⟩ := E.call _ G1 S.s e1 n lv own (by omega) hl hn hG1 he
  obtain ⟨x1, x2, x3, x4, x5, x6, x7, x8, rfl⟩ := oct hR8.1
  simp only [rowV_eight] at C1
  have ke := W1.ce
  rw [b4, b8] at ke
  obtain ⟨e10, e11, e12⟩ := ke.one
  have KZ := Lib.hid (Blk.new w 3 (zs sn))
  have EL1 := Lib.hid hEl1
  have C1H := Lib.hid C1
  have FF1 := Lib.hid F1
  have EE := Lib.hid E
  have IHH := Lib.hid IH
  have HR8 := Lib.hid hR8
  have HR := Lib.hid hr
  have HN := Lib.hid hn
  have HU := Lib.hid h.uL
  have HTU := Lib.hid h.tU
  have hn12 : IntKind.i64.wrap ((lv : Int) - 1) = (l : Int) := by rw [IntWalk.i64_in _ ⟨by omega, by omega⟩]; omega
  have hwl : IntKind.i64.wrap (l : Int) = (l : Int) := IntWalk.i64_in _ ⟨by omega, by omega⟩
  have hlv1 : (lv : Int) - 1 = (l : Int) := by omega
  have hlv2 : 1 ≤ lv := by omega
  clear h kf kp hlv a1 a2 a3 a4 a5 a6 hG1 W1 hEl1 C1 ke F1 E IH hR8 hf he hcl hr
  go_enter Tryz.func107, Tryz.ntmps107
  go_wp2_with (first
    | ((with_reducible refine (C1H.out).mono ?_); rintro e w2 ⟨G2, rfl, hs2', hf2⟩; obtain ⟨W2, F2⟩ := EL1.out w2 G2 e1 hs2' hf2; have WW2 := Lib.hid W2; have FF2 := Lib.hid (FF1.out.trans (F2.weak (H := T) (H' := fun k => T k ∨ G2 k) (fun _ h => h) (F2.new))); have FX2 := Lib.hid F2; clear W2 F2 hf2 hs2'))
  have hgz : w.heap.size < w2.heap.size := by have := FX2.out.size; simp at this; omega
  have K2 := Lib.hid (FX2.out.blk KZ.out (fun hT => by have := HU.out _ (HTU.out _ hT); omega))
  have W3 := WW2.out.keep EE.out (Fr.alloc (fun _ => False) w2 (.cells #[.int .i32 x1, .int .i32 x2, .int .i32 x3, .int .i32 x4, .int .i32 x5, .int .i32 x6, .int .i32 x7, .int .i32 x8] 132)) (fun _ _ h => h) (fun _ _ h => h) (fun _ h => h.elim) (fun k => ((U k ∨ k = w.heap.size) ∨ G2 k) ∨ k = w2.heap.size) (fun k hk => .inl hk) (fun k hk => hk.elim .inl (fun e => .inr (by omega))) (fun k hk => by
    rcases hk with hk | hk
    · have := WW2.out.uL k hk; simp; omega
    · simp; omega)
  have W3 := Lib.hid (W3.wide (U' := fun k => (U k ∨ k = w.heap.size ∨ k = w2.heap.size) ∨ (T k ∨ G2 k)) (fun k hk => .inr hk) (fun k hk => by
    rcases hk with (hk | hk | hk) | hk | hk
    · exact .inl (.inl (.inl hk))
    · exact .inl (.inl (.inr hk))
    · exact .inr hk
    · exact .inl (.inl (.inl (HTU.out k hk)))
    · exact .inl (.inr hk)))
  have F3 := Lib.hid (FF2.out.trans (Fr.alloc (fun k => T k ∨ G2 k) w2 (.cells #[.int .i32 x1, .int .i32 x2, .int .i32 x3, .int .i32 x4, .int .i32 x5, .int .i32 x6, .int .i32 x7, .int .i32 x8] 132)))
  have KO3 := Lib.hid (Blk.new w2 132 #[.int .i32 x1, .int .i32 x2, .int .i32 x3, .int .i32 x4, .int .i32 x5, .int .i32 x6, .int .i32 x7, .int .i32 x8])
  have KZ3 := Lib.hid (K2.out.alloc (.cells #[.int .i32 x1, .int .i32 x2, .int .i32 x3, .int .i32 x4, .int .i32 x5, .int .i32 x6, .int .i32 x7, .int .i32 x8] 132))
  have hT3 := Lib.hid (show ¬ (T w.heap.size ∨ G2 w.heap.size) ∧ ¬ (T w2.heap.size ∨ G2 w2.heap.size) from by
    refine ⟨fun hk => ?_, fun hk => ?_⟩
    · rcases FX2.out.new _ hk with h | h
      · have := HU.out _ (HTU.out _ h); omega
      · simp at h; omega
    · rcases hk with h | h
      · have := HU.out _ (HTU.out _ h); omega
      · have := WW2.out.uL _ (.inr h); omega)
  go_loopw [43] (fun jv wr => ∃ (j : Nat) (ys : List Int) (Sj : Wk σ) (Tj : Nat → Prop), j ≤ sn ∧ jv = .int .i64 (j : Int) ∧ ys.length = j ∧ rowF (visitF sn el l) ((([x1, x2, x3, x4, x5, x6, x7, x8] : List Int).take sn).take j) { S with s := e1 } = some (ys, Sj) ∧
    WstR (sn : Int) St b wr Tj (fun k => (U k ∨ k = w.heap.size ∨ k = w2.heap.size) ∨ Tj k) Sj ∧ Fr T w Tj wr ∧ ¬ Tj w.heap.size ∧ ¬ Tj w2.heap.size ∧ Blk wr w.heap.size 3 (il (ys ++ List.replicate (sn - ys.length) 0)).toArray ∧ Blk wr w2.heap.size 132 #[.int .i32 x1, .int .i32 x2, .int .i32 x3, .int .i32 x4, .int .i32 x5, .int .i32 x6, .int .i32 x7, .int .i32 x8]) (fun jv _ => sn - (intOf jv).toNat)
  case atStart => exact ⟨0, [], _, _, Nat.zero_le _, rfl, rfl, rfl, W3.out, F3.out, hT3.out.1, hT3.out.2, KZ3.out, KO3.out⟩
  case round =>
    obtain ⟨j, ys, Sj, Tj, hj, rfl, hyl, hrow, hw, hfr, ht1, ht2, hkz, hko⟩ := hrel
    have hszr : w2.heap.size < wr.heap.size := hko.lt
    have hgl : w.heap.size < wr.heap.size := hkz.lt
    have HW := Lib.hid hw
    have HF := Lib.hid hfr
    have HKZ := Lib.hid hkz
    have HKO := Lib.hid hko
    have HYL := Lib.hid hyl
    have HT1 := Lib.hid ht1
    have HT2 := Lib.hid ht2
    have HROW := Lib.hid hrow
    clear hw hfr hkz hko ht1 ht2 hrow hyl
    by_cases hjn : j < sn
    · have d1 : decide ((j : Int) < (sn : Int)) = true := by rw [decide_eq_true_iff]; omega
      have i0 : (0 : Int) ≤ (j : Int) := by omega
      have i1 : (j : Int) < 8 := by omega
      have i2 : (j : Int) < (sn : Int) := by omega
      have hj8 : j < 8 := by omega
      obtain ⟨y, zs', t1, t2, q1, q2, q3⟩ := rowF_take HR.out (j := j) (by simp; omega)
      have hqq := HROW.out.symm.trans q1
      simp only [Option.some.injEq, Prod.mk.injEq] at hqq
      obtain ⟨rfl, rfl⟩ := hqq
      rw [ig_take hjn] at q2
      have hx : I32 (ig ([x1, x2, x3, x4, x5, x6, x7, x8] : List Int) j) := HR8.out.2 _ (ig_mem (by simpa using hj8))
      have hwd := HW.out.below EE.out ((Below.refl wr.heap.size wr).drew)
      have CC := Lib.hid (IHH.out _ _ _ _ _ _ _ hx q2 hwd)
      have kv := HW.out.cv
      rw [b5, b9] at kv
      obtain ⟨v0, v1, v2⟩ := kv.one
      have ko : wr.cell? ⟨w2.heap.size, j, none⟩ = some (.int .i32 (ig ([x1, x2, x3, x4, x5, x6, x7, x8] : List Int) j)) := (HKO.out.cell j).trans (row_get (l := ([x1, x2, x3, x4, x5, x6, x7, x8] : List Int)) (by simpa using hj8))
      have Q3 := Lib.hid q3
      generalize ig ([x1, x2, x3, x4, x5, x6, x7, x8] : List Int) j = x at CC ko
      clear q1 q2 q3 hx hwd kv
      go_wp2
      go_region_with ((with_reducible refine (CC.out).mono ?_); rintro e w4 ⟨T4, rfl, hW4, hF4⟩; have W4 := Lib.hid hW4; have F4 := Lib.hid hF4; have KZ4 := Lib.hid (F4.out.blk (show Blk wr.drew _ _ _ from HKZ.out) HT1.out); have KO4 := Lib.hid (F4.out.blk (show Blk wr.drew _ _ _ from HKO.out) HT2.out); have z0 := KZ4.out.cell j; have z1 := KZ4.out.frozen j; rw [il_get (by have := HYL.out; simp; omega)] at z0; clear hW4 hF4)
      all_goals
        have hw4l : wr.heap.size ≤ w4.heap.size := F4.out.size
        have hN := Lib.hid F4.out.new
        have t41 : ¬ T4 w.heap.size := fun h => (hN.out _ h).elim HT1.out (fun h' => by have h' : wr.heap.size ≤ w.heap.size := h'; omega)
        have t42 : ¬ T4 w2.heap.size := fun h => (hN.out _ h).elim HT2.out (fun h' => by have h' : wr.heap.size ≤ w2.heap.size := h'; omega)
        have W5 := Lib.hid ((W4.out.wide (U' := fun k => (U k ∨ k = w.heap.size ∨ k = w2.heap.size) ∨ T4 k) (fun k hk => .inr hk) (fun k hk => hk.elim (fun h => .inl (.inl h)) .inr)).keep EE.out (Fr.set_ (G := fun k => k = w.heap.size) w4 (p := ⟨w.heap.size, j, none⟩) (.int .i64 y) rfl) (fun k hk e => t41 (e ▸ hk)) (fun k hk e => by have := HCL.out k hk; omega) (fun k e => .inl (.inr (.inl e))) _ (fun k hk => hk) (fun k hk => .inl hk) (fun k hk => by
          have : k < w4.heap.size := by
            rcases hk with hk | hk
            · exact W4.out.uL k (.inl (.inl hk))
            · exact W4.out.uL k (.inr hk)
          simpa [World.setCell] using this))
        have F5 := Lib.hid ((HF.out.trans (show Fr Tj wr T4 w4 from ⟨F4.out.os, F4.out.tape, F4.out.output, F4.out.size, F4.out.block, F4.out.new⟩)).set_new (p := ⟨w.heap.size, j, none⟩) (Nat.le_refl _) (.int .i64 y))
        have KZ5 := KZ4.out.set_ j (.int .i64 y)
        have hy2 := HYL.out
        rw [← hy2, zs_step (by omega), hy2] at KZ5
        have KZ5 := Lib.hid KZ5
        have KO5 := Lib.hid (KO4.out.far (p := ⟨w.heap.size, j, none⟩) (by show w2.heap.size ≠ w.heap.size; omega) (.int .i64 y))
        clear z0 z1 hy2 hN
        generalize w4.setCell ⟨w.heap.size, j, none⟩ (.int .i64 y) = w5 at W5 F5 KZ5 KO5 ⊢
        go_wp2
        go_roundw
        case rel => exact ⟨j + 1, ys ++ [y], t2, T4, by omega, by go_num, by simp [HYL.out], Q3.out, W5.out, F5.out, t41, t42, KZ5.out, KO5.out⟩
        case measure => simp [intOf]; omega
    · obtain rfl : j = sn := by omega
      have d1 : decide ((j : Int) < (j : Int)) = false := by rw [decide_eq_false_iff_not]; omega
      have hl8 : (([x1, x2, x3, x4, x5, x6, x7, x8] : List Int).take j).length = j := by simp; omega
      have hrow := HROW.out
      rw [List.take_of_length_le (by omega)] at hrow
      have hqq := HR.out.symm.trans hrow
      simp only [Option.some.injEq, Prod.mk.injEq] at hqq
      obtain ⟨rfl, rfl⟩ := hqq
      have kz := HKZ.out
      rw [HYL.out, Nat.sub_self, List.replicate_zero, List.append_nil] at kz
      have hw := HW.out
      obtain ⟨Gr, Ar, cr, xr, r1, r2, r3, r4, r5, r6⟩ := hw.rest
      obtain ⟨w5, hr5, hm5, hs5, hf5⟩ := MapOf.store (t := 158) hw.map Tryz.keyI32 Tryz.underlying158 (S2.out.length : Int) (key_i32 HN.out.1 HN.out.2) (fun y _ _ e => i32V_inj e)
      have hX : Reads wr wr.heap.size (some ⟨w.heap.size, 0, none⟩) next.length (il next) := by
        refine ⟨by simp [il], fun _ => ⟨_, rfl, hgl, fun i u hi => ?_⟩⟩
        have : (⟨w.heap.size, 0, none⟩ : Addr).add i = ⟨w.heap.size, i, none⟩ := by
          unfold Addr.add
          split
          · next h => subst h; rfl
          · simp
        rw [this, kz.cell, ← hi]
        simp
      obtain ⟨xs, ho5, PUSH⟩ := hw.push (n := n) (l := (lv : Int)) (X := next) (gz := w.heap.size) EE.out (U' := fun k => U k ∨ Tj k) (fun k hk => .inr hk) (fun k hk => hk.elim (fun h => .inl (.inl h)) .inr) hX (fun h => h.elim (fun h => by have := HU.out _ h; omega) HT1.out) hgl hm5 hf5 hs5 r3
      rw [b6] at hr5
      have kf := hw.cf
      rw [b1, b6] at kf
      obtain ⟨g0, g1, g2⟩ := kf.one
      have kn := r3
      rw [b2] at kn
      obtain ⟨n0, n1, n2⟩ := kn.one
      have hmn : b.mb ≠ b.xn := fun e => by
        obtain ⟨es, clock, hb, _⟩ := hw.map
        rw [e, r3] at hb
        cases hb
      have KN5 := Lib.hid (hf5.blk r3 (Ne.symm hmn))
      have kn5 := KN5.out
      rw [b2] at kn5
      obtain ⟨n50, n51, n52⟩ := kn5.one
      have PU := Lib.hid PUSH
      have O5 := Lib.hid ho5
      have HXL := Lib.hid (HYL.out)
      obtain ⟨i0, ji, jz0, jz1, jz2⟩ := info_parts Tryz.info_node
      have hrow5 : ∀ g, (Value.slice Ar S2.out.length cr).ownBlock = some g → g ≠ b.xn := fun g hg => (r5 g hg).2.1
      have HR5 := Lib.hid hrow5
      have hnl : b.xn < w5.heap.size := KN5.out.lt
      have hlen : (j : Int) = (next.length : Int) := by rw [HYL.out]
      have hb5 : b.bs ≤ w5.heap.size := by rw [hs5]; exact hw.bL
      have HS5 := Lib.hid hs5
      clear hs5
      clear hX PUSH ho5 kz r1 r2 r3 r4 r5 r6 hm5 hf5 kf kn kn5 hw hrow hrow5
      go_wp2_with (first
        | (at_builtin; refine wpList_append2L rfl _ _ 30 rfl b.bs 66 i0 (.agg #[.int .i64 0, .slice none 0 0]) 32 Tryz.underlying30 ji jz0 jz1 jz2 rfl Ar S2.out.length cr xs rfl O5.out (.int .i64 (lv : Int)) (.slice (some ⟨w.heap.size, 0, none⟩) j j) rfl rfl rfl (by unfold maxLen; omega) (by omega) hb5 ?_; intro g6 c6 w6 hown6 hbel6 hgr6 hat6; have K6 := Lib.hid (show Blk w6 b.xn 30 _ from (hgr6.block b.xn (by simp; omega) (fun e => HR5.out _ e.symm rfl)).trans (KN5.out.alloc _)); have k6 := K6.out; rw [b2] at k6; obtain ⟨q60, q61, q62⟩ := k6.one; obtain ⟨T7, W7, F7⟩ := PU.out _ g6 c6 j w6 (by rw [← HXL.out] at hown6 ⊢; exact hown6) hgr6 hat6 (hown6.lt g6 rfl).2; rw [b2] at W7 F7; have lk7 := fin_look (P := Tryz.prog) W7.map HN.out false; rw [b6, show List.lookup n ((n, (S2.out.length : Int)) :: S2.fin) = some (S2.out.length : Int) by simp [List.lookup]] at lk7; simp only [Bool.false_eq_true, if_false] at lk7; have k7 := W7.cf; rw [b1, b6] at k7; obtain ⟨q70, q71, q72⟩ := k7.one; have HW7 := Lib.hid W7; have HF7 := Lib.hid F7; clear W7 F7 k6 k7 hown6 hbel6 hgr6 hat6))
      go_ret
      exact ⟨T7, rfl, HW7.out.wide (fun k hk => .inr hk) (fun k hk => hk.elim (fun h => .inl (.inl h)) .inr), HF.out.trans HF7.out⟩
end Go.Proofs.YtcgkkppidkkjiaaGreatDoor
namespace Go.Proofs.YtcgkkppidkkjiaaGreatDoor
open Go.RowKit
/-- how long the list may become -/
theorem visit_len {σ : Type} {sn : Nat} {el : σ → Int → Nat → Option (List Int × σ)} : ∀ (l : Nat) (n r : Int) (S S' : Wk σ), visitF sn el l n S = some (r, S') → S.out.length ≤ S'.out.length ∧ S'.out.length ≤ max S.out.length (4096 + l)
  | 0, n, r, S, S', h => by
    simp only [visitF, Option.some.injEq, Prod.mk.injEq] at h
    obtain ⟨_, rfl⟩ := h
    omega
  | l + 1, n, r, S, S', h => by
    have row : ∀ (xs : List Int) (t t' : Wk σ) (ys : List Int), rowF (visitF sn el l) xs t = some (ys, t') → t.out.length ≤ t'.out.length ∧ t'.out.length ≤ max t.out.length (4096 + l) := by
      intro xs
      induction xs with
      | nil => intro t t' ys h; simp only [rowF, Option.some.injEq, Prod.mk.injEq] at h; obtain ⟨_, rfl⟩ := h; omega
      | cons x xs ih =>
        intro t t' ys h
        simp only [rowF] at h
        cases hv : visitF sn el l x t with
        | none => rw [hv] at h; cases h
        | some p =>
          obtain ⟨y, t1⟩ := p
          rw [hv] at h
          simp only [Option.bind_some] at h
          cases hr : rowF (visitF sn el l) xs t1 with
          | none => rw [hr] at h; cases h
          | some q =>
            obtain ⟨ys', t2⟩ := q
            rw [hr] at h
            simp only [Option.bind_some, Option.some.injEq, Prod.mk.injEq] at h
            obtain ⟨_, rfl⟩ := h
            have h1 := visit_len l _ _ _ _ hv
            have h2 := ih _ _ _ hr
            omega
    simp only [visitF] at h
    cases hf : S.fin.lookup n with
    | some i =>
      rw [hf] at h
      simp only [Option.some.injEq, Prod.mk.injEq] at h
      obtain ⟨_, rfl⟩ := h
      omega
    | none =>
      rw [hf] at h
      simp only at h
      split at h
      · simp only [Option.some.injEq, Prod.mk.injEq] at h
        obtain ⟨_, rfl⟩ := h
        omega
      · next hc =>
        cases he : el S.s n (l + 1) with
        | none => rw [he] at h; cases h
        | some p =>
          obtain ⟨own, e⟩ := p
          rw [he] at h
          simp only [Option.bind_some] at h
          cases hr : rowF (visitF sn el l) (own.take sn) { S with s := e } with
          | none => rw [hr] at h; cases h
          | some q =>
            obtain ⟨next, S2⟩ := q
            rw [hr] at h
            simp only [Option.bind_some, Option.some.injEq, Prod.mk.injEq] at h
            obtain ⟨_, rfl⟩ := h
            have h1 := row _ _ _ _ hr
            simp only at h1 ⊢
            simp only [List.length_append, List.length_singleton]
            omega
/-- the row of a visit, in length -/
theorem row_len {σ : Type} {sn l : Nat} {el : σ → Int → Nat → Option (List Int × σ)} {xs ys : List Int} {t t' : Wk σ} (h : rowF (visitF sn el l) xs t = some (ys, t')) : t'.out.length ≤ max t.out.length (4096 + l) := by
  induction xs generalizing t ys with
  | nil => simp only [rowF, Option.some.injEq, Prod.mk.injEq] at h; obtain ⟨_, rfl⟩ := h; omega
  | cons x xs ih =>
    simp only [rowF] at h
    cases hv : visitF sn el l x t with
    | none => rw [hv] at h; cases h
    | some p =>
      obtain ⟨y, t1⟩ := p
      rw [hv] at h
      simp only [Option.bind_some] at h
      cases hr : rowF (visitF sn el l) xs t1 with
      | none => rw [hr] at h; cases h
      | some q =>
        obtain ⟨ys', t2⟩ := q
        rw [hr] at h
        simp only [Option.bind_some, Option.some.injEq, Prod.mk.injEq] at h
        obtain ⟨_, rfl⟩ := h
        have h1 := visit_len l _ _ _ _ hv
        have h2 := ih hr
        omega
/-- the closure that visits -/
@[reducible] def visVR (xf xn xp xe xv : Nat) : Value := .func (.func 107) #[] #[.pointer (some ⟨xf, 0, none⟩), .pointer (some ⟨xn, 0, none⟩), .pointer (some ⟨xp, 0, none⟩), .pointer (some ⟨xe, 0, none⟩), .pointer (some ⟨xv, 0, none⟩)]
theorem visit_any {σ : Type} {sn lm : Nat} {St : World → (Nat → Prop) → σ → Prop} {el : σ → Int → Nat → Option (List Int × σ)} {xf xn xp xe xv mb fb bs : Nat} {gE : FuncId} {cb : Array Value}
    (hlm : lm ≤ 100) (hs1 : 2 ≤ sn) (hs2 : sn ≤ 8) (E : Els sn St el ⟨xf, xn, xp, xe, xv, mb, fb, .func (.func gE) #[] cb, visVR xf xn xp xe xv, bs⟩ lm gE cb) (eg : ∀ args w, (callFunc gE args).run Tryz.prog w = .ok (.enter gE args) w) :
    ∀ (l : Nat), l ≤ lm → ∀ (n r : Int) (S S' : Wk σ) (w : World) (T U : Nat → Prop), I32 n → visitF sn el l n S = some (r, S') → WstR (sn : Int) St ⟨xf, xn, xp, xe, xv, mb, fb, .func (.func gE) #[] cb, visVR xf xn xp xe xv, bs⟩ w T U S →
      Calls Tryz.prog 107 #[.int .i32 n, .int .i64 (l : Int), .pointer (some ⟨xf, 0, none⟩), .pointer (some ⟨xn, 0, none⟩), .pointer (some ⟨xp, 0, none⟩), .pointer (some ⟨xe, 0, none⟩), .pointer (some ⟨xv, 0, none⟩)] w fun e w' => VisOutR (sn : Int) St ⟨xf, xn, xp, xe, xv, mb, fb, .func (.func gE) #[] cb, visVR xf xn xp xe xv, bs⟩ w T U r S' e w'
  | 0, _, n, r, S, S', w, T, U, hn, hv, h => by
    simp only [visitF, Option.some.injEq, Prod.mk.injEq] at hv
    obtain ⟨rfl, rfl⟩ := hv
    exact vis_zeroR (b := ⟨xf, xn, xp, xe, xv, mb, fb, .func (.func gE) #[] cb, visVR xf xn xp xe xv, bs⟩) hn h
  | l + 1, hl, n, r, S, S', w, T, U, hn, hv, h => by
    simp only [visitF] at hv
    cases hf : S.fin.lookup n with
    | some i =>
      rw [hf] at hv
      simp only [Option.some.injEq, Prod.mk.injEq] at hv
      obtain ⟨rfl, rfl⟩ := hv
      exact vis_foundR (b := ⟨xf, xn, xp, xe, xv, mb, fb, .func (.func gE) #[] cb, visVR xf xn xp xe xv, bs⟩) (by omega) (by omega) hn h hf
    | none =>
      rw [hf] at hv
      simp only at hv
      split at hv
      · next hc =>
        simp only [Option.some.injEq, Prod.mk.injEq] at hv
        obtain ⟨rfl, rfl⟩ := hv
        exact vis_cut (b := ⟨xf, xn, xp, xe, xv, mb, fb, .func (.func gE) #[] cb, visVR xf xn xp xe xv, bs⟩) (by omega) (by omega) hn h hf hc
      · next hc =>
        cases he : el S.s n (l + 1) with
        | none => rw [he] at hv; cases hv
        | some p =>
          obtain ⟨own, e⟩ := p
          rw [he] at hv
          simp only [Option.bind_some] at hv
          cases hr : rowF (visitF sn el l) (own.take sn) { S with s := e } with
          | none => rw [hr] at hv; cases hv
          | some q =>
            obtain ⟨next, S2⟩ := q
            rw [hr] at hv
            simp only [Option.bind_some, Option.some.injEq, Prod.mk.injEq] at hv
            obtain ⟨rfl, rfl⟩ := hv
            have hb := row_len hr
            refine vis_goR (gV := 107) (l := l) rfl hl hlm hs1 hs2 E eg (enters_of Tryz.func107 (by kernel_rfl) rfl) ?_ hn h hf (by omega) he hr (by simp only at hb; omega)
            intro n' r' S1 S1' w1 T1 U1 hn' hv' h'
            exact visit_any hlm hs1 hs2 E eg l (by omega) n' r' S1 S1' w1 T1 U1 hn' hv' h'
end Go.Proofs.YtcgkkppidkkjiaaGreatDoor
namespace Go.Proofs.YtcgkkppidkkjiaaGreatDoor
open Go.RowKit
/-- the number n is a tree that reads the levels ls -/
def Wf (sn : Nat) (L : List Ndv) : List Int → Int → Prop
  | [], n => 0 ≤ n ∧ n < (sn : Int)
  | l :: ls, n => ∃ nd, nodeF (sn : Int) L n = some nd ∧ nd.lv = l ∧ nd.r.length = 8 ∧ (∀ s, s < sn → Wf sn L ls (ig nd.r s)) ∧ ∀ s, sn ≤ s → ig nd.r s = 0
/-- what it leads to -/
def fv (sn : Nat) (L : List Ndv) : List Int → Int → (Int → Nat) → Int
  | [], n, _ => n
  | l :: ls, n, e => match nodeF (sn : Int) L n with
    | some nd => fv sn L ls (ig nd.r (e l)) e
    | none => 0
def upd (e : Int → Nat) (p : Int) (j : Nat) (x : Int) : Nat := if x = p then j else e x
section
variable {sn : Nat} {L L' : List Ndv}
theorem fv_congr : ∀ {ls : List Int} {n : Int} {e e' : Int → Nat}, (∀ x ∈ ls, e x = e' x) → fv sn L ls n e = fv sn L ls n e'
  | [], _, _, _, _ => rfl
  | l :: ls, n, e, e', h => by
    simp only [fv]
    cases nodeF (sn : Int) L n with
    | none => rfl
    | some nd =>
      simp only
      rw [h l (by simp)]
      exact fv_congr fun x hx => h x (by simp [hx])
theorem ig_ext {r r' : List Int} (h1 : r.length = 8) (h2 : r'.length = 8) (h : ∀ s, s < 8 → ig r s = ig r' s) : r = r' := by
  apply List.ext_getElem (by omega)
  intro i hi hi'
  have := h i (by omega)
  simpa [ig, hi, hi'] using this
theorem nodeF_inj (hL : L.Nodup) {a b : Int} {nd : Ndv} (ha : nodeF (sn : Int) L a = some nd) (hb : nodeF (sn : Int) L b = some nd) : a = b := by
  unfold nodeF at ha hb
  split at ha
  · split at hb
    · have h1 : (a - (sn : Int)).toNat < L.length := by
        rcases Nat.lt_or_ge (a - (sn : Int)).toNat L.length with q | q
        · exact q
        · rw [List.getElem?_eq_none q] at ha; cases ha
      have := (List.getElem?_inj h1 hL).1 (ha.trans hb.symm)
      omega
    · cases hb
  · cases ha
/-- no two numbers mean the same -/
theorem Wf.inj (hs : 0 < sn) (hL : L.Nodup) : ∀ {ls : List Int} {a b : Int}, ls.Nodup → Wf sn L ls a → Wf sn L ls b → (∀ e : Int → Nat, (∀ x, e x < sn) → fv sn L ls a e = fv sn L ls b e) → a = b
  | [], a, b, _, _, _, h => h (fun _ => 0) (fun _ => hs)
  | l :: ls, a, b, hd, ⟨na, a1, a2, a3, a4, a5⟩, ⟨nb, b1, b2, b3, b4, b5⟩, h => by
    obtain ⟨hl, hd'⟩ := List.nodup_cons.1 hd
    have hr : na.r = nb.r := ig_ext a3 b3 fun s _ => by
      rcases Nat.lt_or_ge s sn with q | q
      · refine Wf.inj hs hL hd' (a4 s q) (b4 s q) fun e he => ?_
        have := h (upd e l s) (fun x => by unfold upd; split; exact q; exact he x)
        simp only [fv, a1, b1] at this
        have hu : upd e l s l = s := by simp [upd]
        rw [hu] at this
        have hc : ∀ n, fv sn L ls n (upd e l s) = fv sn L ls n e := fun n => fv_congr fun x hx => by
          unfold upd
          have : x ≠ l := fun q => hl (by rw [← q]; exact hx)
          rw [if_neg this]
        rw [hc, hc] at this
        exact this
      · rw [a5 s q, b5 s q]
    have : na = nb := by
      cases na; cases nb
      simp only at hr a2 b2
      simp [hr, a2, b2]
    subst this
    exact nodeF_inj hL a1 b1
end
end Go.Proofs.YtcgkkppidkkjiaaGreatDoor
