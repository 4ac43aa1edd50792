/- The walk of examine: a node that isn't known. -/
import Derived.Test.YtjekpmkghpjamaaGreatDoorMaf
import Derived.Test.YtjekpmkghpjamaaGreatDoorMab
import Derived.Test.YtjekpmkghpjamaaGreatDoorMaj
import Derived.Test.YtjekpmkghpjamaaGreatDoorMal
import Derived.Test.YtjekpmkghpjamaaGreatDoorMae
import Derived.Test.YtjekpmkghpjamaaGreatDoorMaa
import Derived.Test.YtjekpmkghpjamaaGreatDoorMad
import Derived.Test.YtjekpmkghpjamaaGreatDoorMak
import Derived.Test.YtjekpmkghpjamaaGreatDoorMac
import Derived.Test.YtjekpmkghpjamaaGreatDoorMag
import Derived.Test.YtjekpmkghpjamaaGreatDoorMai
import Derived.Test.YtjekpmkghpjamaaGreatDoorMah
import Derived.Below
import Derived.BigQuiet
import Derived.Carry
import Derived.Deep.AppendLies
import Derived.Deep.CutRange
import Derived.Deep.Draws
import Derived.Deep.QuietTactic
import Derived.Deep.RegionHeldLaw
import Derived.Deep.RegionLaw
import Derived.DeepKeys4
import Derived.IntWalk
import Derived.Laws.MakeOwn
import Derived.Laws.OwnMore
import Derived.Laws.Rows
import Derived.Lib.Hide
import Derived.LoopN
import Derived.Maps.OwnOps
import Derived.OwnWalk
import Derived.Shelf.Abstract
import Derived.Sort.Statements
import Derived.StillTail
import Derived.StillTailTactics
import Derived.Test.YtjekpmkghpjamaaGreatDoorRows
import Derived.WalkKit
namespace Go.Proofs.YtjekpmkghpjamaaGreatDoor
open Go.RowKit
theorem Fr.new_block {G G' X X' : Nat → Prop} {w w' w'' : World} (h : Fr G w G' w') (k : Fr X w' X' w'') (hX : ∀ i, X i → w.heap.size ≤ i) : Fr G w G' w'' :=
  ⟨k.os.trans h.os, k.tape.trans h.tape, k.output.trans h.output, Nat.le_trans h.size k.size, fun i hi hG => (k.block i (Nat.lt_of_lt_of_le hi h.size) (fun hx => by have := hX i hx; omega)).trans (h.block i hi hG), h.new⟩
theorem set8_fr (w : World) (g : Nat) (b0 b1 b2 b3 b4 b5 b6 b7 : Value) : Fr (fun k => k = g) w (fun k => k = g) ((((((((w.setCell ⟨g, 0, none⟩ b0).setCell ⟨g, 1, none⟩ b1).setCell ⟨g, 2, none⟩ b2).setCell ⟨g, 3, none⟩ b3).setCell ⟨g, 4, none⟩ b4).setCell ⟨g, 5, none⟩ b5).setCell ⟨g, 6, none⟩ b6).setCell ⟨g, 7, none⟩ b7) :=
  (((((((Fr.set_ w (p := ⟨g, 0, none⟩) b0 (by rfl)).trans (Fr.set_ _ (p := ⟨g, 1, none⟩) b1 (by rfl))).trans (Fr.set_ _ (p := ⟨g, 2, none⟩) b2 (by rfl))).trans (Fr.set_ _ (p := ⟨g, 3, none⟩) b3 (by rfl))).trans (Fr.set_ _ (p := ⟨g, 4, none⟩) b4 (by rfl))).trans (Fr.set_ _ (p := ⟨g, 5, none⟩) b5 (by rfl))).trans (Fr.set_ _ (p := ⟨g, 6, none⟩) b6 (by rfl))).trans (Fr.set_ _ (p := ⟨g, 7, none⟩) b7 (by rfl))
theorem HKQ9lv {w : World} {g : Nat} {t : TypeId} {a b c d e f x y z : Value} (h : Blk w g t #[a, b, c, d, e, f, x, y, z]) : w.cell? ⟨g, 0, none⟩ = some a := by rw [h.cell]; rfl
theorem zero_wo : Tryz.zeroCells212 = woA (fun _ => 0) [] := by kernel_rfl
set_option maxRecDepth 100000 in
set_option maxHeartbeats 8000000 in
theorem exam_new {sn fb kb f : Nat} {w : World} {G : Nat → Prop} {s s1 : List Ndv × Mem} {n p : Int} {nd : Ndv} {rows : List (List Int)} {res : List Int} {L2 : List Ndv} (hs1 : 2 ≤ sn) (hs2 : sn ≤ 8)
    (IH : ∀ (n : Int) (s s' : List Ndv × Mem) (r : List Int) (w : World) (G : Nat → Prop), I32 n → examF sn p f n s = some (r, s') → Exs sn fb kb w G s →
      Calls Tryz.prog 105 #[.pointer (some ⟨fb, 0, none⟩), .int .i32 n, .int .i64 p, .map (some kb)] w fun e w' => ExOut sn fb kb w G r s' e w')
    (hn : I32 n) (h : Exs sn fb kb w G s) (hk : nodeF (sn : Int) s.1 n = some nd) (hp : nd.lv ≠ p) (hR : s.2.lookup n = none) (hr : rowF (examF sn p f) (nd.r.take sn) s = some (rows, s1))
    (ha : rowF (fun (j : Nat) L => addF (sn : Int) L (colN nd.lv rows j)) (List.range sn) s1.1 = some (res, L2)) :
    Calls Tryz.prog 105 #[.pointer (some ⟨fb, 0, none⟩), .int .i32 n, .int .i64 p, .map (some kb)] w fun e w' => ExOut sn fb kb w G (res ++ List.replicate (8 - sn) 0) (L2, (n, res ++ List.replicate (8 - sn) 0) :: s1.2) e w' := by
  obtain ⟨H, hf, hHG, hm, hG1, hG2, hRR⟩ := id h
  have hN8 := hf.st2.2.2.2.2.1 nd (nodeF_mem hk)
  have hfb := hf.st2.2.2.2.2.2.1
  have C := Lib.hid (node_any (hf.below ((Below.refl w.heap.size w).alloc (Nat.le_refl _) (.cells #[.int .i32 0, .int .i32 0, .int .i32 0, .int .i32 0, .int .i32 0, .int .i32 0, .int .i32 0, .int .i32 0] 150))) hk)
  have B1 := Lib.hid ((Below.refl w.heap.size w).alloc (Nat.le_refl _) (.cells #[.int .i32 0, .int .i32 0, .int .i32 0, .int .i32 0, .int .i32 0, .int .i32 0, .int .i32 0, .int .i32 0] 150))
  have K1 := Lib.hid (Blk.new w 150 #[.int .i32 0, .int .i32 0, .int .i32 0, .int .i32 0, .int .i32 0, .int .i32 0, .int .i32 0, .int .i32 0])
  have HH := Lib.hid h
  have HM := Lib.hid hm
  have HN := Lib.hid hn
  have HRR := Lib.hid hR
  have HF := Lib.hid hf
  have HR := Lib.hid hr
  have HA := Lib.hid ha
  have IHH := Lib.hid IH
  have HG2 := Lib.hid hG2
  obtain ⟨lv, rr⟩ := nd
  have HN8 := Lib.hid hN8
  have hnR := hN8.2.2
  simp only at hnR
  obtain ⟨v1, v2, v3, v4, v5, v6, v7, v8, rfl⟩ := oct hnR.1
  simp only at hp
  have hd : (lv == p) = false := by simpa using hp
  rw [nodV_eight] at C
  have hfl : fb < w.heap.size := hf.st2.2.1
  clear h hf hm hk hHG hR hRR hnR hn hN8 hr ha IH hG1 hfb hG2
  go_enter Tryz.func105, Tryz.ntmps105
  go_wp2_with (go_at_call 161; (with_reducible refine (C.out).mono ?_); rintro e w2 ⟨rfl, hb2⟩; have B2 := Lib.hid (B1.out.trans (hb2.mono B1.out.size)); have K2 := Lib.hid (K1.out.below hb2 K1.out.lt); have BA := B2.out.alloc B2.out.size (.cells #[.int .i64 lv, .int .i32 v1, .int .i32 v2, .int .i32 v3, .int .i32 v4, .int .i32 v5, .int .i32 v6, .int .i32 v7, .int .i32 v8] 155); have lk := mem_look (HM.out.of_block (BA.block _ HM.out.lt)) HN.out; rw [HRR.out] at lk; simp only [rowV_eight] at lk; have F3 := HF.out.below (BA.alloc BA.size (.cells #[.int .i32 0, .int .i32 0, .int .i32 0, .int .i32 0, .int .i32 0, .int .i32 0, .int .i32 0, .int .i32 0] 150)); have BB := (BA.alloc BA.size (.cells #[.int .i32 0, .int .i32 0, .int .i32 0, .int .i32 0, .int .i32 0, .int .i32 0, .int .i32 0, .int .i32 0] 150)); have f30 := (F3.below ((Below.refl _ _).alloc (Nat.le_refl _) (.cells Tryz.zeroCells212 212))).st2.1; have F3H := Lib.hid F3; clear BA F3 BB)
  have sz2 : w.heap.size < w2.heap.size := by have := B2.out.size; have := K2.out.lt; omega
  have EX3 := Lib.hid (HH.out.below (((B2.out.alloc B2.out.size (.cells #[.int .i64 lv, .int .i32 v1, .int .i32 v2, .int .i32 v3, .int .i32 v4, .int .i32 v5, .int .i32 v6, .int .i32 v7, .int .i32 v8] 155)).alloc (by simp; omega) (.cells #[.int .i32 0, .int .i32 0, .int .i32 0, .int .i32 0, .int .i32 0, .int .i32 0, .int .i32 0, .int .i32 0] 150)).alloc (by simp; omega) (.cells Tryz.zeroCells212 212)))
  have FR3 := Lib.hid (Fr.of_below (G := G) (((B2.out.alloc B2.out.size (.cells #[.int .i64 lv, .int .i32 v1, .int .i32 v2, .int .i32 v3, .int .i32 v4, .int .i32 v5, .int .i32 v6, .int .i32 v7, .int .i32 v8] 155)).alloc (by simp; omega) (.cells #[.int .i32 0, .int .i32 0, .int .i32 0, .int .i32 0, .int .i32 0, .int .i32 0, .int .i32 0, .int .i32 0] 150)).alloc (by simp; omega) (.cells Tryz.zeroCells212 212)))
  have KR3 := Lib.hid (((K2.out.alloc (.cells #[.int .i64 lv, .int .i32 v1, .int .i32 v2, .int .i32 v3, .int .i32 v4, .int .i32 v5, .int .i32 v6, .int .i32 v7, .int .i32 v8] 155)).alloc (.cells #[.int .i32 0, .int .i32 0, .int .i32 0, .int .i32 0, .int .i32 0, .int .i32 0, .int .i32 0, .int .i32 0] 150)).alloc (.cells Tryz.zeroCells212 212))
  have K93 := Lib.hid (((Blk.new w2 155 #[.int .i64 lv, .int .i32 v1, .int .i32 v2, .int .i32 v3, .int .i32 v4, .int .i32 v5, .int .i32 v6, .int .i32 v7, .int .i32 v8]).alloc (.cells #[.int .i32 0, .int .i32 0, .int .i32 0, .int .i32 0, .int .i32 0, .int .i32 0, .int .i32 0, .int .i32 0] 150)).alloc (.cells Tryz.zeroCells212 212))
  have K123 := Blk.new ((w2.alloc (.cells #[.int .i64 lv, .int .i32 v1, .int .i32 v2, .int .i32 v3, .int .i32 v4, .int .i32 v5, .int .i32 v6, .int .i32 v7, .int .i32 v8] 155)).alloc (.cells #[.int .i32 0, .int .i32 0, .int .i32 0, .int .i32 0, .int .i32 0, .int .i32 0, .int .i32 0, .int .i32 0] 150)) 212 Tryz.zeroCells212
  simp only [World.size_alloc] at K123
  rw [zero_wo] at K123
  have K123 := Lib.hid K123
  rw [← zero_wo] at K123
  clear f30
  obtain ⟨w3, hw3⟩ : ∃ w3, w3 = ((w2.alloc (.cells #[.int .i64 lv, .int .i32 v1, .int .i32 v2, .int .i32 v3, .int .i32 v4, .int .i32 v5, .int .i32 v6, .int .i32 v7, .int .i32 v8] 155)).alloc (.cells #[.int .i32 0, .int .i32 0, .int .i32 0, .int .i32 0, .int .i32 0, .int .i32 0, .int .i32 0, .int .i32 0] 150)).alloc (.cells Tryz.zeroCells212 212) := ⟨_, rfl⟩
  rw [← hw3] at EX3 FR3 KR3 K93 K123 ⊢
  clear hw3 lk F3H K2
  rw [zero_wo] at K123
  generalize hb12 : w2.heap.size + 1 + 1 = b12 at K123 ⊢
  generalize hb9 : w2.heap.size = b9 at K93 sz2 hb12 ⊢
  have hb12' : b9 < b12 := by omega
  clear hb12 hb9
  go_loopw [39] (fun jv wr => ∃ (j : Nat) (rj : List (List Int)) (sj : List Ndv × Mem) (Gj : Nat → Prop), j ≤ sn ∧ jv = .int .i64 (j : Int) ∧ rj.length = j ∧ (∀ R ∈ rj, R8 R) ∧ rowF (examF sn p f) ((([v1, v2, v3, v4, v5, v6, v7, v8] : List Int).take sn).take j) s = some (rj, sj) ∧
    Exs sn fb kb wr Gj sj ∧ Fr G w Gj wr ∧ ¬ Gj w.heap.size ∧ ¬ Gj b9 ∧ ¬ Gj b12 ∧ Blk wr w.heap.size 150 #[.int .i32 0, .int .i32 0, .int .i32 0, .int .i32 0, .int .i32 0, .int .i32 0, .int .i32 0, .int .i32 0] ∧ Blk wr b9 155 #[.int .i64 lv, .int .i32 v1, .int .i32 v2, .int .i32 v3, .int .i32 v4, .int .i32 v5, .int .i32 v6, .int .i32 v7, .int .i32 v8] ∧ Blk wr b12 212 (woA (fun _ => 0) rj)) (fun jv _ => sn - (intOf jv).toNat)
  case atStart =>
    have hno : ∀ k, w.heap.size ≤ k → ¬ G k := fun k hk hG => by have := HG2.out k hG; omega
    exact ⟨0, [], s, G, Nat.zero_le _, rfl, rfl, by simp, rfl, EX3.out, FR3.out, hno _ (Nat.le_refl _), hno _ (by omega), hno _ (by omega), KR3.out, K93.out, K123.out⟩
  case round =>
    obtain ⟨j, rj, sj, Gj, hj, rfl, hrl, hr8, hrow, hex, hfr, hn0, hn9, hn12, hkr, hk9, hk12⟩ := hrel
    obtain ⟨wo, rfl⟩ : ∃ wo, wo = wr := ⟨wr, rfl⟩
    have HROW := Lib.hid hrow
    have HEX := Lib.hid hex
    have HFR := Lib.hid hfr
    have HN0 := Lib.hid hn0
    have HN9 := Lib.hid hn9
    have HN12 := Lib.hid hn12
    have HKR := Lib.hid hkr
    have HK9 := Lib.hid hk9
    have HK12 := Lib.hid hk12
    have HRL := Lib.hid hrl
    have HR8J := Lib.hid hr8
    have l0 : w.heap.size < wo.heap.size := hkr.lt
    have l9 : b9 < wo.heap.size := hk9.lt
    have l12 : b12 < wo.heap.size := hk12.lt
    clear hrow hex hfr hn0 hn9 hn12 hkr hk9 hk12 hrl hr8
    by_cases hjn : j < sn
    · have d1 : decide ((j : Int) < (sn : Int)) = true := by rw [decide_eq_true_iff]; omega
      have j0 : (0 : Int) ≤ (j : Int) := by omega
      have j1 : (j : Int) < 8 := by omega
      have hj8 : j < 8 := by omega
      obtain ⟨R, zs', t1, t2, q1, q2, q3⟩ := rowF_take HR.out (j := j) (by simp; omega)
      have hqq := HROW.out.symm.trans q1
      simp only [Option.some.injEq, Prod.mk.injEq] at hqq
      obtain ⟨rfl, rfl⟩ := hqq
      rw [ig_take hjn] at q2
      have hx : I32 (ig ([v1, v2, v3, v4, v5, v6, v7, v8] : List Int) j) := HN8.out.2.2.2 _ (ig_mem (by simpa using hj8))
      have ko : wo.cell? ⟨b9, 1 + j, none⟩ = some (.int .i32 (ig ([v1, v2, v3, v4, v5, v6, v7, v8] : List Int) j)) := by
        have h1 := HK9.out.cell (1 + j)
        rw [h1]
        have := row_get (l := [v1, v2, v3, v4, v5, v6, v7, v8]) (j := j) (by simpa using hj8)
        rw [← this, Nat.add_comm]
        simp
      have CC := Lib.hid (IHH.out _ _ _ _ _ _ hx q2 HEX.out)
      have Q3 := Lib.hid q3
      generalize ig ([v1, v2, v3, v4, v5, v6, v7, v8] : List Int) j = x at CC ko
      clear q1 q2 q3 hx
      go_wp2_with (go_at_call 105; (with_reducible refine (CC.out).mono ?_); rintro e w4 ⟨G4, rfl, hR8, hE4, hF4⟩; have HR4 := Lib.hid hR8; have E4 := Lib.hid hE4; have F4 := Lib.hid hF4; have KR4 := Lib.hid (hF4.blk HKR.out HN0.out); have K94 := Lib.hid (hF4.blk HK9.out HN9.out); have K124 := Lib.hid (hF4.blk HK12.out HN12.out); clear hR8 hE4 hF4)
      have RR := fun w q h => run_row HR4.out.1 w q h
      have hz9 : b12 < w4.heap.size := K124.out.lt
      go_loopw [50] (fun qv wr => ∃ (q : Nat), q ≤ 8 ∧ qv = .int .i64 (q : Int) ∧ Blk wr b12 212 (woA (fun _ => 0) (rj ++ [R.take q])) ∧ Fr (fun k => k = b12) w4 (fun k => k = b12) wr) (fun qv _ => 8 - (intOf qv).toNat)
      case atStart => exact ⟨0, by omega, rfl, by rw [woA_start]; exact K124.out, Fr.refl _ _⟩
      case round =>
        obtain ⟨q, hq, rfl, hkb, hfb⟩ := hrel
        have HKB := Lib.hid hkb
        have HFB := Lib.hid hfb
        clear hkb hfb
        by_cases hq8 : q < 8
        · have d2 : decide ((q : Int) < 8) = true := by rw [decide_eq_true_iff]; omega
          have q0 : (0 : Int) ≤ (q : Int) := by omega
          have q1 : (q : Int) < 8 := by omega
          have rq := RR wr q hq8
          have hz := (HKB.out.cell (q * 9 + 1 + j)).trans (woA_get _ _ (by omega))
          have hzf := HKB.out.frozen (q * 9 + 1 + j)
          generalize woX (fun _ => 0) (rj ++ [R.take q]) (q * 9 + 1 + j) = zz at hz
          go_wp2
          have Z1 := HKB.out.set_ (q * 9 + 1 + j) (.int .i32 (ig R q))
          have hl := HRL.out
          rw [← hl, woA_step (by omega) hq8 HR4.out.1] at Z1
          rw [hl] at Z1
          exact ⟨⟨q + 1, by omega, by go_num, Z1, HFB.out.trans (Fr.set_ (G := fun k => k = b12) wr (p := ⟨b12, q * 9 + 1 + j, none⟩) _ rfl)⟩, by simp [intOf]; omega⟩
        · obtain rfl : q = 8 := by omega
          have hkb := HKB.out
          rw [woA_full _ _ HR4.out.1] at hkb
          have HKB2 := Lib.hid hkb
          clear hkb RR
          go_wp2
          have n40 : ¬ G4 w.heap.size := fun h => (F4.out.new _ h).elim HN0.out (fun h => by omega)
          have n49 : ¬ G4 b9 := fun h => (F4.out.new _ h).elim HN9.out (fun h => by omega)
          have n412 : ¬ G4 b12 := fun h => (F4.out.new _ h).elim HN12.out (fun h => by omega)
          have hl := HRL.out
          exact ⟨⟨j + 1, rj ++ [R], t2, G4, by omega, by go_num, by simp [hl], fun Q hQ => by
            rcases List.mem_append.1 hQ with h | h
            · exact HR8J.out Q h
            · simp at h; subst h; exact HR4.out, Q3.out, E4.out.keep HFB.out (fun k hk e => n412 (e ▸ hk)), (HFR.out.trans F4.out).new_block HFB.out (fun k e => by omega), n40, n49, n412, HFB.out.blk KR4.out (by omega), HFB.out.blk K94.out (by omega), HKB2.out⟩, by simp [intOf]; omega⟩
    · obtain rfl : j = sn := by omega
      have d1 : decide ((j : Int) < (j : Int)) = false := by rw [decide_eq_false_iff_not]; omega
      have hl8 : (([v1, v2, v3, v4, v5, v6, v7, v8] : List Int).take j).length = j := by simp; omega
      have hrow := HROW.out
      rw [List.take_of_length_le (by omega)] at hrow
      have hqq := HR.out.symm.trans hrow
      simp only [Option.some.injEq, Prod.mk.injEq] at hqq
      obtain ⟨rfl, rfl⟩ := hqq
      clear hrow hl8
      obtain ⟨HX, hfx, _⟩ := HEX.out.forest
      have fst := (hfx.below ((Below.refl wo.heap.size wo).alloc (Nat.le_refl _) (.cells #[.int .i32 0, .int .i32 0, .int .i32 0, .int .i32 0, .int .i32 0, .int .i32 0, .int .i32 0, .int .i32 0] 150))).st2.1
      have K16 := Lib.hid (Blk.new wo 150 #[.int .i32 0, .int .i32 0, .int .i32 0, .int .i32 0, .int .i32 0, .int .i32 0, .int .i32 0, .int .i32 0])
      have EXA := Lib.hid (HEX.out.below ((Below.refl wo.heap.size wo).alloc (Nat.le_refl _) (.cells #[.int .i32 0, .int .i32 0, .int .i32 0, .int .i32 0, .int .i32 0, .int .i32 0, .int .i32 0, .int .i32 0] 150)))
      have FRA := Lib.hid (HFR.out.trans (Fr.alloc Gj wo (.cells #[.int .i32 0, .int .i32 0, .int .i32 0, .int .i32 0, .int .i32 0, .int .i32 0, .int .i32 0, .int .i32 0] 150)))
      have KRA := Lib.hid (HKR.out.alloc (.cells #[.int .i32 0, .int .i32 0, .int .i32 0, .int .i32 0, .int .i32 0, .int .i32 0, .int .i32 0, .int .i32 0] 150))
      have K9A := Lib.hid (HK9.out.alloc (.cells #[.int .i32 0, .int .i32 0, .int .i32 0, .int .i32 0, .int .i32 0, .int .i32 0, .int .i32 0, .int .i32 0] 150))
      have K12A := Lib.hid (HK12.out.alloc (.cells #[.int .i32 0, .int .i32 0, .int .i32 0, .int .i32 0, .int .i32 0, .int .i32 0, .int .i32 0, .int .i32 0] 150))
      have hGl : ¬ Gj wo.heap.size := fun h => by have := HEX.out.lt _ h; omega
      clear hfx
      go_wp2
      obtain ⟨wa, hwa⟩ : ∃ wa, wa = wo.alloc (.cells #[.int .i32 0, .int .i32 0, .int .i32 0, .int .i32 0, .int .i32 0, .int .i32 0, .int .i32 0, .int .i32 0] 150) := ⟨_, rfl⟩
      rw [← hwa] at K16 EXA FRA KRA K9A K12A ⊢
      generalize hb16 : wo.heap.size = b16 at K16 l0 l9 l12 hGl ⊢
      clear fst hb16
      go_loopw [66] (fun qv wr => ∃ (q : Nat) (rq : List Int) (Lq : List Ndv) (Gq : Nat → Prop), q ≤ j ∧ qv = .int .i64 (q : Int) ∧ rq.length = q ∧ (∀ x ∈ rq, I32 x) ∧ rowF (fun (i : Nat) L => addF (j : Int) L (colN lv rows i)) ((List.range j).take q) s1.1 = some (rq, Lq) ∧
        Exs j fb kb wr Gq (Lq, s1.2) ∧ Fr G w Gq wr ∧ ¬ Gq w.heap.size ∧ ¬ Gq b9 ∧ ¬ Gq b12 ∧ ¬ Gq b16 ∧ Blk wr w.heap.size 150 #[.int .i32 0, .int .i32 0, .int .i32 0, .int .i32 0, .int .i32 0, .int .i32 0, .int .i32 0, .int .i32 0] ∧ Blk wr b9 155 #[.int .i64 lv, .int .i32 v1, .int .i32 v2, .int .i32 v3, .int .i32 v4, .int .i32 v5, .int .i32 v6, .int .i32 v7, .int .i32 v8] ∧ Blk wr b12 212 (woA (lvQ lv q) rows) ∧ Blk wr b16 150 (r32 (rq ++ List.replicate (8 - rq.length) 0))) (fun qv _ => j - (intOf qv).toNat)
      case atStart =>
        refine ⟨0, [], s1.1, Gj, Nat.zero_le _, rfl, rfl, by simp, rfl, EXA.out, FRA.out, HN0.out, HN9.out, HN12.out, hGl, KRA.out, K9A.out, ?_, K16.out⟩
        have : woA (lvQ lv 0) rows = woA (fun _ => 0) rows := woA_congr fun x _ => by simp [woX, lvQ]
        rw [this]
        exact K12A.out
      case round =>
        obtain ⟨q, rq, Lq, Gq, hq, rfl, hql, hqI, hqr, hqe, hqf, m0, m9, m12, m16, kq0, kq9, kq12, kq16⟩ := hrel
        obtain ⟨wb, rfl⟩ : ∃ wb, wb = wr := ⟨wr, rfl⟩
        have HQR := Lib.hid hqr
        have HQE := Lib.hid hqe
        have HQF := Lib.hid hqf
        have M0 := Lib.hid m0
        have M9 := Lib.hid m9
        have M12 := Lib.hid m12
        have M16 := Lib.hid m16
        have KQ0 := Lib.hid kq0
        have KQ9 := Lib.hid kq9
        have KQ12 := Lib.hid kq12
        have KQ16 := Lib.hid kq16
        have HQI := Lib.hid hqI
        have HQL := Lib.hid hql
        have e0 : w.heap.size < wb.heap.size := kq0.lt
        have e9 : b9 < wb.heap.size := kq9.lt
        have e12 : b12 < wb.heap.size := kq12.lt
        have e16 : b16 < wb.heap.size := kq16.lt
        clear hqr hqe hqf m0 m9 m12 m16 kq0 kq9 kq12 kq16 hqI hql
        by_cases hqj : q < j
        · have d2 : decide ((q : Int) < (j : Int)) = true := by rw [decide_eq_true_iff]; omega
          have q0 : (0 : Int) ≤ (q : Int) := by omega
          have q1 : (q : Int) < 8 := by omega
          have hq8 : q < 8 := by omega
          obtain ⟨r, zs', L1', L2', p1, p2, p3⟩ := rowF_at HA.out (j := q) (x := q) (by simp [hqj])
          have hqq := HQR.out.symm.trans p1
          simp only [Option.some.injEq, Prod.mk.injEq] at hqq
          obtain ⟨rfl, rfl⟩ := hqq
          have g9 := HKQ9lv KQ9.out
          have h12 := (KQ12.out.cell (q * 9)).trans (woA_get _ _ (by omega))
          have h12f := KQ12.out.frozen (q * 9)
          generalize woX (lvQ lv q) rows (q * 9) = zz at h12
          have KA := KQ12.out.set_ (q * 9) (.int .i64 lv)
          rw [woA_level hq8] at KA
          have EA := HQE.out.keep (Fr.set_ (G := fun k => k = b12) wb (p := ⟨b12, q * 9, none⟩) (.int .i64 lv) rfl) (fun k hk e => M12.out (e ▸ hk))
          have hrl8 : rows.length ≤ 8 := by have := HRL.out; omega
          have hcr : R8 (colN lv rows q).r := rows_R8 hrl8 hq8 HR8J.out
          obtain ⟨y0, y1, y2, y3, y4, y5, y6, y7, hcn⟩ := oct hcr.1
          have hcol : colN lv rows q = ⟨lv, [y0, y1, y2, y3, y4, y5, y6, y7]⟩ := by rw [← hcn]; rfl
          have hnd : Nd8 (colN lv rows q) := ⟨HN8.out.1, HN8.out.2.1, hcr⟩
          have hcel : ∀ i, i < 9 → (wb.setCell ⟨b12, q * 9, none⟩ (.int .i64 lv)).cell? ⟨b12, q * 9 + i, none⟩ = (nodC (colN lv rows q))[i]? := fun i hi => (KA.cell _).trans (woA_col hq8 (by simp [lvQ]) hrl8 hi)
          rw [hcol] at hcel
          have c0 := hcel 0 (by omega)
          have c1 := hcel 1 (by omega)
          have c2 := hcel 2 (by omega)
          have c3 := hcel 3 (by omega)
          have c4 := hcel 4 (by omega)
          have c5 := hcel 5 (by omega)
          have c6 := hcel 6 (by omega)
          have c7 := hcel 7 (by omega)
          have c8 := hcel 8 (by omega)
          rw [Nat.add_zero] at c0
          simp only [nodC, List.map_cons, List.map_nil, List.getElem?_cons_zero, List.getElem?_cons_succ] at c0 c1 c2 c3 c4 c5 c6 c7 c8
          obtain ⟨HX2, hfx2, hXX⟩ := EA.forest
          have CA := add_any hfx2 hnd p2
          rw [hcol, nodV_eight] at CA
          have CAH := Lib.hid CA
          have HXX := Lib.hid hXX
          have rI : I32 r := by
            have := addF_rng p2 (by omega) hfx2.st2.2.2.2.2.2.2.2
            exact ⟨by omega, by omega⟩
          have KQ16b := Lib.hid (KQ16.out.far (p := ⟨b12, q * 9, none⟩) (by show b16 ≠ b12; omega) (.int .i64 lv))
          have KQ0b := Lib.hid (KQ0.out.far (p := ⟨b12, q * 9, none⟩) (by show w.heap.size ≠ b12; omega) (.int .i64 lv))
          have KQ9b := Lib.hid (KQ9.out.far (p := ⟨b12, q * 9, none⟩) (by show b9 ≠ b12; omega) (.int .i64 lv))
          have KAH := Lib.hid KA
          have szA : (wb.setCell ⟨b12, q * 9, none⟩ (.int .i64 lv)).heap.size = wb.heap.size := by simp [World.setCell]
          have FA := Lib.hid (HQF.out.set_new (p := ⟨b12, q * 9, none⟩) (by show w.heap.size ≤ b12; omega) (.int .i64 lv))
          have P3 := Lib.hid p3
          have hG2n : ∀ k, k < wb.heap.size → ¬ Gq k → ∀ G5 : Nat → Prop, (∀ i, (Gq i ∨ G5 i) → Gq i ∨ (wb.setCell ⟨b12, q * 9, none⟩ (.int .i64 lv)).heap.size ≤ i) → ¬ (Gq k ∨ G5 k) := fun k hk hn G5 h5 h => by
            rcases h5 k h with h' | h'
            · exact hn h'
            · rw [szA] at h'; omega
          have NG := Lib.hid hG2n
          clear hcel hfx2 CA p1 p2 p3 hcn hcol hnd hcr KA EA hXX hG2n
          go_wp2_with (go_at_call 106; (with_reducible refine (CAH.out).mono ?_); rintro e w5 ⟨G5, rfl, hf5, hr5⟩; obtain ⟨E5, F5⟩ := HXX.out _ _ _ hf5 hr5; have EH5 := Lib.hid E5; have FH5 := Lib.hid F5; have K165 := Lib.hid (F5.blk KQ16b.out M16.out); have z0 := K165.out.cell q; rw [r32_get (by have := HQL.out; simp; omega)] at z0; have z1 := K165.out.frozen q; clear E5 F5 hf5 hr5)
          have NB := FH5.out.new
          have n50 := NG.out _ e0 M0.out G5 NB
          have n59 := NG.out _ e9 M9.out G5 NB
          have n512 := NG.out _ e12 M12.out G5 NB
          have n516 := NG.out _ e16 M16.out G5 NB
          have hl := HQL.out
          have ZK := K165.out.set_ q (.int .i32 r)
          rw [← hl, r32_step (by omega), hl] at ZK
          exact ⟨⟨q + 1, rq ++ [r], L2', fun k => Gq k ∨ G5 k, by omega, by go_num, by simp [hl], fun x hx => by
            rcases List.mem_append.1 hx with h | h
            · exact HQI.out x h
            · simp at h; subst h; exact rI, P3.out, EH5.out.keep (Fr.set_ (G := fun k => k = b16) w5 (p := ⟨b16, q, none⟩) (.int .i32 r) rfl) (fun k hk e => n516 (e ▸ hk)), (FA.out.trans FH5.out).set_new (p := ⟨b16, q, none⟩) (by show w.heap.size ≤ b16; omega) _, n50, n59, n512, n516,
            (FH5.out.blk KQ0b.out M0.out).far (p := ⟨b16, q, none⟩) (by show w.heap.size ≠ b16; omega) _, (FH5.out.blk KQ9b.out M9.out).far (p := ⟨b16, q, none⟩) (by show b9 ≠ b16; omega) _, (FH5.out.blk KAH.out M12.out).far (p := ⟨b16, q, none⟩) (by show b12 ≠ b16; omega) _, ZK⟩, by simp [intOf]; omega⟩
        · obtain rfl : q = j := by omega
          have d2 : decide ((q : Int) < (q : Int)) = false := by rw [decide_eq_false_iff_not]; omega
          have hqr := HQR.out
          rw [List.take_of_length_le (by simp)] at hqr
          have hqq := HA.out.symm.trans hqr
          simp only [Option.some.injEq, Prod.mk.injEq] at hqq
          obtain ⟨rfl, rfl⟩ := hqq
          have k16 := KQ16.out
          rw [HQL.out] at k16
          have hR8 : R8 (res ++ List.replicate (8 - q) 0) := by
            refine ⟨by have := HQL.out; simp; omega, fun x hx => ?_⟩
            rcases List.mem_append.1 hx with h | h
            · exact HQI.out x h
            · have := List.eq_of_mem_replicate h; omega
          obtain ⟨w6, hr6, E6, F6, s6, b6⟩ := HQE.out.memo HN.out hR8
          obtain ⟨HZ, _, _, _, hkbG, _, _⟩ := id HQE.out
          have ne0 : w.heap.size ≠ kb := fun e => M0.out (e ▸ hkbG)
          have ne16 : b16 ≠ kb := fun e => M16.out (e ▸ hkbG)
          have HE6 := Lib.hid E6
          have HF6 := Lib.hid (HQF.out.trans F6)
          have HRX := Lib.hid hR8
          obtain ⟨R, hRe⟩ : ∃ R, R = res ++ List.replicate (8 - q) 0 := ⟨_, rfl⟩
          rw [← hRe] at hr6 hR8 k16 HE6 HRX
          obtain ⟨z1, z2, z3, z4, z5, z6, z7, z8, rfl⟩ := oct hR8.1
          have HRE := Lib.hid hRe
          clear hRe
          rw [rowV_eight] at hr6
          have k16 : Blk wb b16 150 #[.int .i32 z1, .int .i32 z2, .int .i32 z3, .int .i32 z4, .int .i32 z5, .int .i32 z6, .int .i32 z7, .int .i32 z8] := k16
          obtain ⟨a0, a1, a2, a3, a4, a5, a6, a7⟩ := k16.eight8
          have k16b : Blk w6 b16 150 #[.int .i32 z1, .int .i32 z2, .int .i32 z3, .int .i32 z4, .int .i32 z5, .int .i32 z6, .int .i32 z7, .int .i32 z8] := (b6 _ ne16).trans k16
          obtain ⟨c0, c1, c2, c3, c4, c5, c6, c7⟩ := k16b.eight8
          have K06 : Blk w6 w.heap.size 150 #[.int .i32 0, .int .i32 0, .int .i32 0, .int .i32 0, .int .i32 0, .int .i32 0, .int .i32 0, .int .i32 0] := (b6 _ ne0).trans KQ0.out
          obtain ⟨g0, g1, g2, g3, g4, g5, g6, g7⟩ := K06.eight8
          have q0 := K06.frozen 0
          have q1 := K06.frozen 1
          have q2 := K06.frozen 2
          have q3 := K06.frozen 3
          have q4 := K06.frozen 4
          have q5 := K06.frozen 5
          have q6 := K06.frozen 6
          have q7 := K06.frozen 7
          have KK := Lib.hid K06
          clear hR8 k16 k16b K06 E6 F6 hqr b6 s6
          go_wp2
          obtain ⟨KF, BF⟩ := KK.out.set8 (b0 := .int .i32 z1) (b1 := .int .i32 z2) (b2 := .int .i32 z3) (b3 := .int .i32 z4) (b4 := .int .i32 z5) (b5 := .int .i32 z6) (b6 := .int .i32 z7) (b7 := .int .i32 z8)
          obtain ⟨y0, y1, y2, y3, y4, y5, y6, y7⟩ := KF.eight8
          have FZ := set8_fr w6 w.heap.size (.int .i32 z1) (.int .i32 z2) (.int .i32 z3) (.int .i32 z4) (.int .i32 z5) (.int .i32 z6) (.int .i32 z7) (.int .i32 z8)
          rw [← HRE.out]
          exact bodyPost_ret (v := .agg #[.int .i32 z1, .int .i32 z2, .int .i32 z3, .int .i32 z4, .int .i32 z5, .int .i32 z6, .int .i32 z7, .int .i32 z8]) (by simp [results, Tryz.results105, go_sem, y0, y1, y2, y3, y4, y5, y6, y7]) rfl
            ⟨Gq, rfl, HRX.out, HE6.out.keep FZ (fun k hk e => M0.out (e ▸ hk)), HF6.out.new_block FZ (fun k e => by omega)⟩
end Go.Proofs.YtjekpmkghpjamaaGreatDoor
