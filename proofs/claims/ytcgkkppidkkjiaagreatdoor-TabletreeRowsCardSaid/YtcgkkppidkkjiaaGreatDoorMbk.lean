/- The walk of Row of tabletree. -/
/- A made tree as a value; the walk of awakeTree. -/
/- The walks of the reference's Value and Eval at valid trees; value. -/
import Derived.Test.YtcgkkppidkkjiaaGreatDoorMbj
import Derived.Test.YtcgkkppidkkjiaaGreatDoorMaa
import Derived.Test.YtcgkkppidkkjiaaGreatDoorMbc
import Derived.Test.YtcgkkppidkkjiaaGreatDoorMac
import Derived.Test.YtcgkkppidkkjiaaGreatDoorMaf
import Derived.Test.YtcgkkppidkkjiaaGreatDoorMab
import Derived.Below
import Derived.BigQuiet
import Derived.Carry
import Derived.Deep.AppendLies
import Derived.Deep.CutRange
import Derived.Deep.Draws
import Derived.Deep.OwnRows
import Derived.Deep.QuietTactic
import Derived.Deep.RegionHeld3
import Derived.Deep.RegionHeldLaw
import Derived.Deep.RegionLaw
import Derived.DeepKeys
import Derived.DeepKeys4
import Derived.DeepKeys5
import Derived.IntWalk
import Derived.Laws.BitsLemmas
import Derived.Laws.IdiomStrings
import Derived.Laws.OwnMore
import Derived.Laws.Rows
import Derived.Lib.Hide
import Derived.Lib.SliceRun
import Derived.LoopIn
import Derived.LoopN
import Derived.LoopNIn
import Derived.Maps.AppendAt
import Derived.Maps.OwnOps
import Derived.OpenShut
import Derived.OwnWalk
import Derived.OwnWalkIn
import Derived.RangeFuncBound
import Derived.RangeFuncCalls
import Derived.RangeFuncLeaves
import Derived.RangeFuncNested
import Derived.Shelf.Abstract
import Derived.Shelf.RegionOpen
import Derived.Shelf.SlIterI.Sorted
import Derived.Shelf.SlLaysF0
import Derived.Shelf.Slices.Clone
import Derived.Shelf.Slices.Delete
import Derived.Shelf.Sort.Plain
import Derived.Shelf.Spec.SlicesInsert
import Derived.Sort.Grow
import Derived.Sort.OwnSortedInts
import Derived.Sort.Statements
import Derived.StillTail
import Derived.StillTailTactics
import Derived.StringKeys
import Derived.TacticsInMore
import Derived.Test.YtcgkkppidkkjiaaGreatDoorRows
import Derived.WalkKit
import Derived.Test.YtcgkkppidkkjiaaGreatDoorMah
namespace Go.Proofs.YtcgkkppidkkjiaaGreatDoor
open Go.RowKit

theorem vr_le (T : Tab) (i : Nat) (m : List Int) : vr T i m ≤ 1 := by
  unfold vr
  split
  · exact Nat.le_refl _
  · exact Nat.zero_le _
set_option maxRecDepth 100000 in
set_option maxHeartbeats 40000000 in
theorem row_out (S : Nat) (AH : Option Addr) (cH : Nat) (AV : Option Addr) (cV : Nat) (AR : Option Addr) (cR : Nat) (T : Tab) (i : Nat) (w : World) (hM : Mat w) (h : TR w AH AV AR T) (hb : Bd T) (ht : Rt T) (hS : T.st = (S : Int)) (hi : i < T.nr) (hR : T.nr ≤ cR) :
    Calls Tryz.prog 8 #[.agg #[.int .i64 T.st, .int .i64 T.sy, .slice AH T.n cH, .slice AV T.nv cV, .slice AR T.nr cR], .int .i64 (i : Int)] w (TreeOut S T.n T.f (vr T i) w) := by
  have RT := Lib.hid (fun w' (hb' : Below w.heap.size w w') => rt_any AH cH AV cV AR cR T w' (hM.below hb' hM.1) (h.later hb') hb)
  rw [(rt_iff T).2 ht] at RT
  obtain ⟨g, o, rfl, -⟩ := h.2.2 (by omega)
  have hs1 : 2 ≤ S := by have := ht.s1; omega
  have hs2 : S ≤ 8 := by have := ht.s2; omega
  have hd := ht.hd
  have hnr : T.nr ≤ 1000 := hb.2.2.1
  have CO := Lib.hid (fun (w' : World) (gt : Nat) (hb' : Below w.heap.size w w') (hk : Blk w' gt 26 #[.int .i64 T.st, .int .i64 T.sy, .slice AH T.n cH, .slice AV T.nv cV, .slice (some ⟨g, o + i * 2, none⟩) 1 (cR - i)]) =>
    show Calls Tryz.prog 18 #[.agg #[.int .i64 T.st, .int .i64 T.sy, .slice AH T.n cH, .slice AV T.nv cV, .slice (some ⟨g, o + i * 2, none⟩) 1 (cR - i)], .func (.func 24) #[] #[.pointer (some ⟨gt, 0, none⟩)]] w' (TreeOut S T.n T.f (vr T i) w') by
      rw [hS]
      rw [hS] at hk
      by_cases hsm : S ^ T.n ≤ 65536
      · refine collect_any S T.sy AH T.n cH T.f AV T.nv cV (some ⟨g, o + i * 2, none⟩) 1 (cR - i) (vr T i) 24 #[.pointer (some ⟨gt, 0, none⟩)] w' hs1 hs2 hd.1.1 hd.1.2 hsm (h.later hb').1 (enters_of Tryz.func24 (by kernel_rfl) rfl) (fun w'' A c m hb2 hr hc hst hl => ?_) (fun m hst hl => ?_) (fun l m hst hl h3 he => ?_)
        · have hst' : als T.st m = true := by rw [hS]; exact sts_als.1 hst
          have hk2 := hk.below hb2 hk.lt
          rw [← hS] at hk2
          exact row1_any AH cH AV cV (some ⟨g, o + i * 2, none⟩) (cR - i) (alone T i) A c gt m w'' (hM.below (hb'.trans (hb2.mono hb'.size)) hM.1) (alone_tr ((h.later hb').later hb2) hi) (alone_bd hb hi) (alone_rt ht hi) rfl hr hc hst' hk2
        · have := vr_le T i m
          omega
        · unfold vr
          rw [av_eqv h3 hl he]
      · exact collect_big S T.sy AH T.n cH T.f AV T.nv cV (some ⟨g, o + i * 2, none⟩) 1 (cR - i) (vr T i) 24 #[.pointer (some ⟨gt, 0, none⟩)] w' hs1 hs2 hd.1.2 hsm)
  clear h hb ht hM hd
  obtain ⟨st, ky, n, f, nv, v, nr, ri, ro⟩ := T
  simp only at *
  have WR := Lib.hid (fun w' => withRows_any st ky AH AV (some ⟨g, o, none⟩) (some ⟨g, o + i * 2, none⟩) n nv nr 1 cH cV cR (cR - i) w')
  have K0 := (Blk.new w 26 #[.int .i64 st, .int .i64 ky, .slice AH n cH, .slice AV nv cV, .slice (some ⟨g, o, none⟩) nr cR]).alloc (.cells #[.int .i64 0, .slice none 0 0, .slice none 0 0] 32)
  have K1 := Blk.new (w.alloc (.cells #[.int .i64 st, .int .i64 ky, .slice AH n cH, .slice AV nv cV, .slice (some ⟨g, o, none⟩) nr cR] 26)) 32 #[.int .i64 0, .slice none 0 0, .slice none 0 0]
  rw [World.size_alloc] at K1
  have B0 := ((Below.refl w.heap.size w).alloc (Nat.le_refl _) (.cells #[.int .i64 st, .int .i64 ky, .slice AH n cH, .slice AV nv cV, .slice (some ⟨g, o, none⟩) nr cR] 26)).alloc (by simp) (.cells #[.int .i64 0, .slice none 0 0, .slice none 0 0] 32)
  generalize hV : vr ⟨st, ky, n, f, nv, v, nr, ri, ro⟩ i = V at CO ⊢
  clear hV hS
  have d0 : decide ((i : Int) < 0) = false := decide_eq_false (by omega)
  have d1 : decide ((nr : Int) ≤ (i : Int)) = false := decide_eq_false (by omega)
  have d2 : decide (nr ≤ i) = false := decide_eq_false (by omega)
  have hicR : i < cR := by omega
  have b1 : (0 : Int) ≤ (i : Int) := by omega
  have b2 : (i : Int) ≤ (i : Int) + 1 := by omega
  have b3 : (i : Int) + 1 ≤ (cR : Int) := by omega
  have b4 : (0 : Int) ≤ (i : Int) + 1 := by omega
  have b5 : ¬ cR = i := by omega
  have b6 : ¬ ((cR : Int) = (i : Int)) := by omega
  have b7 : ((i : Int) + 1).toNat = i + 1 := by omega
  have b8 : ((i : Int) + 1 - (i : Int)).toNat = 1 := by omega
  have b9 : (i : Int) < (cR : Int) := by omega
  have hw1 : IntKind.i64.wrap ((i : Int) + 1) = (i : Int) + 1 := IntWalk.i64_in _ (by omega)
  go_enter Tryz.func8, Tryz.ntmps8
  go_upto_region 1 with (fail)
  generalize (w.alloc (.cells #[.int .i64 st, .int .i64 ky, .slice AH n cH, .slice AV nv cV, .slice (some ⟨g, o, none⟩) nr cR] 26)).alloc (.cells #[.int .i64 0, .slice none 0 0, .slice none 0 0] 32) = w0 at K0 K1 B0 ⊢
  obtain ⟨t0, t1, t2, t3, t4, t5⟩ := K0.five
  have K0 := Lib.hid K0
  have K1 := Lib.hid K1
  have B0 := Lib.hid B0
  have hwR : w.heap.size ≤ w.heap.size + 1 := by omega
  go_upto_region 3 with (go_at_call 17; (with_reducible refine (RT.out _ B0.out).mono ?_); rintro e w1 ⟨rfl, hb⟩; have B1 := Lib.hid (B0.out.trans (hb.mono B0.out.size)); have K10 := Lib.hid (K0.out.below hb K0.out.lt); have K11 := Lib.hid (K1.out.below hb K1.out.lt); obtain ⟨u0, u1, u2, u3, u4, u5⟩ := K10.out.five; clear hb)
  have KP := Lib.hid (fun W (hb : Below w1.heap.size w1 W) => show W.cell? ⟨w.heap.size, 0, none⟩ = some (.int .i64 st) ∧ W.cell? ⟨w.heap.size, 1, none⟩ = some (.int .i64 ky) ∧ W.cell? ⟨w.heap.size, 2, none⟩ = some (.slice AH n cH) ∧ W.cell? ⟨w.heap.size, 3, none⟩ = some (.slice AV nv cV) ∧ W.cell? ⟨w.heap.size, 4, none⟩ = some (.slice (some ⟨g, o, none⟩) nr cR) from
    have q := (K10.out.below hb K10.out.lt).five
    ⟨q.1, q.2.1, q.2.2.1, q.2.2.2.1, q.2.2.2.2.1⟩)
  have S1 := KP.out w1 (Below.refl _ _)
  have P1 := Lib.hid (show ∀ W, Below w1.heap.size w1 W → Calls Tryz.prog 23 #[.agg #[.int .i64 st, .int .i64 ky, .slice AH n cH, .slice AV nv cV, .slice (some ⟨g, o, none⟩) nr cR], .slice (some ⟨g, o + i * 2, none⟩) 1 (cR - i)] W fun e W' => e = .returned (.agg #[.int .i64 st, .int .i64 ky, .slice AH n cH, .slice AV nv cV, .slice (some ⟨g, o + i * 2, none⟩) 1 (cR - i)]) ∧ Below w1.heap.size w1 W' ∧ Below W.heap.size W W' from
    fun W hb => (WR.out W).mono fun e W' ⟨he, hx⟩ => ⟨he, hb.trans (hx.mono hb.size), hx⟩)
  clear WR t0 t1 t2 t3 t4 t5 u0 u1 u2 u3 u4 u5
  go_cut [6] from 22 to 29 (fun s6 wx => ∃ gx, s6 = .pointer (some ⟨gx, 0, none⟩) ∧ Blk wx gx 26 #[.int .i64 st, .int .i64 ky, .slice AH n cH, .slice AV nv cV, .slice (some ⟨g, o + i * 2, none⟩) 1 (cR - i)] ∧ w1.heap.size ≤ gx ∧ Below w1.heap.size w1 wx)
  case first =>
    go_region_held_law (fun W => W.cell? ⟨w.heap.size, 0, none⟩ = some (.int .i64 st) ∧ W.cell? ⟨w.heap.size, 1, none⟩ = some (.int .i64 ky) ∧ W.cell? ⟨w.heap.size, 2, none⟩ = some (.slice AH n cH) ∧ W.cell? ⟨w.heap.size, 3, none⟩ = some (.slice AV nv cV) ∧ W.cell? ⟨w.heap.size, 4, none⟩ = some (.slice (some ⟨g, o, none⟩) nr cR))
      (first | assumption | (refine KP.out _ ?_; (with_reducible (repeat (first | assumption | exact Below.refl _ _ | refine Below.drew' ?_ | refine Below.alloc' ?_ _ | refine Below.set1 ?_ ?_ _ | exact Nat.le_refl _ | omega))); done) | go_keep)
      ((go_at_call 23; (with_reducible refine (P1.out _ ?_).mono ?_); (with_reducible (repeat (first | assumption | exact Below.refl _ _ | refine Below.drew' ?_ | refine Below.alloc' ?_ _))); rintro e wa ⟨rfl, ha1, ha2⟩; have sa := ha1.size; (try (have hk := Blk.below' (by first | exact Blk.drew (Blk.new1 _ _ 26 #[.int .i64 0, .int .i64 0, .slice none 0 0, .slice none 0 0, .slice none 0 0]) | exact Blk.new _ 26 #[.int .i64 0, .int .i64 0, .slice none 0 0, .slice none 0 0, .slice none 0 0] | exact Blk.drew (Blk.new _ 26 #[.int .i64 0, .int .i64 0, .slice none 0 0, .slice none 0 0, .slice none 0 0])) ha2; obtain ⟨k0, k1, k2, k3, k4, k5⟩ := hk.five; have g0 := hk.frozen 0; have g1 := hk.frozen 1; have g2 := hk.frozen 2; have g3 := hk.frozen 3; have g4 := hk.frozen 4))))
    all_goals
      go_wp2_with fail
      go_meet
      first
        | exact ⟨_, rfl, Blk.new wa _ _, sa, ha1.alloc ha1.size _⟩
        | exact ⟨_, rfl, hk.all5 _ _ _ _ _, (by first | exact Nat.le_refl _ | omega), below_set5 ha1 (by first | exact Nat.le_refl _ | omega) _ _ _ _ _⟩
  case rest =>
    obtain ⟨gx, rfl, hX, hgx, hBx⟩ := hcut
    have BX := Lib.hid (B1.out.trans (hBx.mono B1.out.size))
    have KX := Lib.hid (K11.out.below hBx K11.out.lt)
    obtain ⟨u0, u1, u2, u3, u4, u5⟩ := hX.five
    have CC := Lib.hid (CO.out _ gx BX.out hX)
    have BS := BX.out.size
    have hRl := KX.out.lt
    clear CO KP P1 S1 hBx hX
    go_wp2_with (go_at_call 18; (with_reducible refine (CC.out).mono ?_); rintro e w2 hto; obtain ⟨s, A1, n1, c1, A2, n2, c2, er, rfl, hb2⟩ := hto.form; have TO := Lib.hid hto; have K21 := Lib.hid (KX.out.below hb2 hRl); obtain ⟨r0, r1, r2, r3, r4, r5, r6⟩ := K21.out.three6; clear hto hb2)
    have KZ : Blk (((w2.setCell ⟨w.heap.size + 1, 0, none⟩ (.int .i64 s)).setCell ⟨w.heap.size + 1, 1, none⟩ (.slice A1 n1 c1)).setCell ⟨w.heap.size + 1, 2, none⟩ (.slice A2 n2 c2)) (w.heap.size + 1) 32 #[.int .i64 s, .slice A1 n1 c1, .slice A2 n2 c2] := by simpa using ((K21.out.set_ 0 (.int .i64 s)).set_ 1 (.slice A1 n1 c1)).set_ 2 (.slice A2 n2 c2)
    obtain ⟨y0, y1, y2, y3⟩ := KZ.three
    exact bodyPost_ret (v := .tuple #[.agg #[.int .i64 s, .slice A1 n1 c1, .slice A2 n2 c2], .int .i64 er]) (by simp [results, Tryz.results8, go_sem, y0, y1, y2]) rfl (TO.out.set BX.out hRl hwR _ _ _)
end Go.Proofs.YtcgkkppidkkjiaaGreatDoor
namespace Go.Proofs.YtcgkkppidkkjiaaGreatDoor
open Go.RowKit
theorem rtt_out {S n : Nat} {f : Nat → P2} {out : List (Int × List Int)} {F : List Int → Int} (h1 : 2 ≤ S) (h2 : S ≤ 8) (hd : Hd f n) (hg : Gd S n out) (hm1 : 1 ≤ out.length) (hm2 : out.length ≤ 4096) (hmn : Mn S out n F ((out.length : Int) - 1)) : Rtt (trO S n f out) := by
  refine ⟨by show (2 : Int) ≤ (S : Int); omega, by show (S : Int) ≤ 8; omega, hd, hm1, hm2, hg, ?_⟩
  have := (hmn.1.2.2 (by have := hd.1.1; omega)).2
  have e : ((out.length : Int) - 1).toNat = out.length - 1 := by omega
  rw [e] at this
  exact this
theorem ev_out {S n : Nat} {out : List (Int × List Int)} {F : List Int → Int} (hm1 : 1 ≤ out.length) (hmn : Mn S out n F ((out.length : Int) - 1)) (l : List Int) :
    ev (S : Int) n l (fo (nxO out) ((out.length - 1 : Nat) : Int) l) = ev (S : Int) n l (F l) := by
  unfold ev
  split
  · next hl =>
    split
    · next ha =>
      have e : ((out.length - 1 : Nat) : Int) = (out.length : Int) - 1 := by omega
      have hs : Sts S l := sts_als.2 ha
      rw [e, hmn.2 l hl hs]
    · rfl
  · rfl
end Go.Proofs.YtcgkkppidkkjiaaGreatDoor
namespace Go.Proofs.YtcgkkppidkkjiaaGreatDoor
open Go.RowKit

section
variable (AH : Option Addr) (cH : Nat) (AN : Option Addr) (cN : Nat) (T : Tr) (AI : Option Addr) (cI : Nat) (l : List Int) (w : World)
set_option maxRecDepth 100000 in
set_option maxHeartbeats 4000000 in
theorem rvalue_any (h : NR w w.heap.size AN T.m T.lv T.nx) (ht : Rtt T) (hI : Reads w w.heap.size AI T.n (il l)) (ha : als T.st l = true) :
    Calls Tryz.prog 22 #[.agg #[.int .i64 T.st, .slice AH T.n cH, .slice AN T.m cN], .slice AI T.n cI] w fun e w' => e = .returned (.int .i64 (fo T.nx ((T.m - 1 : Nat) : Int) l)) ∧ Below w.heap.size w w' := by
  have HT := Lib.hid ht.nd
  have TP := Lib.hid ht.top
  have s1 := ht.s1
  have m1 := ht.m1
  have m2 := ht.m2
  have n2 := ht.hd.1.2
  have n1 := ht.hd.1.1
  have HL := Lib.hid (reads_len hI)
  have HA := Lib.hid ((als_iff _ _).1 ha)
  clear ht ha
  obtain ⟨st, n, f, m, lv, nx⟩ := T
  simp only at *
  have K1 := Blk.new w 32 #[.int .i64 st, .slice AH n cH, .slice AN m cN]
  have B1 : Below w.heap.size w (w.alloc (.cells #[.int .i64 st, .slice AH n cH, .slice AN m cN] 32)) := (Below.refl _ _).alloc (Nat.le_refl _) _
  have HN := Lib.hid h
  have HI := Lib.hid hI
  obtain ⟨i, rfl⟩ : ∃ i, m = i + 1 := ⟨m - 1, by omega⟩
  have e1 : i + 1 - 1 = i := by omega
  rw [e1] at TP ⊢
  clear h hI e1
  have hw1 : IntKind.i64.wrap (((i + 1 : Nat) : Int) - 1) = (i : Int) := by rw [show ((i + 1 : Nat) : Int) - 1 = (i : Int) by omega]; exact IntWalk.i64_in _ (by omega)
  obtain ⟨V, hV⟩ : ∃ V, V = fo nx (i : Int) l := ⟨_, rfl⟩
  rw [← hV]
  have HV := Lib.hid hV
  clear hV
  go_enter Tryz.func22, Tryz.ntmps22
  go_wp2_with fail
  generalize w.alloc (.cells #[.int .i64 st, .slice AH n cH, .slice AN (i + 1) cN] 32) = w0 at *
  obtain ⟨a0, a1, a2, a3⟩ := K1.three
  have B1 := Lib.hid B1
  have K1 := Lib.hid K1
  go_wp2
  go_loopw [5, 6] (fun kv jv wr => ∃ (j : Nat) (k : Int), j ≤ n ∧ jv = .int .i64 (j : Int) ∧ kv = .int .i64 k ∧ Hid (fo nx k (l.drop j) = V) ∧ Hid (j < n → 0 ≤ k ∧ k < (i : Int) + 1 ∧ lv k.toNat = (n : Int) - (j : Int)) ∧ Hid (Below w0.heap.size w0 wr)) (fun _ jv _ => n - (intOf jv).toNat)
  case atStart => exact ⟨0, i, Nat.zero_le _, rfl, by first | rfl | (congr 1; omega) | simp, Lib.hid HV.out.symm, Lib.hid (fun _ => ⟨by omega, by omega, by rw [Int.toNat_natCast, TP.out]; omega⟩), Lib.hid (Below.refl _ _)⟩
  case round =>
    obtain ⟨j, k, hj, rfl, rfl, HFO, HK, HB⟩ := hrel
    have BB := Lib.hid (B1.out.trans (HB.out.mono B1.out.size))
    have K2 := Lib.hid (K1.out.below HB.out K1.out.lt)
    clear a0 a1 a2 a3
    obtain ⟨a0, a1, a2, a3⟩ := K2.out.three
    by_cases hlt : j < n
    · obtain ⟨k1, k2, k3⟩ := HK.out hlt
      obtain ⟨kn, rfl⟩ : ∃ kn : Nat, k = (kn : Int) := ⟨k.toNat, by omega⟩
      have hkm : kn < i + 1 := by omega
      rw [Int.toNat_natCast] at k3
      obtain ⟨ad, rfl, hb, hx⟩ := il_at (HI.out.below BB.out) hlt
      obtain ⟨t1, t2⟩ := HA.out j (by rw [HL.out]; exact hlt)
      have hfo := HFO.out
      rw [fo_step nx kn (by rw [HL.out]; exact hlt)] at hfo
      obtain ⟨sn, hs⟩ : ∃ sn : Nat, ig l j = (sn : Int) := ⟨(ig l j).toNat, by omega⟩
      rw [hs] at hx t1 t2 hfo
      rw [Int.toNat_natCast, Int.toNat_natCast] at hfo
      obtain ⟨g1, o1, rfl, hb1, hc⟩ := HN.out.below BB.out (by omega)
      obtain ⟨A', c', y1, y2, hr⟩ := hc kn hkm
      obtain ⟨b1, b2, b3, b4⟩ := HT.out kn hkm
      have hsn : sn < (nx kn).length := by omega
      obtain ⟨ad2, rfl, hb2, hx2⟩ := il_at hr hsn
      have b5 := b4 sn hsn
      generalize (nx kn).length = S at y2 hsn
      obtain ⟨k', hk'⟩ : ∃ k', k' = ig (nx kn) sn := ⟨_, rfl⟩
      rw [← hk'] at hx2 hfo b5
      have HE := Lib.hid (show j + 1 < n → 0 ≤ k' ∧ k' < (i : Int) + 1 ∧ lv k'.toNat = (n : Int) - ((j + 1 : Nat) : Int) from fun hjn => by
        obtain ⟨p1, _, p3⟩ := b5
        obtain ⟨p4, p5⟩ := p3 (by omega)
        exact ⟨p1, by omega, by rw [p5, k3]; omega⟩)
      have HF := Lib.hid hfo
      have hknI : (kn : Int) < ((i + 1 : Nat) : Int) := by omega
      have hknI2 : (kn : Int) < (i : Int) + 1 := by omega
      have hsI : (sn : Int) < (S : Int) := by omega
      clear hfo hk' b1 b2 b3 b4 b5 hc hr y1 k1 k2 k3 hs t1 t2
      go_wp2_with fail
      go_quiet (fail)
      go_wp2
      go_roundw
      case rel => exact ⟨j + 1, k', by omega, by go_num, rfl, HF, HE, Lib.hid (below_drewN HB.out _)⟩
      case measure => simp [intOf]; omega
    · obtain rfl : j = n := by omega
      have hfo := HFO.out
      have hfo : k = V := by rw [List.drop_eq_nil_of_le (by rw [HL.out]; omega)] at hfo; exact hfo
      subst hfo
      go_wp2
      go_ret
      exact ⟨rfl, BB.out⟩
set_option maxRecDepth 100000 in
set_option maxHeartbeats 4000000 in
theorem reval_any (q : Nat) (h : TS w AH AN T) (ht : Rtt T) (hI : Reads w w.heap.size AI q (il l)) (hq : q ≤ 1000000) :
    Calls Tryz.prog 7 #[.agg #[.int .i64 T.st, .slice AH T.n cH, .slice AN T.m cN], .slice AI q cI] w fun e w' => e = .returned (.tuple #[.int .i64 (ev T.st T.n l (fo T.nx ((T.m - 1 : Nat) : Int) l)).1, .int .i64 (ev T.st T.n l (fo T.nx ((T.m - 1 : Nat) : Int) l)).2]) ∧ Below w.heap.size w w' := by
  have RI := Lib.hid (fun w' (hb : Below w.heap.size w w') => rr_yes AH cH AN cN T w' (h.later hb) ht)
  have HL := Lib.hid (reads_len hI)
  have n2 := ht.hd.1.2
  have FO := Lib.hid (fun w' (hb : Below w.heap.size w w') (hr : Reads w' w'.heap.size AI T.n (il l)) ha => rvalue_any AH cH AN cN T AI cI l w' (h.2.later hb) ht hr ha)
  have HI := Lib.hid (fun w' (hb : Below w.heap.size w w') => hI.later hb)
  clear h ht hI
  obtain ⟨st, n, f, m, lv, nx⟩ := T
  simp only at *
  generalize fo nx ((m - 1 : Nat) : Int) l = V at FO ⊢
  have K1 := Lib.hid (Blk.new w 32 #[.int .i64 st, .slice AH n cH, .slice AN m cN])
  have B1 := Lib.hid (show Below w.heap.size w (w.alloc (.cells #[.int .i64 st, .slice AH n cH, .slice AN m cN] 32)) from (Below.refl _ _).alloc (Nat.le_refl _) _)
  by_cases hqn : q = n
  · subst hqn
    have HEV := Lib.hid (show ev st q l V = if als st l = true then (V, 0) else (0, 10) from by rw [ev, if_pos HL.out])
    have AI1 := Lib.hid (als_iff st l)
    generalize ev st q l V = E at HEV ⊢
    have f3 : ((q : Int) != (q : Int)) = false := by rw [bne_eq_false_iff_eq]
    go_enter Tryz.func7, Tryz.ntmps7
    go_upto_region 1 with (fail)
    generalize w.alloc (.cells #[.int .i64 st, .slice AH q cH, .slice AN m cN] 32) = w0 at *
    obtain ⟨a0, a1, a2, a3⟩ := K1.out.three
    go_wp2_with (go_at_call 21; (with_reducible refine (RI.out _ B1.out).mono ?_); rintro e w1 ⟨rfl, hb⟩; have B2 := Lib.hid (B1.out.trans (hb.mono B1.out.size)); have K2 := Lib.hid (K1.out.below hb K1.out.lt); obtain ⟨b0, b1, b2, b3⟩ := K2.out.three; clear hb)
    clear a0 a1 a2 a3
    go_loopw [6] (fun iv wr => ∃ j : Nat, j ≤ q ∧ iv = .int .i64 (j : Int) ∧ Hid (∀ i, i < j → 0 ≤ ig l i ∧ ig l i < st) ∧ Hid (Below w1.heap.size w1 wr)) (fun iv _ => q - (intOf iv).toNat)
    case atStart => exact ⟨0, Nat.zero_le _, rfl, Lib.hid (fun i hi => absurd hi (by omega)), Lib.hid (Below.refl _ _)⟩
    case round =>
      obtain ⟨j, hj, rfl, HS, HB⟩ := hrel
      have B3 := Lib.hid (B2.out.trans (HB.out.mono B2.out.size))
      have K3 := Lib.hid (K2.out.below HB.out K2.out.lt)
      clear b0 b1 b2 b3
      obtain ⟨b0, b1, b2, b3⟩ := K3.out.three
      by_cases hjq : j < q
      · obtain ⟨ad, rfl, hb, hx⟩ := il_at (HI.out _ B3.out) hjq
        have HNO := Lib.hid (show ¬ (0 ≤ ig l j ∧ ig l j < st) → E = (0, 10) from fun h => by
          rw [HEV.out, if_neg]
          intro h'
          exact h (AI1.out.1 h' j (by rw [HL.out]; exact hjq)))
        have HOK := Lib.hid (show (0 ≤ ig l j ∧ ig l j < st) → ∀ i, i < j + 1 → 0 ≤ ig l i ∧ ig l i < st from fun h i hi => by
          by_cases e : i < j
          · exact HS.out i e
          · obtain rfl : i = j := by omega
            exact h)
        generalize ig l j = x at hx HNO HOK
        by_cases h0 : x < 0
        · have d0 : decide (x < 0) = true := decide_eq_true h0
          have HE := Lib.hid (HNO.out (by omega))
          clear h0
          go_wp2_with fail
          go_quiet (fail)
          go_wp2
          go_ret2
          exact ⟨by rw [HE.out] <;> rfl, below_drewN B3.out _⟩
        · have d0 : decide (x < 0) = false := decide_eq_false h0
          by_cases h1 : st ≤ x
          · have d1 : decide (st ≤ x) = true := decide_eq_true h1
            have HE := Lib.hid (HNO.out (by omega))
            clear h0 h1
            go_wp2_with fail
            go_quiet (fail)
            go_wp2
            go_ret2
            exact ⟨by rw [HE.out] <;> rfl, below_drewN B3.out _⟩
          · have d1 : decide (st ≤ x) = false := decide_eq_false h1
            have HZ := Lib.hid (HOK.out (by omega))
            clear h0 h1
            go_wp2_with fail
            go_quiet (fail)
            go_wp2
            go_roundw
            case rel => exact ⟨j + 1, by omega, by go_num, HZ, Lib.hid (below_drewN HB.out _)⟩
            case measure => simp [intOf]; omega
      · obtain rfl : j = q := by omega
        have ha := AI1.out.2 (fun i hi => HS.out i (by rw [← HL.out]; exact hi))
        have HE := Lib.hid (show E = (V, 0) by rw [HEV.out, if_pos ha])
        have FV := Lib.hid (FO.out _ B3.out (HI.out _ B3.out) ha)
        clear ha
        go_wp2_with (go_at_call 22; (with_reducible refine FV.out.mono ?_); rintro e w4 ⟨rfl, hb⟩; have B4 := Lib.hid (B3.out.trans (hb.mono B3.out.size)); clear hb)
        go_ret2
        exact ⟨by rw [HE.out] <;> rfl, B4.out⟩
  · have HE := Lib.hid (show ev st n l V = (0, 2) by rw [ev, if_neg (by rw [HL.out]; exact hqn)])
    have f3 : ((q : Int) != (n : Int)) = true := by rw [bne_iff_ne]; omega
    generalize ev st n l V = E at HE ⊢
    clear hqn
    go_enter Tryz.func7, Tryz.ntmps7
    go_upto_region 1 with (fail)
    generalize w.alloc (.cells #[.int .i64 st, .slice AH n cH, .slice AN m cN] 32) = w0 at *
    obtain ⟨a0, a1, a2, a3⟩ := K1.out.three
    go_wp2_with (go_at_call 21; (with_reducible refine (RI.out _ B1.out).mono ?_); rintro e w1 ⟨rfl, hb⟩; have B2 := Lib.hid (B1.out.trans (hb.mono B1.out.size)); have K2 := Lib.hid (K1.out.below hb K1.out.lt); obtain ⟨b0, b1, b2, b3⟩ := K2.out.three; clear hb)
    go_ret2
    exact ⟨by rw [HE.out] <;> rfl, B2.out⟩
/-- what value answers -/
def vl (p : Int × Int) : Int := if p.2 = 0 then p.1 else -1
theorem val_any (q : Nat) (h : TS w AH AN T) (ht : Rtt T) (hI : Reads w w.heap.size AI q (il l)) (hq : q ≤ 1000000) :
    Calls Tryz.prog 9 #[.agg #[.int .i64 T.st, .slice AH T.n cH, .slice AN T.m cN], .slice AI q cI] w fun e w' => e = .returned (.int .i64 (vl (ev T.st T.n l (fo T.nx ((T.m - 1 : Nat) : Int) l)))) ∧ Below w.heap.size w w' := by
  have B1 := Lib.hid (show Below w.heap.size w (w.alloc (.cells #[.int .i64 T.st, .slice AH T.n cH, .slice AN T.m cN] 32)) from (Below.refl _ _).alloc (Nat.le_refl _) _)
  have EV := Lib.hid (reval_any AH cH AN cN T AI cI l _ q (h.later B1.out) ht (hI.later B1.out) hq)
  generalize ev T.st T.n l (fo T.nx ((T.m - 1 : Nat) : Int) l) = p at EV ⊢
  obtain ⟨p1, p2⟩ := p
  clear h ht hI
  obtain ⟨st, n, f, m, lv, nx⟩ := T
  simp only at *
  by_cases e : p2 = 0
  · subst e
    go_enter Tryz.func9, Tryz.ntmps9
    go_wp2_with (go_at_call 7; (with_reducible refine EV.out.mono ?_); rintro e w1 ⟨rfl, hb⟩; have B2 := Lib.hid (B1.out.trans (hb.mono B1.out.size)); clear hb)
    go_ret
    exact ⟨rfl, B2.out⟩
  · have e1 : (p2 != 0) = true := by rw [bne_iff_ne]; exact e
    have HV := Lib.hid (show vl (p1, p2) = -1 by rw [vl, if_neg e])
    generalize vl (p1, p2) = v at HV ⊢
    clear e
    go_enter Tryz.func9, Tryz.ntmps9
    go_wp2_with (go_at_call 7; (with_reducible refine EV.out.mono ?_); rintro e w1 ⟨rfl, hb⟩; have B2 := Lib.hid (B1.out.trans (hb.mono B1.out.size)); clear hb)
    go_ret
    exact ⟨by rw [HV.out] <;> rfl, B2.out⟩
end
end Go.Proofs.YtcgkkppidkkjiaaGreatDoor
