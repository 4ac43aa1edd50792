/- The walks of digits and of leading. -/
/- The walk of Syms at a valid tree with few positions, by what the tree means. -/
/- Numbers and their digits. -/
/- What the numbers of a list of nodes mean. -/
import Derived.Test.YtjekpmkghpjamaaGreatDoorMav
import Derived.Test.YtjekpmkghpjamaaGreatDoorMab
import Derived.Test.YtjekpmkghpjamaaGreatDoorMaa
import Derived.Below
import Derived.BigQuiet
import Derived.Deep.AppendLies
import Derived.Deep.CutRange
import Derived.Deep.Draws
import Derived.Deep.QuietTactic
import Derived.IntWalk
import Derived.Laws.OwnMore
import Derived.Laws.Rows
import Derived.Lib.Hide
import Derived.Lib.Strings
import Derived.LoopN
import Derived.OwnWalk
import Derived.Shelf.Abstract
import Derived.Sort.Statements
import Derived.StillTail
import Derived.StillTailTactics
import Derived.Test.YtjekpmkghpjamaaGreatDoorRows
import Derived.WalkKit
import Derived.Test.YtjekpmkghpjamaaGreatDoorMat
import Derived.Test.YtjekpmkghpjamaaGreatDoorMac
import Derived.Test.YtjekpmkghpjamaaGreatDoorMad
import Derived.Test.YtjekpmkghpjamaaGreatDoorMah
namespace Go.Proofs.YtjekpmkghpjamaaGreatDoor
open Go.RowKit
/-- the digits of numbers -/
def dgs (l : List Int) : List UInt8 := l.flatMap fun x => dg x.toNat
theorem dgs_len (l : List Int) : (dgs l).length = l.length := by
  induction l with
  | nil => rfl
  | cons x l ih =>
    simp only [dgs, List.flatMap_cons, List.length_append, List.length_cons, dg, List.length_nil] at ih ⊢
    omega
theorem dgs_succ (l : List Int) (j : Nat) (h : j < l.length) : dgs (l.take (j + 1)) = dgs (l.take j) ++ dg (ig l j).toNat := by
  rw [List.take_succ_eq_append_getElem h]
  unfold dgs
  rw [List.flatMap_append]
  congr 1
  simp [ig, List.getD, List.getElem?_eq_getElem h]
theorem tx_addG (a b : List UInt8) : tx a ++ tx b = tx (a ++ b) := by
  apply ByteArray.ext
  rw [ByteArray.data_append]
  simp [tx]
set_option maxRecDepth 100000 in
set_option maxHeartbeats 2000000 in
theorem digits_anyG (A : Option Addr) (n c B : Nat) (l : List Int) (w : World) (h : Reads w B A n (il l)) (hn : n ≤ 100) (hl : ∀ x ∈ l, 0 ≤ x ∧ x < 10) :
    Calls Tryz.prog 109 #[.slice A n c] w fun e w' => e = .returned (.string (tx (dgs l))) ∧ w = w' := by
  have HL := Lib.hid (reads_len h)
  have H := Lib.hid h
  have HD := Lib.hid hl
  clear h hl
  have e0 : (⟨#[]⟩ : ByteArray) = tx (dgs (l.take 0)) := rfl
  have E0 := Lib.hid e0
  clear e0
  go_enter Tryz.func109, Tryz.ntmps109
  go_wp2
  go_loop [3, 8] (fun sv iv => ∃ (j : Nat) (s : ByteArray), j ≤ n ∧ iv = .int .i64 (j : Int) ∧ sv = .string s ∧ s = tx (dgs (l.take j)) ∧ s.size ≤ j) (fun _ iv => n - (intOf iv).toNat)
  case atStart => exact ⟨0, _, Nat.zero_le _, rfl, rfl, E0.out, by decide⟩
  case round =>
    obtain ⟨j, s, hj, rfl, rfl, hs, hz⟩ := hrel
    have HS := Lib.hid hs
    clear hs
    by_cases hlt : j < n
    · obtain ⟨ad, rfl, hb, hc⟩ := il_at H.out hlt
      have hx := HD.out (ig l j) (ig_mem (by rw [HL.out]; exact hlt))
      have HN := Lib.hid (dgs_succ l j (by rw [HL.out]; exact hlt))
      generalize ig l j = x at hc hx HN
      obtain ⟨d, rfl⟩ : ∃ d : Nat, x = (d : Int) := ⟨x.toNat, by omega⟩
      have I := Lib.hid (fun w => itoa_any d w (by omega))
      have HT := Lib.hid (show s ++ tx (dg d) = tx (dgs (l.take (j + 1))) by rw [HN.out, HS.out, tx_addG]; rfl)
      have hz2 : (tx (dg d)).size = 1 := by rw [tx_size]; rfl
      generalize tx (dg d) = t at I HT hz2
      go_wp2_with (go_at_call 70; (with_reducible refine (I.out _).mono ?_); rintro e w' ⟨rfl, rfl⟩)
      go_round
      case rel => exact ⟨j + 1, s ++ t, by omega, by go_num, rfl, HT.out, by rw [ByteArray.size_append]; omega⟩
      case measure => simp [intOf]; omega
    · obtain rfl : j = n := by omega
      have hs := HS.out
      rw [← HL.out, List.take_length] at hs
      subst hs
      go_wp2
      go_ret
      exact ⟨rfl, rfl⟩
/-- the digits below k at the beginning of a text: the table, and what follows -/
def ld (s : List UInt8) : Nat → (Nat → Bool) × List UInt8
  | 0 => (fun _ => false, s)
  | k + 1 => (updG (ld s k).1 k (Lib.hasPrefix (ld s k).2 (dg k)), Lib.trimPrefix (ld s k).2 (dg k))
theorem ld_len (s : List UInt8) (k : Nat) : (ld s k).2.length ≤ s.length := by
  induction k with
  | zero => exact Nat.le_refl _
  | succ k ih => exact Nat.le_trans (Lib.trimPrefix_le _ _) ih
theorem bls_zero (s : List UInt8) : bls (ld s 0).1 = #[.bool false, .bool false, .bool false, .bool false, .bool false, .bool false, .bool false, .bool false, .bool false, .bool false] := by
  simp [bls, ld]
theorem Blk.all10 {w : World} {g : Nat} {t : TypeId} {z0 z1 z2 z3 z4 z5 z6 z7 z8 z9 : Value} (h : Blk w g t #[z0, z1, z2, z3, z4, z5, z6, z7, z8, z9]) (c0 c1 c2 c3 c4 c5 c6 c7 c8 c9 : Value) : Blk ((((((((((w.setCell ⟨g, 0, none⟩ c0).setCell ⟨g, 1, none⟩ c1).setCell ⟨g, 2, none⟩ c2).setCell ⟨g, 3, none⟩ c3).setCell ⟨g, 4, none⟩ c4).setCell ⟨g, 5, none⟩ c5).setCell ⟨g, 6, none⟩ c6).setCell ⟨g, 7, none⟩ c7).setCell ⟨g, 8, none⟩ c8).setCell ⟨g, 9, none⟩ c9) g t #[c0, c1, c2, c3, c4, c5, c6, c7, c8, c9] := by
  have h9 := ((((((((((h.set_ 0 c0).set_ 1 c1).set_ 2 c2).set_ 3 c3).set_ 4 c4).set_ 5 c5).set_ 6 c6).set_ 7 c7).set_ 8 c8).set_ 9 c9)
  simpa using h9
theorem Below.all10 {w0 w : World} {B g : Nat} (h : Below B w0 w) (hg : B ≤ g) (c0 c1 c2 c3 c4 c5 c6 c7 c8 c9 : Value) : Below B w0 ((((((((((w.setCell ⟨g, 0, none⟩ c0).setCell ⟨g, 1, none⟩ c1).setCell ⟨g, 2, none⟩ c2).setCell ⟨g, 3, none⟩ c3).setCell ⟨g, 4, none⟩ c4).setCell ⟨g, 5, none⟩ c5).setCell ⟨g, 6, none⟩ c6).setCell ⟨g, 7, none⟩ c7).setCell ⟨g, 8, none⟩ c8).setCell ⟨g, 9, none⟩ c9) :=
  ((((((((((h.setCell (p := ⟨g, 0, none⟩) hg c0).setCell (p := ⟨g, 1, none⟩) hg c1).setCell (p := ⟨g, 2, none⟩) hg c2).setCell (p := ⟨g, 3, none⟩) hg c3).setCell (p := ⟨g, 4, none⟩) hg c4).setCell (p := ⟨g, 5, none⟩) hg c5).setCell (p := ⟨g, 6, none⟩) hg c6).setCell (p := ⟨g, 7, none⟩) hg c7).setCell (p := ⟨g, 8, none⟩) hg c8).setCell (p := ⟨g, 9, none⟩) hg c9)
set_option maxRecDepth 100000 in
set_option maxHeartbeats 4000000 in
theorem leading_any (s : List UInt8) (w : World) (hs : s.length ≤ 1000) :
    Calls Tryz.prog 34 #[.string (tx s)] w fun e w' => e = .returned (.tuple #[.agg (bls (ld s 10).1), .string (tx (ld s 10).2)]) ∧ Below w.heap.size w w' := by
  have CU := Lib.hid (fun k w => cut_any (ld s k).2 (dg k) w (by have := ld_len s k; omega) (by simp [dg]))
  have IT := Lib.hid itoa_any
  have E0 := Lib.hid (show tx s = tx (ld s 0).2 from rfl)
  obtain ⟨s0, hs0⟩ : ∃ s0, s0 = tx s := ⟨_, rfl⟩
  rw [← hs0] at E0 ⊢
  clear hs0
  have L1 := Lib.hid (show ∀ k, tx (Lib.trimPrefix (ld s k).2 (dg k)) = tx (ld s (k + 1)).2 from fun k => rfl)
  have U1 := Lib.hid (show ∀ k, updG (ld s k).1 k (Lib.hasPrefix (ld s k).2 (dg k)) = (ld s (k + 1)).1 from fun k => rfl)
  have K0 := Blk.new w 75 (bls (ld s 0).1)
  have K1 := Blk.new (w.alloc (.cells (bls (ld s 0).1) 75)) 75 (bls (ld s 0).1)
  rw [show (w.alloc (.cells (bls (ld s 0).1) 75)).heap.size = w.heap.size + 1 by simp] at K1
  have K2 := K0.alloc (.cells (bls (ld s 0).1) 75)
  clear K0
  have B0 : Below w.heap.size w ((w.alloc (.cells (bls (ld s 0).1) 75)).alloc (.cells (bls (ld s 0).1) 75)) := ((Below.refl _ _).alloc (Nat.le_refl _) _).alloc (by simp) _
  rw [bls_zero] at K2 K1 B0
  go_enter Tryz.func34, Tryz.ntmps34
  go_wp2
  generalize (w.alloc (.cells #[.bool false, .bool false, .bool false, .bool false, .bool false, .bool false, .bool false, .bool false, .bool false, .bool false] 75)).alloc (.cells #[.bool false, .bool false, .bool false, .bool false, .bool false, .bool false, .bool false, .bool false, .bool false, .bool false] 75) = w0 at K2 K1 B0 ⊢
  have K1 := Lib.hid K1
  have K2 := Lib.hid K2
  have B0 := Lib.hid B0
  go_loopw [0, 6] (fun sv jv wr => ∃ (j : Nat) (u : ByteArray), j ≤ 10 ∧ jv = .int .i64 (j : Int) ∧ sv = .string u ∧ u = tx (ld s j).2 ∧ Blk wr (w.heap.size + 1) 75 (bls (ld s j).1) ∧ Blk wr w.heap.size 75 #[.bool false, .bool false, .bool false, .bool false, .bool false, .bool false, .bool false, .bool false, .bool false, .bool false] ∧ Below w.heap.size w wr) (fun _ jv _ => 10 - (intOf jv).toNat)
  case atStart => exact ⟨0, _, Nat.zero_le _, rfl, rfl, E0.out, by rw [bls_zero]; exact K1.out, K2.out, B0.out⟩
  case round =>
    obtain ⟨j, u, hj, rfl, rfl, hu, hk, hk2, hbel⟩ := hrel
    have HU := Lib.hid hu
    have HK := Lib.hid hk
    have HK2 := Lib.hid hk2
    have HE := Lib.hid hbel
    clear hu hk hk2 hbel
    by_cases hjm : j < 10
    · have hd := HK.out.cell j
      rw [bls_at _ _ hjm] at hd
      have hf := HK.out.frozen j
      have hlt := HK.out.lt
      have I1 := Lib.hid (fun w => IT.out j w hjm)
      have C1 := CU.out j
      have HL1 := Lib.hid (L1.out j)
      have HU1 := Lib.hid (U1.out j)
      rw [HL1.out, ← HU.out] at C1
      generalize Lib.hasPrefix (ld s j).2 (dg j) = q at C1 HU1
      obtain ⟨u', hu'⟩ : ∃ u', u' = tx (ld s (j + 1)).2 := ⟨_, rfl⟩
      rw [← hu'] at C1
      have HU' := Lib.hid hu'
      clear hu'
      generalize tx (dg j) = t at C1 I1
      have zz := Lib.hid C1
      (try clear C1)
      have C1 := zz
      clear zz
      go_wp2_with (first
        | (go_at_call 70; (with_reducible refine (I1.out _).mono ?_); rintro e w2 ⟨rfl, rfl⟩)
        | (go_at_call 33; (with_reducible refine (C1.out _).mono ?_); rintro e w2 ⟨rfl, rfl⟩))
      go_roundw
      case rel => exact ⟨j + 1, u', by omega, by go_num, rfl, HU'.out, by rw [← HU1.out, ← bls_set _ _ _ hjm]; exact HK.out.set_ j _, HK2.out.far (by simp) _, HE.out.setCell (p := ⟨w.heap.size + 1, j, none⟩) (Nat.le_succ _) _⟩
      case measure => simp [intOf]; omega
    · obtain rfl : j = 10 := by omega
      have hk := HK.out
      simp only [bls] at hk
      obtain ⟨k0, k1, k2, k3, k4, k5, k6, k7, k8, k9, k10⟩ := hk.ten
      obtain ⟨j0, j1, j2, j3, j4, j5, j6, j7, j8, j9, j10⟩ := HK2.out.ten
      have r0 := HK2.out.frozen 0
      have r1 := HK2.out.frozen 1
      have r2 := HK2.out.frozen 2
      have r3 := HK2.out.frozen 3
      have r4 := HK2.out.frozen 4
      have r5 := HK2.out.frozen 5
      have r6 := HK2.out.frozen 6
      have r7 := HK2.out.frozen 7
      have r8 := HK2.out.frozen 8
      have r9 := HK2.out.frozen 9
      have hu := HU.out
      clear hk HU
      subst hu
      go_wp2
      have E := HK2.out.all10 (.bool ((ld s 10).1 0)) (.bool ((ld s 10).1 1)) (.bool ((ld s 10).1 2)) (.bool ((ld s 10).1 3)) (.bool ((ld s 10).1 4)) (.bool ((ld s 10).1 5)) (.bool ((ld s 10).1 6)) (.bool ((ld s 10).1 7)) (.bool ((ld s 10).1 8)) (.bool ((ld s 10).1 9))
      have E2 := Below.all10 HE.out (Nat.le_refl _) (.bool ((ld s 10).1 0)) (.bool ((ld s 10).1 1)) (.bool ((ld s 10).1 2)) (.bool ((ld s 10).1 3)) (.bool ((ld s 10).1 4)) (.bool ((ld s 10).1 5)) (.bool ((ld s 10).1 6)) (.bool ((ld s 10).1 7)) (.bool ((ld s 10).1 8)) (.bool ((ld s 10).1 9))
      generalize ((((((((((wr.setCell ⟨w.heap.size, 0, none⟩ (.bool ((ld s 10).1 0))).setCell ⟨w.heap.size, 1, none⟩ (.bool ((ld s 10).1 1))).setCell ⟨w.heap.size, 2, none⟩ (.bool ((ld s 10).1 2))).setCell ⟨w.heap.size, 3, none⟩ (.bool ((ld s 10).1 3))).setCell ⟨w.heap.size, 4, none⟩ (.bool ((ld s 10).1 4))).setCell ⟨w.heap.size, 5, none⟩ (.bool ((ld s 10).1 5))).setCell ⟨w.heap.size, 6, none⟩ (.bool ((ld s 10).1 6))).setCell ⟨w.heap.size, 7, none⟩ (.bool ((ld s 10).1 7))).setCell ⟨w.heap.size, 8, none⟩ (.bool ((ld s 10).1 8))).setCell ⟨w.heap.size, 9, none⟩ (.bool ((ld s 10).1 9))) = wz at E E2 ⊢
      obtain ⟨i0, i1, i2, i3, i4, i5, i6, i7, i8, i9, i10⟩ := E.ten
      exact bodyPost_ret (v := .tuple #[.agg #[.bool ((ld s 10).1 0), .bool ((ld s 10).1 1), .bool ((ld s 10).1 2), .bool ((ld s 10).1 3), .bool ((ld s 10).1 4), .bool ((ld s 10).1 5), .bool ((ld s 10).1 6), .bool ((ld s 10).1 7), .bool ((ld s 10).1 8), .bool ((ld s 10).1 9)], .string (tx (ld s 10).2)]) (by simp [results, Tryz.results34, go_sem, i0, i1, i2, i3, i4, i5, i6, i7, i8, i9]) rfl ⟨rfl, E2⟩
end Go.Proofs.YtjekpmkghpjamaaGreatDoor
namespace Go.Proofs.YtjekpmkghpjamaaGreatDoor
open Go.RowKit

/-- what decides whether a rule has a symmetry -/
def SyQ (sn : Nat) (T : Tr) (q : Nat → Bool) : Prop := ∀ k, k < 8 → (q k = true ↔ sm (lf (imgs T.f T.n k)) T.n T.f T.n = true ∧ ∀ e : Env sn, Phi T (eT (rhoOf T.n (orgs T.f T.n k)) e) = Phi T e)
set_option maxRecDepth 100000 in
set_option maxHeartbeats 4000000 in
theorem syms_any {T : Tr} {sn : Nat} {q : Nat → Bool} (hT : Rt T) (h9 : T.n ≤ 9) (hst : T.st = (sn : Int)) (hp : sn ^ T.n ≤ 4096) (hq : SyQ sn T q) {AH AN : Option Addr} {cH cN : Nat} {w : World} (hM : Mat w) (h : TS w AH AN T) :
    Calls Tryz.prog 10 #[.agg #[.int .i64 (sn : Int), .slice AH T.n cH, .slice AN T.m cN]] w fun e w' => ∃ A c, e = .returned (.slice A (nl q 8).length c) ∧ Reads w' w'.heap.size A (nl q 8).length (il (nl q 8)) ∧ Below w.heap.size w w' := by
  obtain ⟨i0, hi, hz0, hz1, hz2⟩ := info_parts Tryz.info_int
  have HB := Lib.hid ((Below.refl w.heap.size w).alloc (Nat.le_refl _) (.cells #[.int .i64 (sn : Int), .slice AH T.n cH, .slice AN T.m cN] 25))
  have K := Lib.hid (Blk.new w 25 #[.int .i64 (sn : Int), .slice AH T.n cH, .slice AN T.m cN])
  have hpos : w.heap.size ≤ (w.alloc (.cells #[.int .i64 (sn : Int), .slice AH T.n cH, .slice AN T.m cN] 25)).heap.size := by simp
  have TT := Lib.hid (fun (j : Nat) (hj : j < 8) => show ∃ out : List (Int × List Int), (∀ w', Below w.heap.size w w' → Calls Tryz.prog 27 #[.int .i64 (j : Int), .agg #[.int .i64 (sn : Int), .slice AH T.n cH, .slice AN T.m cN]] w' fun e w2 => ∃ AI cI AN2 cN2, e = .returned (.tuple #[.agg #[.int .i64 (sn : Int), .slice AI T.n cI, .slice AN2 out.length cN2], .int .i64 0]) ∧ TS w2 AI AN2 (trO sn T.n (lf (imgs T.f T.n j)) out) ∧ Below w'.heap.size w' w2) ∧
      ∀ w' AI cI AN2 cN2, Below w.heap.size w w' → TS w' AI AN2 (trO sn T.n (lf (imgs T.f T.n j)) out) → Calls Tryz.prog 28 #[.agg #[.int .i64 (sn : Int), .slice AI T.n cI, .slice AN2 out.length cN2], .agg #[.int .i64 (sn : Int), .slice AH T.n cH, .slice AN T.m cN]] w' fun e w2 => e = .returned (.bool (q j)) ∧ Below w'.heap.size w' w2 from by
    obtain ⟨out, o1, o2, o3, o4, o5⟩ := turn_few (j : Int) hT h9 hst hp
    rw [md_nat j hj] at o3 o4 o5
    refine ⟨out, fun w' hb => (o3 w' AH AN cH cN (hM.below hb hM.1) (h.later hb)).mono ?_, fun w' AI cI AN2 cN2 hb hts => ?_⟩
    · intro e w2 ho
      unfold TurnOut at ho
      rw [if_pos o2] at ho
      obtain ⟨AI, cI, AN2, cN2, e1, ⟨e2, _⟩, e3⟩ := ho
      exact ⟨AI, cI, AN2, cN2, e1, e2, e3⟩
    · exact teq_sem (T := trO sn T.n (lf (imgs T.f T.n j)) out) (U := T) (q := q j) rfl hst o4 hT rfl ((hq j hj).trans ⟨fun ⟨a, b⟩ => ⟨a, fun e => (o5 e).trans (b e)⟩, fun ⟨a, b⟩ => ⟨a, fun e => (o5 e).symm.trans (b e)⟩⟩) hts (h.later hb))
  clear hT h9 hst hp hq hM h
  go_enter Tryz.func10, Tryz.ntmps10
  go_wp2
  generalize w.alloc (.cells #[.int .i64 (sn : Int), .slice AH T.n cH, .slice AN T.m cN] 25) = w0 at HB K hpos ⊢
  go_loopw [3, 7] (fun lv jv wr => ∃ (j m : Nat) (l : List Int) (A : Option Addr) (c : Nat), j ≤ 8 ∧ jv = .int .i64 (j : Int) ∧ l = nl q j ∧ m = l.length ∧ m ≤ j ∧ lv = .slice A m c ∧ wr.ownsRow (w.heap.size + 1) 3 1 (.slice A m c) m (il l) ∧ Hid (Blk wr w.heap.size 25 #[.int .i64 (sn : Int), .slice AH T.n cH, .slice AN T.m cN]) ∧ Below w.heap.size w wr) (fun _ jv _ => 8 - (intOf jv).toNat)
  case atStart => exact ⟨0, 0, [], none, 0, Nat.zero_le _, rfl, rfl, rfl, Nat.zero_le _, rfl, World.ownsRow_nil _ _ _ _, K, HB.out⟩
  case round =>
    obtain ⟨j, m, l, A, c, hj, rfl, hl, hm, hmj, rfl, hown, HK, hbel⟩ := hrel
    have HL := Lib.hid hl
    have HM := Lib.hid hm
    have HE := Lib.hid hbel
    have HO := Lib.hid hown
    have hs := hbel.size
    clear hl hm hbel hown
    by_cases hjn : j < 8
    · obtain ⟨out, C1, C2⟩ := TT.out j hjn
      have C1 := Lib.hid C1
      have C2H := Lib.hid C2
      clear C2
      have step := fun (l' : List Int) (e : l' = if q j = true then l ++ [(j : Int)] else l) => (show l' = nl q (j + 1) by rw [e, nl_succ, ← HL.out])
      generalize q j = b at C2H step
      have STEP := Lib.hid step
      clear step
      obtain ⟨t0, t1, t2, t3⟩ := HK.out.three
      go_upto_region 6 with (go_at_call 27; (with_reducible refine (C1.out _ HE.out).mono ?_); rintro e w2 ⟨AI, cI, AN2, cN2, rfl, hts, hb2⟩; have B2 := Lib.hid hb2; have T2 := Lib.hid hts; have K2 := Lib.hid (HK.out.below hb2 HK.out.lt); clear hb2 hts)
      have B3 := Lib.hid (HE.out.trans ((B2.out.alloc B2.out.size (.cells #[.int .i64 (sn : Int), .slice AI T.n cI, .slice AN2 out.length cN2] 25)).mono hs))
      have B23 := Lib.hid (B2.out.alloc B2.out.size (.cells #[.int .i64 (sn : Int), .slice AI T.n cI, .slice AN2 out.length cN2] 25))
      have T3 := Lib.hid (T2.out.later ((Below.refl w2.heap.size w2).alloc (Nat.le_refl _) (.cells #[.int .i64 (sn : Int), .slice AI T.n cI, .slice AN2 out.length cN2] 25)))
      have K3 := Lib.hid (K2.out.alloc (.cells #[.int .i64 (sn : Int), .slice AI T.n cI, .slice AN2 out.length cN2] 25))
      have N3 := Lib.hid (Blk.new w2 25 #[.int .i64 (sn : Int), .slice AI T.n cI, .slice AN2 out.length cN2])
      have hs2 := B2.out.size
      have hN3 : ¬ w2.heap.size = w.heap.size := by have := K2.out.lt; omega
      have hN4 : ¬ w.heap.size = w2.heap.size := by omega
      generalize w2.alloc (.cells #[.int .i64 (sn : Int), .slice AI T.n cI, .slice AN2 out.length cN2] 25) = w3 at B3 B23 T3 K3 N3 ⊢
      obtain ⟨u0, u1, u2, u3⟩ := K3.out.three
      obtain ⟨v0, v1, v2, v3⟩ := N3.out.three
      have hs3 := B3.out.size
      cases b with
      | true =>
        go_upto_region 7 with (go_at_call 28; (with_reducible refine (C2H.out _ _ _ _ _ B3.out T3.out).mono ?_); rintro e w4 ⟨rfl, hb4⟩; have O4 := Lib.hid (own_below (own_below HO.out B23.out) hb4); have B4 := Lib.hid (B3.out.trans (hb4.mono B3.out.size)); have K4 := Lib.hid (K3.out.below hb4 K3.out.lt); clear hb4)
        have hs4 : w.heap.size + 1 ≤ w4.heap.size := K4.out.lt
        go_wp2_with (at_builtin; refine wpList_append1 rfl _ _ 36 rfl (w.heap.size + 1) 3 i0 (.int .i64 0) 8 Tryz.underlying36 hi hz0 hz1 hz2 rfl A m c _ rfl O4.out (.int .i64 (j : Int)) rfl rfl (by unfold maxLen; omega) (by omega) hs4 ?_; intro g' c' w5 hown' hbel')
        go_roundw
        case rel => exact ⟨j + 1, m + 1, l ++ [(j : Int)], some ⟨g', 0, none⟩, c', by omega, by go_num, STEP.out _ rfl, by rw [HM.out]; simp, by omega, rfl, by rw [il_add]; exact hown', Lib.hid (K4.out.below hbel' (Nat.lt_succ_self _)), B4.out.trans (hbel'.mono (Nat.le_succ _))⟩
        case measure => simp [intOf]; omega
      | false =>
        go_upto_region 8 with (go_at_call 28; (with_reducible refine (C2H.out _ _ _ _ _ B3.out T3.out).mono ?_); rintro e w4 ⟨rfl, hb4⟩; have O4 := Lib.hid (own_below (own_below HO.out B23.out) hb4); have B4 := Lib.hid (B3.out.trans (hb4.mono B3.out.size)); have K4 := Lib.hid (K3.out.below hb4 K3.out.lt); clear hb4)
        go_wp2
        go_roundw
        case rel => exact ⟨j + 1, m, l, A, c, by omega, by go_num, STEP.out _ rfl, HM.out, by omega, rfl, O4.out, K4, B4.out⟩
        case measure => simp [intOf]; omega
    · obtain rfl : j = 8 := by omega
      have hl := HL.out
      have hm := HM.out
      subst hm
      subst hl
      go_wp2
      go_ret
      exact ⟨A, ⟨c, rfl⟩, Reads.of_own HO.out, HE.out⟩
end Go.Proofs.YtjekpmkghpjamaaGreatDoor
namespace Go.Proofs.YtjekpmkghpjamaaGreatDoor
open Go.RowKit
/-- the number of a list of states -/
def nm (S : Nat) : List Int → Nat
  | [] => 0
  | x :: p => x.toNat * S ^ p.length + nm S p
/-- all are states, as a plain statement -/
def Sts (S : Nat) (l : List Int) : Prop := ∀ x ∈ l, 0 ≤ x ∧ x < (S : Int)
theorem sts_als {S : Nat} {l : List Int} : Sts S l ↔ als S l = true := by
  rw [als_iff]
  constructor
  · intro h i hi
    exact h _ (ig_mem hi)
  · intro h x hx
    obtain ⟨i, hi, rfl⟩ := mem_ig hx
    exact h i hi
end Go.Proofs.YtjekpmkghpjamaaGreatDoor
namespace Go.Proofs.YtjekpmkghpjamaaGreatDoor
open Go.RowKit
theorem lvO_app {out : List (Int × List Int)} {e : Int × List Int} {k : Nat} (h : k < out.length) : lvO (out ++ [e]) k = lvO out k := by
  simp [lvO, List.getD_eq_getElem?_getD, List.getElem?_append_left h]
theorem nxO_app {out : List (Int × List Int)} {e : Int × List Int} {k : Nat} (h : k < out.length) : nxO (out ++ [e]) k = nxO out k := by
  simp [nxO, List.getD_eq_getElem?_getD, List.getElem?_append_left h]
theorem lvO_new (out : List (Int × List Int)) (e : Int × List Int) : lvO (out ++ [e]) out.length = e.1 := by simp [lvO]
theorem nxO_new (out : List (Int × List Int)) (e : Int × List Int) : nxO (out ++ [e]) out.length = e.2 := by simp [nxO]
/-- valid nodes -/
def Gd (S L : Nat) (out : List (Int × List Int)) : Prop := ∀ i, i < out.length → Nd (S : Int) L (lvO out) i (lvO out i) (nxO out i)
/-- a number of a level -/
def Lvl (S : Nat) (out : List (Int × List Int)) (l : Nat) (r : Int) : Prop := 0 ≤ r ∧ (l = 0 → r < S) ∧ (0 < l → r < out.length ∧ lvO out r.toNat = l)
/-- a number of a level that leads to what a function says -/
def Mn (S : Nat) (out : List (Int × List Int)) (l : Nat) (f : List Int → Int) (r : Int) : Prop := Lvl S out l r ∧ ∀ p, p.length = l → Sts S p → fo (nxO out) r p = f p
theorem Lvl.app {S : Nat} {out : List (Int × List Int)} {e : Int × List Int} {l : Nat} {r : Int} (h : Lvl S out l r) : Lvl S (out ++ [e]) l r :=
  ⟨h.1, h.2.1, fun h0 => by
    have h1 := h.1
    obtain ⟨h2, h3⟩ := h.2.2 h0
    refine ⟨by rw [List.length_append, List.length_singleton]; omega, ?_⟩
    rw [lvO_app (by omega)]; exact h3⟩
/-- the element of a node is of the level below -/
theorem Lvl.down {S L : Nat} {out : List (Int × List Int)} {l : Nat} {r : Int} (hg : Gd S L out) (h : Lvl S out (l + 1) r) {s : Int} (h0 : 0 ≤ s) (h1 : s < S) : Lvl S out l (ig (nxO out r.toNat) s.toNat) := by
  have hr := h.1
  obtain ⟨h2, h3⟩ := h.2.2 (by omega)
  obtain ⟨n1, n2, n3, n4⟩ := hg r.toNat (by omega)
  obtain ⟨e1, e2, e3⟩ := n4 s.toNat (by omega)
  rw [h3] at e2 e3
  refine ⟨e1, fun hl => e2 (by omega), fun hl => ?_⟩
  obtain ⟨e4, e5⟩ := e3 (by omega)
  exact ⟨by omega, by rw [e5]; omega⟩
theorem fo_app {S L : Nat} {out : List (Int × List Int)} {e : Int × List Int} (hg : Gd S L out) : ∀ (p : List Int) (r : Int), Lvl S out p.length r → Sts S p → fo (nxO (out ++ [e])) r p = fo (nxO out) r p
  | [], _, _, _ => rfl
  | s :: q, r, h, hs => by
    have hr := h.1
    obtain ⟨h2, h3⟩ := h.2.2 (by simp)
    have hs1 := hs s (by simp)
    rw [fo, fo, nxO_app (by omega)]
    exact fo_app hg q _ (Lvl.down hg h hs1.1 hs1.2) (fun x hx => hs x (by simp [hx]))
theorem Mn.app {S L : Nat} {out : List (Int × List Int)} {e : Int × List Int} {l : Nat} {f : List Int → Int} {r : Int} (hg : Gd S L out) (h : Mn S out l f r) : Mn S (out ++ [e]) l f r :=
  ⟨h.1.app, fun p hp hs => by rw [fo_app hg p r (by rw [hp]; exact h.1) hs]; exact h.2 p hp hs⟩
theorem Gd.push {S L l : Nat} {out : List (Int × List Int)} {ys : List Int} (hg : Gd S L out) (hl : l + 1 ≤ L) (hy : ys.length = S) (h : ∀ s, s < S → Lvl S out l (ig ys s)) : Gd S L (out ++ [(((l + 1 : Nat) : Int), ys)]) := by
  intro i hi
  rw [List.length_append, List.length_singleton] at hi
  by_cases hlt : i < out.length
  · obtain ⟨n1, n2, n3, n4⟩ := hg i hlt
    rw [lvO_app hlt, nxO_app hlt]
    refine ⟨n1, n2, n3, fun s hs => ?_⟩
    obtain ⟨e1, e2, e3⟩ := n4 s hs
    refine ⟨e1, e2, fun h1 => ?_⟩
    obtain ⟨e4, e5⟩ := e3 h1
    exact ⟨e4, by rw [lvO_app (by omega)]; exact e5⟩
  · obtain rfl : i = out.length := by omega
    rw [lvO_new, nxO_new]
    refine ⟨by simp only; omega, by simp only; omega, by simp only; omega, fun s hs => ?_⟩
    simp only at hs ⊢
    obtain ⟨e1, e2, e3⟩ := h s (by omega)
    refine ⟨e1, fun h1 => e2 (by omega), fun h1 => ?_⟩
    obtain ⟨e4, e5⟩ := e3 (by omega)
    exact ⟨e4, by rw [lvO_app (by omega), e5]; omega⟩
theorem Mn.push {S L l : Nat} {out : List (Int × List Int)} {ys : List Int} {f : List Int → Int} (hg : Gd S L out) (hl : l + 1 ≤ L) (hy : ys.length = S) (h : ∀ s, s < S → Mn S out l (fun p => f ((s : Int) :: p)) (ig ys s)) :
    Mn S (out ++ [(((l + 1 : Nat) : Int), ys)]) (l + 1) f (out.length : Int) := by
  refine ⟨⟨by omega, by omega, fun _ => ⟨by rw [List.length_append, List.length_singleton]; omega, by rw [Int.toNat_natCast, lvO_new]⟩⟩, fun p hp hs => ?_⟩
  cases p with
  | nil => simp at hp
  | cons s q =>
    have hs1 := hs s (by simp)
    obtain ⟨n, rfl⟩ : ∃ n : Nat, s = (n : Int) := ⟨s.toNat, by omega⟩
    rw [fo, Int.toNat_natCast, nxO_new, Int.toNat_natCast]
    have hn : n < S := by omega
    have hq : q.length = l := by simpa using hp
    have hsq : Sts S q := fun x hx => hs x (by simp [hx])
    rw [fo_app hg q _ (by rw [hq]; exact (h n hn).1) hsq]
    exact (h n hn).2 q hq hsq
/-- one list of nodes is the beginning of another -/
def Pre (a b : List (Int × List Int)) : Prop := ∃ c, b = a ++ c
theorem Mn.pre {S L : Nat} {a b : List (Int × List Int)} {l : Nat} {f : List Int → Int} {r : Int} (hb : Gd S L b) (hp : Pre a b) (hga : Gd S L a) (h : Mn S a l f r) : Mn S b l f r := by
  obtain ⟨c, rfl⟩ := hp
  induction c generalizing a with
  | nil => simpa using h
  | cons e c ih =>
    have e1 : a ++ e :: c = (a ++ [e]) ++ c := by simp
    rw [e1] at hb ⊢
    refine ih (a := a ++ [e]) ?_ (h.app hga) hb
    intro i hi
    have hi2 : i < (a ++ [e] ++ c).length := by rw [List.length_append]; omega
    obtain ⟨n1, n2, n3, n4⟩ := hb i hi2
    have e2 : ∀ k, k < (a ++ [e]).length → lvO (a ++ [e] ++ c) k = lvO (a ++ [e]) k ∧ nxO (a ++ [e] ++ c) k = nxO (a ++ [e]) k := fun k hk => by
      simp only [lvO, nxO, List.getD_eq_getElem?_getD, List.getElem?_append_left hk, and_self]
    rw [(e2 i hi).1] at n1 n2 n4
    rw [(e2 i hi).2] at n3 n4
    refine ⟨n1, n2, n3, fun s hs => ?_⟩
    obtain ⟨q1, q2, q3⟩ := n4 s hs
    refine ⟨q1, q2, fun h1 => ?_⟩
    obtain ⟨q4, q5⟩ := q3 h1
    exact ⟨q4, by rw [← (e2 _ (by omega)).1]; exact q5⟩
end Go.Proofs.YtjekpmkghpjamaaGreatDoor
