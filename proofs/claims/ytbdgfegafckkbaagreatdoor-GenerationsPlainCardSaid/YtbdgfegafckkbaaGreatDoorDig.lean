/- The walks of digits and of leading. -/
import Derived.Test.YtbdgfegafckkbaaGreatDoorStr
import Derived.Test.YtbdgfegafckkbaaGreatDoorLst
namespace Go.Proofs.YtbdgfegafckkbaaGreatDoor
open Go.RowKit

/-- the digits of numbers -/
def dgs (l : List Int) : List UInt8 := l.flatMap fun x => dg x.toNat
theorem dgs_len (l : List Int) : (dgs l).length = l.length := by
  induction l with
  | nil => rfl
  | cons x l ih =>
    simp only [dgs, List.flatMap_cons, List.length_append, List.length_cons, dg, List.length_nil] at ih ⊢
    omega
theorem dgs_succ (l : List Int) (j : Nat) (h : j < l.length) : dgs (l.take (j + 1)) = dgs (l.take j) ++ dg (ig l j).toNat := by
  rw [List.take_succ_eq_append_getElem h]
  unfold dgs
  rw [List.flatMap_append]
  congr 1
  simp [ig, List.getD, List.getElem?_eq_getElem h]
theorem tx_add (a b : List UInt8) : tx a ++ tx b = tx (a ++ b) := by
  apply ByteArray.ext
  rw [ByteArray.data_append]
  simp [tx]
set_option maxRecDepth 100000 in
set_option maxHeartbeats 2000000 in
theorem digits_any (A : Option Addr) (n c B : Nat) (l : List Int) (w : World) (h : Reads w B A n (il l)) (hn : n ≤ 100) (hl : ∀ x ∈ l, 0 ≤ x ∧ x < 10) :
    Calls Tryz.prog 21 #[.slice A n c] w fun e w' => e = .returned (.string (tx (dgs l))) ∧ w = w' := by
  have HL := Lib.hid (reads_len h)
  have H := Lib.hid h
  have HD := Lib.hid hl
  clear h hl
  have e0 : (⟨#[]⟩ : ByteArray) = tx (dgs (l.take 0)) := rfl
  have E0 := Lib.hid e0
  clear e0
  go_enter Tryz.func21, Tryz.ntmps21
  go_wp2
  go_loop [3, 8] (fun sv iv => ∃ (j : Nat) (s : ByteArray), j ≤ n ∧ iv = .int .i64 (j : Int) ∧ sv = .string s ∧ s = tx (dgs (l.take j)) ∧ s.size ≤ j) (fun _ iv => n - (intOf iv).toNat)
  case atStart => exact ⟨0, _, Nat.zero_le _, rfl, rfl, E0.out, by decide⟩
  case round =>
    obtain ⟨j, s, hj, rfl, rfl, hs, hz⟩ := hrel
    have HS := Lib.hid hs
    clear hs
    by_cases hlt : j < n
    · obtain ⟨ad, rfl, hb, hc⟩ := il_at H.out hlt
      have hx := HD.out (ig l j) (ig_mem (by rw [HL.out]; exact hlt))
      have HN := Lib.hid (dgs_succ l j (by rw [HL.out]; exact hlt))
      generalize ig l j = x at hc hx HN
      obtain ⟨d, rfl⟩ : ∃ d : Nat, x = (d : Int) := ⟨x.toNat, by omega⟩
      have I := Lib.hid (fun w => itoa_any d w (by omega))
      have HT := Lib.hid (show s ++ tx (dg d) = tx (dgs (l.take (j + 1))) by rw [HN.out, HS.out, tx_add]; rfl)
      have hz2 : (tx (dg d)).size = 1 := by rw [tx_size]; rfl
      generalize tx (dg d) = t at I HT hz2
      go_wp2_with (go_at_call 23; (with_reducible refine (I.out _).mono ?_); rintro e w' ⟨rfl, rfl⟩)
      go_round
      case rel => exact ⟨j + 1, s ++ t, by omega, by go_num, rfl, HT.out, by rw [ByteArray.size_append]; omega⟩
      case measure => simp [intOf]; omega
    · obtain rfl : j = n := by omega
      have hs := HS.out
      rw [← HL.out, List.take_length] at hs
      subst hs
      go_wp2
      go_ret
      exact ⟨rfl, rfl⟩
/-- the digits below k at the beginning of a text: the table, and what follows -/
def ld (s : List UInt8) : Nat → (Nat → Bool) × List UInt8
  | 0 => (fun _ => false, s)
  | k + 1 => (upd (ld s k).1 k (Lib.hasPrefix (ld s k).2 (dg k)), Lib.trimPrefix (ld s k).2 (dg k))
theorem ld_len (s : List UInt8) (k : Nat) : (ld s k).2.length ≤ s.length := by
  induction k with
  | zero => exact Nat.le_refl _
  | succ k ih => exact Nat.le_trans (Lib.trimPrefix_le _ _) ih
theorem bls_zero (s : List UInt8) : bls (ld s 0).1 = #[.bool false, .bool false, .bool false, .bool false, .bool false, .bool false, .bool false, .bool false, .bool false, .bool false] := by
  simp [bls, ld]
theorem Blk.all10 {w : World} {g : Nat} {t : TypeId} {z0 z1 z2 z3 z4 z5 z6 z7 z8 z9 : Value} (h : Blk w g t #[z0, z1, z2, z3, z4, z5, z6, z7, z8, z9]) (c0 c1 c2 c3 c4 c5 c6 c7 c8 c9 : Value) : Blk ((((((((((w.setCell ⟨g, 0, none⟩ c0).setCell ⟨g, 1, none⟩ c1).setCell ⟨g, 2, none⟩ c2).setCell ⟨g, 3, none⟩ c3).setCell ⟨g, 4, none⟩ c4).setCell ⟨g, 5, none⟩ c5).setCell ⟨g, 6, none⟩ c6).setCell ⟨g, 7, none⟩ c7).setCell ⟨g, 8, none⟩ c8).setCell ⟨g, 9, none⟩ c9) g t #[c0, c1, c2, c3, c4, c5, c6, c7, c8, c9] := by
  have h9 := ((((((((((h.set_ 0 c0).set_ 1 c1).set_ 2 c2).set_ 3 c3).set_ 4 c4).set_ 5 c5).set_ 6 c6).set_ 7 c7).set_ 8 c8).set_ 9 c9)
  simpa using h9
theorem Below.all10 {w0 w : World} {B g : Nat} (h : Below B w0 w) (hg : B ≤ g) (c0 c1 c2 c3 c4 c5 c6 c7 c8 c9 : Value) : Below B w0 ((((((((((w.setCell ⟨g, 0, none⟩ c0).setCell ⟨g, 1, none⟩ c1).setCell ⟨g, 2, none⟩ c2).setCell ⟨g, 3, none⟩ c3).setCell ⟨g, 4, none⟩ c4).setCell ⟨g, 5, none⟩ c5).setCell ⟨g, 6, none⟩ c6).setCell ⟨g, 7, none⟩ c7).setCell ⟨g, 8, none⟩ c8).setCell ⟨g, 9, none⟩ c9) :=
  ((((((((((h.setCell (p := ⟨g, 0, none⟩) hg c0).setCell (p := ⟨g, 1, none⟩) hg c1).setCell (p := ⟨g, 2, none⟩) hg c2).setCell (p := ⟨g, 3, none⟩) hg c3).setCell (p := ⟨g, 4, none⟩) hg c4).setCell (p := ⟨g, 5, none⟩) hg c5).setCell (p := ⟨g, 6, none⟩) hg c6).setCell (p := ⟨g, 7, none⟩) hg c7).setCell (p := ⟨g, 8, none⟩) hg c8).setCell (p := ⟨g, 9, none⟩) hg c9)
set_option maxRecDepth 100000 in
set_option maxHeartbeats 4000000 in
theorem leading_any (s : List UInt8) (w : World) (hs : s.length ≤ 1000) :
    Calls Tryz.prog 42 #[.string (tx s)] w fun e w' => e = .returned (.tuple #[.agg (bls (ld s 10).1), .string (tx (ld s 10).2)]) ∧ Below w.heap.size w w' := by
  have CU := Lib.hid (fun k w => cut_any (ld s k).2 (dg k) w (by have := ld_len s k; omega) (by simp [dg]))
  have IT := Lib.hid itoa_any
  have E0 := Lib.hid (show tx s = tx (ld s 0).2 from rfl)
  obtain ⟨s0, hs0⟩ : ∃ s0, s0 = tx s := ⟨_, rfl⟩
  rw [← hs0] at E0 ⊢
  clear hs0
  have L1 := Lib.hid (show ∀ k, tx (Lib.trimPrefix (ld s k).2 (dg k)) = tx (ld s (k + 1)).2 from fun k => rfl)
  have U1 := Lib.hid (show ∀ k, upd (ld s k).1 k (Lib.hasPrefix (ld s k).2 (dg k)) = (ld s (k + 1)).1 from fun k => rfl)
  have K0 := Blk.new w 68 (bls (ld s 0).1)
  have K1 := Blk.new (w.alloc (.cells (bls (ld s 0).1) 68)) 68 (bls (ld s 0).1)
  rw [show (w.alloc (.cells (bls (ld s 0).1) 68)).heap.size = w.heap.size + 1 by simp] at K1
  have K2 := K0.alloc (.cells (bls (ld s 0).1) 68)
  clear K0
  have B0 : Below w.heap.size w ((w.alloc (.cells (bls (ld s 0).1) 68)).alloc (.cells (bls (ld s 0).1) 68)) := ((Below.refl _ _).alloc (Nat.le_refl _) _).alloc (by simp) _
  rw [bls_zero] at K2 K1 B0
  go_enter Tryz.func42, Tryz.ntmps42
  go_wp2
  generalize (w.alloc (.cells #[.bool false, .bool false, .bool false, .bool false, .bool false, .bool false, .bool false, .bool false, .bool false, .bool false] 68)).alloc (.cells #[.bool false, .bool false, .bool false, .bool false, .bool false, .bool false, .bool false, .bool false, .bool false, .bool false] 68) = w0 at K2 K1 B0 ⊢
  have K1 := Lib.hid K1
  have K2 := Lib.hid K2
  have B0 := Lib.hid B0
  go_loopw [0, 6] (fun sv jv wr => ∃ (j : Nat) (u : ByteArray), j ≤ 10 ∧ jv = .int .i64 (j : Int) ∧ sv = .string u ∧ u = tx (ld s j).2 ∧ Blk wr (w.heap.size + 1) 68 (bls (ld s j).1) ∧ Blk wr w.heap.size 68 #[.bool false, .bool false, .bool false, .bool false, .bool false, .bool false, .bool false, .bool false, .bool false, .bool false] ∧ Below w.heap.size w wr) (fun _ jv _ => 10 - (intOf jv).toNat)
  case atStart => exact ⟨0, _, Nat.zero_le _, rfl, rfl, E0.out, by rw [bls_zero]; exact K1.out, K2.out, B0.out⟩
  case round =>
    obtain ⟨j, u, hj, rfl, rfl, hu, hk, hk2, hbel⟩ := hrel
    have HU := Lib.hid hu
    have HK := Lib.hid hk
    have HK2 := Lib.hid hk2
    have HE := Lib.hid hbel
    clear hu hk hk2 hbel
    by_cases hjm : j < 10
    · have hd := HK.out.cell j
      rw [bls_at _ _ hjm] at hd
      have hf := HK.out.frozen j
      have hlt := HK.out.lt
      have I1 := Lib.hid (fun w => IT.out j w hjm)
      have C1 := CU.out j
      have HL1 := Lib.hid (L1.out j)
      have HU1 := Lib.hid (U1.out j)
      rw [HL1.out, ← HU.out] at C1
      generalize Lib.hasPrefix (ld s j).2 (dg j) = q at C1 HU1
      obtain ⟨u', hu'⟩ : ∃ u', u' = tx (ld s (j + 1)).2 := ⟨_, rfl⟩
      rw [← hu'] at C1
      have HU' := Lib.hid hu'
      clear hu'
      generalize tx (dg j) = t at C1 I1
      have zz := Lib.hid C1
      (try clear C1)
      have C1 := zz
      clear zz
      go_wp2_with (first
        | (go_at_call 23; (with_reducible refine (I1.out _).mono ?_); rintro e w2 ⟨rfl, rfl⟩)
        | (go_at_call 41; (with_reducible refine (C1.out _).mono ?_); rintro e w2 ⟨rfl, rfl⟩))
      go_roundw
      case rel => exact ⟨j + 1, u', by omega, by go_num, rfl, HU'.out, by rw [← HU1.out, ← bls_set _ _ _ hjm]; exact HK.out.set_ j _, HK2.out.far (by simp) _, HE.out.setCell (p := ⟨w.heap.size + 1, j, none⟩) (Nat.le_succ _) _⟩
      case measure => simp [intOf]; omega
    · obtain rfl : j = 10 := by omega
      have hk := HK.out
      simp only [bls] at hk
      obtain ⟨k0, k1, k2, k3, k4, k5, k6, k7, k8, k9, k10⟩ := hk.ten
      obtain ⟨j0, j1, j2, j3, j4, j5, j6, j7, j8, j9, j10⟩ := HK2.out.ten
      have r0 := HK2.out.frozen 0
      have r1 := HK2.out.frozen 1
      have r2 := HK2.out.frozen 2
      have r3 := HK2.out.frozen 3
      have r4 := HK2.out.frozen 4
      have r5 := HK2.out.frozen 5
      have r6 := HK2.out.frozen 6
      have r7 := HK2.out.frozen 7
      have r8 := HK2.out.frozen 8
      have r9 := HK2.out.frozen 9
      have hu := HU.out
      clear hk HU
      subst hu
      go_wp2
      have E := HK2.out.all10 (.bool ((ld s 10).1 0)) (.bool ((ld s 10).1 1)) (.bool ((ld s 10).1 2)) (.bool ((ld s 10).1 3)) (.bool ((ld s 10).1 4)) (.bool ((ld s 10).1 5)) (.bool ((ld s 10).1 6)) (.bool ((ld s 10).1 7)) (.bool ((ld s 10).1 8)) (.bool ((ld s 10).1 9))
      have E2 := Below.all10 HE.out (Nat.le_refl _) (.bool ((ld s 10).1 0)) (.bool ((ld s 10).1 1)) (.bool ((ld s 10).1 2)) (.bool ((ld s 10).1 3)) (.bool ((ld s 10).1 4)) (.bool ((ld s 10).1 5)) (.bool ((ld s 10).1 6)) (.bool ((ld s 10).1 7)) (.bool ((ld s 10).1 8)) (.bool ((ld s 10).1 9))
      generalize ((((((((((wr.setCell ⟨w.heap.size, 0, none⟩ (.bool ((ld s 10).1 0))).setCell ⟨w.heap.size, 1, none⟩ (.bool ((ld s 10).1 1))).setCell ⟨w.heap.size, 2, none⟩ (.bool ((ld s 10).1 2))).setCell ⟨w.heap.size, 3, none⟩ (.bool ((ld s 10).1 3))).setCell ⟨w.heap.size, 4, none⟩ (.bool ((ld s 10).1 4))).setCell ⟨w.heap.size, 5, none⟩ (.bool ((ld s 10).1 5))).setCell ⟨w.heap.size, 6, none⟩ (.bool ((ld s 10).1 6))).setCell ⟨w.heap.size, 7, none⟩ (.bool ((ld s 10).1 7))).setCell ⟨w.heap.size, 8, none⟩ (.bool ((ld s 10).1 8))).setCell ⟨w.heap.size, 9, none⟩ (.bool ((ld s 10).1 9))) = wz at E E2 ⊢
      obtain ⟨i0, i1, i2, i3, i4, i5, i6, i7, i8, i9, i10⟩ := E.ten
      exact bodyPost_ret (v := .tuple #[.agg #[.bool ((ld s 10).1 0), .bool ((ld s 10).1 1), .bool ((ld s 10).1 2), .bool ((ld s 10).1 3), .bool ((ld s 10).1 4), .bool ((ld s 10).1 5), .bool ((ld s 10).1 6), .bool ((ld s 10).1 7), .bool ((ld s 10).1 8), .bool ((ld s 10).1 9)], .string (tx (ld s 10).2)]) (by simp [results, Tryz.results42, go_sem, i0, i1, i2, i3, i4, i5, i6, i7, i8, i9]) rfl ⟨rfl, E2⟩
end Go.Proofs.YtbdgfegafckkbaaGreatDoor
