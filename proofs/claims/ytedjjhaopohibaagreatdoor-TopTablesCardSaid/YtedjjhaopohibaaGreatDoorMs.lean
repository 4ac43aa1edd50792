/- The walk of totaltree.Elementary at 110. -/
/- A made tree as a value; the walk of awakeTree. -/
import Derived.Test.YtedjjhaopohibaaGreatDoorMr
import Derived.Test.YtedjjhaopohibaaGreatDoorMc
namespace Go.Proofs.YtedjjhaopohibaaGreatDoor
open Go.RowKit

/-- the row's offsets -/
def rowf (k : Nat) : P2 := ((k : Int) - 1, 0)
def ElOut (w : World) (e : Ending) (w' : World) : Prop :=
  ∃ AI cI AN cN out, e = .returned (.tuple #[.agg #[.int .i64 2, .slice AI 3 cI, .slice AN out.length cN], .int .i64 0]) ∧ TL w' w.heap.size 3 rowf AI cI AN cN out ∧ Gd 2 3 out ∧ 1 ≤ out.length ∧ out.length ≤ 8 ∧ Mn 2 out 3 (fun q => rb (nm 2 q)) ((out.length : Int) - 1) ∧ Below w.heap.size w w'
set_option maxRecDepth 100000 in
set_option maxHeartbeats 2000000 in
theorem elementary_110 (w : World) : Calls Tryz.prog 8 #[.int .i64 110] w (ElOut w) := by
  have K0 := Blk.new w 31 #[.int .i64 0, .slice none 0 0, .slice none 0 0]
  have B0 := (Below.refl w.heap.size w).alloc (Nat.le_refl _) (.cells #[.int .i64 0, .slice none 0 0, .slice none 0 0] 31)
  obtain ⟨w1, hw1⟩ : ∃ w1, w1 = w.alloc (.cells #[.int .i64 0, .slice none 0 0, .slice none 0 0] 31) := ⟨_, rfl⟩
  rw [← hw1] at K0 B0
  have K0 := Lib.hid K0
  have B0 := Lib.hid B0
  go_enter Tryz.func8, Tryz.ntmps8
  go_upto_region 1 with (fail)
  rw [← hw1]
  clear hw1
  have h10 := K0.out.lt
  go_wp2_with (first
    | (go_at_call 20; (with_reducible refine (elem_110 _).mono ?_); rintro e w2 ⟨rfl, hb2⟩; have B2 := Lib.hid hb2; have hs2 : w1.heap.size ≤ w2.heap.size := hb2.size; have K2 := Lib.hid (Blk.new w2 57 #[.int .i64 0, .int .i64 1, .int .i64 1, .int .i64 1, .int .i64 0, .int .i64 1, .int .i64 1, .int .i64 0]); clear hb2)
    | (go_at_call 21; (with_reducible refine (row_any _).mono ?_); rintro e w3 ⟨A, c, rfl, hq, hb3⟩; have B3 := Lib.hid hb3; have Q3 := Lib.hid hq; have hs3 := hb3.size; have K3 := Lib.hid (Blk.new w3 22 #[.slice A 3 c]); have E3 := Lib.hid (ecollect (f := rowf) (gr := w3.heap.size) (g8 := w2.heap.size) (w := w3.alloc (.cells #[.slice A 3 c] 22)) (Blk.new w3 22 #[.slice A 3 c]) ((K2.out.below hb3 K2.out.lt).alloc _) (hq.later ((Below.refl _ _).alloc (Nat.le_refl _) _))); clear hq hb3)
    | (go_at_call 23; (with_reducible refine (E3.out).mono ?_); rintro e w4 ⟨AI, cI, AN, cN, out, rfl, hTL, hg, h1, h8, hmn, hb4⟩; have B4 := Lib.hid (show Below w1.heap.size w1 w4 from ((B2.out.alloc hs2 _).trans (B3.out.mono (by simp; omega))).trans (((Below.refl _ _).alloc (Nat.le_refl _) _ : Below w3.heap.size w3 _).mono (by simp at hs3; omega) |>.trans (hb4.mono (by simp at hs3 ⊢; omega)))); have TL4 := Lib.hid hTL; have G4 := Lib.hid hg; have H14 := Lib.hid h1; have H84 := Lib.hid h8; have M4 := Lib.hid hmn; have K4 := Lib.hid (K0.out.below B4.out h10); obtain ⟨r0, r1, r2, r3, r4, r5, r6⟩ := K4.out.three6; clear hTL hg h1 h8 hmn hb4))
  have hz4 : w.heap.size < (w3.alloc (.cells #[.slice A 3 c] 22)).heap.size := by simp at hs3 ⊢; omega
  have KZ : Blk (((w4.setCell ⟨w.heap.size, 0, none⟩ (.int .i64 2)).setCell ⟨w.heap.size, 1, none⟩ (.slice AI 3 cI)).setCell ⟨w.heap.size, 2, none⟩ (.slice AN out.length cN)) w.heap.size 31 #[.int .i64 2, .slice AI 3 cI, .slice AN out.length cN] := by simpa using ((K4.out.set_ 0 (.int .i64 2)).set_ 1 (.slice AI 3 cI)).set_ 2 (.slice AN out.length cN)
  have TZ := TL4.out.keep (Fr.set3 w4 w.heap.size (.int .i64 2) (.slice AI 3 cI) (.slice AN out.length cN)) (fun k hk => by subst hk; exact hz4)
  have BZ := below_set3 (g := w.heap.size) (B0.out.trans (B4.out.mono (by omega))) (Nat.le_refl _) (.int .i64 2) (.slice AI 3 cI) (.slice AN out.length cN)
  obtain ⟨v0, v1, v2, v3⟩ := KZ.three
  exact bodyPost_ret (v := .tuple #[.agg #[.int .i64 2, .slice AI 3 cI, .slice AN out.length cN], .int .i64 0]) (by simp [results, Tryz.results8, go_sem, v0, v1, v2]) rfl ⟨AI, cI, AN, cN, out, rfl, TZ.low (by omega), G4.out, H14.out, H84.out, M4.out, BZ⟩
end Go.Proofs.YtedjjhaopohibaaGreatDoor
namespace Go.Proofs.YtedjjhaopohibaaGreatDoor
open Go.RowKit

theorem rtt_out {S n : Nat} {f : Nat → P2} {out : List (Int × List Int)} {F : List Int → Int} (h1 : 2 ≤ S) (h2 : S ≤ 8) (hd : Hd f n) (hg : Gd S n out) (hm1 : 1 ≤ out.length) (hm2 : out.length ≤ 4096) (hmn : Mn S out n F ((out.length : Int) - 1)) : Rtt (trO S n f out) := by
  refine ⟨by show (2 : Int) ≤ (S : Int); omega, by show (S : Int) ≤ 8; omega, hd, hm1, hm2, hg, ?_⟩
  have := (hmn.1.2.2 (by have := hd.1.1; omega)).2
  have e : ((out.length : Int) - 1).toNat = out.length - 1 := by omega
  rw [e] at this
  exact this
theorem ev_out {S n : Nat} {out : List (Int × List Int)} {F : List Int → Int} (hm1 : 1 ≤ out.length) (hmn : Mn S out n F ((out.length : Int) - 1)) (l : List Int) :
    ev (S : Int) n l (fo (nxO out) ((out.length - 1 : Nat) : Int) l) = ev (S : Int) n l (F l) := by
  unfold ev
  split
  · next hl =>
    split
    · next ha =>
      have e : ((out.length - 1 : Nat) : Int) = (out.length : Int) - 1 := by omega
      have hs : Sts S l := sts_als.2 ha
      rw [e, hmn.2 l hl hs]
    · rfl
  · rfl
/-- Eval at a made tree -/
theorem eval_out {S n : Nat} {f : Nat → P2} {out : List (Int × List Int)} {F : List Int → Int} {AI : Option Addr} {cI : Nat} {AN : Option Addr} {cN base : Nat} {w : World} (hT : TL w base n f AI cI AN cN out) (h1 : 2 ≤ S) (h2 : S ≤ 8) (hd : Hd f n) (hg : Gd S n out) (hm1 : 1 ≤ out.length) (hm2 : out.length ≤ 4096) (hmn : Mn S out n F ((out.length : Int) - 1))
    (q : Nat) (A : Option Addr) (c : Nat) (l : List Int) (w' : World) (hb : Below w.heap.size w w') (hI : Reads w' w'.heap.size A q (il l)) (hq : q ≤ 1000000) :
    Calls Tryz.prog 7 #[.agg #[.int .i64 (S : Int), .slice AI n cI, .slice AN out.length cN], .slice A q c] w' fun e w'' => e = .returned (.tuple #[.int .i64 (ev (S : Int) n l (F l)).1, .int .i64 (ev (S : Int) n l (F l)).2]) ∧ Below w'.heap.size w' w'' := by
  have h := eval_any (AH := AI) (cH := cI) (AN := AN) (cN := cN) (T := trO S n f out) (AI := A) (cI := c) (l := l) (w := w') q ((hT.ts S).later hb) (rtt_out h1 h2 hd hg hm1 hm2 hmn) hI hq
  have e := ev_out hm1 hmn l
  refine h.mono ?_
  rintro e' w'' ⟨rfl, hb'⟩
  refine ⟨?_, hb'⟩
  show Ending.returned (.tuple #[.int .i64 (ev (S : Int) n l (fo (nxO out) ((out.length - 1 : Nat) : Int) l)).1, .int .i64 (ev (S : Int) n l (fo (nxO out) ((out.length - 1 : Nat) : Int) l)).2]) = _
  rw [e]
theorem hd_row : Hd rowf 3 := by
  refine ⟨⟨by omega, by omega⟩, fun i hi => ?_, fun i hi => ?_⟩
  · simp only [rowf]
    omega
  · obtain rfl | rfl : i = 0 ∨ i = 1 := by omega
    · decide
    · decide
set_option maxRecDepth 100000 in
set_option maxHeartbeats 2000000 in
theorem awake_any (w : World) : Calls Tryz.prog 4 #[] w fun e w' => e = .returned (.bool true) ∧ Below w.heap.size w w' := by
  go_enter Tryz.func4, Tryz.ntmps4
  go_upto_region 2 with (go_at_call 8; (with_reducible refine (elementary_110 _).mono ?_); rintro e w1 ⟨AI, cI, AN, cN, out, rfl, hTL, hg, h1, h8, hmn, hb⟩; have TL1 := Lib.hid hTL; have G1 := Lib.hid hg; have H11 := Lib.hid h1; have H81 := Lib.hid h8; have M1 := Lib.hid hmn; have B1 := Lib.hid hb; clear hTL hg h1 h8 hmn hb)
  have K := Blk.new w1 31 #[.int .i64 2, .slice AI 3 cI, .slice AN out.length cN]
  have B2 := (Below.refl w1.heap.size w1).alloc (Nat.le_refl _) (.cells #[.int .i64 2, .slice AI 3 cI, .slice AN out.length cN] 31)
  have hb1 := B1.out.size
  generalize w1.alloc (.cells #[.int .i64 2, .slice AI 3 cI, .slice AN out.length cN] 31) = w2 at K B2 ⊢
  have hs2 := B2.size
  obtain ⟨k0, k1, k2, k3⟩ := K.three
  have KH := Lib.hid K
  have EV := Lib.hid (fun (l : List Int) (w' : World) (c : Nat) (A : Option Addr) (hb : Below w1.heap.size w1 w') (hI : Reads w' w'.heap.size A 3 (il l)) => eval_out (S := 2) (F := fun q => rb (nm 2 q)) TL1.out (by omega) (by omega) hd_row G1.out H11.out (by have := H81.out; omega) M1.out 3 A c l w' hb hI (by omega))
  have E1 := Lib.hid (show Calls Tryz.prog 7 #[.agg #[.int .i64 2, .slice AI 3 cI, .slice AN out.length cN], .slice (some ⟨w2.heap.size, 0, none⟩) 3 3] (w2.alloc (.cells #[.int .i64 1, .int .i64 1, .int .i64 0] 3)) fun e w'' => e = .returned (.tuple #[.int .i64 1, .int .i64 0]) ∧ Below (w2.alloc (.cells #[.int .i64 1, .int .i64 1, .int .i64 0] 3)).heap.size (w2.alloc (.cells #[.int .i64 1, .int .i64 1, .int .i64 0] 3)) w''
    from EV.out [1, 1, 0] _ 3 _ (B2.alloc hs2 _) (Reads.of_blk1 (l := [1, 1, 0]) (Blk.new w2 _ _)))
  clear K
  have B2 := Lib.hid B2
  go_upto_region 3 with (go_at_call 7; (with_reducible refine E1.out.mono ?_); rintro e w3 ⟨rfl, hb⟩; have B3 := Lib.hid (show Below w2.heap.size w2 w3 from ((Below.refl _ _).alloc (Nat.le_refl _) _).trans (hb.mono (by simp))); obtain ⟨j0, j1, j2, j3⟩ := (KH.out.below B3.out k3).three; have hs3 := B3.out.size; clear hb)
  have E2 := Lib.hid (show Calls Tryz.prog 7 #[.agg #[.int .i64 2, .slice AI 3 cI, .slice AN out.length cN], .slice (some ⟨w3.heap.size, 0, none⟩) 3 3] (w3.alloc (.cells #[.int .i64 1, .int .i64 1, .int .i64 1] 3)) fun e w'' => e = .returned (.tuple #[.int .i64 0, .int .i64 0]) ∧ Below (w3.alloc (.cells #[.int .i64 1, .int .i64 1, .int .i64 1] 3)).heap.size (w3.alloc (.cells #[.int .i64 1, .int .i64 1, .int .i64 1] 3)) w''
    from EV.out [1, 1, 1] _ 3 _ ((B2.out.trans (B3.out.mono hs2)).alloc (Nat.le_trans hs2 hs3) _) (Reads.of_blk1 (l := [1, 1, 1]) (Blk.new w3 _ _)))
  go_wp2_with (go_at_call 7; (with_reducible refine E2.out.mono ?_); rintro e w4 ⟨rfl, hb⟩; have B4 := Lib.hid (show Below w3.heap.size w3 w4 from ((Below.refl _ _).alloc (Nat.le_refl _) _).trans (hb.mono (by simp))); clear hb)
  go_ret
  exact ⟨rfl, (B1.out.trans (B2.out.mono hb1)).trans ((B3.out.mono (by omega)).trans (B4.out.mono (by omega)))⟩
end Go.Proofs.YtedjjhaopohibaaGreatDoor
