/- The walks of countTree, rowTree and notation.Parse. -/
/- The symmetries of the elementary rules and of the two rules of the examples, by reckoning. -/
import Derived.Test.YtjekpmkghpjamaaGreatDoorMbk
import Derived.Test.YtjekpmkghpjamaaGreatDoorMbs
import Derived.Test.YtjekpmkghpjamaaGreatDoorMax
import Derived.Test.YtjekpmkghpjamaaGreatDoorMaz
namespace Go.Proofs.YtjekpmkghpjamaaGreatDoor
open Go.RowKit

/-- a made tree of two states that leads to F -/
def NtOut (n : Nat) (f : Nat → P2) (F : List Int → Int) (w : World) (e : Ending) (w' : World) : Prop :=
  ∃ AI cI AN cN out, e = .returned (.tuple #[.agg #[.int .i64 2, .slice AI n cI, .slice AN out.length cN], .int .i64 0]) ∧ TL w' w.heap.size n f AI cI AN cN out ∧ Gd 2 n out ∧ 1 ≤ out.length ∧ out.length ≤ 512 ∧ Mn 2 out n F ((out.length : Int) - 1) ∧ Below w.heap.size w w'
/-- the same, for an earlier world -/
theorem NtOut.from {n : Nat} {f : Nat → P2} {F : List Int → Int} {w0 w : World} {e : Ending} {w' : World} (h : NtOut n f F w e w') (hb : Below w0.heap.size w0 w) : NtOut n f F w0 e w' := by
  obtain ⟨AI, cI, AN, cN, out, h1, h2, h3, h4, h5, h6, h7⟩ := h
  exact ⟨AI, cI, AN, cN, out, h1, h2.low hb.size, h3, h4, h5, h6, hb.trans (h7.mono hb.size)⟩
set_option maxRecDepth 100000 in
set_option maxHeartbeats 4000000 in
theorem count_of {n : Nat} {f : Nat → P2} {F : List Int → Int} {A Ab As : Option Addr} {c nb cb ns cs : Nat} {w : World} (TO : ∀ w', Below w.heap.size w w' → Calls Tryz.prog 32 #[.agg #[.slice A n c, .int .i64 2, .slice Ab nb cb, .slice As ns cs]] w' (NtOut n f F w')) :
    Calls Tryz.prog 13 #[.agg #[.slice A n c, .int .i64 2, .slice Ab nb cb, .slice As ns cs], .int .i64 0] w (NtOut n f F w) := by
  have TO := Lib.hid TO
  obtain ⟨w1, hw1⟩ : ∃ w1, w1 = w.alloc (.cells #[.slice A n c, .int .i64 2, .slice Ab nb cb, .slice As ns cs] 44) := ⟨_, rfl⟩
  have s1 : w1.heap.size = w.heap.size + 1 := by rw [hw1]; simp
  obtain ⟨w2, hw2⟩ : ∃ w2, w2 = w1.alloc (.cells #[.int .i64 0, .slice none 0 0, .slice none 0 0] 25) := ⟨_, rfl⟩
  have s2 : w2.heap.size = w.heap.size + 1 + 1 := by rw [hw2, World.size_alloc, s1]
  have KX := Lib.hid (show Blk w2 w.heap.size 44 #[.slice A n c, .int .i64 2, .slice Ab nb cb, .slice As ns cs] by rw [hw2, hw1]; exact (Blk.new w _ _).alloc _)
  have KT := Lib.hid (show Blk w2 (w.heap.size + 1) 25 #[.int .i64 0, .slice none 0 0, .slice none 0 0] by rw [hw2, ← s1]; exact Blk.new w1 _ _)
  have B2 := Lib.hid (show Below w.heap.size w w2 by rw [hw2, hw1]; exact ((Below.refl _ _).alloc (Nat.le_refl _) _).alloc (by simp) _)
  rw [hw1] at hw2
  have hs : w.heap.size + 1 < w2.heap.size := by omega
  clear hw1 s1 s2
  obtain ⟨x0, x1, x2, x3, x4⟩ := KX.out.four
  go_enter Tryz.func13, Tryz.ntmps13
  go_upto_region 1 with (fail)
  rw [← hw2]
  clear hw2
  go_wp2_with (go_at_call 32; (with_reducible refine (TO.out _ B2.out).mono ?_); rintro e w9 ⟨AI, cI, AN, cN, out, rfl, hTL, hg, h1, h8, hmn, hb9⟩; have B9 := Lib.hid (B2.out.trans (hb9.mono B2.out.size)); have TL9 := Lib.hid hTL; have G9 := Lib.hid hg; have H19 := Lib.hid h1; have H89 := Lib.hid h8; have M9 := Lib.hid hmn; have K9 := Lib.hid (KT.out.below hb9 KT.out.lt); obtain ⟨r0, r1, r2, r3, r4, r5, r6⟩ := K9.out.three6; clear hTL hg h1 h8 hmn hb9)
  have KZ : Blk (((w9.setCell ⟨w.heap.size + 1, 0, none⟩ (.int .i64 2)).setCell ⟨w.heap.size + 1, 1, none⟩ (.slice AI n cI)).setCell ⟨w.heap.size + 1, 2, none⟩ (.slice AN out.length cN)) (w.heap.size + 1) 25 #[.int .i64 2, .slice AI n cI, .slice AN out.length cN] := by simpa using ((K9.out.set_ 0 (.int .i64 2)).set_ 1 (.slice AI n cI)).set_ 2 (.slice AN out.length cN)
  have TZ := TL9.out.keep (Fr.set3 w9 (w.heap.size + 1) (.int .i64 2) (.slice AI n cI) (.slice AN out.length cN)) (fun k hk => by subst hk; exact hs)
  have BZ := below_set3 (g := w.heap.size + 1) B9.out (Nat.le_succ _) (.int .i64 2) (.slice AI n cI) (.slice AN out.length cN)
  obtain ⟨v0, v1, v2, v3⟩ := KZ.three
  exact bodyPost_ret (v := .tuple #[.agg #[.int .i64 2, .slice AI n cI, .slice AN out.length cN], .int .i64 0]) (by simp [results, Tryz.results13, go_sem, v0, v1, v2]) rfl ⟨AI, cI, AN, cN, out, rfl, TZ.low (by omega), G9.out, H19.out, H89.out, M9.out, BZ⟩
set_option maxRecDepth 100000 in
set_option maxHeartbeats 2000000 in
theorem count_err {k : Int} (hk : (k != 0) = true) (w : World) :
    Calls Tryz.prog 13 #[.agg #[.slice none 0 0, .int .i64 0, .slice none 0 0, .slice none 0 0], .int .i64 k] w fun e w' => e = .returned (.tuple #[.agg #[.int .i64 0, .slice none 0 0, .slice none 0 0], .int .i64 k]) ∧ Below w.heap.size w w' := by
  have K := Lib.hid (Blk.new (w.alloc (.cells #[.slice none 0 0, .int .i64 0, .slice none 0 0, .slice none 0 0] 44)) 25 #[.int .i64 0, .slice none 0 0, .slice none 0 0])
  rw [World.size_alloc] at K
  have B := Lib.hid (((Below.refl w.heap.size w).alloc (Nat.le_refl _) (.cells #[.slice none 0 0, .int .i64 0, .slice none 0 0, .slice none 0 0] 44)).alloc (by simp) (.cells #[.int .i64 0, .slice none 0 0, .slice none 0 0] 25))
  obtain ⟨v0, v1, v2, v3⟩ := K.out.three
  go_enter Tryz.func13, Tryz.ntmps13
  go_wp2
  exact bodyPost_ret (v := .tuple #[.agg #[.int .i64 0, .slice none 0 0, .slice none 0 0], .int .i64 k]) (by simp [results, Tryz.results13, go_sem, v0, v1, v2]) rfl ⟨rfl, B.out⟩
set_option maxRecDepth 100000 in
set_option maxHeartbeats 4000000 in
theorem rowTree_of {x : Int} {n : Nat} {f : Nat → P2} {F : List Int → Int} {w : World} (TO : ∀ w', Calls Tryz.prog 42 #[.int .i64 x] w' (NtOut n f F w')) :
    Calls Tryz.prog 16 #[.int .i64 2, .int .i64 x, .bool false, .int .i64 0] w (NtOut n f F w) := by
  have TO := Lib.hid TO
  have KT := Lib.hid (Blk.new w 25 #[.int .i64 0, .slice none 0 0, .slice none 0 0])
  have B2 := Lib.hid ((Below.refl w.heap.size w).alloc (Nat.le_refl _) (.cells #[.int .i64 0, .slice none 0 0, .slice none 0 0] 25))
  obtain ⟨w2, hw2⟩ : ∃ w2, w2 = w.alloc (.cells #[.int .i64 0, .slice none 0 0, .slice none 0 0] 25) := ⟨_, rfl⟩
  rw [← hw2] at KT B2
  have hs : w.heap.size < w2.heap.size := KT.out.lt
  go_enter Tryz.func16, Tryz.ntmps16
  go_upto_region 1 with (fail)
  rw [← hw2]
  clear hw2
  go_wp2_with (go_at_call 42; (with_reducible refine (TO.out _).mono ?_); rintro e w9 ⟨AI, cI, AN, cN, out, rfl, hTL, hg, h1, h8, hmn, hb9⟩; have B9 := Lib.hid (B2.out.trans (hb9.mono B2.out.size)); have TL9 := Lib.hid hTL; have G9 := Lib.hid hg; have H19 := Lib.hid h1; have H89 := Lib.hid h8; have M9 := Lib.hid hmn; have K9 := Lib.hid (KT.out.below hb9 KT.out.lt); obtain ⟨r0, r1, r2, r3, r4, r5, r6⟩ := K9.out.three6; clear hTL hg h1 h8 hmn hb9)
  have KZ : Blk (((w9.setCell ⟨w.heap.size, 0, none⟩ (.int .i64 2)).setCell ⟨w.heap.size, 1, none⟩ (.slice AI n cI)).setCell ⟨w.heap.size, 2, none⟩ (.slice AN out.length cN)) (w.heap.size) 25 #[.int .i64 2, .slice AI n cI, .slice AN out.length cN] := by simpa using ((K9.out.set_ 0 (.int .i64 2)).set_ 1 (.slice AI n cI)).set_ 2 (.slice AN out.length cN)
  have TZ := TL9.out.keep (Fr.set3 w9 (w.heap.size) (.int .i64 2) (.slice AI n cI) (.slice AN out.length cN)) (fun k hk => by subst hk; exact hs)
  have BZ := below_set3 (g := w.heap.size) B9.out (Nat.le_refl _) (.int .i64 2) (.slice AI n cI) (.slice AN out.length cN)
  obtain ⟨v0, v1, v2, v3⟩ := KZ.three
  exact bodyPost_ret (v := .tuple #[.agg #[.int .i64 2, .slice AI n cI, .slice AN out.length cN], .int .i64 0]) (by simp [results, Tryz.results16, go_sem, v0, v1, v2]) rfl ⟨AI, cI, AN, cN, out, rfl, TZ.low (by omega), G9.out, H19.out, H89.out, M9.out, BZ⟩
/-- a notation by counts, as it was read -/
def LOk (s : List UInt8) (n n1 n2 : Nat) (f : Nat → P2) (b l : List Int) : Prop := ∀ w, Calls Tryz.prog 14 #[.string (tx s)] w fun e w' => ∃ A c A1 c1 A2 c2, e = .returned (.tuple #[.agg #[.slice A n c, .int .i64 2, .slice A1 n1 c1, .slice A2 n2 c2], .int .i64 0]) ∧ TR w' A n f A1 n1 b A2 n2 l ∧ Below w.heap.size w w' ∧ (∀ ad, A1 = some ad → w.heap.size ≤ ad.block) ∧ (∀ ad, A2 = some ad → w.heap.size ≤ ad.block)
theorem LOk.any {s : List UInt8} {n n1 n2 : Nat} {f : Nat → P2} {b l : List Int} (h : LOk s n n1 n2 f b l) : LAny s 0 := fun w => (h w).mono (by
  rintro e w' ⟨A, c, A1, c1, A2, c2, h1, h2, h3, h4⟩
  exact ⟨A, n, c, 2, A1, n1, c1, A2, n2, c2, h1, h3⟩)
theorem totals_nt {n cen k : Nat} {A Ab As : Option Addr} {c nb cb ns cs : Nat} {f : Nat → P2} {b l : List Int} {w : World} (h : TR w A n f Ab nb b As ns l) (hn : n ≤ 9) (hk : n = k + 1) (hnb : nb ≤ 1000) (hns : ns ≤ 1000) (hq : rt f n 2 b l = true) (hd : Hd f n) (hc : px f n (0, 0) = (cen : Int)) (hcn : cen < n) :
    Calls Tryz.prog 32 #[.agg #[.slice A n c, .int .i64 2, .slice Ab nb cb, .slice As ns cs]] w (NtOut n f (fun q => rbT n b l (wn (wtT n cen) q)) w) := totals_any h hn hk hnb hns hq hd hc hcn
set_option maxRecDepth 100000 in
set_option maxHeartbeats 4000000 in
theorem nparse_1 {s : List UInt8} {n n1 n2 cen k : Nat} {f : Nat → P2} {b l : List Int} (L : LOk s n n1 n2 f b l) (hn : n ≤ 9) (hk : n = k + 1) (hnb : n1 ≤ 1000) (hns : n2 ≤ 1000) (hq : rt f n 2 b l = true) (hd : Hd f n) (hc : px f n (0, 0) = (cen : Int)) (hcn : cen < n)
    {m : Int} {u : TypeId} {x : Value} {u' : TypeId} {x' : Value} {w : World} (hv : Vars m u x u' x' w) : Calls Tryz.prog 4 #[.string (tx s)] w (NtOut n f (fun q => rbT n b l (wn (wtT n cen) q)) w) := by
  have KD : KindIs s 1 := kind_1 (by decide) L.any
  have CT := Lib.hid (fun (w1 : World) (A A1 A2 : Option Addr) (c c1 c2 : Nat) (h : TR w1 A n f A1 n1 b A2 n2 l) => count_of (c := c) (cb := c1) (cs := c2) (fun w' hb => totals_nt (c := c) (cb := c1) (cs := c2) (h.later hb) hn hk hnb hns hq hd hc hcn))
  unfold LOk at L
  unfold KindIs at KD
  generalize tx s = t at L KD ⊢
  have HV := Lib.hid hv
  have LH := Lib.hid L
  have zz := Lib.hid KD
  (try clear KD)
  have KD := zz
  clear zz
  clear hv L hq hd hc hcn hn hk hnb hns
  have KT := Lib.hid (Blk.new w 25 #[.int .i64 0, .slice none 0 0, .slice none 0 0])
  have B1 := Lib.hid ((Below.refl w.heap.size w).alloc (Nat.le_refl _) (.cells #[.int .i64 0, .slice none 0 0, .slice none 0 0] 25))
  obtain ⟨w1, hw1⟩ : ∃ w1, w1 = w.alloc (.cells #[.int .i64 0, .slice none 0 0, .slice none 0 0] 25) := ⟨_, rfl⟩
  rw [← hw1] at KT B1
  have K0 := KT
  have hs0 : w.heap.size < w1.heap.size := KT.out.lt
  go_enter Tryz.func4, Tryz.ntmps4
  go_upto_region 1 with (fail)
  rw [← hw1]
  clear hw1
  go_upto_region 2 with (go_at_call 12; (with_reducible refine (KD.out _ _ _ _ _ _ (HV.out.later B1.out)).mono ?_); rintro e w2 ⟨rfl, hb⟩; have B2 := Lib.hid (B1.out.trans (hb.mono B1.out.size)); have K2 := Lib.hid (K0.out.below hb K0.out.lt); clear hb)
  have hs2 : w.heap.size < w2.heap.size := K2.out.lt
  clear KT hs0
  go_wp2_with (first
    | (go_at_call 14; (with_reducible refine (LH.out _).mono ?_); rintro e w3 ⟨A, c, A1, c1, A2, c2, rfl, ht, hb, _, _⟩; have B3 := Lib.hid (B2.out.trans (hb.mono B2.out.size)); have KT := Lib.hid (K2.out.below hb K2.out.lt); have T3 := Lib.hid ht; have hs : w.heap.size < w3.heap.size := KT.out.lt; clear ht hb)
    | (go_at_call 13; (with_reducible refine (CT.out _ _ _ _ _ _ _ T3.out).mono ?_); rintro e w9 ⟨AI, cI, AN, cN, out, rfl, hTL, hg, h1, h8, hmn, hb9⟩; have B9 := Lib.hid (B3.out.trans (hb9.mono B3.out.size)); have TL9 := Lib.hid hTL; have G9 := Lib.hid hg; have H19 := Lib.hid h1; have H89 := Lib.hid h8; have M9 := Lib.hid hmn; have K9 := Lib.hid (KT.out.below hb9 KT.out.lt); obtain ⟨r0, r1, r2, r3, r4, r5, r6⟩ := K9.out.three6; clear hTL hg h1 h8 hmn hb9))
  have KZ : Blk (((w9.setCell ⟨w.heap.size, 0, none⟩ (.int .i64 2)).setCell ⟨w.heap.size, 1, none⟩ (.slice AI n cI)).setCell ⟨w.heap.size, 2, none⟩ (.slice AN out.length cN)) (w.heap.size) 25 #[.int .i64 2, .slice AI n cI, .slice AN out.length cN] := by simpa using ((K9.out.set_ 0 (.int .i64 2)).set_ 1 (.slice AI n cI)).set_ 2 (.slice AN out.length cN)
  have TZ := TL9.out.keep (Fr.set3 w9 (w.heap.size) (.int .i64 2) (.slice AI n cI) (.slice AN out.length cN)) (fun k hk => by subst hk; exact hs)
  have BZ := below_set3 (g := w.heap.size) B9.out (Nat.le_refl _) (.int .i64 2) (.slice AI n cI) (.slice AN out.length cN)
  obtain ⟨v0, v1, v2, v3⟩ := KZ.three
  exact bodyPost_ret (v := .tuple #[.agg #[.int .i64 2, .slice AI n cI, .slice AN out.length cN], .int .i64 0]) (by simp [results, Tryz.results4, go_sem, v0, v1, v2]) rfl ⟨AI, cI, AN, cN, out, rfl, TZ.low (by omega), G9.out, H19.out, H89.out, M9.out, BZ⟩

set_option maxRecDepth 100000 in
set_option maxHeartbeats 4000000 in
theorem nparse_3 {s : List UInt8} {y : Int} {n : Nat} {f : Nat → P2} {F : List Int → Int} (KD : KindIs s 3) (W : WPar s 2 y false) (TO : ∀ w', Calls Tryz.prog 42 #[.int .i64 y] w' (NtOut n f F w'))
    {m : Int} {u : TypeId} {x : Value} {u' : TypeId} {x' : Value} {w : World} (hv : Vars m u x u' x' w) : Calls Tryz.prog 4 #[.string (tx s)] w (NtOut n f F w) := by
  have CT := Lib.hid (fun (w1 : World) => rowTree_of (w := w1) TO)
  unfold WPar at W
  unfold KindIs at KD
  generalize tx s = t at W KD ⊢
  have HV := Lib.hid hv
  have WH := Lib.hid W
  have zz := Lib.hid KD
  (try clear KD)
  have KD := zz
  clear zz
  clear hv W TO
  have KT := Lib.hid (Blk.new w 25 #[.int .i64 0, .slice none 0 0, .slice none 0 0])
  have B1 := Lib.hid ((Below.refl w.heap.size w).alloc (Nat.le_refl _) (.cells #[.int .i64 0, .slice none 0 0, .slice none 0 0] 25))
  obtain ⟨w1, hw1⟩ : ∃ w1, w1 = w.alloc (.cells #[.int .i64 0, .slice none 0 0, .slice none 0 0] 25) := ⟨_, rfl⟩
  rw [← hw1] at KT B1
  have K0 := KT
  have hs0 : w.heap.size < w1.heap.size := KT.out.lt
  go_enter Tryz.func4, Tryz.ntmps4
  go_upto_region 1 with (fail)
  rw [← hw1]
  clear hw1
  go_upto_region 2 with (go_at_call 12; (with_reducible refine (KD.out _ _ _ _ _ _ (HV.out.later B1.out)).mono ?_); rintro e w2 ⟨rfl, hb⟩; have B2 := Lib.hid (B1.out.trans (hb.mono B1.out.size)); have K2 := Lib.hid (K0.out.below hb K0.out.lt); clear hb)
  have hs2 : w.heap.size < w2.heap.size := K2.out.lt
  clear KT hs0
  go_wp2_with (first
    | (go_at_call 17; (with_reducible refine (WH.out _ _ _ (HV.out.later B2.out).r).mono ?_); rintro e w3 ⟨rfl, hb⟩; have B3 := Lib.hid (B2.out.trans (hb.mono B2.out.size)); have KT := Lib.hid (K2.out.below hb K2.out.lt); have hs : w.heap.size < w3.heap.size := KT.out.lt; clear hb)
    | (go_at_call 16; (with_reducible refine (CT.out _).mono ?_); rintro e w9 ⟨AI, cI, AN, cN, out, rfl, hTL, hg, h1, h8, hmn, hb9⟩; have B9 := Lib.hid (B3.out.trans (hb9.mono B3.out.size)); have TL9 := Lib.hid hTL; have G9 := Lib.hid hg; have H19 := Lib.hid h1; have H89 := Lib.hid h8; have M9 := Lib.hid hmn; have K9 := Lib.hid (KT.out.below hb9 KT.out.lt); obtain ⟨r0, r1, r2, r3, r4, r5, r6⟩ := K9.out.three6; clear hTL hg h1 h8 hmn hb9))
  have KZ : Blk (((w9.setCell ⟨w.heap.size, 0, none⟩ (.int .i64 2)).setCell ⟨w.heap.size, 1, none⟩ (.slice AI n cI)).setCell ⟨w.heap.size, 2, none⟩ (.slice AN out.length cN)) (w.heap.size) 25 #[.int .i64 2, .slice AI n cI, .slice AN out.length cN] := by simpa using ((K9.out.set_ 0 (.int .i64 2)).set_ 1 (.slice AI n cI)).set_ 2 (.slice AN out.length cN)
  have TZ := TL9.out.keep (Fr.set3 w9 (w.heap.size) (.int .i64 2) (.slice AI n cI) (.slice AN out.length cN)) (fun k hk => by subst hk; exact hs)
  have BZ := below_set3 (g := w.heap.size) B9.out (Nat.le_refl _) (.int .i64 2) (.slice AI n cI) (.slice AN out.length cN)
  obtain ⟨v0, v1, v2, v3⟩ := KZ.three
  exact bodyPost_ret (v := .tuple #[.agg #[.int .i64 2, .slice AI n cI, .slice AN out.length cN], .int .i64 0]) (by simp [results, Tryz.results4, go_sem, v0, v1, v2]) rfl ⟨AI, cI, AN, cN, out, rfl, TZ.low (by omega), G9.out, H19.out, H89.out, M9.out, BZ⟩
set_option maxRecDepth 100000 in
set_option maxHeartbeats 4000000 in
theorem nparse_err {s : List UInt8} {k : Int} (hk : (k != 0) = true) (hk2 : (k != 15) = true) (L : ∀ w, Calls Tryz.prog 14 #[.string (tx s)] w fun e w' => e = .returned (.tuple #[.agg #[.slice none 0 0, .int .i64 0, .slice none 0 0, .slice none 0 0], .int .i64 k]) ∧ Below w.heap.size w w')
    {m : Int} {u : TypeId} {x : Value} {u' : TypeId} {x' : Value} {w : World} (hv : Vars m u x u' x' w) : Calls Tryz.prog 4 #[.string (tx s)] w fun e w' => e = .returned (.tuple #[.agg #[.int .i64 0, .slice none 0 0, .slice none 0 0], .int .i64 k]) ∧ Below w.heap.size w w' := by
  have KD : KindIs s 1 := kind_1 hk2 (fun w => (L w).mono (by
    rintro e w' ⟨h1, h2⟩
    exact ⟨_, _, _, _, _, _, _, _, _, _, h1, h2⟩))
  have CT := Lib.hid (fun (w1 : World) => count_err hk w1)
  unfold KindIs at KD
  generalize tx s = t at L KD ⊢
  have HV := Lib.hid hv
  have LH := Lib.hid L
  have zz := Lib.hid KD
  (try clear KD)
  have KD := zz
  clear zz
  clear hv L hk hk2
  have KT := Lib.hid (Blk.new w 25 #[.int .i64 0, .slice none 0 0, .slice none 0 0])
  have B1 := Lib.hid ((Below.refl w.heap.size w).alloc (Nat.le_refl _) (.cells #[.int .i64 0, .slice none 0 0, .slice none 0 0] 25))
  obtain ⟨w1, hw1⟩ : ∃ w1, w1 = w.alloc (.cells #[.int .i64 0, .slice none 0 0, .slice none 0 0] 25) := ⟨_, rfl⟩
  rw [← hw1] at KT B1
  have K0 := KT
  have hs0 : w.heap.size < w1.heap.size := KT.out.lt
  go_enter Tryz.func4, Tryz.ntmps4
  go_upto_region 1 with (fail)
  rw [← hw1]
  clear hw1
  go_upto_region 2 with (go_at_call 12; (with_reducible refine (KD.out _ _ _ _ _ _ (HV.out.later B1.out)).mono ?_); rintro e w2 ⟨rfl, hb⟩; have B2 := Lib.hid (B1.out.trans (hb.mono B1.out.size)); have K2 := Lib.hid (K0.out.below hb K0.out.lt); clear hb)
  have hs2 : w.heap.size < w2.heap.size := K2.out.lt
  clear KT hs0
  go_wp2_with (first
    | (go_at_call 14; (with_reducible refine (LH.out _).mono ?_); rintro e w3 ⟨rfl, hb⟩; have B3 := Lib.hid (B2.out.trans (hb.mono B2.out.size)); have K3 := Lib.hid (K2.out.below hb K2.out.lt); clear hb)
    | (go_at_call 13; (with_reducible refine (CT.out _).mono ?_); rintro e w9 ⟨rfl, hb⟩; have B9 := Lib.hid (B3.out.trans (hb.mono B3.out.size)); have K9 := Lib.hid (K3.out.below hb K3.out.lt); obtain ⟨r0, r1, r2, r3, r4, r5, r6⟩ := K9.out.three6; clear hb))
  have KZ : Blk (((w9.setCell ⟨w.heap.size, 0, none⟩ (.int .i64 0)).setCell ⟨w.heap.size, 1, none⟩ (.slice none 0 0)).setCell ⟨w.heap.size, 2, none⟩ (.slice none 0 0)) w.heap.size 25 #[.int .i64 0, .slice none 0 0, .slice none 0 0] := by simpa using ((K9.out.set_ 0 (.int .i64 0)).set_ 1 (.slice none 0 0)).set_ 2 (.slice none 0 0)
  have BZ := below_set3 (g := w.heap.size) B9.out (Nat.le_refl _) (.int .i64 0) (.slice none 0 0) (.slice none 0 0)
  obtain ⟨v0, v1, v2, v3⟩ := KZ.three
  exact bodyPost_ret (v := .tuple #[.agg #[.int .i64 0, .slice none 0 0, .slice none 0 0], .int .i64 k]) (by simp [results, Tryz.results4, go_sem, v0, v1, v2]) rfl ⟨rfl, BZ⟩
set_option maxRecDepth 100000 in
set_option maxHeartbeats 4000000 in
theorem nparse_0 {s : List UInt8} (KD : KindIs s 0)
    {m : Int} {u : TypeId} {x : Value} {u' : TypeId} {x' : Value} {w : World} (hv : Vars m u x u' x' w) : Calls Tryz.prog 4 #[.string (tx s)] w fun e w' => e = .returned (.tuple #[.agg #[.int .i64 0, .slice none 0 0, .slice none 0 0], .int .i64 7]) ∧ Below w.heap.size w w' := by
  unfold KindIs at KD
  generalize tx s = t at KD ⊢
  have HV := Lib.hid hv
  have zz := Lib.hid KD
  (try clear KD)
  have KD := zz
  clear zz
  clear hv
  have KT := Lib.hid (Blk.new w 25 #[.int .i64 0, .slice none 0 0, .slice none 0 0])
  have B1 := Lib.hid ((Below.refl w.heap.size w).alloc (Nat.le_refl _) (.cells #[.int .i64 0, .slice none 0 0, .slice none 0 0] 25))
  obtain ⟨w1, hw1⟩ : ∃ w1, w1 = w.alloc (.cells #[.int .i64 0, .slice none 0 0, .slice none 0 0] 25) := ⟨_, rfl⟩
  rw [← hw1] at KT B1
  have K0 := KT
  have hs0 : w.heap.size < w1.heap.size := KT.out.lt
  go_enter Tryz.func4, Tryz.ntmps4
  go_upto_region 1 with (fail)
  rw [← hw1]
  clear hw1
  go_upto_region 2 with (go_at_call 12; (with_reducible refine (KD.out _ _ _ _ _ _ (HV.out.later B1.out)).mono ?_); rintro e w2 ⟨rfl, hb⟩; have B2 := Lib.hid (B1.out.trans (hb.mono B1.out.size)); have K2 := Lib.hid (K0.out.below hb K0.out.lt); clear hb)
  have hs2 : w.heap.size < w2.heap.size := K2.out.lt
  clear KT hs0
  obtain ⟨r0, r1, r2, r3, r4, r5, r6⟩ := K2.out.three6
  have K9 := K2
  have B9 := B2
  go_wp2
  have KZ : Blk (((w2.setCell ⟨w.heap.size, 0, none⟩ (.int .i64 0)).setCell ⟨w.heap.size, 1, none⟩ (.slice none 0 0)).setCell ⟨w.heap.size, 2, none⟩ (.slice none 0 0)) w.heap.size 25 #[.int .i64 0, .slice none 0 0, .slice none 0 0] := by simpa using ((K9.out.set_ 0 (.int .i64 0)).set_ 1 (.slice none 0 0)).set_ 2 (.slice none 0 0)
  have BZ := below_set3 (g := w.heap.size) B9.out (Nat.le_refl _) (.int .i64 0) (.slice none 0 0) (.slice none 0 0)
  obtain ⟨v0, v1, v2, v3⟩ := KZ.three
  exact bodyPost_ret (v := .tuple #[.agg #[.int .i64 0, .slice none 0 0, .slice none 0 0], .int .i64 7]) (by simp [results, Tryz.results4, go_sem, v0, v1, v2]) rfl ⟨rfl, BZ⟩
end Go.Proofs.YtjekpmkghpjamaaGreatDoor
namespace Go.Proofs.YtjekpmkghpjamaaGreatDoor
open Go.RowKit

theorem elem_nt {x : Nat} (h : x ≤ 255) (w : World) : Calls Tryz.prog 42 #[.int .i64 (x : Int)] w (NtOut 3 rowf (fun q => rbn x (nm 2 q)) w) :=
  (elementary_of (bits_rbn x) (x : Int) (fun w => elem_rbn x h w) w).mono (by
    rintro e w' ⟨AI, cI, AN, cN, out, h1, h2, h3, h4, h5, h6, h7⟩
    exact ⟨AI, cI, AN, cN, out, h1, h2, h3, h4, by omega, h6, h7⟩)
/-- the rule of a number, by its states -/
def FR (x : Nat) (q : List Int) : Int := rbn x (nm 2 q)
/-- Conway's rule, and the other one -/
def FLife (q : List Int) : Int := rbT 9 [3] [2, 3] (wn (wtT 9 4) q)
def FHex (q : List Int) : Int := rbT 7 [2] [3, 4] (wn (wtT 7 3) q)
set_option maxRecDepth 1000000 in
theorem sy_life : nl (sqy FLife (lf M1) 9) 8 = [0, 1, 2, 3, 4, 5, 6, 7] := by decide +kernel
set_option maxRecDepth 1000000 in
theorem sy_hex : nl (sqy FHex (lf HX) 7) 8 = [0, 2, 5, 7] := by decide +kernel
/-- the number of the mirrored rule -/
def mirN (x : Nat) : Nat := nbN (fun i => rbn x (mi i)) 8
set_option maxRecDepth 1000000 in
theorem sy_row : ∀ x, x < 256 → nl (sqy (FR x) rowf 3) 8 = if mirN x = x then [0, 2, 4, 6] else [0, 6] := by decide +kernel
theorem hd_row3 : Hd rowf 3 := by decide +kernel
theorem hd_life : Hd (lf M1) 9 := by decide +kernel
theorem hd_hex : Hd (lf HX) 7 := by decide +kernel
theorem ce_life : px (lf M1) 9 (0, 0) = ((4 : Nat) : Int) := by decide +kernel
theorem ce_hex : px (lf HX) 7 (0, 0) = ((3 : Nat) : Int) := by decide +kernel
theorem rt_life : rt (lf M1) 9 2 [3] [2, 3] = true := by decide +kernel
theorem rt_hex : rt (lf HX) 7 2 [2] [3, 4] = true := by decide +kernel
theorem ev_life : FLife [1, 1, 1, 0, 0, 0, 0, 0, 0] = 1 := by decide +kernel
end Go.Proofs.YtjekpmkghpjamaaGreatDoor
