/- The walk of the examples. -/
import Derived.Test.YtjekpmkghpjamaaGreatDoorMbu
import Derived.Test.YtjekpmkghpjamaaGreatDoorMbb
namespace Go.Proofs.YtjekpmkghpjamaaGreatDoor
open Go.RowKit

theorem TI.row {w : World} {n m : Nat} {f : Nat → P2} {F : List Int → Int} {AI AN : Option Addr} (h : TI w n f F AI AN m) : m ≤ 512 := by
  obtain ⟨out, h1, h2, h3, h4⟩ := h
  omega
theorem sy_110 : nl (sqy (FR 110) rowf 3) 8 = [0, 6] := by rw [sy_row 110 (by decide)]; decide +kernel
set_option maxRecDepth 100000 in
set_option maxHeartbeats 8000000 in
theorem awake_any {mx : Int} {u : TypeId} {x : Value} {u' : TypeId} {x' : Value} {w : World} (hv : Vars mx u x u' x' w) : Calls Tryz.prog 11 #[] w fun e w' => e = .returned (.bool true) ∧ Below w.heap.size w w' := by
  have HV := Lib.hid hv
  clear hv
  have B0 := Lib.hid (Below.refl w.heap.size w)
  have hs0 : w.heap.size ≤ w.heap.size := Nat.le_refl _
  have NP1 := Lib.hid (fun (W : World) (hb : Below w.heap.size w W) => show Calls Tryz.prog 4 #[.string ⟨#[66, 51, 47, 83, 50, 51]⟩] W (fun e w' => ∃ AI cI AN cN m, e = .returned (.tuple #[.agg #[.int .i64 2, .slice AI 9 cI, .slice AN m cN], .int .i64 0]) ∧ TI w' 9 (lf M1) FLife AI AN m ∧ Below W.heap.size W w') from (np_life (HV.out.later hb)).mono (fun _ _ h => h.ti))
  have NP2 := Lib.hid (fun (W : World) (hb : Below w.heap.size w W) => show Calls Tryz.prog 4 #[.string ⟨#[66, 50, 47, 83, 51, 52, 72]⟩] W (fun e w' => ∃ AI cI AN cN m, e = .returned (.tuple #[.agg #[.int .i64 2, .slice AI 7 cI, .slice AN m cN], .int .i64 0]) ∧ TI w' 7 (lf HX) FHex AI AN m ∧ Below W.heap.size W w') from (np_hex (HV.out.later hb)).mono (fun _ _ h => h.ti))
  have NP3 := Lib.hid (fun (W : World) (hb : Below w.heap.size w W) => show Calls Tryz.prog 4 #[.string ⟨#[87, 49, 49, 48]⟩] W (fun e w' => ∃ AI cI AN cN m, e = .returned (.tuple #[.agg #[.int .i64 2, .slice AI 3 cI, .slice AN m cN], .int .i64 0]) ∧ TI w' 3 rowf (FR 110) AI AN m ∧ Below W.heap.size W w') from (np_110 (HV.out.later hb)).mono (fun _ _ h => h.ti))
  have NP4 := Lib.hid (fun (W : World) (hb : Below w.heap.size w W) => show Calls Tryz.prog 4 #[.string ⟨#[66, 57, 47, 83]⟩] W (fun e w' => e = .returned (.tuple #[.agg #[.int .i64 0, .slice none 0 0, .slice none 0 0], .int .i64 5]) ∧ Below W.heap.size W w') from np_b9 (HV.out.later hb))
  have NP5 := Lib.hid (fun (W : World) (hb : Below w.heap.size w W) => show Calls Tryz.prog 4 #[.string ⟨#[108, 105, 102, 101]⟩] W (fun e w' => e = .returned (.tuple #[.agg #[.int .i64 0, .slice none 0 0, .slice none 0 0], .int .i64 7]) ∧ Below W.heap.size W w') from np_word (HV.out.later hb))
  have CN := Lib.hid (fun (W : World) (hb : Below w.heap.size w W) => show Calls Tryz.prog 29 #[.string ⟨#[47, 50, 47, 51]⟩] W (fun e w' => e = .returned (.tuple #[.string ⟨#[66, 50, 47, 83, 47, 67, 51]⟩, .int .i64 0]) ∧ Below W.heap.size W w') from canon_gen (HV.out.later hb))
  have KD1 := Lib.hid (fun (W : World) (hb : Below w.heap.size w W) => show Calls Tryz.prog 12 #[.string ⟨#[66, 51, 47, 83, 50, 51]⟩] W (fun e w' => e = .returned (.int .i64 1) ∧ Below W.heap.size W w') from kind_life _ _ _ _ _ _ (HV.out.later hb))
  have KD2 := Lib.hid (fun (W : World) (hb : Below w.heap.size w W) => show Calls Tryz.prog 12 #[.string ⟨#[47, 50, 47, 51]⟩] W (fun e w' => e = .returned (.int .i64 2) ∧ Below W.heap.size W w') from kind_gen _ _ _ _ _ _ (HV.out.later hb))
  have KD3 := Lib.hid (fun (W : World) (hb : Below w.heap.size w W) => show Calls Tryz.prog 12 #[.string ⟨#[87, 51, 48]⟩] W (fun e w' => e = .returned (.int .i64 3) ∧ Below W.heap.size W w') from kind_w30 _ _ _ _ _ _ (HV.out.later hb))
  have KD4 := Lib.hid (fun (W : World) (hb : Below w.heap.size w W) => show Calls Tryz.prog 12 #[.string ⟨#[84, 55, 55, 55, 47, 51]⟩] W (fun e w' => e = .returned (.int .i64 4) ∧ Below W.heap.size W w') from kind_t7 _ _ _ _ _ _ (HV.out.later hb))
  have KD5 := Lib.hid (fun (W : World) (hb : Below w.heap.size w W) => show Calls Tryz.prog 12 #[.string ⟨#[98, 51, 47, 115, 50, 51]⟩] W (fun e w' => e = .returned (.int .i64 0) ∧ Below W.heap.size W w') from kind_b3s _ _ _ _ _ _ (HV.out.later hb))
  have KD6 := Lib.hid (fun (W : World) (hb : Below w.heap.size w W) => show Calls Tryz.prog 12 #[.string ⟨#[120, 10]⟩] W (fun e w' => e = .returned (.int .i64 5) ∧ Below W.heap.size W w') from kind_xn _ _ _ _ _ _ (HV.out.later hb))
  go_enter Tryz.func11, Tryz.ntmps11
  go_upto_region 2 with (go_at_call 4; (with_reducible refine (NP1.out _ B0.out).mono ?_); rintro e w1 ⟨I1, cI1, N1, cN1, m1, rfl, ht, hb⟩; have X1 := Lib.hid hb; have T1_0 := Lib.hid ht; clear hb ht)
  have Y1 := Lib.hid (show Below w.heap.size w (w1.alloc (.cells #[.int .i64 2, .slice I1 9 cI1, .slice N1 m1 cN1] 25)) from X1.out.alloc X1.out.size _)
  have B1 := Lib.hid (B0.out.trans (Y1.out.mono B0.out.size))
  have K1_1 := Lib.hid (Blk.new w1 25 #[.int .i64 2, .slice I1 9 cI1, .slice N1 m1 cN1])
  have T1_1 := Lib.hid (T1_0.out.later ((Below.refl w1.heap.size w1).alloc (Nat.le_refl _) (.cells #[.int .i64 2, .slice I1 9 cI1, .slice N1 m1 cN1] 25)))
  generalize w1.alloc (.cells #[.int .i64 2, .slice I1 9 cI1, .slice N1 m1 cN1] 25) = v1 at Y1 B1 K1_1 T1_1 ⊢
  go_upto_region 3 with (go_at_call 4; (with_reducible refine (NP2.out _ B1.out).mono ?_); rintro e w2 ⟨I2, cI2, N2, cN2, m2, rfl, ht, hb⟩; have X2 := Lib.hid hb; have T2_0 := Lib.hid ht; clear hb ht)
  have Y2 := Lib.hid (show Below v1.heap.size v1 (w2.alloc (.cells #[.int .i64 2, .slice I2 7 cI2, .slice N2 m2 cN2] 25)) from X2.out.alloc X2.out.size _)
  have B2 := Lib.hid (B1.out.trans (Y2.out.mono B1.out.size))
  have K1_2 := Lib.hid (K1_1.out.below Y2.out K1_1.out.lt)
  have T1_2 := Lib.hid (T1_1.out.later Y2.out)
  have K2_2 := Lib.hid (Blk.new w2 25 #[.int .i64 2, .slice I2 7 cI2, .slice N2 m2 cN2])
  have T2_2 := Lib.hid (T2_0.out.later ((Below.refl w2.heap.size w2).alloc (Nat.le_refl _) (.cells #[.int .i64 2, .slice I2 7 cI2, .slice N2 m2 cN2] 25)))
  generalize w2.alloc (.cells #[.int .i64 2, .slice I2 7 cI2, .slice N2 m2 cN2] 25) = v2 at Y2 B2 K1_2 T1_2 K2_2 T2_2 ⊢
  go_upto_region 4 with (go_at_call 4; (with_reducible refine (NP3.out _ B2.out).mono ?_); rintro e w3 ⟨I3, cI3, N3, cN3, m3, rfl, ht, hb⟩; have X3 := Lib.hid hb; have T3_0 := Lib.hid ht; clear hb ht)
  have Y3 := Lib.hid (show Below v2.heap.size v2 (w3.alloc (.cells #[.int .i64 2, .slice I3 3 cI3, .slice N3 m3 cN3] 25)) from X3.out.alloc X3.out.size _)
  have B3 := Lib.hid (B2.out.trans (Y3.out.mono B2.out.size))
  have K1_3 := Lib.hid (K1_2.out.below Y3.out K1_2.out.lt)
  have T1_3 := Lib.hid (T1_2.out.later Y3.out)
  have K2_3 := Lib.hid (K2_2.out.below Y3.out K2_2.out.lt)
  have T2_3 := Lib.hid (T2_2.out.later Y3.out)
  have K3_3 := Lib.hid (Blk.new w3 25 #[.int .i64 2, .slice I3 3 cI3, .slice N3 m3 cN3])
  have T3_3 := Lib.hid (T3_0.out.later ((Below.refl w3.heap.size w3).alloc (Nat.le_refl _) (.cells #[.int .i64 2, .slice I3 3 cI3, .slice N3 m3 cN3] 25)))
  generalize w3.alloc (.cells #[.int .i64 2, .slice I3 3 cI3, .slice N3 m3 cN3] 25) = v3 at Y3 B3 K1_3 T1_3 K2_3 T2_3 K3_3 T3_3 ⊢
  go_upto_region 5 with (go_at_call 4; (with_reducible refine (NP4.out _ B3.out).mono ?_); rintro e w4 ⟨rfl, hb⟩; have X4 := Lib.hid hb; clear hb)
  have Y4 := Lib.hid (show Below v3.heap.size v3 (w4.alloc (.cells #[.int .i64 0, .slice none 0 0, .slice none 0 0] 25)) from X4.out.alloc X4.out.size _)
  have B4 := Lib.hid (B3.out.trans (Y4.out.mono B3.out.size))
  have K1_4 := Lib.hid (K1_3.out.below Y4.out K1_3.out.lt)
  have T1_4 := Lib.hid (T1_3.out.later Y4.out)
  have K2_4 := Lib.hid (K2_3.out.below Y4.out K2_3.out.lt)
  have T2_4 := Lib.hid (T2_3.out.later Y4.out)
  have K3_4 := Lib.hid (K3_3.out.below Y4.out K3_3.out.lt)
  have T3_4 := Lib.hid (T3_3.out.later Y4.out)
  generalize w4.alloc (.cells #[.int .i64 0, .slice none 0 0, .slice none 0 0] 25) = v4 at Y4 B4 K1_4 T1_4 K2_4 T2_4 K3_4 T3_4 ⊢
  go_upto_region 6 with (go_at_call 4; (with_reducible refine (NP5.out _ B4.out).mono ?_); rintro e w5 ⟨rfl, hb⟩; have X5 := Lib.hid hb; clear hb)
  have Y5 := Lib.hid (show Below v4.heap.size v4 (w5.alloc (.cells #[.int .i64 0, .slice none 0 0, .slice none 0 0] 25)) from X5.out.alloc X5.out.size _)
  have B5 := Lib.hid (B4.out.trans (Y5.out.mono B4.out.size))
  have K1_5 := Lib.hid (K1_4.out.below Y5.out K1_4.out.lt)
  have T1_5 := Lib.hid (T1_4.out.later Y5.out)
  have K2_5 := Lib.hid (K2_4.out.below Y5.out K2_4.out.lt)
  have T2_5 := Lib.hid (T2_4.out.later Y5.out)
  have K3_5 := Lib.hid (K3_4.out.below Y5.out K3_4.out.lt)
  have T3_5 := Lib.hid (T3_4.out.later Y5.out)
  generalize w5.alloc (.cells #[.int .i64 0, .slice none 0 0, .slice none 0 0] 25) = v5 at Y5 B5 K1_5 T1_5 K2_5 T2_5 K3_5 T3_5 ⊢
  go_upto_region 7 with (go_at_call 29; (with_reducible refine (CN.out _ B5.out).mono ?_); rintro e v6 ⟨rfl, hb⟩; have Y6 := Lib.hid hb; clear hb)
  have B6 := Lib.hid (B5.out.trans (Y6.out.mono B5.out.size))
  have K1_6 := Lib.hid (K1_5.out.below Y6.out K1_5.out.lt)
  have T1_6 := Lib.hid (T1_5.out.later Y6.out)
  have K2_6 := Lib.hid (K2_5.out.below Y6.out K2_5.out.lt)
  have T2_6 := Lib.hid (T2_5.out.later Y6.out)
  have K3_6 := Lib.hid (K3_5.out.below Y6.out K3_5.out.lt)
  have T3_6 := Lib.hid (T3_5.out.later Y6.out)
  obtain ⟨a0, a1, a2, a3⟩ := K1_6.out.three
  have A7 := Lib.hid ((Below.refl v6.heap.size v6).alloc (Nat.le_refl _) (.cells #[.int .i64 1, .int .i64 1, .int .i64 1, .int .i64 0, .int .i64 0, .int .i64 0, .int .i64 0, .int .i64 0, .int .i64 0] 3))
  have EV := Lib.hid (show Calls Tryz.prog 8 #[.agg #[.int .i64 2, .slice I1 9 cI1, .slice N1 m1 cN1], .slice (some ⟨v6.heap.size, 0, none⟩) 9 9] (v6.alloc (.cells #[.int .i64 1, .int .i64 1, .int .i64 1, .int .i64 0, .int .i64 0, .int .i64 0, .int .i64 0, .int .i64 0, .int .i64 0] 3)) (fun e w' => e = .returned (.tuple #[.int .i64 1, .int .i64 0]) ∧ Below (v6.alloc (.cells #[.int .i64 1, .int .i64 1, .int .i64 1, .int .i64 0, .int .i64 0, .int .i64 0, .int .i64 0, .int .i64 0, .int .i64 0] 3)).heap.size (v6.alloc (.cells #[.int .i64 1, .int .i64 1, .int .i64 1, .int .i64 0, .int .i64 0, .int .i64 0, .int .i64 0, .int .i64 0, .int .i64 0] 3)) w') from by
    have h := eval_ti (T1_6.out.later A7.out) hd_life cI1 cN1 9 (some ⟨v6.heap.size, 0, none⟩) 9 [1, 1, 1, 0, 0, 0, 0, 0, 0] (Reads.of_blk1 (l := [1, 1, 1, 0, 0, 0, 0, 0, 0]) (Blk.new v6 _ _)) (by decide)
    rw [show ev 2 9 [1, 1, 1, 0, 0, 0, 0, 0, 0] (FLife [1, 1, 1, 0, 0, 0, 0, 0, 0]) = (1, 0) by rw [ev_life]; decide] at h
    exact h)
  go_upto_region 8 with (go_at_call 8; (with_reducible refine (EV.out).mono ?_); rintro e v7 ⟨rfl, hb⟩; have Y7 := Lib.hid (A7.out.trans (hb.mono A7.out.size)); clear hb)
  have B7 := Lib.hid (B6.out.trans (Y7.out.mono B6.out.size))
  clear a0 a1 a2 a3
  have K1_7 := Lib.hid (K1_6.out.below Y7.out K1_6.out.lt)
  have T1_7 := Lib.hid (T1_6.out.later Y7.out)
  have K2_7 := Lib.hid (K2_6.out.below Y7.out K2_6.out.lt)
  have T2_7 := Lib.hid (T2_6.out.later Y7.out)
  have K3_7 := Lib.hid (K3_6.out.below Y7.out K3_6.out.lt)
  have T3_7 := Lib.hid (T3_6.out.later Y7.out)
  go_upto_region 10 with (fail)
  have SY1 := Lib.hid (fun (W : World) (hb : Below w.heap.size w W) (ht : TI W 9 (lf M1) FLife I1 N1 m1) => show Calls Tryz.prog 10 #[.agg #[.int .i64 2, .slice I1 9 cI1, .slice N1 m1 cN1]] W (fun e w' => ∃ A c, e = .returned (.slice A 8 c) ∧ Reads w' w'.heap.size A 8 (il [0, 1, 2, 3, 4, 5, 6, 7]) ∧ Below W.heap.size W w') from by
    have h := syms_ti ht (HV.out.later hb).m hd_life (by decide) cI1 cN1
    rw [sy_life] at h
    exact h)
  have SY2 := Lib.hid (fun (W : World) (hb : Below w.heap.size w W) (ht : TI W 7 (lf HX) FHex I2 N2 m2) => show Calls Tryz.prog 10 #[.agg #[.int .i64 2, .slice I2 7 cI2, .slice N2 m2 cN2]] W (fun e w' => ∃ A c, e = .returned (.slice A 4 c) ∧ Reads w' w'.heap.size A 4 (il [0, 2, 5, 7]) ∧ Below W.heap.size W w') from by
    have h := syms_ti ht (HV.out.later hb).m hd_hex (by decide) cI2 cN2
    rw [sy_hex] at h
    exact h)
  have SY3 := Lib.hid (fun (W : World) (hb : Below w.heap.size w W) (ht : TI W 3 rowf (FR 110) I3 N3 m3) => show Calls Tryz.prog 10 #[.agg #[.int .i64 2, .slice I3 3 cI3, .slice N3 m3 cN3]] W (fun e w' => ∃ A c, e = .returned (.slice A 2 c) ∧ Reads w' w'.heap.size A 2 (il [0, 6]) ∧ Below W.heap.size W w') from by
    have h := syms_ti ht (HV.out.later hb).m hd_row3 (by decide) cI3 cN3
    rw [sy_110] at h
    exact h)
  go_wp2_with (first
    | (go_at_call 9; (with_reducible refine (IN3.out).mono ?_); rintro e v18 ⟨rfl, hb⟩; have Y18 := Lib.hid (((Below.refl v17.heap.size v17).alloc (Nat.le_refl _) (.cells #[.int .i64 0, .int .i64 6] 3)).trans (hb.mono (by simp))); have B18 := Lib.hid (B17.out.trans (Y18.out.mono B17.out.size)); have K1_18 := Lib.hid (K1_17.out.below Y18.out K1_17.out.lt); have T1_18 := Lib.hid (T1_17.out.later Y18.out); have K2_18 := Lib.hid (K2_17.out.below Y18.out K2_17.out.lt); have T2_18 := Lib.hid (T2_17.out.later Y18.out); have K3_18 := Lib.hid (K3_17.out.below Y18.out K3_17.out.lt); have T3_18 := Lib.hid (T3_17.out.later Y18.out); clear hb)
    | (go_at_call 10; (with_reducible refine (SY3.out _ B16.out T3_16.out).mono ?_); rintro e v17 ⟨SA3, sc3, rfl, hr, hb⟩; have R3 := Lib.hid hr; have Y17 := Lib.hid hb; have B17 := Lib.hid (B16.out.trans (Y17.out.mono B16.out.size)); have K1_17 := Lib.hid (K1_16.out.below Y17.out K1_16.out.lt); have T1_17 := Lib.hid (T1_16.out.later Y17.out); have K2_17 := Lib.hid (K2_16.out.below Y17.out K2_16.out.lt); have T2_17 := Lib.hid (T2_16.out.later Y17.out); have K3_17 := Lib.hid (K3_16.out.below Y17.out K3_16.out.lt); have T3_17 := Lib.hid (T3_16.out.later Y17.out); have IN3 := Lib.hid (lints_yes SA3 (some ⟨v17.heap.size, 0, none⟩) 2 sc3 2 [0, 6] (v17.alloc (.cells #[.int .i64 0, .int .i64 6] 3)) ((R3.out.below ((Below.refl _ _).alloc (Nat.le_refl _) _)).more (by simp)) (Reads.of_blk1 (l := [0, 6]) (Blk.new v17 _ _)) (by decide)); clear hb hr)
    | (go_at_call 9; (with_reducible refine (IN2.out).mono ?_); rintro e v16 ⟨rfl, hb⟩; have Y16 := Lib.hid (((Below.refl v15.heap.size v15).alloc (Nat.le_refl _) (.cells #[.int .i64 0, .int .i64 2, .int .i64 5, .int .i64 7] 3)).trans (hb.mono (by simp))); have B16 := Lib.hid (B15.out.trans (Y16.out.mono B15.out.size)); have K1_16 := Lib.hid (K1_15.out.below Y16.out K1_15.out.lt); have T1_16 := Lib.hid (T1_15.out.later Y16.out); have K2_16 := Lib.hid (K2_15.out.below Y16.out K2_15.out.lt); have T2_16 := Lib.hid (T2_15.out.later Y16.out); have K3_16 := Lib.hid (K3_15.out.below Y16.out K3_15.out.lt); have T3_16 := Lib.hid (T3_15.out.later Y16.out); obtain ⟨b30, b31, b32, b33⟩ := K3_16.out.three; clear hb)
    | (go_at_call 10; (with_reducible refine (SY2.out _ B14.out T2_14.out).mono ?_); rintro e v15 ⟨SA2, sc2, rfl, hr, hb⟩; have R2 := Lib.hid hr; have Y15 := Lib.hid hb; have B15 := Lib.hid (B14.out.trans (Y15.out.mono B14.out.size)); have K1_15 := Lib.hid (K1_14.out.below Y15.out K1_14.out.lt); have T1_15 := Lib.hid (T1_14.out.later Y15.out); have K2_15 := Lib.hid (K2_14.out.below Y15.out K2_14.out.lt); have T2_15 := Lib.hid (T2_14.out.later Y15.out); have K3_15 := Lib.hid (K3_14.out.below Y15.out K3_14.out.lt); have T3_15 := Lib.hid (T3_14.out.later Y15.out); have IN2 := Lib.hid (lints_yes SA2 (some ⟨v15.heap.size, 0, none⟩) 4 sc2 4 [0, 2, 5, 7] (v15.alloc (.cells #[.int .i64 0, .int .i64 2, .int .i64 5, .int .i64 7] 3)) ((R2.out.below ((Below.refl _ _).alloc (Nat.le_refl _) _)).more (by simp)) (Reads.of_blk1 (l := [0, 2, 5, 7]) (Blk.new v15 _ _)) (by decide)); clear hb hr)
    | (go_at_call 10; (with_reducible refine (SY1.out _ B13.out T1_13.out).mono ?_); rintro e v14 ⟨SA1, sc1, rfl, hr, hb⟩; have R1 := Lib.hid hr; have Y14 := Lib.hid hb; have B14 := Lib.hid (B13.out.trans (Y14.out.mono B13.out.size)); have K1_14 := Lib.hid (K1_13.out.below Y14.out K1_13.out.lt); have T1_14 := Lib.hid (T1_13.out.later Y14.out); have K2_14 := Lib.hid (K2_13.out.below Y14.out K2_13.out.lt); have T2_14 := Lib.hid (T2_13.out.later Y14.out); have K3_14 := Lib.hid (K3_13.out.below Y14.out K3_13.out.lt); have T3_14 := Lib.hid (T3_13.out.later Y14.out); obtain ⟨b20, b21, b22, b23⟩ := K2_14.out.three; clear hb hr)
    | (go_at_call 12; (with_reducible refine (KD6.out _ B12.out).mono ?_); rintro e v13 ⟨rfl, hb⟩; have Y13 := Lib.hid hb; have B13 := Lib.hid (B12.out.trans (Y13.out.mono B12.out.size)); have K1_13 := Lib.hid (K1_12.out.below Y13.out K1_12.out.lt); have T1_13 := Lib.hid (T1_12.out.later Y13.out); have K2_13 := Lib.hid (K2_12.out.below Y13.out K2_12.out.lt); have T2_13 := Lib.hid (T2_12.out.later Y13.out); have K3_13 := Lib.hid (K3_12.out.below Y13.out K3_12.out.lt); have T3_13 := Lib.hid (T3_12.out.later Y13.out); obtain ⟨a0, a1, a2, a3⟩ := K1_13.out.three; clear hb)
    | (go_at_call 12; (with_reducible refine (KD5.out _ B11.out).mono ?_); rintro e v12 ⟨rfl, hb⟩; have Y12 := Lib.hid hb; have B12 := Lib.hid (B11.out.trans (Y12.out.mono B11.out.size)); have K1_12 := Lib.hid (K1_11.out.below Y12.out K1_11.out.lt); have T1_12 := Lib.hid (T1_11.out.later Y12.out); have K2_12 := Lib.hid (K2_11.out.below Y12.out K2_11.out.lt); have T2_12 := Lib.hid (T2_11.out.later Y12.out); have K3_12 := Lib.hid (K3_11.out.below Y12.out K3_11.out.lt); have T3_12 := Lib.hid (T3_11.out.later Y12.out); clear hb)
    | (go_at_call 12; (with_reducible refine (KD4.out _ B10.out).mono ?_); rintro e v11 ⟨rfl, hb⟩; have Y11 := Lib.hid hb; have B11 := Lib.hid (B10.out.trans (Y11.out.mono B10.out.size)); have K1_11 := Lib.hid (K1_10.out.below Y11.out K1_10.out.lt); have T1_11 := Lib.hid (T1_10.out.later Y11.out); have K2_11 := Lib.hid (K2_10.out.below Y11.out K2_10.out.lt); have T2_11 := Lib.hid (T2_10.out.later Y11.out); have K3_11 := Lib.hid (K3_10.out.below Y11.out K3_10.out.lt); have T3_11 := Lib.hid (T3_10.out.later Y11.out); clear hb)
    | (go_at_call 12; (with_reducible refine (KD3.out _ B9.out).mono ?_); rintro e v10 ⟨rfl, hb⟩; have Y10 := Lib.hid hb; have B10 := Lib.hid (B9.out.trans (Y10.out.mono B9.out.size)); have K1_10 := Lib.hid (K1_9.out.below Y10.out K1_9.out.lt); have T1_10 := Lib.hid (T1_9.out.later Y10.out); have K2_10 := Lib.hid (K2_9.out.below Y10.out K2_9.out.lt); have T2_10 := Lib.hid (T2_9.out.later Y10.out); have K3_10 := Lib.hid (K3_9.out.below Y10.out K3_9.out.lt); have T3_10 := Lib.hid (T3_9.out.later Y10.out); clear hb)
    | (go_at_call 12; (with_reducible refine (KD2.out _ B8.out).mono ?_); rintro e v9 ⟨rfl, hb⟩; have Y9 := Lib.hid hb; have B9 := Lib.hid (B8.out.trans (Y9.out.mono B8.out.size)); have K1_9 := Lib.hid (K1_8.out.below Y9.out K1_8.out.lt); have T1_9 := Lib.hid (T1_8.out.later Y9.out); have K2_9 := Lib.hid (K2_8.out.below Y9.out K2_8.out.lt); have T2_9 := Lib.hid (T2_8.out.later Y9.out); have K3_9 := Lib.hid (K3_8.out.below Y9.out K3_8.out.lt); have T3_9 := Lib.hid (T3_8.out.later Y9.out); clear hb)
    | (go_at_call 12; (with_reducible refine (KD1.out _ B7.out).mono ?_); rintro e v8 ⟨rfl, hb⟩; have Y8 := Lib.hid hb; have B8 := Lib.hid (B7.out.trans (Y8.out.mono B7.out.size)); have K1_8 := Lib.hid (K1_7.out.below Y8.out K1_7.out.lt); have T1_8 := Lib.hid (T1_7.out.later Y8.out); have K2_8 := Lib.hid (K2_7.out.below Y8.out K2_7.out.lt); have T2_8 := Lib.hid (T2_7.out.later Y8.out); have K3_8 := Lib.hid (K3_7.out.below Y8.out K3_7.out.lt); have T3_8 := Lib.hid (T3_7.out.later Y8.out); clear hb))
  go_ret
  exact ⟨rfl, B18.out⟩
end Go.Proofs.YtjekpmkghpjamaaGreatDoor
