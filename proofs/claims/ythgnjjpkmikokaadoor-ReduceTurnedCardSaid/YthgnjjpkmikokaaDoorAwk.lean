/- The walk of awake: the fixed examples hold. -/
import Derived.Test.YthgnjjpkmikokaaDoorBav
namespace Go.Proofs.YthgnjjpkmikokaaDoor
open Go.RowKit

section
variable {w : World} {A1 N1 A2 N2 : Option Addr} {c1 n1 c2 n2 : Nat}
theorem same_r (h1 : TS w A1 N1 (TR 1 1)) (h2 : TS w A2 N2 (TR 1 1)) : Calls Tryd.prog 10 #[.agg #[.int .i64 2, .slice A1 2 c1, .slice N1 2 n1], .agg #[.int .i64 2, .slice A2 2 c2, .slice N2 2 n2]] w fun e w' => e = .returned (.bool true) ∧ Below w.heap.size w w' :=
  rsame_yes A1 A2 N1 N2 c1 c2 n1 n2 (TR 1 1) w h1 h2 (by decide) (by decide) (by decide +kernel)
theorem same_t (h1 : TS w A1 N1 TT) (h2 : TS w A2 N2 TT) : Calls Tryd.prog 10 #[.agg #[.int .i64 2, .slice A1 2 c1, .slice N1 3 n1], .agg #[.int .i64 2, .slice A2 2 c2, .slice N2 3 n2]] w fun e w' => e = .returned (.bool true) ∧ Below w.heap.size w w' :=
  rsame_yes A1 A2 N1 N2 c1 c2 n1 n2 TT w h1 h2 (by decide) (by decide) (by decide +kernel)
end
theorem fixed_reads {w : World} {g a b : Nat} (K : Blk w g 44 #[.int .i64 1, .slice (some ⟨a, 0, none⟩) 2 2, .int .i64 2, .slice (some ⟨b, 0, none⟩) 2 2]) (Ka : Blk w a 3 #[.int .i64 1, .int .i64 1]) (Kb : Blk w b 3 #[.int .i64 0, .int .i64 0]) : NR w w.heap.size (some ⟨g, 0, none⟩) 2 (TR 1 1).lv (TR 1 1).nx := fun _ => ⟨g, 0, rfl, K.lt, fun k hk => by
  match k, hk with
  | 0, _ => exact ⟨_, _, K.cell 0, K.cell 1, two_reads Ka⟩
  | 1, _ => exact ⟨_, _, K.cell 2, K.cell 3, two_reads Kb⟩⟩
theorem turned_reads {w : World} {g a b c : Nat} (K : Blk w g 44 #[.int .i64 1, .slice (some ⟨a, 0, none⟩) 2 2, .int .i64 1, .slice (some ⟨b, 0, none⟩) 2 2, .int .i64 2, .slice (some ⟨c, 0, none⟩) 2 2]) (Ka : Blk w a 3 #[.int .i64 0, .int .i64 0]) (Kb : Blk w b 3 #[.int .i64 1, .int .i64 1]) (Kc : Blk w c 3 #[.int .i64 0, .int .i64 1]) : NR w w.heap.size (some ⟨g, 0, none⟩) 3 TT.lv TT.nx := fun _ => ⟨g, 0, rfl, K.lt, fun k hk => by
  match k, hk with
  | 0, _ => exact ⟨_, _, K.cell 0, K.cell 1, two_reads Ka⟩
  | 1, _ => exact ⟨_, _, K.cell 2, K.cell 3, two_reads Kb⟩
  | 2, _ => exact ⟨_, _, K.cell 4, K.cell 5, two_reads Kc⟩⟩
theorem points_reads {w : World} {g : Nat} (K : Blk w g 40 #[.int .i64 0, .int .i64 0, .int .i64 1, .int .i64 0]) : QReads w w.heap.size (some ⟨g, 0, none⟩) 2 (lf [(0, 0), (1, 0)]) := fun _ => ⟨g, 0, rfl, K.lt, fun k hk => by
  match k, hk with
  | 0, _ => exact ⟨K.cell 0, K.cell 1⟩
  | 1, _ => exact ⟨K.cell 2, K.cell 3⟩⟩
set_option maxRecDepth 100000 in
set_option maxHeartbeats 16000000 in
theorem awake_any (w : World) (hM : Mat w) : Calls Tryd.prog 6 #[] w fun e w' => e = .returned (.bool true) ∧ Below w.heap.size w w' := by
  have HM := Lib.hid hM
  have HW0 := hM.1
  clear hM
  go_enter Tryd.func6, Tryd.ntmps6
  go_upto_region 2 with (fail)
  have L0 := Lib.hid (Blk.new w 40 #[.int .i64 (-1), .int .i64 0, .int .i64 0, .int .i64 0])
  have B0 := Lib.hid ((Below.refl w.heap.size w).alloc (Nat.le_refl _) (.cells #[.int .i64 (-1), .int .i64 0, .int .i64 0, .int .i64 0] 40))
  generalize w.alloc (.cells #[.int .i64 (-1), .int .i64 0, .int .i64 0, .int .i64 0] 40) = w0 at L0 B0 ⊢
  obtain ⟨gl, hgl⟩ : ∃ gl, gl = w.heap.size := ⟨_, rfl⟩
  rw [← hgl] at L0 ⊢
  clear hgl
  go_upto_region 3 with (fail)
  have X := Lib.hid (show Below w0.heap.size w0 (((((w0.alloc (.cells #[.int .i64 0, .int .i64 1] 3)).alloc (.cells #[.int .i64 0, .int .i64 1] 3)).alloc (.cells #[.int .i64 0, .int .i64 1] 3)).alloc (.cells #[.int .i64 1, .slice (some ⟨w0.heap.size, 0, none⟩) 2 2, .int .i64 1, .slice (some ⟨w0.heap.size + 1, 0, none⟩) 2 2, .int .i64 2, .slice (some ⟨w0.heap.size + 1 + 1, 0, none⟩) 2 2] 44)).alloc (.cells #[.int .i64 2, .slice (some ⟨gl, 0, none⟩) 2 2, .slice (some ⟨w0.heap.size + 1 + 1 + 1, 0, none⟩) 3 3] 25)) from ((((((Below.refl _ _).alloc (Nat.le_refl _) (.cells #[.int .i64 0, .int .i64 1] 3)).alloc (by simp; try omega) (.cells #[.int .i64 0, .int .i64 1] 3)).alloc (by simp; try omega) (.cells #[.int .i64 0, .int .i64 1] 3)).alloc (by simp; try omega) (.cells #[.int .i64 1, .slice (some ⟨w0.heap.size, 0, none⟩) 2 2, .int .i64 1, .slice (some ⟨w0.heap.size + 1, 0, none⟩) 2 2, .int .i64 2, .slice (some ⟨w0.heap.size + 1 + 1, 0, none⟩) 2 2] 44)).alloc (by simp; try omega) (.cells #[.int .i64 2, .slice (some ⟨gl, 0, none⟩) 2 2, .slice (some ⟨w0.heap.size + 1 + 1 + 1, 0, none⟩) 3 3] 25)))
  have Q0 := (((((Blk.new w0 3 #[.int .i64 0, .int .i64 1]).alloc (.cells #[.int .i64 0, .int .i64 1] 3)).alloc (.cells #[.int .i64 0, .int .i64 1] 3)).alloc (.cells #[.int .i64 1, .slice (some ⟨w0.heap.size, 0, none⟩) 2 2, .int .i64 1, .slice (some ⟨w0.heap.size + 1, 0, none⟩) 2 2, .int .i64 2, .slice (some ⟨w0.heap.size + 1 + 1, 0, none⟩) 2 2] 44)).alloc (.cells #[.int .i64 2, .slice (some ⟨gl, 0, none⟩) 2 2, .slice (some ⟨w0.heap.size + 1 + 1 + 1, 0, none⟩) 3 3] 25))
  have Q1 := ((((Blk.new (w0.alloc (.cells #[.int .i64 0, .int .i64 1] 3)) 3 #[.int .i64 0, .int .i64 1]).alloc (.cells #[.int .i64 0, .int .i64 1] 3)).alloc (.cells #[.int .i64 1, .slice (some ⟨w0.heap.size, 0, none⟩) 2 2, .int .i64 1, .slice (some ⟨w0.heap.size + 1, 0, none⟩) 2 2, .int .i64 2, .slice (some ⟨w0.heap.size + 1 + 1, 0, none⟩) 2 2] 44)).alloc (.cells #[.int .i64 2, .slice (some ⟨gl, 0, none⟩) 2 2, .slice (some ⟨w0.heap.size + 1 + 1 + 1, 0, none⟩) 3 3] 25))
  have Q2 := (((Blk.new ((w0.alloc (.cells #[.int .i64 0, .int .i64 1] 3)).alloc (.cells #[.int .i64 0, .int .i64 1] 3)) 3 #[.int .i64 0, .int .i64 1]).alloc (.cells #[.int .i64 1, .slice (some ⟨w0.heap.size, 0, none⟩) 2 2, .int .i64 1, .slice (some ⟨w0.heap.size + 1, 0, none⟩) 2 2, .int .i64 2, .slice (some ⟨w0.heap.size + 1 + 1, 0, none⟩) 2 2] 44)).alloc (.cells #[.int .i64 2, .slice (some ⟨gl, 0, none⟩) 2 2, .slice (some ⟨w0.heap.size + 1 + 1 + 1, 0, none⟩) 3 3] 25))
  have Q3 := ((Blk.new (((w0.alloc (.cells #[.int .i64 0, .int .i64 1] 3)).alloc (.cells #[.int .i64 0, .int .i64 1] 3)).alloc (.cells #[.int .i64 0, .int .i64 1] 3)) 44 #[.int .i64 1, .slice (some ⟨w0.heap.size, 0, none⟩) 2 2, .int .i64 1, .slice (some ⟨w0.heap.size + 1, 0, none⟩) 2 2, .int .i64 2, .slice (some ⟨w0.heap.size + 1 + 1, 0, none⟩) 2 2]).alloc (.cells #[.int .i64 2, .slice (some ⟨gl, 0, none⟩) 2 2, .slice (some ⟨w0.heap.size + 1 + 1 + 1, 0, none⟩) 3 3] 25))
  have Q4 := (Blk.new ((((w0.alloc (.cells #[.int .i64 0, .int .i64 1] 3)).alloc (.cells #[.int .i64 0, .int .i64 1] 3)).alloc (.cells #[.int .i64 0, .int .i64 1] 3)).alloc (.cells #[.int .i64 1, .slice (some ⟨w0.heap.size, 0, none⟩) 2 2, .int .i64 1, .slice (some ⟨w0.heap.size + 1, 0, none⟩) 2 2, .int .i64 2, .slice (some ⟨w0.heap.size + 1 + 1, 0, none⟩) 2 2] 44)) 25 #[.int .i64 2, .slice (some ⟨gl, 0, none⟩) 2 2, .slice (some ⟨w0.heap.size + 1 + 1 + 1, 0, none⟩) 3 3])
  simp only [World.size_alloc] at Q1 Q2 Q3 Q4
  have QL := L0.out.below X.out L0.out.lt
  generalize (((((w0.alloc (.cells #[.int .i64 0, .int .i64 1] 3)).alloc (.cells #[.int .i64 0, .int .i64 1] 3)).alloc (.cells #[.int .i64 0, .int .i64 1] 3)).alloc (.cells #[.int .i64 1, .slice (some ⟨w0.heap.size, 0, none⟩) 2 2, .int .i64 1, .slice (some ⟨w0.heap.size + 1, 0, none⟩) 2 2, .int .i64 2, .slice (some ⟨w0.heap.size + 1 + 1, 0, none⟩) 2 2] 44)).alloc (.cells #[.int .i64 2, .slice (some ⟨gl, 0, none⟩) 2 2, .slice (some ⟨w0.heap.size + 1 + 1 + 1, 0, none⟩) 3 3] 25)) = w1 at X Q0 Q1 Q2 Q3 Q4 QL ⊢
  have LA1 := Lib.hid (show LA w1 gl _ _ _ _ from ⟨QL, Q0, Q1, Q2, Q3⟩)
  have KT1 := Lib.hid Q4
  have B1 := Lib.hid (B0.out.trans (X.out.mono B0.out.size))
  clear X Q0 Q1 Q2 Q3 Q4 QL L0 B0
  generalize w0.heap.size + 1 + 1 + 1 + 1 = gt at *
  generalize w0.heap.size + 1 + 1 + 1 = gn at *
  generalize w0.heap.size + 1 + 1 = gc at *
  generalize w0.heap.size + 1 = gb at *
  generalize w0.heap.size = ga at *
  obtain ⟨a0, a1, a2, a3⟩ := KT1.out.three
  go_upto_region 4 with (go_at_call 11; (with_reducible refine (red_ta _ _ _ _ _ LA1.out.ts).mono ?_); rintro e v1 ⟨AIx, cIx, ANx, cNx, rfl, hts, hb⟩; have HB := Lib.hid hb; have HT := Lib.hid hts; clear hb hts)
  have Y := HB.out.alloc HB.out.size (.cells #[.int .i64 2, .slice AIx 2 cIx, .slice ANx 2 cNx] 25)
  have Z := (Below.refl v1.heap.size v1).alloc (Nat.le_refl _) (.cells #[.int .i64 2, .slice AIx 2 cIx, .slice ANx 2 cNx] 25)
  have Kx2 := Lib.hid (Blk.new v1 25 #[.int .i64 2, .slice AIx 2 cIx, .slice ANx 2 cNx])
  have Tx2 := Lib.hid (HT.out.later Z)
  have LA2 := Lib.hid (LA1.out.later Y)
  have KT2 := Lib.hid (KT1.out.below Y KT1.out.lt)
  have B2 := Lib.hid (B1.out.trans (Y.mono B1.out.size))
  clear Y Z HB HT a0 a1 a2 a3
  clear LA1 KT1 B1
  generalize v1.alloc (.cells #[.int .i64 2, .slice AIx 2 cIx, .slice ANx 2 cNx] 25) = w2 at LA2 KT2 Kx2 Tx2 B2 ⊢
  generalize v1.heap.size = gx at *
  obtain ⟨a0, a1, a2, a3⟩ := KT2.out.three
  go_upto_region 5 with (go_at_call 16; (with_reducible refine (fix_11 LA2.out).mono ?_); rintro e v2 ⟨AIf, cIf, ANf, cNf, rfl, hts, hb⟩; have HB := Lib.hid hb; have HT := Lib.hid hts; clear hb hts)
  have Y := HB.out.alloc HB.out.size (.cells #[.int .i64 2, .slice AIf 2 cIf, .slice ANf 2 cNf] 25)
  have Z := (Below.refl v2.heap.size v2).alloc (Nat.le_refl _) (.cells #[.int .i64 2, .slice AIf 2 cIf, .slice ANf 2 cNf] 25)
  have Kf3 := Lib.hid (Blk.new v2 25 #[.int .i64 2, .slice AIf 2 cIf, .slice ANf 2 cNf])
  have Tf3 := Lib.hid (HT.out.later Z)
  have LA3 := Lib.hid (LA2.out.later Y)
  have KT3 := Lib.hid (KT2.out.below Y KT2.out.lt)
  have Kx3 := Lib.hid (Kx2.out.below Y Kx2.out.lt)
  have Tx3 := Lib.hid (Tx2.out.later Y)
  have B3 := Lib.hid (B2.out.trans (Y.mono B2.out.size))
  clear Y Z HB HT a0 a1 a2 a3
  clear LA2 KT2 Kx2 Tx2 B2
  generalize v2.alloc (.cells #[.int .i64 2, .slice AIf 2 cIf, .slice ANf 2 cNf] 25) = w3 at LA3 KT3 Kx3 Tx3 Kf3 Tf3 B3 ⊢
  generalize v2.heap.size = gf at *
  obtain ⟨a0, a1, a2, a3⟩ := KT3.out.three
  go_upto_region 6 with (go_at_call 7; (with_reducible refine (turn_4 (HM.out.below B3.out HW0) LA3.out).mono ?_); rintro e v3 ⟨AIu, cIu, ANu, cNu, rfl, hts, hb⟩; have HB := Lib.hid hb; have HT := Lib.hid hts; clear hb hts)
  have Y := HB.out.alloc HB.out.size (.cells #[.int .i64 2, .slice AIu 2 cIu, .slice ANu 3 cNu] 25)
  have Z := (Below.refl v3.heap.size v3).alloc (Nat.le_refl _) (.cells #[.int .i64 2, .slice AIu 2 cIu, .slice ANu 3 cNu] 25)
  have Ku4 := Lib.hid (Blk.new v3 25 #[.int .i64 2, .slice AIu 2 cIu, .slice ANu 3 cNu])
  have Tu4 := Lib.hid (HT.out.later Z)
  have LA4 := Lib.hid (LA3.out.later Y)
  have KT4 := Lib.hid (KT3.out.below Y KT3.out.lt)
  have Kx4 := Lib.hid (Kx3.out.below Y Kx3.out.lt)
  have Tx4 := Lib.hid (Tx3.out.later Y)
  have Kf4 := Lib.hid (Kf3.out.below Y Kf3.out.lt)
  have Tf4 := Lib.hid (Tf3.out.later Y)
  have B4 := Lib.hid (B3.out.trans (Y.mono B3.out.size))
  clear Y Z HB HT a0 a1 a2 a3
  clear LA3 KT3 Kx3 Tx3 Kf3 Tf3 B3
  generalize v3.alloc (.cells #[.int .i64 2, .slice AIu 2 cIu, .slice ANu 3 cNu] 25) = w4 at LA4 KT4 Kx4 Tx4 Kf4 Tf4 Ku4 Tu4 B4 ⊢
  generalize v3.heap.size = gu at *
  obtain ⟨a0, a1, a2, a3⟩ := KT4.out.three
  have XX := Lib.hid ((Below.refl w4.heap.size w4).alloc (Nat.le_refl _) (.cells #[.int .i64 1, .int .i64 0] 3))
  have KI := Lib.hid (Blk.new w4 3 #[.int .i64 1, .int .i64 0])
  go_upto_region 7 with (go_at_call 17; (with_reducible refine (map_10 (LA4.out.later XX.out) KI.out).mono ?_); rintro e v4 ⟨AIm, cIm, ANm, cNm, rfl, hts, hb⟩; have HB := Lib.hid (XX.out.trans (hb.mono XX.out.size)); have HT := Lib.hid hts; clear hb hts)
  have Y := HB.out.alloc HB.out.size (.cells #[.int .i64 2, .slice AIm 2 cIm, .slice ANm 2 cNm] 25)
  have Z := (Below.refl v4.heap.size v4).alloc (Nat.le_refl _) (.cells #[.int .i64 2, .slice AIm 2 cIm, .slice ANm 2 cNm] 25)
  have Km5 := Lib.hid (Blk.new v4 25 #[.int .i64 2, .slice AIm 2 cIm, .slice ANm 2 cNm])
  have Tm5 := Lib.hid (HT.out.later Z)
  have LA5 := Lib.hid (LA4.out.later Y)
  have KT5 := Lib.hid (KT4.out.below Y KT4.out.lt)
  have Kx5 := Lib.hid (Kx4.out.below Y Kx4.out.lt)
  have Tx5 := Lib.hid (Tx4.out.later Y)
  have Kf5 := Lib.hid (Kf4.out.below Y Kf4.out.lt)
  have Tf5 := Lib.hid (Tf4.out.later Y)
  have Ku5 := Lib.hid (Ku4.out.below Y Ku4.out.lt)
  have Tu5 := Lib.hid (Tu4.out.later Y)
  have B5 := Lib.hid (B4.out.trans (Y.mono B4.out.size))
  clear Y Z HB HT a0 a1 a2 a3 XX
  clear LA4 KT4 Kx4 Tx4 Kf4 Tf4 Ku4 Tu4 B4
  generalize v4.alloc (.cells #[.int .i64 2, .slice AIm 2 cIm, .slice ANm 2 cNm] 25) = w5 at LA5 KT5 Kx5 Tx5 Kf5 Tf5 Ku5 Tu5 Km5 Tm5 B5 ⊢
  generalize v4.heap.size = gm at *
  clear KI
  obtain ⟨a0, a1, a2, a3⟩ := KT5.out.three
  obtain ⟨b0, b1, b2, b3⟩ := Km5.out.three
  obtain ⟨d0, d1, d2, d3⟩ := Kx5.out.three
  have XX := Lib.hid ((Below.refl w5.heap.size w5).alloc (Nat.le_refl _) (.cells #[.int .i64 2, .slice AIm 2 cIm, .slice ANm 2 cNm, .int .i64 2, .slice AIx 2 cIx, .slice ANx 2 cNx] 25))
  have KI := Lib.hid (Blk.new w5 25 #[.int .i64 2, .slice AIm 2 cIm, .slice ANm 2 cNm, .int .i64 2, .slice AIx 2 cIx, .slice ANx 2 cNx])
  go_upto_region 8 with (go_at_call 18; (with_reducible refine (choose_ta (LA5.out.later XX.out) KI.out (Tm5.out.later XX.out) (Tx5.out.later XX.out)).mono ?_); rintro e v5 ⟨AIc, cIc, ANc, cNc, rfl, hts, hb⟩; have HB := Lib.hid (XX.out.trans (hb.mono XX.out.size)); have HT := Lib.hid hts; clear hb hts)
  have Y := HB.out.alloc HB.out.size (.cells #[.int .i64 2, .slice AIc 2 cIc, .slice ANc 2 cNc] 25)
  have Z := (Below.refl v5.heap.size v5).alloc (Nat.le_refl _) (.cells #[.int .i64 2, .slice AIc 2 cIc, .slice ANc 2 cNc] 25)
  have Kc6 := Lib.hid (Blk.new v5 25 #[.int .i64 2, .slice AIc 2 cIc, .slice ANc 2 cNc])
  have Tc6 := Lib.hid (HT.out.later Z)
  have LA6 := Lib.hid (LA5.out.later Y)
  have KT6 := Lib.hid (KT5.out.below Y KT5.out.lt)
  have Kx6 := Lib.hid (Kx5.out.below Y Kx5.out.lt)
  have Tx6 := Lib.hid (Tx5.out.later Y)
  have Kf6 := Lib.hid (Kf5.out.below Y Kf5.out.lt)
  have Tf6 := Lib.hid (Tf5.out.later Y)
  have Ku6 := Lib.hid (Ku5.out.below Y Ku5.out.lt)
  have Tu6 := Lib.hid (Tu5.out.later Y)
  have Km6 := Lib.hid (Km5.out.below Y Km5.out.lt)
  have Tm6 := Lib.hid (Tm5.out.later Y)
  have B6 := Lib.hid (B5.out.trans (Y.mono B5.out.size))
  clear Y Z HB HT a0 a1 a2 a3 XX
  clear LA5 KT5 Kx5 Tx5 Kf5 Tf5 Ku5 Tu5 Km5 Tm5 B5
  generalize v5.alloc (.cells #[.int .i64 2, .slice AIc 2 cIc, .slice ANc 2 cNc] 25) = w6 at LA6 KT6 Kx6 Tx6 Kf6 Tf6 Ku6 Tu6 Km6 Tm6 Kc6 Tc6 B6 ⊢
  generalize v5.heap.size = gc at *
  clear KI b0 b1 b2 b3 d0 d1 d2 d3
  obtain ⟨a0, a1, a2, a3⟩ := KT6.out.three
  obtain ⟨b0, b1, b2, b3⟩ := Km6.out.three
  obtain ⟨d0, d1, d2, d3⟩ := Kx6.out.three
  have X6 := Lib.hid (Below.refl w6.heap.size w6)
  go_upto_region 10 with (first
    | (go_at_call 20; (with_reducible refine (equal_m LA9.out Tm9.out).mono ?_); rintro e w10 ⟨rfl, hb⟩; have LA10 := Lib.hid (LA9.out.later hb); have KT10 := Lib.hid (KT9.out.below hb KT9.out.lt); have Km10 := Lib.hid (Km9.out.below hb Km9.out.lt); have Kx10 := Lib.hid (Kx9.out.below hb Kx9.out.lt); have Tm10 := Lib.hid (Tm9.out.later hb); have Tx10 := Lib.hid (Tx9.out.later hb); have X10 := Lib.hid (X9.out.trans (hb.mono X9.out.size)); clear hb; obtain ⟨a0, a1, a2, a3⟩ := KT10.out.three; obtain ⟨b0, b1, b2, b3⟩ := Km10.out.three; obtain ⟨d0, d1, d2, d3⟩ := Kx10.out.three)
    | (go_at_call 20; (with_reducible refine (equal_x LA8.out Tx8.out).mono ?_); rintro e w9 ⟨rfl, hb⟩; have LA9 := Lib.hid (LA8.out.later hb); have KT9 := Lib.hid (KT8.out.below hb KT8.out.lt); have Km9 := Lib.hid (Km8.out.below hb Km8.out.lt); have Kx9 := Lib.hid (Kx8.out.below hb Kx8.out.lt); have Tm9 := Lib.hid (Tm8.out.later hb); have Tx9 := Lib.hid (Tx8.out.later hb); have X9 := Lib.hid (X8.out.trans (hb.mono X8.out.size)); clear hb; obtain ⟨a0, a1, a2, a3⟩ := KT9.out.three; obtain ⟨b0, b1, b2, b3⟩ := Km9.out.three; obtain ⟨d0, d1, d2, d3⟩ := Kx9.out.three)
    | (go_at_call 19; (with_reducible refine (uses_0 LA7.out).mono ?_); rintro e w8 ⟨rfl, hb⟩; have LA8 := Lib.hid (LA7.out.later hb); have KT8 := Lib.hid (KT7.out.below hb KT7.out.lt); have Km8 := Lib.hid (Km7.out.below hb Km7.out.lt); have Kx8 := Lib.hid (Kx7.out.below hb Kx7.out.lt); have Tm8 := Lib.hid (Tm7.out.later hb); have Tx8 := Lib.hid (Tx7.out.later hb); have X8 := Lib.hid (X7.out.trans (hb.mono X7.out.size)); clear hb; obtain ⟨a0, a1, a2, a3⟩ := KT8.out.three; obtain ⟨b0, b1, b2, b3⟩ := Km8.out.three; obtain ⟨d0, d1, d2, d3⟩ := Kx8.out.three)
    | (go_at_call 19; (with_reducible refine (uses_1 LA6.out).mono ?_); rintro e w7 ⟨rfl, hb⟩; have LA7 := Lib.hid (LA6.out.later hb); have KT7 := Lib.hid (KT6.out.below hb KT6.out.lt); have Km7 := Lib.hid (Km6.out.below hb Km6.out.lt); have Kx7 := Lib.hid (Kx6.out.below hb Kx6.out.lt); have Tm7 := Lib.hid (Tm6.out.later hb); have Tx7 := Lib.hid (Tx6.out.later hb); have X7 := Lib.hid (X6.out.trans (hb.mono X6.out.size)); clear hb; obtain ⟨a0, a1, a2, a3⟩ := KT7.out.three; obtain ⟨b0, b1, b2, b3⟩ := Km7.out.three; obtain ⟨d0, d1, d2, d3⟩ := Kx7.out.three))
  have Kf10 := Lib.hid (Kf6.out.below X10.out Kf6.out.lt)
  have Tf10 := Lib.hid (Tf6.out.later X10.out)
  have Ku10 := Lib.hid (Ku6.out.below X10.out Ku6.out.lt)
  have Tu10 := Lib.hid (Tu6.out.later X10.out)
  have Kc10 := Lib.hid (Kc6.out.below X10.out Kc6.out.lt)
  have Tc10 := Lib.hid (Tc6.out.later X10.out)
  have B10 := Lib.hid (B6.out.trans (X10.out.mono B6.out.size))
  clear a0 a1 a2 a3 b0 b1 b2 b3 d0 d1 d2 d3
  clear LA6 KT6 Km6 Kx6 Tm6 Tx6 X6
  clear LA7 KT7 Km7 Kx7 Tm7 Tx7 X7
  clear LA8 KT8 Km8 Kx8 Tm8 Tx8 X8
  clear LA9 KT9 Km9 Kx9 Tm9 Tx9 X9
  clear Kf6 Tf6 Ku6 Tu6 Kc6 Tc6 B6 X10
  clear KT10 Km10 Tm10 Tx10
  go_upto_region 11 with (fail)
  have X := Lib.hid (show Below w10.heap.size w10 ((((w10.alloc (.cells #[.int .i64 1, .int .i64 1] 3)).alloc (.cells #[.int .i64 0, .int .i64 0] 3)).alloc (.cells #[.int .i64 1, .slice (some ⟨w10.heap.size, 0, none⟩) 2 2, .int .i64 2, .slice (some ⟨w10.heap.size + 1, 0, none⟩) 2 2] 44)).alloc (.cells #[.int .i64 2, .slice (some ⟨gl, 0, none⟩) 2 2, .slice (some ⟨w10.heap.size + 1 + 1, 0, none⟩) 2 2] 25)) from (((((Below.refl _ _).alloc (Nat.le_refl _) (.cells #[.int .i64 1, .int .i64 1] 3)).alloc (by simp; try omega) (.cells #[.int .i64 0, .int .i64 0] 3)).alloc (by simp; try omega) (.cells #[.int .i64 1, .slice (some ⟨w10.heap.size, 0, none⟩) 2 2, .int .i64 2, .slice (some ⟨w10.heap.size + 1, 0, none⟩) 2 2] 44)).alloc (by simp; try omega) (.cells #[.int .i64 2, .slice (some ⟨gl, 0, none⟩) 2 2, .slice (some ⟨w10.heap.size + 1 + 1, 0, none⟩) 2 2] 25)))
  have Q0 := ((((Blk.new w10 3 #[.int .i64 1, .int .i64 1]).alloc (.cells #[.int .i64 0, .int .i64 0] 3)).alloc (.cells #[.int .i64 1, .slice (some ⟨w10.heap.size, 0, none⟩) 2 2, .int .i64 2, .slice (some ⟨w10.heap.size + 1, 0, none⟩) 2 2] 44)).alloc (.cells #[.int .i64 2, .slice (some ⟨gl, 0, none⟩) 2 2, .slice (some ⟨w10.heap.size + 1 + 1, 0, none⟩) 2 2] 25))
  have Q1 := (((Blk.new (w10.alloc (.cells #[.int .i64 1, .int .i64 1] 3)) 3 #[.int .i64 0, .int .i64 0]).alloc (.cells #[.int .i64 1, .slice (some ⟨w10.heap.size, 0, none⟩) 2 2, .int .i64 2, .slice (some ⟨w10.heap.size + 1, 0, none⟩) 2 2] 44)).alloc (.cells #[.int .i64 2, .slice (some ⟨gl, 0, none⟩) 2 2, .slice (some ⟨w10.heap.size + 1 + 1, 0, none⟩) 2 2] 25))
  have Q2 := ((Blk.new ((w10.alloc (.cells #[.int .i64 1, .int .i64 1] 3)).alloc (.cells #[.int .i64 0, .int .i64 0] 3)) 44 #[.int .i64 1, .slice (some ⟨w10.heap.size, 0, none⟩) 2 2, .int .i64 2, .slice (some ⟨w10.heap.size + 1, 0, none⟩) 2 2]).alloc (.cells #[.int .i64 2, .slice (some ⟨gl, 0, none⟩) 2 2, .slice (some ⟨w10.heap.size + 1 + 1, 0, none⟩) 2 2] 25))
  have Q3 := (Blk.new (((w10.alloc (.cells #[.int .i64 1, .int .i64 1] 3)).alloc (.cells #[.int .i64 0, .int .i64 0] 3)).alloc (.cells #[.int .i64 1, .slice (some ⟨w10.heap.size, 0, none⟩) 2 2, .int .i64 2, .slice (some ⟨w10.heap.size + 1, 0, none⟩) 2 2] 44)) 25 #[.int .i64 2, .slice (some ⟨gl, 0, none⟩) 2 2, .slice (some ⟨w10.heap.size + 1 + 1, 0, none⟩) 2 2])
  simp only [World.size_alloc] at Q1 Q2 Q3
  have LA11 := Lib.hid (LA10.out.later X.out)
  have Kx11 := Lib.hid (Kx10.out.below X.out Kx10.out.lt)
  have Kf11 := Lib.hid (Kf10.out.below X.out Kf10.out.lt)
  have Tf11 := Lib.hid (Tf10.out.later X.out)
  have Ku11 := Lib.hid (Ku10.out.below X.out Ku10.out.lt)
  have Tu11 := Lib.hid (Tu10.out.later X.out)
  have Kc11 := Lib.hid (Kc10.out.below X.out Kc10.out.lt)
  have Tc11 := Lib.hid (Tc10.out.later X.out)
  have B11 := Lib.hid (B10.out.trans (X.out.mono B10.out.size))
  generalize ((((w10.alloc (.cells #[.int .i64 1, .int .i64 1] 3)).alloc (.cells #[.int .i64 0, .int .i64 0] 3)).alloc (.cells #[.int .i64 1, .slice (some ⟨w10.heap.size, 0, none⟩) 2 2, .int .i64 2, .slice (some ⟨w10.heap.size + 1, 0, none⟩) 2 2] 44)).alloc (.cells #[.int .i64 2, .slice (some ⟨gl, 0, none⟩) 2 2, .slice (some ⟨w10.heap.size + 1 + 1, 0, none⟩) 2 2] 25)) = w11 at X Q0 Q1 Q2 Q3 LA11 Kx11 Kf11 Tf11 Ku11 Tu11 Kc11 Tc11 B11 ⊢
  have T111 := Lib.hid (show TS w11 _ _ (TR 1 1) from ⟨LA11.out.ts.1, fixed_reads Q2 Q0 Q1⟩)
  have K111 := Lib.hid Q3
  clear X Q0 Q1 Q2 Q3
  clear LA10 Kx10 Kf10 Tf10 Ku10 Tu10 Kc10 Tc10 B10
  generalize w10.heap.size + 1 + 1 + 1 = gq at *
  generalize w10.heap.size + 1 + 1 = gp at *
  go_upto_region 12 with (fail)
  have X := Lib.hid (show Below w11.heap.size w11 ((((((w11.alloc (.cells #[.int .i64 0, .int .i64 0, .int .i64 1, .int .i64 0] 40)).alloc (.cells #[.int .i64 0, .int .i64 0] 3)).alloc (.cells #[.int .i64 1, .int .i64 1] 3)).alloc (.cells #[.int .i64 0, .int .i64 1] 3)).alloc (.cells #[.int .i64 1, .slice (some ⟨w11.heap.size + 1, 0, none⟩) 2 2, .int .i64 1, .slice (some ⟨w11.heap.size + 1 + 1, 0, none⟩) 2 2, .int .i64 2, .slice (some ⟨w11.heap.size + 1 + 1 + 1, 0, none⟩) 2 2] 44)).alloc (.cells #[.int .i64 2, .slice (some ⟨w11.heap.size, 0, none⟩) 2 2, .slice (some ⟨w11.heap.size + 1 + 1 + 1 + 1, 0, none⟩) 3 3] 25)) from (((((((Below.refl _ _).alloc (Nat.le_refl _) (.cells #[.int .i64 0, .int .i64 0, .int .i64 1, .int .i64 0] 40)).alloc (by simp; try omega) (.cells #[.int .i64 0, .int .i64 0] 3)).alloc (by simp; try omega) (.cells #[.int .i64 1, .int .i64 1] 3)).alloc (by simp; try omega) (.cells #[.int .i64 0, .int .i64 1] 3)).alloc (by simp; try omega) (.cells #[.int .i64 1, .slice (some ⟨w11.heap.size + 1, 0, none⟩) 2 2, .int .i64 1, .slice (some ⟨w11.heap.size + 1 + 1, 0, none⟩) 2 2, .int .i64 2, .slice (some ⟨w11.heap.size + 1 + 1 + 1, 0, none⟩) 2 2] 44)).alloc (by simp; try omega) (.cells #[.int .i64 2, .slice (some ⟨w11.heap.size, 0, none⟩) 2 2, .slice (some ⟨w11.heap.size + 1 + 1 + 1 + 1, 0, none⟩) 3 3] 25)))
  have Q0 := ((((((Blk.new w11 40 #[.int .i64 0, .int .i64 0, .int .i64 1, .int .i64 0]).alloc (.cells #[.int .i64 0, .int .i64 0] 3)).alloc (.cells #[.int .i64 1, .int .i64 1] 3)).alloc (.cells #[.int .i64 0, .int .i64 1] 3)).alloc (.cells #[.int .i64 1, .slice (some ⟨w11.heap.size + 1, 0, none⟩) 2 2, .int .i64 1, .slice (some ⟨w11.heap.size + 1 + 1, 0, none⟩) 2 2, .int .i64 2, .slice (some ⟨w11.heap.size + 1 + 1 + 1, 0, none⟩) 2 2] 44)).alloc (.cells #[.int .i64 2, .slice (some ⟨w11.heap.size, 0, none⟩) 2 2, .slice (some ⟨w11.heap.size + 1 + 1 + 1 + 1, 0, none⟩) 3 3] 25))
  have Q1 := (((((Blk.new (w11.alloc (.cells #[.int .i64 0, .int .i64 0, .int .i64 1, .int .i64 0] 40)) 3 #[.int .i64 0, .int .i64 0]).alloc (.cells #[.int .i64 1, .int .i64 1] 3)).alloc (.cells #[.int .i64 0, .int .i64 1] 3)).alloc (.cells #[.int .i64 1, .slice (some ⟨w11.heap.size + 1, 0, none⟩) 2 2, .int .i64 1, .slice (some ⟨w11.heap.size + 1 + 1, 0, none⟩) 2 2, .int .i64 2, .slice (some ⟨w11.heap.size + 1 + 1 + 1, 0, none⟩) 2 2] 44)).alloc (.cells #[.int .i64 2, .slice (some ⟨w11.heap.size, 0, none⟩) 2 2, .slice (some ⟨w11.heap.size + 1 + 1 + 1 + 1, 0, none⟩) 3 3] 25))
  have Q2 := ((((Blk.new ((w11.alloc (.cells #[.int .i64 0, .int .i64 0, .int .i64 1, .int .i64 0] 40)).alloc (.cells #[.int .i64 0, .int .i64 0] 3)) 3 #[.int .i64 1, .int .i64 1]).alloc (.cells #[.int .i64 0, .int .i64 1] 3)).alloc (.cells #[.int .i64 1, .slice (some ⟨w11.heap.size + 1, 0, none⟩) 2 2, .int .i64 1, .slice (some ⟨w11.heap.size + 1 + 1, 0, none⟩) 2 2, .int .i64 2, .slice (some ⟨w11.heap.size + 1 + 1 + 1, 0, none⟩) 2 2] 44)).alloc (.cells #[.int .i64 2, .slice (some ⟨w11.heap.size, 0, none⟩) 2 2, .slice (some ⟨w11.heap.size + 1 + 1 + 1 + 1, 0, none⟩) 3 3] 25))
  have Q3 := (((Blk.new (((w11.alloc (.cells #[.int .i64 0, .int .i64 0, .int .i64 1, .int .i64 0] 40)).alloc (.cells #[.int .i64 0, .int .i64 0] 3)).alloc (.cells #[.int .i64 1, .int .i64 1] 3)) 3 #[.int .i64 0, .int .i64 1]).alloc (.cells #[.int .i64 1, .slice (some ⟨w11.heap.size + 1, 0, none⟩) 2 2, .int .i64 1, .slice (some ⟨w11.heap.size + 1 + 1, 0, none⟩) 2 2, .int .i64 2, .slice (some ⟨w11.heap.size + 1 + 1 + 1, 0, none⟩) 2 2] 44)).alloc (.cells #[.int .i64 2, .slice (some ⟨w11.heap.size, 0, none⟩) 2 2, .slice (some ⟨w11.heap.size + 1 + 1 + 1 + 1, 0, none⟩) 3 3] 25))
  have Q4 := ((Blk.new ((((w11.alloc (.cells #[.int .i64 0, .int .i64 0, .int .i64 1, .int .i64 0] 40)).alloc (.cells #[.int .i64 0, .int .i64 0] 3)).alloc (.cells #[.int .i64 1, .int .i64 1] 3)).alloc (.cells #[.int .i64 0, .int .i64 1] 3)) 44 #[.int .i64 1, .slice (some ⟨w11.heap.size + 1, 0, none⟩) 2 2, .int .i64 1, .slice (some ⟨w11.heap.size + 1 + 1, 0, none⟩) 2 2, .int .i64 2, .slice (some ⟨w11.heap.size + 1 + 1 + 1, 0, none⟩) 2 2]).alloc (.cells #[.int .i64 2, .slice (some ⟨w11.heap.size, 0, none⟩) 2 2, .slice (some ⟨w11.heap.size + 1 + 1 + 1 + 1, 0, none⟩) 3 3] 25))
  have Q5 := (Blk.new (((((w11.alloc (.cells #[.int .i64 0, .int .i64 0, .int .i64 1, .int .i64 0] 40)).alloc (.cells #[.int .i64 0, .int .i64 0] 3)).alloc (.cells #[.int .i64 1, .int .i64 1] 3)).alloc (.cells #[.int .i64 0, .int .i64 1] 3)).alloc (.cells #[.int .i64 1, .slice (some ⟨w11.heap.size + 1, 0, none⟩) 2 2, .int .i64 1, .slice (some ⟨w11.heap.size + 1 + 1, 0, none⟩) 2 2, .int .i64 2, .slice (some ⟨w11.heap.size + 1 + 1 + 1, 0, none⟩) 2 2] 44)) 25 #[.int .i64 2, .slice (some ⟨w11.heap.size, 0, none⟩) 2 2, .slice (some ⟨w11.heap.size + 1 + 1 + 1 + 1, 0, none⟩) 3 3])
  simp only [World.size_alloc] at Q1 Q2 Q3 Q4 Q5
  have LA12 := Lib.hid (LA11.out.later X.out)
  have Kx12 := Lib.hid (Kx11.out.below X.out Kx11.out.lt)
  have Kf12 := Lib.hid (Kf11.out.below X.out Kf11.out.lt)
  have Tf12 := Lib.hid (Tf11.out.later X.out)
  have Ku12 := Lib.hid (Ku11.out.below X.out Ku11.out.lt)
  have Tu12 := Lib.hid (Tu11.out.later X.out)
  have Kc12 := Lib.hid (Kc11.out.below X.out Kc11.out.lt)
  have Tc12 := Lib.hid (Tc11.out.later X.out)
  have T112 := Lib.hid (T111.out.later X.out)
  have K112 := Lib.hid (K111.out.below X.out K111.out.lt)
  have B12 := Lib.hid (B11.out.trans (X.out.mono B11.out.size))
  generalize ((((((w11.alloc (.cells #[.int .i64 0, .int .i64 0, .int .i64 1, .int .i64 0] 40)).alloc (.cells #[.int .i64 0, .int .i64 0] 3)).alloc (.cells #[.int .i64 1, .int .i64 1] 3)).alloc (.cells #[.int .i64 0, .int .i64 1] 3)).alloc (.cells #[.int .i64 1, .slice (some ⟨w11.heap.size + 1, 0, none⟩) 2 2, .int .i64 1, .slice (some ⟨w11.heap.size + 1 + 1, 0, none⟩) 2 2, .int .i64 2, .slice (some ⟨w11.heap.size + 1 + 1 + 1, 0, none⟩) 2 2] 44)).alloc (.cells #[.int .i64 2, .slice (some ⟨w11.heap.size, 0, none⟩) 2 2, .slice (some ⟨w11.heap.size + 1 + 1 + 1 + 1, 0, none⟩) 3 3] 25)) = w12 at X Q0 Q1 Q2 Q3 Q4 Q5 LA12 Kx12 Kf12 Tf12 Ku12 Tu12 Kc12 Tc12 T112 K112 B12 ⊢
  have T212 := Lib.hid (show TS w12 _ _ TT from ⟨points_reads Q0, turned_reads Q4 Q1 Q2 Q3⟩)
  have K212 := Lib.hid Q5
  clear X Q0 Q1 Q2 Q3 Q4 Q5
  clear LA11 Kx11 Kf11 Tf11 Ku11 Tu11 Kc11 Tc11 T111 K111 B11
  generalize w11.heap.size + 1 + 1 + 1 + 1 + 1 = gz at *
  generalize w11.heap.size + 1 + 1 + 1 + 1 = gy at *
  generalize w11.heap.size = gs at *
  obtain ⟨a0, a1, a2, a3⟩ := Kx12.out.three
  obtain ⟨b0, b1, b2, b3⟩ := Kf12.out.three
  obtain ⟨d0, d1, d2, d3⟩ := K112.out.three
  have X12 := Lib.hid (Below.refl w12.heap.size w12)
  go_wp2_with (first
    | (go_at_call 10; (with_reducible refine (same_r Tc14.out T114.out).mono ?_); rintro e w15 ⟨rfl, hb⟩; have Kf15 := Lib.hid (Kf14.out.below hb Kf14.out.lt); have Tf15 := Lib.hid (Tf14.out.later hb); have Ku15 := Lib.hid (Ku14.out.below hb Ku14.out.lt); have Tu15 := Lib.hid (Tu14.out.later hb); have Kc15 := Lib.hid (Kc14.out.below hb Kc14.out.lt); have Tc15 := Lib.hid (Tc14.out.later hb); have T115 := Lib.hid (T114.out.later hb); have K115 := Lib.hid (K114.out.below hb K114.out.lt); have T215 := Lib.hid (T214.out.later hb); have K215 := Lib.hid (K214.out.below hb K214.out.lt); have X15 := Lib.hid (X14.out.trans (hb.mono X14.out.size)); clear hb)
    | (go_at_call 10; (with_reducible refine (same_t Tu13.out T213.out).mono ?_); rintro e w14 ⟨rfl, hb⟩; have Kf14 := Lib.hid (Kf13.out.below hb Kf13.out.lt); have Tf14 := Lib.hid (Tf13.out.later hb); have Ku14 := Lib.hid (Ku13.out.below hb Ku13.out.lt); have Tu14 := Lib.hid (Tu13.out.later hb); have Kc14 := Lib.hid (Kc13.out.below hb Kc13.out.lt); have Tc14 := Lib.hid (Tc13.out.later hb); have T114 := Lib.hid (T113.out.later hb); have K114 := Lib.hid (K113.out.below hb K113.out.lt); have T214 := Lib.hid (T213.out.later hb); have K214 := Lib.hid (K213.out.below hb K213.out.lt); have X14 := Lib.hid (X13.out.trans (hb.mono X13.out.size)); clear hb; obtain ⟨b0, b1, b2, b3⟩ := Kc14.out.three; obtain ⟨d0, d1, d2, d3⟩ := K114.out.three)
    | (go_at_call 10; (with_reducible refine (same_r Tf12.out T112.out).mono ?_); rintro e w13 ⟨rfl, hb⟩; have Kf13 := Lib.hid (Kf12.out.below hb Kf12.out.lt); have Tf13 := Lib.hid (Tf12.out.later hb); have Ku13 := Lib.hid (Ku12.out.below hb Ku12.out.lt); have Tu13 := Lib.hid (Tu12.out.later hb); have Kc13 := Lib.hid (Kc12.out.below hb Kc12.out.lt); have Tc13 := Lib.hid (Tc12.out.later hb); have T113 := Lib.hid (T112.out.later hb); have K113 := Lib.hid (K112.out.below hb K112.out.lt); have T213 := Lib.hid (T212.out.later hb); have K213 := Lib.hid (K212.out.below hb K212.out.lt); have X13 := Lib.hid (X12.out.trans (hb.mono X12.out.size)); clear hb; obtain ⟨b0, b1, b2, b3⟩ := Ku13.out.three; obtain ⟨d0, d1, d2, d3⟩ := K213.out.three))
  go_ret
  exact ⟨rfl, B12.out.trans (X15.out.mono B12.out.size)⟩
theorem aw_of {w : World} (hM : Mat w) : Aw w := fun w' hb => awake_any w' (hM.below hb hM.1)
end Go.Proofs.YthgnjjpkmikokaaDoor
