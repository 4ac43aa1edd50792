/- The walk of ruletable's readVariable at the words of the example. -/
import Derived.Test.YtbcihgimflljoaaGreatDoorRsy
import Derived.Test.YtbcihgimflljoaaGreatDoorStat
import Derived.Shelf.Slices.Turned
import Derived.Deep.RegionLaw
import Derived.Deep.AppendLies
namespace Go.Proofs.YtbcihgimflljoaaGreatDoor
open Go.RowKit Go.Shelf

theorem contains_none (x : ByteArray) (w : World) : Calls Tryz.prog 90 #[.slice none 0 0, .string x] w fun e w' => e = .returned (.bool false) ∧ w = w' := by
  have I := Lib.hid (show Calls Tryz.prog 118 #[.slice none 0 0, .string x] w fun e w' => e = .returned (.int .i64 (-1)) ∧ w' = w from Any.slices_Index_string_empty layIdx none 0 x w)
  go_enter Tryz.func90, Tryz.ntmps90
  go_wp2_with (go_at_call 118; (with_reducible refine I.out.mono ?_); rintro e w1 ⟨rfl, rfl⟩)
  go_ret
  exact ⟨rfl, rfl⟩
theorem mk_ints2 (w : World) : (Instr.makeSlice 27 (.int .i64 0) (.int .i64 2)).run Tryz.prog w = .ok (.slice (some ⟨w.heap.size, 0, none⟩) 0 2) (w.alloc (.cells #[.int .i64 0, .int .i64 0] 3)) := by kernel_rfl
theorem ints_parts : ∃ i, Tryz.prog.info? 27 = some i ∧ i.zero = some (Value.slice none 0 0) ∧ i.size = 1 ∧ i.bytes = 24 := info_parts (show (Tryz.prog.info? 27).map (fun i => (i.zero, i.size, i.bytes)) = some (some (.slice none 0 0), 1, 24) by kernel_rfl)
/-- a row of the call's own, as a block -/
theorem own_blk {w : World} {base g n c : Nat} {e : TypeId} {xs : List Value} (h : w.ownsRow base e 1 (.slice (some ⟨g, 0, none⟩) n c) n xs) : ∃ u, Blk w g e u ∧ base ≤ g ∧ ∀ (j : Nat) (x : Value), xs[j]? = some x → u[j]? = some x := by
  rcases h.2 with ⟨h1, _⟩ | ⟨g', cap, cur, h1, hb, hg, _, _, _, htk⟩
  · cases h1
  · injection h1 with h2 h3 h4
    injection h2 with h2
    injection h2 with h2
    subst h2
    refine ⟨cur, hg, hb, fun j x hx => ?_⟩
    have := congrArg (·[j]?) htk
    simp only [hx, List.getElem?_take] at this
    split at this
    · rw [Array.getElem?_toList] at this; exact this
    · cases this
/-- what readVariable has made -/
structure Va where
  gS : Nat
  cS : Nat
  uS : Array Value
  gN : Nat
  cN : Nat
  uN : Array Value
  gV : Nat
  cV : Nat
  uV : Array Value
def Va.good (R : Nat) (X : Va) : Prop := (R < X.gS ∧ R < X.gN ∧ R < X.gV) ∧ X.uS[0]? = some (.int .i64 0) ∧ X.uS[1]? = some (.int .i64 1) ∧ X.uN[0]? = some (.string (tx [97])) ∧ X.uV[0]? = some (.slice (some ⟨X.gS, 0, none⟩) 2 X.cS)
def Va.at_ (X : Va) (w : World) : Prop := Blk w X.gS 3 X.uS ∧ Blk w X.gN 9 X.uN ∧ Blk w X.gV 27 X.uV
set_option maxRecDepth 100000 in
set_option maxHeartbeats 4000000 in
theorem var_told (w : World) (R : Nat) (h : Value) :
    Told 64 w R (One R) [tx wVar, tx [97], tx [48], tx [49]] (rb 4 2 0 h (.slice none 0 0) (.slice none 0 0) (.slice none 0 0)) 0 (fun X : Va => rb 4 2 0 h (.slice (some ⟨X.gV, 0, none⟩) 1 X.cV) (.slice none 0 0) (.slice (some ⟨X.gN, 0, none⟩) 1 X.cN)) (fun X w' => X.at_ w') (fun X => X.good R) := by
  intro W g cap cur hg HR HG hne hcur hcap
  simp only [List.length_cons, List.length_nil] at hcap ⊢
  obtain ⟨i0, hi, hz0, hz1, hz2⟩ := info_parts Tryz.info_int
  have C0 := HG.cell 0
  have C1 := HG.cell 1
  have C2 := HG.cell 2
  have C3 := HG.cell 3
  rw [hcur 0 _ rfl] at C0
  rw [hcur 1 _ rfl] at C1
  rw [hcur 2 _ rfl] at C2
  rw [hcur 3 _ rfl] at C3
  have NA := fun w => Lib.hid (name_a w)
  have N0 := fun w => Lib.hid (number_ok (l := [48]) (d := 0) (by decide) (by decide +kernel) (by decide) (by decide) w)
  have N1 := fun w => Lib.hid (number_ok (l := [49]) (d := 1) (by decide) (by decide +kernel) (by decide) (by decide) w)
  obtain ⟨s1, hs1⟩ : ∃ s1, tx [97] = s1 := ⟨_, rfl⟩
  rw [hs1] at C1
  simp only [hs1] at NA
  have hNA := Lib.hid hs1
  clear hs1
  generalize tx [48] = s2 at C2 N0
  generalize tx [49] = s3 at C3 N1
  generalize tx wVar = s0 at C0
  have HRH := Lib.hid HR
  have HGH := Lib.hid HG
  have hRl := HR.lt
  have hgH := Lib.hid hg
  have K5 := HR.cell 5
  simp only [rb] at K5
  have hc1 : 2 ≤ cap := by omega
  have hc2 : (2 : Int) ≤ (cap : Int) := by omega
  clear hg HR HG hcur
  have mk := mk_ints2
  have HO := Lib.hid (World.ownsRow_made (base := W.heap.size) (e := 3) (size := 1) W #[.int .i64 0, .int .i64 0] 2 (Nat.le_refl _) (by unfold maxLen; omega) (by rfl))
  have HB0 := Lib.hid (Below.alloc (Below.refl W.heap.size W) (Nat.le_refl _) (.cells #[.int .i64 0, .int .i64 0] 3))
  go_enter Tryz.func64, Tryz.ntmps64
  go_wp2_with (go_at_call 89; (with_reducible refine (NA _).out.mono ?_); rintro e w1 ⟨rfl, rfl⟩)
  generalize W.alloc (.cells #[.int .i64 0, .int .i64 0] 3) = W0 at HO HB0 ⊢
  have HG0 := Lib.hid (HGH.out.below HB0.out HGH.out.lt)
  have D2 := (HG0.out.cell 2).trans ((HGH.out.cell 2).symm.trans C2)
  refine wp_loop_rounds 3 ?_
  rw [rounds_succ]
  go_wp2_with (first
    | (go_at_call 88; (with_reducible refine (N0 _).out.mono ?_); rintro e w1 ⟨rfl, hb⟩; have HB1 := Lib.hid (HB0.out.trans (hb.mono HB0.out.size)); have HO1 := Lib.hid (own_below HO.out hb); have s1z := HB1.out.size; clear hb)
    | (at_builtin; refine wpList_append1 rfl _ _ 27 rfl W.heap.size 3 i0 (.int .i64 0) 8 Tryz.underlying27 hi hz0 hz1 hz2 rfl _ 0 2 _ rfl HO1.out (.int .i64 0) rfl rfl (by unfold maxLen; omega) (by omega) s1z ?_; intro g2 c2 w2 hown2 hbel2; have HO2 := Lib.hid hown2; have HB2 := Lib.hid (HB1.out.trans hbel2); clear hown2 hbel2))
  have HG2 := Lib.hid (HGH.out.below HB2.out HGH.out.lt)
  have D3 := (HG2.out.cell 3).trans ((HGH.out.cell 3).symm.trans C3)
  clear D2
  rw [rounds_succ]
  go_wp2_with (first
    | (go_at_call 88; (with_reducible refine (N1 _).out.mono ?_); rintro e w3 ⟨rfl, hb⟩; have HB3 := Lib.hid (HB2.out.trans (hb.mono HB2.out.size)); have HO3 := Lib.hid (own_below HO2.out hb); have s3z := HB3.out.size; clear hb)
    | (at_builtin; refine wpList_append1 rfl _ _ 27 rfl W.heap.size 3 i0 (.int .i64 0) 8 Tryz.underlying27 hi hz0 hz1 hz2 rfl _ 1 c2 _ rfl HO3.out (.int .i64 1) rfl rfl (by unfold maxLen; omega) (by omega) s3z ?_; intro gS cS w4 hown4 hbel4; have HO4 := Lib.hid hown4; have HB4 := Lib.hid (HB3.out.trans hbel4); clear hown4 hbel4))
  rw [rounds_succ]
  clear D3 HO HO1 HO2 HO3 HG0 HG2 HB0 HB1 HB2 HB3 N0 N1
  have HR4 := Lib.hid (HRH.out.below HB4.out HRH.out.lt)
  have HG4 := Lib.hid (HGH.out.below HB4.out HGH.out.lt)
  have e1 := HR4.out.cell 1
  have e5 := HR4.out.cell 6
  have D1 := (HG4.out.cell 1).trans ((HGH.out.cell 1).symm.trans C1)
  simp only [rb] at e1 e5
  have CN := fun w => Lib.hid (contains_none s1 w)
  obtain ⟨j0, ji, jz0, jz1, jz2⟩ := str_parts
  go_wp2_with fail
  go_quiet ((go_at_call 90; exact Calls.quiet_of_same ((CN _).out.mono fun _ _ h => ⟨h.1, h.2.symm⟩)))
  have HO4 := Lib.hid (show (w4.drewN nq).ownsRow W.heap.size 3 1 (.slice (some ⟨gS, 0, none⟩) 2 cS) 2 (il [0, 1]) from HO4.out)
  have HB4 := Lib.hid (below_drewN HB4.out nq)
  have HR4 := Lib.hid (HR4.out.drewN nq)
  have HG4 := Lib.hid (HG4.out.drewN nq)
  generalize w4.drewN nq = w5 at *
  have f1 := HR4.out.cell 1
  have f6 := HR4.out.cell 6
  simp only [rb] at f1 f6
  have HQ := Reads.of_own HO4.out
  have AL := Lib.hid (allStates_any (some ⟨gS, 0, none⟩) 2 cS _ [0, 1] w5 2 HQ (by omega))
  have AS := Lib.hid (ascends_any (some ⟨gS, 0, none⟩) 2 cS [0, 1] w5 HQ (by omega))
  rw [show als 2 [0, 1] = true by decide] at AL
  rw [show ups [0, 1] = true by decide] at AS
  clear HQ
  go_wp2_with (first
    | (go_at_call 13; (with_reducible refine AL.out.mono ?_); rintro e w6 ⟨rfl, rfl⟩)
    | (go_at_call 14; (with_reducible refine AS.out.mono ?_); rintro e w6 ⟨rfl, hb⟩; have HB6 := Lib.hid (HB4.out.trans (hb.mono HB4.out.size)); have HO6 := Lib.hid (own_below HO4.out hb); clear hb; have HR6 := Lib.hid (HRH.out.below HB6.out HRH.out.lt); have g6 := HR6.out.cell 6; simp only [rb] at g6))
  have HG6 := Lib.hid (HGH.out.below HB6.out HGH.out.lt)
  have g1 := (HG6.out.cell 1).trans ((HGH.out.cell 1).symm.trans C1)
  have g6a := (HR6.out.alloc (.cells #[.string s1] 9)).cell 6
  have s6 := HB6.out.size
  simp only [rb] at g6a
  obtain ⟨uS, hS6, hSb, hSu⟩ := own_blk HO6.out
  have HS6 := Lib.hid hS6
  clear hS6
  clear D1 f1 f6 e1 e5 K5 C0 C1 C2 C3 AL AS CN
  obtain ⟨k0, ki, kz0, kz1, kz2⟩ := ints_parts
  go_region_law (first
    | (refine step_append_lies _ (by rfl) _ _ _ (by rfl) W.heap.size 9 j0 (.string ByteArray.empty) 1 16 Tryz.underlying71 ji jz0 jz1 jz2 rfl (by decide) (.slice none 0 0) 0 [] (by rfl) (World.ownsRow_nil _ _ _ _) ⟨w6.heap.size, 0, none⟩ 1 1 [.string s1] (by rfl) (by rfl) (World.news_of_block (cs := #[.string s1]) (t := 9) (fr := (0, 0)) (heap_alloc_new w6 _)) (by simp [Value.oneCell']) (by omega) (by unfold maxLen; omega) (by omega) (by simp; omega) (w6.heap.size + 1) (by simp) ?_; intro gN cN w7 hownN hgrowN hatN hltN; have HR7 := Lib.hid (show Blk w7 R _ _ from (hgrowN.block R (by have := HR6.out.lt; simp; omega) (fun e => by cases e)).trans (HR6.out.alloc _)); have h6 := HR7.out.cell 6; have h6f := HR7.out.frozen 6; simp only [rb] at h6)
    | fail)
  all_goals
    obtain ⟨uN, hN7, hNb, hNu⟩ := own_blk hownN
    have hRW : R < W.heap.size := hRl
    have HS8 := Lib.hid (show Blk (w7.setCell ⟨R, 6, none⟩ (.slice (some ⟨gN, 0, none⟩) 1 cN)) gS 3 uS from Blk.far ((hgrowN.block gS (by have := HS6.out.lt; simp; omega) (fun e => by cases e)).trans (HS6.out.alloc _)) (by show gS ≠ R; omega) _)
    have HN8 := Lib.hid (hN7.far (p := ⟨R, 6, none⟩) (by show gN ≠ R; omega) (.slice (some ⟨gN, 0, none⟩) 1 cN))
    have HR8 := Lib.hid (HR7.out.set_ 6 (.slice (some ⟨gN, 0, none⟩) 1 cN))
    have HB7 := Below.grown (B := W.heap.size) ((HB6.out.alloc s6 (.cells #[.string s1] 9)).drew) hgrowN (by simp; omega) (fun k e => by cases e)
    have GR8 := Lib.hid (grown_trans (grown_below HB7) (grown_set w7 R 6 (.slice (some ⟨gN, 0, none⟩) 1 cN)))
    have s8 := GR8.out.size
    clear hownN hgrowN hatN hltN hN7 HB7 HR7 h6 h6f HR6 HG6 HS6 g1 g6 g6a HO6 HB6 s6
    try simp only [Nat.zero_add]
    generalize w7.setCell ⟨R, 6, none⟩ (.slice (some ⟨gN, 0, none⟩) 1 cN) = w8 at *
    have k4 := HR8.out.cell 4
    have k4a := (HR8.out.alloc (.cells #[.slice (some ⟨gS, 0, none⟩) 2 cS] 27)).cell 4
    simp only [rb] at k4 k4a
    go_wp2_with (at_builtin; refine wpList_append1g rfl _ _ 23 rfl W.heap.size 27 k0 (.slice none 0 0) 24 Tryz.underlying23 ki kz0 kz1 kz2 rfl none 0 0 [] rfl (World.ownsRow_nil _ _ _ _) (.slice (some ⟨gS, 0, none⟩) 2 cS) rfl rfl (by unfold maxLen; omega) (by omega) s8 ?_; intro gV cV w9 hownV hbelV hgrowV; have HR9 := Lib.hid (show Blk w9 R _ _ from (hgrowV.block R (by have := HR8.out.lt; simp; omega) (fun e => by cases e)).trans (HR8.out.alloc _)); have m4 := HR9.out.cell 4; have m4f := HR9.out.frozen 4; simp only [rb] at m4)
    obtain ⟨uV, hV9, hVb, hVu⟩ := own_blk hownV
    go_ret
    have HS9 := Blk.far (p := ⟨R, 4, none⟩) ((hgrowV.block gS (by have := HS8.out.lt; simp; omega) (fun e => by cases e)).trans (HS8.out.alloc _)) (by show gS ≠ R; omega) (.slice (some ⟨gV, 0, none⟩) 1 cV)
    have HN9 := Blk.far (p := ⟨R, 4, none⟩) ((hgrowV.block gN (by have := HN8.out.lt; simp; omega) (fun e => by cases e)).trans (HN8.out.alloc _)) (by show gN ≠ R; omega) (.slice (some ⟨gV, 0, none⟩) 1 cV)
    have HV9 := hV9.far (p := ⟨R, 4, none⟩) (by show gV ≠ R; omega) (.slice (some ⟨gV, 0, none⟩) 1 cV)
    refine ⟨⟨gS, cS, uS, gN, cN, uN, gV, cV, uV⟩, ⟨⟨by show R < gS; omega, by show R < gN; omega, by show R < gV; omega⟩, hSu 0 _ rfl, hSu 1 _ rfl, ?_, hVu 0 _ rfl⟩, rfl, ?_, HR9.out.set_ 4 _, HS9, HN9, HV9⟩
    · show uN[0]? = some (.string (tx [97]))
      rw [hNu 0 _ rfl, hNA.out]
    · refine grw_one ?_
      exact grown_trans GR8.out (grown_trans (grown_below ((((Below.refl w8.heap.size w8).alloc (Nat.le_refl _) _)).trans ⟨hgrowV.os, hgrowV.tape, hgrowV.output, hgrowV.size, fun b hb => hgrowV.block b (by simp; omega) (fun e => by cases e)⟩)) (grown_set w9 R 4 _))
end Go.Proofs.YtbcihgimflljoaaGreatDoor
