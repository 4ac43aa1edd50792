/- The walk of the fixed examples. -/
import Derived.Test.YtckkbeknjipddaaDoorAliveA
import Derived.Deep.DeepCutAuto
namespace Go.Proofs.YtckkbeknjipddaaDoor
open Go.RowKit

attribute [local go_sem ↓] Go.wp_at_zero Go.wp_at_succ

theorem blk_two {w W : World} {T : TypeId} {a b : Value} (h : Below (w.heap.size + 1) (w.alloc (.cells #[a, b] T)) W) : W.cell? ⟨w.heap.size, 0, none⟩ = some a ∧ W.cell? ⟨w.heap.size, 1, none⟩ = some b ∧ w.heap.size < W.heap.size := by
  have x := ((Blk.new w T #[a, b]).below h (by omega)).two
  exact ⟨x.1, x.2.1, x.2.2.2.2⟩

set_option maxRecDepth 100000 in
set_option maxHeartbeats 4000000 in
theorem alive_any (w : World) : Calls Tryd.prog 5 #[] w fun e w' => e = .returned (.bool true) ∧ Below w.heap.size w w' := by
  have qp : ∀ W : World, Calls Tryd.prog 6 #[.string ⟨#[49, 56, 52, 52, 54, 55, 52, 52, 48, 55, 51, 55, 48, 57, 53, 53, 49, 54, 49, 54]⟩] W (NumPost false [0, 0, 1] 0 W) := parse_ex1
  have QP := Lib.hid qp
  clear qp
  go_enter Tryd.func5, Tryd.ntmps5
  go_wp2_with (first | (go_at_call 13; (with_reducible refine (from_one _).mono ?_); rintro e w1 ⟨A1, c1, rfl, hcc1, hr1, hb1, _⟩; have HR1 := Lib.hid (show Reads w1 w1.heap.size A1 1 (u32s [1]) from hr1); clear hr1) | (go_at_call 12; (with_reducible refine (shift_pos A1 c1 w1.heap.size w1 HR1.out (Nat.le_refl _)).mono ?_); rintro e w2 ⟨A2, c2, rfl, hcc2, hr2, hb2, _⟩; have HR2 := Lib.hid (show Reads w2 w2.heap.size A2 3 (u32s [0, 0, 1]) from hr2); clear hr2) | (go_at_call 6; (with_reducible refine (QP.out _).mono ?_); rintro e w3 ⟨A3, c3, rfl, hcc3, hr3, hb3, _⟩; have HR3 := Lib.hid (show Reads w3 w3.heap.size A3 3 (u32s [0, 0, 1]) from hr3); clear hr3; have ha3 := hb3.mono (show w2.heap.size + 1 ≤ _ by simp); obtain ⟨a31, a32, a33⟩ := blk_two ha3))
  have hs3 := hb3.size
  simp at hs3
  have hra3 := (HR2.out.alloc (Nat.le_refl _) (.cells #[.bool false, .slice A2 3 c2] 24)).below (hb3.mono (by simp))
  have ha3b := ha3.alloc (show w2.heap.size + 1 ≤ w3.heap.size by omega) (.cells #[.bool false, .slice A3 3 c3] 24)
  have hra3b := hra3.alloc (by omega) (.cells #[.bool false, .slice A3 3 c3] 24)
  obtain ⟨wb, hwb⟩ : ∃ wb, wb = w3.alloc (.cells #[.bool false, .slice A3 3 c3] 24) := ⟨_, rfl⟩
  have hsb : wb.heap.size = w3.heap.size + 1 := by rw [hwb]; simp
  have hb3b : Blk wb w3.heap.size 24 #[.bool false, .slice A3 3 c3] := by rw [hwb]; exact Blk.new _ _ _
  have hr3b : Reads wb wb.heap.size A3 3 (u32s [0, 0, 1]) := by rw [hwb]; exact (HR3.out.alloc (Nat.le_refl _) _).more (by simp)
  have hba3b : Below w.heap.size w wb := by
    rw [hwb]
    exact ((((hb1.trans (hb2.mono hb1.size)).alloc (Nat.le_trans hb1.size hb2.size) _).trans (hb3.mono (by have := hb1.size; have := hb2.size; simp; omega)))).alloc (by have := hb1.size; have := hb2.size; omega) _
  rw [← hwb] at ha3b hra3b ⊢
  have HSB := Lib.hid hsb
  have HWB := Lib.hid hwb
  have HB3 := Lib.hid hb3b
  clear hwb hsb hb3b
  obtain ⟨a3b1, a3b2, a3b3⟩ := blk_two ha3b
  go_cut [5, 6] (fun s5 s6 wx => ∃ (g : Nat) (A5 : Option Addr) (c5 : Nat), s5 = .pointer (some ⟨g, 0, none⟩) ∧ s6 = .int .i64 0 ∧ wb.heap.size ≤ g ∧ Blk wx g 24 #[.bool false, .slice A5 2 c5] ∧ Reads wx wx.heap.size A5 2 (u32s [4294967295, 4294967295]) ∧ Below wb.heap.size wb wx)
  case first =>
    go_region_held3 (fun w' => w'.cell? ⟨w2.heap.size, 0, none⟩ = some (.bool false) ∧ w'.cell? ⟨w2.heap.size, 1, none⟩ = some (.slice A2 3 c2))
      (first | exact ⟨far_cell (far_cell a61 (by omega) _) (by omega) _, far_cell (far_cell a62 (by omega) _) (by omega) _⟩ | exact ⟨far_cell (far_cell a71 (by omega) _) (by omega) _, far_cell (far_cell a72 (by omega) _) (by omega) _⟩ | exact ⟨a51, a52⟩ | exact ⟨a61, a62⟩ | exact ⟨a71, a72⟩ | exact ⟨a41, a42⟩ | exact ⟨b41, b42⟩ | exact ⟨a3b1, a3b2⟩ | go_keep)
      (first | (go_at_call 13; (with_reducible refine (from_m1 wb.drew).mono ?_); rintro e w4 ⟨A4, c4, rfl, hcc4, hr4, hb4, _⟩; have HR4 := Lib.hid (show Reads w4 w4.heap.size A4 1 (u32s [1]) from hr4); clear hr4; have ha4 := ha3b.drew.trans (hb4.mono (show w2.heap.size + 1 ≤ wb.heap.size by omega)); obtain ⟨a41, a42, a43⟩ := blk_two ha4; have hra4 := (hra3b.drew).below (hb4.mono (show w2.heap.size ≤ wb.heap.size by omega))) | (go_at_call 14; (with_reducible refine (add_ex A2 A4 c2 c4 w4.heap.size w4 (hra4.more (by omega)) HR4.out (Nat.le_refl _)).mono ?_); rintro e w5 ⟨A5, c5, rfl, hcc5, hr5, hb5, _⟩; have HR5 := Lib.hid (show Reads w5 w5.heap.size A5 2 (u32s [4294967295, 4294967295]) from hr5); clear hr5; have ha5 := ha4.trans (hb5.mono (show w2.heap.size + 1 ≤ _ by omega)); obtain ⟨a51, a52, a53⟩ := blk_two ha5) | (go_at_call 14; (with_reducible refine (add_ex A2 A4 c2 c4 w4.heap.size (w4.alloc (.cells #[.bool false, .slice none 0 0] 24)) ((hra4.more (by omega)).alloc (Nat.le_refl _) _) (HR4.out.alloc (Nat.le_refl _) _) (by simp)).mono ?_); rintro e w6 ⟨A5, c5, rfl, hcc5, hr5, hb6, hl6⟩; have HL6 := Lib.hid hl6; clear hl6; have HR6 := Lib.hid (show Reads w6 w6.heap.size A5 2 (u32s [4294967295, 4294967295]) from hr5); clear hr5; have ha6 := (ha4.alloc (show w2.heap.size + 1 ≤ _ by omega) (.cells #[.bool false, .slice none 0 0] 24)).trans (hb6.mono (show w2.heap.size + 1 ≤ _ by simp; omega)); obtain ⟨a61, a62, a63⟩ := blk_two ha6; have hk6 := (Blk.new w4 24 #[.bool false, .slice none 0 0]).below hb6 (by simp); obtain ⟨k61, k62, k63, k64, k65⟩ := hk6.two) | (go_at_call 13; (with_reducible refine (from_m1 (wb.alloc (.cells #[.bool false, .slice none 0 0] 24)).drew).mono ?_); rintro e w7 ⟨A4, c4, rfl, hcc4, hr4, hb7, _⟩; have HR7 := Lib.hid (show Reads w7 w7.heap.size A4 1 (u32s [1]) from hr4); clear hr4; have ha7 := (ha3b.alloc (show w2.heap.size + 1 ≤ wb.heap.size by omega) (.cells #[.bool false, .slice none 0 0] 24)).drew.trans (hb7.mono (show w2.heap.size + 1 ≤ _ by simp; omega)); obtain ⟨b41, b42, b43⟩ := blk_two ha7; have hra7 := ((hra3b.alloc (show _ ≤ wb.heap.size by omega) (.cells #[.bool false, .slice none 0 0] 24)).drew).below (hb7.mono (show w2.heap.size ≤ _ by simp; omega))) | (go_at_call 14; (with_reducible refine (add_ex A2 A4 c2 c4 w7.heap.size w7 (hra7.more (by omega)) HR7.out (Nat.le_refl _)).mono ?_); rintro e w8 ⟨A5, c5, rfl, hcc5, hr5, hb8, hl8⟩; have HL8 := Lib.hid hl8; clear hl8; have HR8 := Lib.hid (show Reads w8 w8.heap.size A5 2 (u32s [4294967295, 4294967295]) from hr5); clear hr5; have ha8 := ha7.trans (hb8.mono (show w2.heap.size + 1 ≤ _ by omega)); obtain ⟨a71, a72, a73⟩ := blk_two ha8; have hk8 := (((Blk.new wb 24 #[.bool false, .slice none 0 0]).drew).below hb7 (by simp)).below hb8 (by have := hb7.size; simp at this; omega); obtain ⟨k81, k82, k83, k84, k85⟩ := hk8.two))
    · go_wp2_with fail
      go_meet
      have hbb : Below wb.heap.size wb w5 := (((Below.refl _ _).drew).trans (hb4.mono (Nat.le_refl _))).trans (hb5.mono hb4.size)
      exact ⟨w5.heap.size, A5, c5, rfl, rfl, hbb.size, Blk.new _ _ _, (HR5.out.alloc (Nat.le_refl _) _).more (by simp), hbb.alloc hbb.size _⟩
    · go_wp2_with fail
      go_meet
      have hbb : Below wb.heap.size wb w6 := ((((Below.refl _ _).drew).trans (hb4.mono (Nat.le_refl _))).alloc hb4.size _).trans (hb6.mono (by have := hb4.size; simp at this; simp; omega))
      have hg : wb.heap.size ≤ w4.heap.size := hb4.size
      have hne : ∀ ad : Addr, 0 < 2 → A5 = some ad → ad.block ≠ w4.heap.size := by
        intro ad h0 he hb
        have := HL6.out ad (by decide) he
        simp at this
        omega
      exact ⟨w4.heap.size, A5, c5, rfl, rfl, hg, (hk6.set_ 0 _).set_ 1 _, ((HR6.out.far (p := ⟨w4.heap.size, 0, none⟩) hne _).far (p := ⟨w4.heap.size, 1, none⟩) hne _).more (by simp [World.setCell]), (hbb.setCell (p := ⟨w4.heap.size, 0, none⟩) hg _).setCell (p := ⟨w4.heap.size, 1, none⟩) hg _⟩
    · go_wp2_with fail
      go_meet
      have h7 := hb7.size
      simp at h7
      have hbb : Below wb.heap.size wb w8 := ((((Below.refl _ _).alloc (Nat.le_refl _) _).drew).trans (hb7.mono (by simp))).trans (hb8.mono (by omega))
      have hne : ∀ ad : Addr, 0 < 2 → A5 = some ad → ad.block ≠ wb.heap.size := by
        intro ad h0 he hb
        have := HL8.out ad (by decide) he
        omega
      exact ⟨wb.heap.size, A5, c5, rfl, rfl, Nat.le_refl _, (hk8.set_ 0 _).set_ 1 _, ((HR8.out.far (p := ⟨wb.heap.size, 0, none⟩) hne _).far (p := ⟨wb.heap.size, 1, none⟩) hne _).more (by simp [World.setCell]), (hbb.setCell (p := ⟨wb.heap.size, 0, none⟩) (Nat.le_refl _) _).setCell (p := ⟨wb.heap.size, 1, none⟩) (Nat.le_refl _) _⟩
  case rest =>
    obtain ⟨g, A5, c5, rfl, rfl, hgw, hblk, hrd5, hbc⟩ := hcut
    have hsa := hb1.size
    have hsb2 := hb2.size
    have KA := Lib.hid (((Blk.new w2 24 #[.bool false, .slice A2 3 c2]).below ha3b (by omega)).below hbc (by omega))
    have KB := Lib.hid (HB3.out.below hbc (by rw [HSB.out]; omega))
    have KC := Lib.hid hblk
    have RA := Lib.hid (((hra3b.more (show w2.heap.size ≤ wb.heap.size by omega)).below hbc).more hbc.size)
    have RB := Lib.hid ((hr3b.below hbc).more hbc.size)
    have RC := Lib.hid hrd5
    have qt : ∀ (A : Option Addr) (c B : Nat) (w : World), Reads w B A 3 (u32s [0, 0, 1]) → B ≤ w.heap.size → 3 ≤ c → Calls Tryd.prog 8 #[.agg #[.bool false, .slice A 3 c]] w fun e w' => e = .returned (.string ⟨#[49, 56, 52, 52, 54, 55, 52, 52, 48, 55, 51, 55, 48, 57, 53, 53, 49, 54, 49, 54]⟩) ∧ Below w.heap.size w w' := text_ex
    have QT := Lib.hid qt
    have qz : ∀ W : World, Calls Tryd.prog 20 #[.agg #[.bool false, .slice (some ⟨W.heap.size, 0, none⟩) 1 1]] (W.alloc (.cells #[.int .u32 0] 42)) fun e w' => e = .returned (.bool false) ∧ Below (W.alloc (.cells #[.int .u32 0] 42)).heap.size (W.alloc (.cells #[.int .u32 0] 42)) w' := fun W =>
      right_any false (some ⟨W.heap.size, 0, none⟩) 1 1 (W.heap.size + 1) [0] _ (reads_lit W #[.int .u32 0] 42 1 (by decide) rfl) (by simp) (by decide)
    have QZ := Lib.hid qz
    have HBC := Lib.hid (hba3b.trans (hbc.mono hba3b.size))
    have HC2 := Lib.hid (show 3 ≤ c2 from hcc2)
    have hba3b' : w.heap.size ≤ wc.heap.size := Nat.le_trans hba3b.size hbc.size
    clear qt qz hblk hrd5 hra3b hr3b hba3b ha3b hra3 ha3
    go_wp2_with (first | (go_at_call 13; (with_reducible refine (from_m7 wc).mono ?_); rintro e v1 ⟨B1, d1, rfl, hdd1, hq1, hv1, _⟩; have HQ1 := Lib.hid (show Reads v1 v1.heap.size B1 1 (u32s [7]) from hq1); clear hq1) | (go_at_call 15; (with_reducible refine (div_ex B1 d1 v1.heap.size v1 HQ1.out (Nat.le_refl _)).mono ?_); rintro e v2 ⟨B2, d2, rfl, hdd2, hq2, hv2⟩; have HQ2 := Lib.hid hq2; clear hq2; have hW2 := hv1.trans (hv2.mono hv1.size)) | (go_at_call 16; (with_reducible refine (int_ex B2 d2 v2.heap.size _ (HQ2.out.alloc (Nat.le_refl _) _) (by simp)).mono ?_); rintro e v3 ⟨rfl, hv3⟩; have hW3 := (hW2.alloc hW2.size (.cells #[.bool true, .slice B2 1 d2] 24)).trans (hv3.mono (by have := hW2.size; simp; omega))) | (go_at_call 6; (with_reducible refine (parse_ex2 v3).mono ?_); rintro e v4 ⟨B4, d4, rfl, hdd4, _, hv4, _⟩; have hW4 := hW3.trans (hv4.mono hW3.size); obtain ⟨p41, p42, p43, p44, p45⟩ := (KA.out.below hW4 KA.out.lt).two; have hs4 := hW4.size) | (go_at_call 17; (with_reducible refine (mul_bad A2 3 c2 wc.heap.size [0, 0, 1] _ ((RA.out.below hW4).alloc hW4.size _) (by simp; omega) (by decide) (by decide)).mono ?_); rintro e v5 ⟨rfl, hv5⟩; have hW5 := (hW4.alloc hW4.size (.cells #[.bool false, .slice B4 0 d4] 24)).trans (hv5.mono (by simp; omega)); obtain ⟨p51, p52, p53, p54, p55⟩ := (KA.out.below hW5 KA.out.lt).two; obtain ⟨q51, q52, q53, q54, q55⟩ := (KB.out.below hW5 KB.out.lt).two; have hs5 := hW5.size) | (go_at_call 9; (with_reducible refine (same_yes false A2 A3 3 c2 c3 wc.heap.size [0, 0, 1] _ ((RA.out.below hW5).alloc hW5.size _) ((RB.out.below hW5).alloc hW5.size _) (by simp; omega) (by decide)).mono ?_); rintro e v6 ⟨rfl, hv6⟩; have hW6 := (hW5.alloc hW5.size (.cells #[.bool false, .slice none 0 0] 24)).trans (hv6.mono (by simp; omega)); obtain ⟨p61, p62, p63, p64, p65⟩ := (KA.out.below hW6 KA.out.lt).two; have hs6 := hW6.size) | (go_at_call 8; (with_reducible refine (QT.out A2 c2 wc.heap.size v6 (RA.out.below hW6) hW6.size HC2.out).mono ?_); rintro e v7 ⟨rfl, hv7⟩; have hW7 := hW6.trans (hv7.mono hW6.size); obtain ⟨p71, p72, p73, p74, p75⟩ := (KA.out.below hW7 KA.out.lt).two; obtain ⟨r71, r72, r73, r74, r75⟩ := (KC.out.below hW7 KC.out.lt).two; have hs7 := hW7.size) | (go_at_call 18; (with_reducible refine (cmp_pos_pos A2 A5 3 2 c2 c5 wc.heap.size [0, 0, 1] [4294967295, 4294967295] v7 (RA.out.below hW7) (RC.out.below hW7) hW7.size (by decide) (by decide) (by decide) (by decide) (by decide)).mono ?_); rintro e v8 ⟨rfl, hv8⟩; have hW8 := hW7.trans (hv8.mono hW7.size)) | (go_at_call 13; (with_reducible refine (from_m1 v8).mono ?_); rintro e v9 ⟨B9, d9, rfl, hdd9, hq9, hv9, _⟩; have HQ9 := Lib.hid (show Reads v9 v9.heap.size B9 1 (u32s [1]) from hq9); clear hq9; have hW9 := hW8.trans (hv9.mono hW8.size)) | (go_at_call 19; (with_reducible refine (bit_ex B9 d9 v9.heap.size v9 HQ9.out (Nat.le_refl _)).mono ?_); rintro e v10 ⟨rfl, hv10⟩; have hW10 := hW9.trans (hv10.mono hW9.size); obtain ⟨p101, p102, p103, p104, p105⟩ := (KA.out.below hW10 KA.out.lt).two) | (go_at_call 20; (with_reducible refine (right_ok false A2 3 c2 wc.heap.size [0, 0, 1] wc RA.out (Nat.le_refl _) (by decide) true (by decide) v10 hW10).mono ?_); rintro e v11 ⟨rfl, hv11⟩; have hW11 := hW10.trans (hv11.mono hW10.size)) | (go_at_call 20; (with_reducible refine (QZ.out v11).mono ?_); rintro e v12 ⟨rfl, hv12⟩; have hW12 := (hW11.alloc hW11.size (.cells #[.int .u32 0] 42)).trans (hv12.mono (by have := hW11.size; simp; omega))))
    go_ret
    exact ⟨rfl, HBC.out.trans (hW12.mono (by have := hba3b'; omega))⟩

end Go.Proofs.YtckkbeknjipddaaDoor
