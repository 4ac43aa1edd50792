/- The walk of the law. -/
import Derived.Test.YtckkbeknjipddaaDoorAlive
import Derived.Test.YtckkbeknjipddaaDoorLawA
import Derived.Test.YtckkbeknjipddaaDoorRText
import Derived.Test.YtckkbeknjipddaaDoorRParse
namespace Go.Proofs.YtckkbeknjipddaaDoor
open Go.RowKit

theorem text_size {neg : Bool} {xs : List Nat} {t : ByteArray} (ht : TextOf neg xs t) (hx : ∀ d ∈ xs, d < 4294967296) : t.size ≤ 2000 := by
  rcases ht with ⟨_, h2⟩ | ⟨_, _, h3⟩ | ⟨hr, _, u, h4, h5⟩
  · rw [← bs_len, h2]; decide
  · rw [← bs_len, h3]; decide
  · obtain ⟨hc, h64, _⟩ := right_can hr hx
    have hlim : val 4294967296 xs < lim := by
      have := mt (long32 hc).2 (by omega)
      omega
    have h6 := h4.size hlim
    have h7 := congrArg List.length h5
    rw [bs_len, List.length_append, bs_len] at h7
    have h8 : (if neg = true then [45] else []).length ≤ 1 := by cases neg <;> simp
    omega
theorem parse_len {l : List Nat} {neg : Bool} {xs : List Nat} {err : Nat} (h : PSpec l neg xs err) : xs.length ≤ maxLen := by
  unfold maxLen
  rcases h with ⟨_, _, _, h4⟩ | ⟨_, _, _, _, h4⟩ | ⟨_, hl, _, _, hc, hv⟩
  · rw [h4]; decide
  · rw [h4]; decide
  · rcases Nat.lt_or_ge 64 xs.length with h | h
    · have := (long32 hc).1 h
      omega
    · omega
theorem rright_ok (neg : Bool) (A : Option Addr) (n c B : Nat) (xs : List Nat) (w : World) (h : Reads w B A n (u32s xs)) (hB : B ≤ w.heap.size) (hn : n ≤ maxLen) (r : Bool) (hr : rightB neg xs = r) :
    ∀ W, Below w.heap.size w W → Calls Tryd.prog 11 #[.agg #[.bool neg, .slice A n c]] W fun e w' => e = .returned (.bool r) ∧ Below W.heap.size W w' := by
  intro W hW
  have := rright_any neg A n c B xs W (h.below (hW.mono hB)) (Nat.le_trans hB hW.size) hn
  rwa [hr] at this

set_option maxRecDepth 100000 in
set_option maxHeartbeats 8000000 in
theorem law_any (neg : Bool) (A : Option Addr) (c B : Nat) (xs : List Nat) (s : ByteArray) (w : World) (h : Reads w B A xs.length (u32s xs)) (hB : B ≤ w.heap.size) (hn : xs.length ≤ maxLen) (hc : xs.length ≤ c) (hx : ∀ d ∈ xs, d < 4294967296) (hs : s.size ≤ maxLen) :
    Calls Tryd.prog 3 #[.agg #[.bool neg, .slice A xs.length c], .string s] w fun e w' => e = .returned (.bool true) ∧ Below w.heap.size w w' := by
  have qsh : ∀ W, Calls Tryd.prog 4 #[.agg #[.bool neg, .slice A xs.length c]] W fun e w' => e = .returned (.bool (decide (xs.length ≤ 100))) ∧ Below W.heap.size W w' := fun W => short_any neg A xs.length c W hn
  have qt : ∀ W, Below w.heap.size w W → Calls Tryd.prog 8 #[.agg #[.bool neg, .slice A xs.length c]] W fun e w' => ∃ t, e = .returned (.string t) ∧ TextOf neg xs t ∧ Below W.heap.size W w' := fun W hW => text_any neg A xs.length c B xs W (h.below (hW.mono hB)) (Nat.le_trans hB hW.size) hn hc hx
  have QT := Lib.hid qt
  have hs' := hs
  unfold maxLen at hs'
  have bt1 : Below w.heap.size w (w.alloc (.cells #[.bool neg, .slice A xs.length c] 24)) := (Below.refl _ _).alloc (Nat.le_refl _) _
  have BT1 := Lib.hid bt1
  clear bt1 qt
  by_cases h100 : xs.length ≤ 100
  · have hd : decide (xs.length ≤ 100) = true := by simpa using h100
    rw [hd] at qsh
    have QSH := Lib.hid qsh
    clear qsh hd
    by_cases h2000 : 2000 < s.size
    · go_enter Tryd.func3, Tryd.ntmps3
      go_wp2_with (first | (go_at_call 4; (with_reducible refine (QSH.out _).mono ?_); rintro e w0 ⟨rfl, hb0⟩; have hk0 := hb0.mono (show w.heap.size + 1 ≤ _ by simp); obtain ⟨y01, y02, y03⟩ := blk_two hk0) | (go_at_call 5; (with_reducible refine (alive_any _).mono ?_); rintro e w1 ⟨rfl, hb1⟩))
      go_ret
      exact ⟨rfl, (BT1.out.trans (hb0.mono (by simp))).trans (hb1.mono (by have := hb0.size; simp at this; omega))⟩
    · by_cases hR : rightB neg xs = true
      · have QR := Lib.hid (rright_ok neg A xs.length c B xs w h hB hn true hR)
        have HRR := Lib.hid hR
        clear hR
        go_enter Tryd.func3, Tryd.ntmps3
        go_wp2_with (go_at_call 4; (with_reducible refine (QSH.out _).mono ?_); rintro e w0 ⟨rfl, hb0⟩; have hk0 := hb0.mono (show w.heap.size + 1 ≤ _ by simp); obtain ⟨y01, y02, y03⟩ := blk_two hk0)
        refine (parse_any s w0 hs).mono ?_
        rintro e w1 ⟨_, nx, xs1, err, rfl, ⟨A1, c1, rfl, hc1, hr1, _⟩, hp1, hb1⟩
        have HP1 := Lib.hid hp1
        have HR1 := Lib.hid hr1
        clear hp1 hr1
        have hk1 := hk0.trans (hb1.mono (show w.heap.size + 1 ≤ _ by omega))
        obtain ⟨y11, y12, y13⟩ := blk_two hk1
        by_cases he : err = 0
        · subst he
          go_wp2_with (first | (go_at_call 7; (with_reducible refine (rparse_any s _ hs).mono ?_); rintro e w2 ⟨_, nx2, xs2, err2, rfl, ⟨A2, c2, rfl, hc2, hr2, _⟩, hp2, hb2⟩; obtain ⟨rfl, rfl, he2⟩ := HP1.out.uniq hp2; subst he2; have HR2 := Lib.hid hr2; clear hp2 hr2; have hb2s := hb2.size; simp at hb2s; have hk2 := (hk1.alloc (show w.heap.size + 1 ≤ _ by omega) (.cells #[.bool nx, .slice A1 xs1.length c1] 24)).trans (hb2.mono (show w.heap.size + 1 ≤ _ by simp; omega)); obtain ⟨y21, y22, y23⟩ := blk_two hk2; have hx2 := hb2.mono (show w1.heap.size + 1 ≤ _ by simp)) | (go_at_call 8; (with_reducible refine (QT.out _ ((BT1.out.trans (hk2.mono (by omega))).alloc (by omega) _)).mono ?_); rintro e w3 ⟨t, rfl, ht, hb3⟩; have HT := Lib.hid ht; clear ht; have hts := text_size HT.out hx; have hb3s := hb3.size; simp at hb3s; have hk3 := (hk2.alloc (show w.heap.size + 1 ≤ _ by omega) (.cells #[.bool nx, .slice A2 xs1.length c2] 24)).trans (hb3.mono (show w.heap.size + 1 ≤ _ by simp; omega)); have hx3 := (hx2.alloc (show w1.heap.size + 1 ≤ _ by omega) (.cells #[.bool nx, .slice A2 xs1.length c2] 24)).trans (hb3.mono (show w1.heap.size + 1 ≤ _ by simp; omega)); have hy3 := hb3.mono (show w2.heap.size + 1 ≤ _ by simp)) | (go_at_call 6; (with_reducible refine (parse_any t w3 (by unfold maxLen; omega)).mono ?_); rintro e w4 ⟨_, nb, xb, gerr, rfl, ⟨A4, c4, rfl, hc4, hr4, _⟩, hp4, hb4⟩; obtain ⟨rfl, rfl, hg4⟩ := (read_back HT.out hx HRR.out).uniq hp4; subst hg4; have HR4 := Lib.hid (show Reads w4 w4.heap.size A4 xs.length (u32s xs) from hr4); clear hp4 hr4; have hb4s := hb4.size; have hk4 := hk3.trans (hb4.mono (show w.heap.size + 1 ≤ _ by omega)); obtain ⟨y41, y42, y43⟩ := blk_two hk4; have hx4 := hx3.trans (hb4.mono (show w1.heap.size + 1 ≤ _ by omega)); obtain ⟨x41, x42, x43⟩ := blk_two hx4; have hy4 := hy3.trans (hb4.mono (show w2.heap.size + 1 ≤ _ by omega)); obtain ⟨v41, v42, v43⟩ := blk_two hy4))
          obtain ⟨wb, hwb⟩ : ∃ wb, wb = w4.alloc (.cells #[.bool neg, .slice A4 xs.length c4] 24) := ⟨_, rfl⟩
          have KA := Lib.hid (show Blk wb w.heap.size 24 #[.bool neg, .slice A xs.length c] by rw [hwb]; exact ((Blk.new w 24 #[.bool neg, .slice A xs.length c]).below hk4 (by omega)).alloc _)
          have KX := Lib.hid (show Blk wb w1.heap.size 24 #[.bool nx, .slice A1 xs1.length c1] by rw [hwb]; exact ((Blk.new w1 24 #[.bool nx, .slice A1 xs1.length c1]).below hx4 (by omega)).alloc _)
          have KB := Lib.hid (show Blk wb w4.heap.size 24 #[.bool neg, .slice A4 xs.length c4] by rw [hwb]; exact Blk.new _ _ _)
          have RA := Lib.hid (show Reads wb wb.heap.size A xs.length (u32s xs) by rw [hwb]; exact ((h.below ((BT1.out.trans (hk4.mono (by omega))).mono hB)).alloc (by omega) _).more (by simp; omega))
          have RX := Lib.hid (show Reads wb wb.heap.size A1 xs1.length (u32s xs1) by rw [hwb]; exact (((HR1.out.alloc (Nat.le_refl _) (.cells #[.bool nx, .slice A1 xs1.length c1] 24)).below (hx4.mono (by omega))).alloc (by omega) _).more (by simp; omega))
          have RY := Lib.hid (show Reads wb wb.heap.size A2 xs1.length (u32s xs1) by rw [hwb]; exact (((HR2.out.alloc (Nat.le_refl _) (.cells #[.bool nx, .slice A2 xs1.length c2] 24)).below (hy4.mono (by omega))).alloc (by omega) _).more (by simp; omega))
          have RB := Lib.hid (show Reads wb wb.heap.size A4 xs.length (u32s xs) by rw [hwb]; exact (HR4.out.alloc (Nat.le_refl _) _).more (by simp))
          have HBW := Lib.hid (show Below w.heap.size w wb by rw [hwb]; exact (BT1.out.trans (hk4.mono (by omega))).alloc (by omega) _)
          have hx1l : xs1.length ≤ maxLen := parse_len HP1.out
          rw [← hwb]
          clear hwb hk4 hx4 hy4 hk3 hx3 hy3
          (with_reducible refine (same_yes nx A1 A2 xs1.length c1 c2 wb.heap.size xs1 wb RX.out RY.out (Nat.le_refl _) hx1l).mono ?_)
          rintro e w5 ⟨rfl, hb5⟩
          obtain ⟨p51, p52, p53, p54, p55⟩ := (KA.out.below hb5 KA.out.lt).two
          go_wp2_with (first | (go_at_call 10; (with_reducible refine (rtext_any neg A xs.length c wb.heap.size xs w5 (RA.out.below hb5) hb5.size hn hx).mono ?_); rintro e w6 ⟨t', rfl, ht', hb6⟩; obtain rfl := HT.out.uniq ht'; clear ht'; have hW6 := hb5.trans (hb6.mono hb5.size); obtain ⟨p61, p62, p63, p64, p65⟩ := (KA.out.below hW6 KA.out.lt).two) | (go_at_call 11; (with_reducible refine (QR.out w6 (HBW.out.trans (hW6.mono HBW.out.size))).mono ?_); rintro e w7 ⟨rfl, hb7⟩; have hW7 := hW6.trans (hb7.mono hW6.size); obtain ⟨p71, p72, p73, p74, p75⟩ := (KA.out.below hW7 KA.out.lt).two; obtain ⟨q71, q72, q73, q74, q75⟩ := (KB.out.below hW7 KB.out.lt).two) | (go_at_call 9; (with_reducible refine (same_yes neg A A4 xs.length c c4 wb.heap.size xs w7 (RA.out.below hW7) (RB.out.below hW7) hW7.size hn).mono ?_); rintro e w8 ⟨rfl, hb8⟩; have hW8 := hW7.trans (hb8.mono hW7.size); obtain ⟨p81, p82, p83, p84, p85⟩ := (KX.out.below hW8 KX.out.lt).two) | (go_at_call 8; (with_reducible refine (text_any nx A1 xs1.length c1 wb.heap.size xs1 w8 (RX.out.below hW8) hW8.size hx1l hc1 (write_back HP1.out).2.2).mono ?_); rintro e w9 ⟨t2, rfl, ht2, hb9⟩; obtain rfl := (write_back HP1.out).1.uniq ht2; clear ht2; have hW9 := hW8.trans (hb9.mono hW8.size)) | (go_at_call 5; (with_reducible refine (alive_any w9).mono ?_); rintro e w10 ⟨rfl, hb10⟩; have hW10 := hW9.trans (hb10.mono hW9.size)))
          go_ret
          exact ⟨rfl, HBW.out.trans (hW10.mono HBW.out.size)⟩
        · have hen : (((err : Nat) : Int) != 0) = true := by rw [bne_iff_ne]; omega
          go_wp2_with (first | (go_at_call 7; (with_reducible refine (rparse_any s _ hs).mono ?_); rintro e w2 ⟨_, nx2, xs2, err2, rfl, ⟨A2, c2, rfl, hc2, hr2, _⟩, hp2, hb2⟩; obtain ⟨rfl, rfl, he2⟩ := HP1.out.uniq hp2; subst he2; have HR2 := Lib.hid hr2; clear hp2 hr2; have hb2s := hb2.size; simp at hb2s; have hk2 := (hk1.alloc (show w.heap.size + 1 ≤ _ by omega) (.cells #[.bool nx, .slice A1 xs1.length c1] 24)).trans (hb2.mono (show w.heap.size + 1 ≤ _ by simp; omega)); obtain ⟨y21, y22, y23⟩ := blk_two hk2; have hx2 := hb2.mono (show w1.heap.size + 1 ≤ _ by simp)) | (go_at_call 8; (with_reducible refine (QT.out _ ((BT1.out.trans (hk2.mono (by omega))).alloc (by omega) _)).mono ?_); rintro e w3 ⟨t, rfl, ht, hb3⟩; have HT := Lib.hid ht; clear ht; have hts := text_size HT.out hx; have hb3s := hb3.size; simp at hb3s; have hk3 := (hk2.alloc (show w.heap.size + 1 ≤ _ by omega) (.cells #[.bool nx, .slice A2 xs1.length c2] 24)).trans (hb3.mono (show w.heap.size + 1 ≤ _ by simp; omega)); have hx3 := (hx2.alloc (show w1.heap.size + 1 ≤ _ by omega) (.cells #[.bool nx, .slice A2 xs1.length c2] 24)).trans (hb3.mono (show w1.heap.size + 1 ≤ _ by simp; omega)); have hy3 := hb3.mono (show w2.heap.size + 1 ≤ _ by simp)) | (go_at_call 6; (with_reducible refine (parse_any t w3 (by unfold maxLen; omega)).mono ?_); rintro e w4 ⟨_, nb, xb, gerr, rfl, ⟨A4, c4, rfl, hc4, hr4, _⟩, hp4, hb4⟩; obtain ⟨rfl, rfl, hg4⟩ := (read_back HT.out hx HRR.out).uniq hp4; subst hg4; have HR4 := Lib.hid (show Reads w4 w4.heap.size A4 xs.length (u32s xs) from hr4); clear hp4 hr4; have hb4s := hb4.size; have hk4 := hk3.trans (hb4.mono (show w.heap.size + 1 ≤ _ by omega)); obtain ⟨y41, y42, y43⟩ := blk_two hk4; have hx4 := hx3.trans (hb4.mono (show w1.heap.size + 1 ≤ _ by omega)); obtain ⟨x41, x42, x43⟩ := blk_two hx4; have hy4 := hy3.trans (hb4.mono (show w2.heap.size + 1 ≤ _ by omega)); obtain ⟨v41, v42, v43⟩ := blk_two hy4))
          obtain ⟨wb, hwb⟩ : ∃ wb, wb = w4.alloc (.cells #[.bool neg, .slice A4 xs.length c4] 24) := ⟨_, rfl⟩
          have KA := Lib.hid (show Blk wb w.heap.size 24 #[.bool neg, .slice A xs.length c] by rw [hwb]; exact ((Blk.new w 24 #[.bool neg, .slice A xs.length c]).below hk4 (by omega)).alloc _)
          have KX := Lib.hid (show Blk wb w1.heap.size 24 #[.bool nx, .slice A1 xs1.length c1] by rw [hwb]; exact ((Blk.new w1 24 #[.bool nx, .slice A1 xs1.length c1]).below hx4 (by omega)).alloc _)
          have KB := Lib.hid (show Blk wb w4.heap.size 24 #[.bool neg, .slice A4 xs.length c4] by rw [hwb]; exact Blk.new _ _ _)
          have RA := Lib.hid (show Reads wb wb.heap.size A xs.length (u32s xs) by rw [hwb]; exact ((h.below ((BT1.out.trans (hk4.mono (by omega))).mono hB)).alloc (by omega) _).more (by simp; omega))
          have RX := Lib.hid (show Reads wb wb.heap.size A1 xs1.length (u32s xs1) by rw [hwb]; exact (((HR1.out.alloc (Nat.le_refl _) (.cells #[.bool nx, .slice A1 xs1.length c1] 24)).below (hx4.mono (by omega))).alloc (by omega) _).more (by simp; omega))
          have RY := Lib.hid (show Reads wb wb.heap.size A2 xs1.length (u32s xs1) by rw [hwb]; exact (((HR2.out.alloc (Nat.le_refl _) (.cells #[.bool nx, .slice A2 xs1.length c2] 24)).below (hy4.mono (by omega))).alloc (by omega) _).more (by simp; omega))
          have RB := Lib.hid (show Reads wb wb.heap.size A4 xs.length (u32s xs) by rw [hwb]; exact (HR4.out.alloc (Nat.le_refl _) _).more (by simp))
          have HBW := Lib.hid (show Below w.heap.size w wb by rw [hwb]; exact (BT1.out.trans (hk4.mono (by omega))).alloc (by omega) _)
          have hx1l : xs1.length ≤ maxLen := parse_len HP1.out
          rw [← hwb]
          clear hwb hk4 hx4 hy4 hk3 hx3 hy3
          (with_reducible refine (same_yes nx A1 A2 xs1.length c1 c2 wb.heap.size xs1 wb RX.out RY.out (Nat.le_refl _) hx1l).mono ?_)
          rintro e w5 ⟨rfl, hb5⟩
          obtain ⟨p51, p52, p53, p54, p55⟩ := (KA.out.below hb5 KA.out.lt).two
          go_wp2_with (first | (go_at_call 10; (with_reducible refine (rtext_any neg A xs.length c wb.heap.size xs w5 (RA.out.below hb5) hb5.size hn hx).mono ?_); rintro e w6 ⟨t', rfl, ht', hb6⟩; obtain rfl := HT.out.uniq ht'; clear ht'; have hW6 := hb5.trans (hb6.mono hb5.size); obtain ⟨p61, p62, p63, p64, p65⟩ := (KA.out.below hW6 KA.out.lt).two) | (go_at_call 11; (with_reducible refine (QR.out w6 (HBW.out.trans (hW6.mono HBW.out.size))).mono ?_); rintro e w7 ⟨rfl, hb7⟩; have hW7 := hW6.trans (hb7.mono hW6.size); obtain ⟨p71, p72, p73, p74, p75⟩ := (KA.out.below hW7 KA.out.lt).two; obtain ⟨q71, q72, q73, q74, q75⟩ := (KB.out.below hW7 KB.out.lt).two) | (go_at_call 9; (with_reducible refine (same_yes neg A A4 xs.length c c4 wb.heap.size xs w7 (RA.out.below hW7) (RB.out.below hW7) hW7.size hn).mono ?_); rintro e w8 ⟨rfl, hb8⟩; have hW8 := hW7.trans (hb8.mono hW7.size)) | (go_at_call 5; (with_reducible refine (alive_any w8).mono ?_); rintro e w10 ⟨rfl, hb10⟩; have hW10 := hW8.trans (hb10.mono hW8.size)))
          go_ret
          exact ⟨rfl, HBW.out.trans (hW10.mono HBW.out.size)⟩

      · rw [Bool.not_eq_true] at hR
        have QR := Lib.hid (rright_ok neg A xs.length c B xs w h hB hn false hR)
        have HRR := Lib.hid hR
        clear hR
        go_enter Tryd.func3, Tryd.ntmps3
        go_wp2_with (go_at_call 4; (with_reducible refine (QSH.out _).mono ?_); rintro e w0 ⟨rfl, hb0⟩; have hk0 := hb0.mono (show w.heap.size + 1 ≤ _ by simp); obtain ⟨y01, y02, y03⟩ := blk_two hk0)
        refine (parse_any s w0 hs).mono ?_
        rintro e w1 ⟨_, nx, xs1, err, rfl, ⟨A1, c1, rfl, hc1, hr1, _⟩, hp1, hb1⟩
        have HP1 := Lib.hid hp1
        have HR1 := Lib.hid hr1
        clear hp1 hr1
        have hk1 := hk0.trans (hb1.mono (show w.heap.size + 1 ≤ _ by omega))
        obtain ⟨y11, y12, y13⟩ := blk_two hk1
        go_wp2_with (first | (go_at_call 7; (with_reducible refine (rparse_any s _ hs).mono ?_); rintro e w2 ⟨_, nx2, xs2, err2, rfl, ⟨A2, c2, rfl, hc2, hr2, _⟩, hp2, hb2⟩; obtain ⟨rfl, rfl, he2⟩ := HP1.out.uniq hp2; subst he2; have HR2 := Lib.hid hr2; clear hp2 hr2; have hb2s := hb2.size; simp at hb2s; have hk2 := (hk1.alloc (show w.heap.size + 1 ≤ _ by omega) (.cells #[.bool nx, .slice A1 xs1.length c1] 24)).trans (hb2.mono (show w.heap.size + 1 ≤ _ by simp; omega)); obtain ⟨y21, y22, y23⟩ := blk_two hk2; have hx2 := hb2.mono (show w1.heap.size + 1 ≤ _ by simp)) | (go_at_call 8; (with_reducible refine (QT.out _ ((BT1.out.trans (hk2.mono (by omega))).alloc (by omega) _)).mono ?_); rintro e w3 ⟨t, rfl, ht, hb3⟩; have HT := Lib.hid ht; clear ht; have hts := text_size HT.out hx; have hb3s := hb3.size; simp at hb3s; have hk3 := (hk2.alloc (show w.heap.size + 1 ≤ _ by omega) (.cells #[.bool nx, .slice A2 xs1.length c2] 24)).trans (hb3.mono (show w.heap.size + 1 ≤ _ by simp; omega)); have hx3 := (hx2.alloc (show w1.heap.size + 1 ≤ _ by omega) (.cells #[.bool nx, .slice A2 xs1.length c2] 24)).trans (hb3.mono (show w1.heap.size + 1 ≤ _ by simp; omega)); have hy3 := hb3.mono (show w2.heap.size + 1 ≤ _ by simp)) | (go_at_call 6; (with_reducible refine (parse_any t w3 (by unfold maxLen; omega)).mono ?_); rintro e w4 ⟨_, nb, xb, gerr, rfl, ⟨A4, c4, rfl, hc4, hr4, _⟩, hp4, hb4⟩; obtain ⟨rfl, rfl, hg4⟩ := (empty_spec HT.out HRR.out).uniq hp4; subst hg4; have HR4 := Lib.hid (show Reads w4 w4.heap.size A4 0 (u32s []) from hr4); clear hp4 hr4; have hb4s := hb4.size; have hk4 := hk3.trans (hb4.mono (show w.heap.size + 1 ≤ _ by omega)); obtain ⟨y41, y42, y43⟩ := blk_two hk4; have hx4 := hx3.trans (hb4.mono (show w1.heap.size + 1 ≤ _ by omega)); obtain ⟨x41, x42, x43⟩ := blk_two hx4; have hy4 := hy3.trans (hb4.mono (show w2.heap.size + 1 ≤ _ by omega)); obtain ⟨v41, v42, v43⟩ := blk_two hy4))
        obtain ⟨wb, hwb⟩ : ∃ wb, wb = w4.alloc (.cells #[.bool false, .slice A4 0 c4] 24) := ⟨_, rfl⟩
        have KA := Lib.hid (show Blk wb w.heap.size 24 #[.bool neg, .slice A xs.length c] by rw [hwb]; exact ((Blk.new w 24 #[.bool neg, .slice A xs.length c]).below hk4 (by omega)).alloc _)
        have KX := Lib.hid (show Blk wb w1.heap.size 24 #[.bool nx, .slice A1 xs1.length c1] by rw [hwb]; exact ((Blk.new w1 24 #[.bool nx, .slice A1 xs1.length c1]).below hx4 (by omega)).alloc _)
        have KB := Lib.hid (show Blk wb w4.heap.size 24 #[.bool false, .slice A4 0 c4] by rw [hwb]; exact Blk.new _ _ _)
        have RA := Lib.hid (show Reads wb wb.heap.size A xs.length (u32s xs) by rw [hwb]; exact ((h.below ((BT1.out.trans (hk4.mono (by omega))).mono hB)).alloc (by omega) _).more (by simp; omega))
        have RX := Lib.hid (show Reads wb wb.heap.size A1 xs1.length (u32s xs1) by rw [hwb]; exact (((HR1.out.alloc (Nat.le_refl _) (.cells #[.bool nx, .slice A1 xs1.length c1] 24)).below (hx4.mono (by omega))).alloc (by omega) _).more (by simp; omega))
        have RY := Lib.hid (show Reads wb wb.heap.size A2 xs1.length (u32s xs1) by rw [hwb]; exact (((HR2.out.alloc (Nat.le_refl _) (.cells #[.bool nx, .slice A2 xs1.length c2] 24)).below (hy4.mono (by omega))).alloc (by omega) _).more (by simp; omega))
        have RB := Lib.hid (show Reads wb wb.heap.size A4 0 (u32s []) by rw [hwb]; exact (HR4.out.alloc (Nat.le_refl _) _).more (by simp))
        have HBW := Lib.hid (show Below w.heap.size w wb by rw [hwb]; exact (BT1.out.trans (hk4.mono (by omega))).alloc (by omega) _)
        have hx1l : xs1.length ≤ maxLen := parse_len HP1.out
        rw [← hwb]
        clear hwb hk4 hx4 hy4 hk3 hx3 hy3
        (with_reducible refine (same_yes nx A1 A2 xs1.length c1 c2 wb.heap.size xs1 wb RX.out RY.out (Nat.le_refl _) hx1l).mono ?_)
        rintro e w5 ⟨rfl, hb5⟩
        obtain ⟨p51, p52, p53, p54, p55⟩ := (KA.out.below hb5 KA.out.lt).two
        go_wp2_with (first | (go_at_call 10; (with_reducible refine (rtext_any neg A xs.length c wb.heap.size xs w5 (RA.out.below hb5) hb5.size hn hx).mono ?_); rintro e w6 ⟨t', rfl, ht', hb6⟩; obtain rfl := HT.out.uniq ht'; clear ht'; have hW6 := hb5.trans (hb6.mono hb5.size); obtain ⟨p61, p62, p63, p64, p65⟩ := (KA.out.below hW6 KA.out.lt).two) | (go_at_call 11; (with_reducible refine (QR.out w6 (HBW.out.trans (hW6.mono HBW.out.size))).mono ?_); rintro e w7 ⟨rfl, hb7⟩; have hW7 := hW6.trans (hb7.mono hW6.size)) | (go_at_call 5; (with_reducible refine (alive_any w7).mono ?_); rintro e w10 ⟨rfl, hb10⟩; have hW10 := hW7.trans (hb10.mono hW7.size)))
        go_ret
        exact ⟨rfl, HBW.out.trans (hW10.mono HBW.out.size)⟩
  · have hd : decide (xs.length ≤ 100) = false := by simpa using h100
    rw [hd] at qsh
    have QSH := Lib.hid qsh
    clear qsh hd
    go_enter Tryd.func3, Tryd.ntmps3
    go_wp2_with (first | (go_at_call 4; (with_reducible refine (QSH.out _).mono ?_); rintro e w0 ⟨rfl, hb0⟩; have hk0 := hb0.mono (show w.heap.size + 1 ≤ _ by simp); obtain ⟨y01, y02, y03⟩ := blk_two hk0) | (go_at_call 5; (with_reducible refine (alive_any _).mono ?_); rintro e w1 ⟨rfl, hb1⟩))
    go_ret
    exact ⟨rfl, (BT1.out.trans (hb0.mono (by simp))).trans (hb1.mono (by have := hb0.size; simp at this; omega))⟩

end Go.Proofs.YtckkbeknjipddaaDoor
