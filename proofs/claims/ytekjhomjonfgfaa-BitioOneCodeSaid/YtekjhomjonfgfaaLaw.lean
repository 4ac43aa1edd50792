/- The walk of the law. -/
import Derived.Test.YtekjhomjonfgfaaAwake
namespace Go.Proofs.Ytekjhomjonfgfaa
open Go.RowKit

theorem num_dig (xs : List Nat) (s : Nat) : ∀ m i, i < m → num xs s m / 2 ^ (m - 1 - i) % 2 = bitAt xs (s + i)
  | 0, i, h => by omega
  | m + 1, i, h => by
    have hb := bitAt_lt xs (s + m)
    rcases Nat.lt_or_ge i m with h' | h'
    · have e : m + 1 - 1 - i = (m - 1 - i) + 1 := by omega
      rw [e, Nat.pow_succ, Nat.mul_comm (2 ^ (m - 1 - i)) 2, ← Nat.div_div_eq_div_mul, num]
      have : (2 * num xs s m + bitAt xs (s + m)) / 2 = num xs s m := by omega
      rw [this]
      exact num_dig xs s m i h'
    · obtain rfl : i = m := by omega
      have e : i + 1 - 1 - i = 0 := by omega
      rw [e, num]
      simp
      omega
theorem code_eq (xs : List Nat) (z : Nat) (h0 : ∀ j, j < z → bitAt xs (0 + j) = 0) :
    digs 0 z z ++ digs (num xs (0 + z) (z + 1)) (z + 1) (z + 1) = (List.range (2 * z + 1)).map (bitAt xs) := by
  apply List.ext_getElem
  · simp [digs]; omega
  · intro i h1 h2
    simp only [List.length_append, digs_len] at h1
    rw [List.getElem_append]
    split
    · rename_i hi
      simp only [digs_len] at hi
      have := h0 i hi
      rw [Nat.zero_add] at this
      simp [digs, this]
    · rename_i hi
      simp only [digs_len] at hi
      have e := num_dig xs (0 + z) (z + 1) (i - z) (by omega)
      have e2 : 0 + z + (i - z) = i := by omega
      rw [e2] at e
      simp only [digs, List.getElem_map, List.getElem_range, List.length_map, List.length_range]
      exact e
theorem num_one (xs : List Nat) (i : Nat) : num xs i 1 = bitAt xs i := by simp [num]
theorem bits_succ (xs : List Nat) (i : Nat) : (List.range i).map (bitAt xs) ++ digs (bitAt xs i) 1 1 = (List.range (i + 1)).map (bitAt xs) := by
  have := bitAt_lt xs i
  rw [List.range_succ, List.map_append]
  congr 1
  simp [digs]
  omega

/-- what the law does where it reads an integer -/
theorem law_long (A : Option Addr) (n c : Nat) (w : World) (hn : 200 < n) (hm : n ≤ maxLen) :
    Calls Try.prog 3 #[.slice A n c] w fun e w' => e = .returned (.bool true) ∧ Below w.heap.size w w' := by
  unfold maxLen at hm
  go_enter Try.func3, Try.ntmps3
  go_wp2_with (go_at_call 4; (with_reducible refine (awake_any w).mono ?_); rintro e w1 ⟨rfl, b1⟩)
  go_ret
  exact ⟨rfl, b1⟩

theorem new_law (A : Option Addr) (n c B : Nat) (xs : List Nat) (w : World) (hA : A = none → n = 0 ∧ c = 0) (h : Reads w B A n (u8s xs)) (hB : B ≤ w.heap.size) (hn : n ≤ 65536) :
    Calls Try.prog 5 #[.slice A n c] w fun e w' => ∃ g, e = .returned (.tuple #[.pointer (some ⟨g, 0, none⟩), .int .i64 0]) ∧ Rd w' w.heap.size g n 0 xs ∧ w.heap.size ≤ g ∧ Below w.heap.size w w' ∧ Reads w' B A n (u8s xs) :=
  (new_rd A n c B xs w hA h hB hn).mono fun e w' ⟨g, h1, h2, h3, h4⟩ => ⟨g, h1, h2, h3, h4, h.below (h4.mono hB)⟩

theorem law_bit (lo g n i : Nat) (xs : List Nat) (w : World) (h : Rd w lo g n i xs) (hn : n ≤ 200) (hp : i < 8 * n) (hx : ∀ d ∈ xs, d < 256) :
    Calls Try.prog 10 #[.pointer (some ⟨g, 0, none⟩), .int .i64 1] w fun e w' => e = .returned (.tuple #[.int .u64 (bitAt xs i : Nat), .int .i64 0]) ∧ Rd w' lo g n (i + 1) xs ∧ Fr (· ≠ g) w w' := by
  have q := bits_rd lo g n i 1 xs w h (by omega) (by omega) (by decide) hx
  rw [num_one] at q
  exact q
theorem law_put (base g i : Nat) (xs : List Nat) (w : World) (h : Wr w base g ((List.range i).map (bitAt xs))) (hg : base ≤ w.heap.size) (hgb : g < base) (hi : i < 1600) :
    Calls Try.prog 11 #[.pointer (some ⟨g, 0, none⟩), .int .u64 (bitAt xs i : Nat), .int .i64 1] w fun e w' => e = .returned (.int .i64 0) ∧ Wr w' base g ((List.range (i + 1)).map (bitAt xs)) ∧ Touch base g w w' := by
  have hb := bitAt_lt xs i
  have q := wbits_any g base (bitAt xs i) 1 _ w h hg hgb (by decide) (by omega) (by simp; omega)
  rw [bits_succ] at q
  exact q
theorem law_code (base g n z : Nat) (xs : List Nat) (w : World) (h : Wr w base g []) (hg : base ≤ w.heap.size) (hgb : g < base) (hn : n ≤ 200) (hz : Good xs n 0 z) :
    Calls Try.prog 8 #[.pointer (some ⟨g, 0, none⟩), .int .i64 (num xs (0 + z) (z + 1) - 1 : Nat)] w fun e w' => e = .returned (.int .i64 0) ∧ Wr w' base g ((List.range (2 * z + 1)).map (bitAt xs)) ∧ Touch base g w w' := by
  obtain ⟨h1, h2, h3, h4, h5⟩ := hz
  have hge := num_ge xs (0 + z) z h4
  have hlt := num_lt xs (0 + z) (z + 1)
  have hp : 0 < 2 ^ z := Nat.two_pow_pos z
  have e : num xs (0 + z) (z + 1) - 1 + 1 = num xs (0 + z) (z + 1) := by omega
  have q := wgamma_any g base (num xs (0 + z) (z + 1) - 1) z [] w h hg hgb (by omega) (by rw [e]; exact hge) (by rw [e]; exact hlt) (by omega) (by simp; omega)
  rw [e, List.nil_append, code_eq xs z h3] at q
  exact q

theorem law_len (base g T : Nat) (xs : List Nat) (w : World) (h : Wr w base g ((List.range T).map (bitAt xs))) :
    Calls Try.prog 9 #[.pointer (some ⟨g, 0, none⟩)] w fun e w' => e = .returned (.int .i64 (T : Nat)) ∧ w = w' := by
  have q := len_any g _ w h.used
  rw [List.length_map, List.length_range] at q
  exact q
theorem law_bytes (base g T : Nat) (xs : List Nat) (w : World) (h : Wr w base g ((List.range T).map (bitAt xs))) (hT : T ≤ 1600) :
    Calls Try.prog 13 #[.pointer (some ⟨g, 0, none⟩)] w fun e w' => ∃ A c, e = .returned (.slice A (pack ((List.range T).map (bitAt xs))).length c) ∧ Reads w' w'.heap.size A (pack ((List.range T).map (bitAt xs))).length (i8s (pack ((List.range T).map (bitAt xs)))) ∧ Below w.heap.size w w' :=
  bytes_wr base g _ w h (by simp; omega)

set_option maxRecDepth 100000 in
set_option maxHeartbeats 4000000 in
theorem law_any (A : Option Addr) (n c B : Nat) (xs : List Nat) (w : World) (hA : A = none → n = 0 ∧ c = 0) (h : Reads w B A n (u8s xs)) (hB : B ≤ w.heap.size) (hn : n ≤ 200) (hx : ∀ d ∈ xs, d < 256) :
    Calls Try.prog 3 #[.slice A n c] w fun e w' => e = .returned (.bool true) ∧ Below w.heap.size w w' := by
  have q1 := Lib.hid (new_law A n c B xs w hA h hB (by omega))
  have q2 := Lib.hid (fun (W : World) hW hR => new_law A n c B xs W hA hR hW (by omega))
  clear h
  go_enter Try.func3, Try.ntmps3
  go_wp2_with (first
    | (go_at_call 5; (with_reducible refine q1.out.mono ?_); rintro e w1 ⟨g1, rfl, r1, l1, b1, d1⟩; have R1 := Lib.hid r1; have L1 := Lib.hid l1; have B1 := Lib.hid b1; have D1 := Lib.hid d1; clear r1 l1 b1 d1)
    | (go_at_call 5; (with_reducible refine (q2.out w1 (Nat.le_trans hB B1.out.size) D1.out).mono ?_); rintro e w2 ⟨g2, rfl, r2, l2, b2, d2⟩; have R2 := Lib.hid r2; have L2 := Lib.hid l2; have Q1 := Lib.hid (R1.out.frame (Fr.of_below b2) R1.out.lt (fun k _ hk => Nat.lt_trans hk R1.out.lt)); have B2 := Lib.hid (B1.out.trans (b2.mono B1.out.size)); clear r2 l2 b2 d2))
  go_at_call 6
  refine (gamma_rd w.heap.size g1 n 0 xs w2 Q1.out (by omega) (by omega) hx).mono ?_
  rintro e w3 ⟨h3, f3⟩
  have B3 := Lib.hid (B2.out.trans (f3.below (fun k hk => by have h1 := L1.out; omega)))
  have Q2 := Lib.hid (R2.out.frame f3 (by have h1 := R1.out.lt; have h2 := L2.out; omega) (fun k hk _ => by have h1 := R1.out.lt; omega))
  have G1 := Lib.hid (show g1 < g2 by have h1 := R1.out.lt; have h2 := L2.out; omega)
  rcases h3 with ⟨z, hz, rfl, r3⟩ | ⟨er, he, hz, rfl, r3⟩
  · have hT8 : 2 * z + 1 ≤ 8 * n := by have := hz.2.1; omega
    have hW : Wr ((w3.alloc (.cells #[.slice none 0 0, .int .i64 0] 32)).alloc (.cells #[.slice none 0 0, .int .i64 0] 32)) (w3.heap.size + 2) w3.heap.size [] := Wr.new_ _ _ _ ((Blk.new w3 _ _).alloc _)
    have hX : Blk ((w3.alloc (.cells #[.slice none 0 0, .int .i64 0] 32)).alloc (.cells #[.slice none 0 0, .int .i64 0] 32)) (w3.heap.size + 1) 32 #[.slice none 0 0, .int .i64 0] := by
      have := Blk.new (w3.alloc (.cells #[.slice none 0 0, .int .i64 0] 32)) 32 #[.slice none 0 0, .int .i64 0]
      simpa using this
    have hS : w3.heap.size + 2 ≤ ((w3.alloc (.cells #[.slice none 0 0, .int .i64 0] 32)).alloc (.cells #[.slice none 0 0, .int .i64 0] 32)).heap.size := by simp
    have hF : Below w3.heap.size w3 ((w3.alloc (.cells #[.slice none 0 0, .int .i64 0] 32)).alloc (.cells #[.slice none 0 0, .int .i64 0] 32)) := ((Below.refl _ _).alloc (Nat.le_refl _) _).alloc (by simp) _
    have q3 := law_code (w3.heap.size + 2) w3.heap.size n z xs _ hW hS (by omega) hn hz
    obtain ⟨N, hN⟩ : ∃ N, N = num xs (0 + z) (z + 1) - 1 := ⟨_, rfl⟩
    rw [← hN] at q3 ⊢
    obtain ⟨T, hT⟩ : ∃ T, T = 2 * z + 1 := ⟨_, rfl⟩
    have eT : 0 + 2 * z + 1 = T := by omega
    rw [eT] at r3
    rw [← hT] at q3 hT8
    clear hN hT eT hz hW q1 q2
    have R3 := Lib.hid r3
    have HX := Lib.hid hX
    have HS := Lib.hid hS
    have HF := Lib.hid hF
    have Q3 := Lib.hid q3
    obtain ⟨l, hl⟩ : ∃ l, l = 8 * n - T := ⟨_, rfl⟩
    have hne : wrap64 (8 * (n : Int) - (l : Int)) = (T : Int) := by
      unfold wrap64
      omega
    have HL := Lib.hid hl
    clear r3 hX hS hF q3 hl f3
    go_wp2_with (first
      | (go_at_call 8; (with_reducible refine Q3.out.mono ?_); rintro e w6 ⟨rfl, h6, t6⟩; have H6 := Lib.hid h6; have T6 := Lib.hid t6; have F6 := Lib.hid (HF.out.trans (t6.below (Nat.le_add_right _ 2) (Nat.le_refl _))); have R6 := Lib.hid (R3.out.frame (Fr.of_below F6.out) R3.out.lt (fun k _ hk => Nat.lt_trans hk R3.out.lt)); have QL := Lib.hid (left_rd w.heap.size g1 n T xs w6 R6.out (by omega) (by omega)); rw [← HL.out] at QL; clear h6 t6)
      | (go_at_call 9; (with_reducible refine (law_len (w3.heap.size + 2) w3.heap.size T xs w6 H6.out).mono ?_); rintro e w7 ⟨rfl, rfl⟩)
      | (go_at_call 7; (with_reducible refine QL.out.mono ?_); rintro e w7 ⟨rfl, k7, rfl⟩)
      | (go_at_call 9; (with_reducible refine (law_len (w3.heap.size + 2) w3.heap.size T xs (w6.drewN k7) (H6.out.drewN k7)).mono ?_); rintro e w7 ⟨rfl, rfl⟩))
    have hB6 : Below w.heap.size w w6 := B3.out.trans (F6.out.mono B3.out.size)
    have hg2 : g2 < w3.heap.size := Q2.out.lt
    have hg2b : w.heap.size ≤ g2 := Nat.le_trans B1.out.size L2.out
    have hw3 : w.heap.size ≤ w3.heap.size := B3.out.size
    have h63 : w3.heap.size + 2 ≤ w6.heap.size := Nat.le_trans HS.out T6.out.size
    have hX6 : Blk w6 (w3.heap.size + 1) 32 #[.slice none 0 0, .int .i64 0] := (T6.out.block _ (by omega) (by omega)).trans HX.out
    have hx6 : Wr w6 w6.heap.size (w3.heap.size + 1) [] := Wr.new_ _ _ _ hX6
    have hr6 : Rd w6 w1.heap.size g2 n 0 xs := Q2.out.frame (Fr.of_below F6.out) hg2 (fun k _ hk => Nat.lt_trans hk hg2)
    have HB6 := Lib.hid hB6
    have HX6 := Lib.hid hx6
    have HR6 := Lib.hid hr6
    obtain ⟨gw, hgw⟩ : ∃ gw, gw = w3.heap.size := ⟨_, rfl⟩
    rw [← hgw] at hg2 hw3 h63 H6 HX6 ⊢
    clear hB6 hX6 hx6 hr6 HX HS HF Q3 QL R6 R3 F6 T6 hgw hne
    go_loopw [71] (fun iv wr => ∃ i : Nat, i ≤ T ∧ iv = .int .i64 i ∧ Rd wr w1.heap.size g2 n i xs ∧ Wr wr w6.heap.size (gw + 1) ((List.range i).map (bitAt xs)) ∧ Fr (fun k => k < w6.heap.size ∧ k ≠ gw + 1 ∧ k ≠ g2) w6 wr) (fun iv _ => T - (intOf iv).toNat)
    case atStart => exact ⟨0, Nat.zero_le _, rfl, HR6.out.drewN k7, HX6.out.drewN k7, Fr.drewN w6 k7⟩
    case round =>
      obtain ⟨i, hi, rfl, hrd, hwx, hfr⟩ := hrel
      have hsz := hfr.size
      by_cases hlt : i < T
      · have q1 := Lib.hid (law_bit w1.heap.size g2 n i xs wr hrd hn (by omega) hx)
        have q2 := Lib.hid (fun (W : World) hW hS => law_put w6.heap.size (gw + 1) i xs W hW hS (by omega) (by omega))
        have HFR := Lib.hid hfr
        have HWX := Lib.hid hwx
        clear hfr hwx hrd
        obtain ⟨b, hb⟩ : ∃ b, b = bitAt xs i := ⟨_, rfl⟩
        rw [← hb] at q1 q2
        clear hb
        go_wp2_with (first
          | (go_at_call 10; (with_reducible refine q1.out.mono ?_); rintro e wa ⟨rfl, ra, fa⟩; have RA := Lib.hid ra; have WA := Lib.hid (HWX.out.frame fa (by omega) (fun k hk _ => by omega)); have FA := Lib.hid fa; have SA := Lib.hid (Nat.le_trans hsz fa.size); clear ra fa)
          | (go_at_call 11; (with_reducible refine (q2.out wa WA.out SA.out).mono ?_); rintro e wb ⟨rfl, hb, tb⟩; have WB := Lib.hid hb; have TB := Lib.hid tb; clear hb tb))
        go_roundw
        case rel =>
          refine ⟨i + 1, by omega, by go_num, RA.out.frame (Fr.of_touch TB.out) ⟨by omega, by omega⟩ (fun k _ hk => ⟨by omega, by omega⟩), WB.out, (HFR.out.trans (FA.out.mono fun k hk => hk.2.2)).trans ((Fr.of_touch TB.out).mono fun k hk => ⟨hk.1, hk.2.1⟩)⟩
        case measure => simp [intOf]; omega
      · obtain rfl : i = T := by omega
        have hb : Below w.heap.size w wr := HB6.out.trans (hfr.below (fun k hk => ⟨by omega, by omega, by omega⟩))
        have hw6 : Wr wr (gw + 2) gw ((List.range i).map (bitAt xs)) := H6.out.frame hfr ⟨by omega, by omega, by omega⟩ (fun k h1 h2 => ⟨h2, by omega, by omega⟩)
        have hgx : gw + 1 < wr.heap.size := by omega
        have q1 := Lib.hid (law_bytes (gw + 2) gw i xs wr hw6 (by omega))
        have q2 := Lib.hid (fun (W : World) hW => law_bytes w6.heap.size (gw + 1) i xs W hW (by omega))
        have HB := Lib.hid hb
        have HWX := Lib.hid hwx
        clear hfr hw6 hb hwx hrd
        have hpl : (pack ((List.range i).map (bitAt xs))).length ≤ maxLen := by rw [pack_len]; unfold maxLen; simp; omega
        obtain ⟨zs, hzs⟩ : ∃ zs, zs = pack ((List.range i).map (bitAt xs)) := ⟨_, rfl⟩
        rw [← hzs] at q1 q2 hpl
        clear hzs
        go_wp2_with (first
          | (go_at_call 13; (with_reducible refine q1.out.mono ?_); rintro e wa ⟨A1, c1, rfl, ra, ba⟩; have RA := Lib.hid ra; have WA := Lib.hid (HWX.out.frame (Fr.of_below ba) hgx (fun k _ hk => hk)); have BA := Lib.hid (HB.out.trans (ba.mono HB.out.size)); clear ra ba)
          | (go_at_call 13; (with_reducible refine (q2.out wa WA.out).mono ?_); rintro e wb ⟨A2, c2, rfl, rb, bb⟩; have RB := Lib.hid rb; have RC := Lib.hid ((RA.out.below bb).more bb.size); have BB := Lib.hid (BA.out.trans (bb.mono BA.out.size)); clear rb bb)
          | (go_at_call 12; (with_reducible refine (same_yes A1 A2 zs.length c1 c2 wb.heap.size (i8s zs) zs rfl wb RC.out RB.out hpl).mono ?_); rintro e wc ⟨rfl, kc, rfl⟩)
          | (go_at_call 4; (with_reducible refine (awake_any (wb.drewN kc)).mono ?_); rintro e wd ⟨rfl, bd⟩))
        go_ret
        exact ⟨rfl, (below_drewN BB.out kc).trans (bd.mono (below_drewN BB.out kc).size)⟩
  · have hen : (er != 0) = true := by rw [bne_iff_ne]; exact he
    have ql := left_rd w.heap.size g1 n 0 xs w3 r3 (by omega) (by omega)
    rw [show ((8 * n - 0 : Nat) : Int) = 8 * (n : Int) by omega] at ql
    have QL := Lib.hid ql
    clear ql
    go_wp2_with (first
      | (go_at_call 7; (with_reducible refine QL.out.mono ?_); rintro e w4 ⟨rfl, k4, rfl⟩)
      | (go_at_call 4; (with_reducible refine (awake_any (w3.drewN k4)).mono ?_); rintro e w5 ⟨rfl, b5⟩))
    go_ret
    exact ⟨rfl, (below_drewN B3.out k4).trans (b5.mono (below_drewN B3.out k4).size)⟩
end Go.Proofs.Ytekjhomjonfgfaa
