/- The walk of the law. -/
import Derived.Test.YthjamghemmanfaaDoorAwake
import Derived.Test.YthjamghemmanfaaDoorROrbG
namespace Go.Proofs.YthjamghemmanfaaDoor
open Go.RowKit

theorem law_long (A : Option Addr) (n c : Nat) (W H : Int) (w : World) (hM : Mat w) (hn : 100 < n) (hn2 : n ≤ maxLen) :
    Calls Tryd.prog 3 #[.slice A n c, .int .i64 W, .int .i64 H] w fun e w' => e = .returned (.bool true) ∧ Below w.heap.size w w' := by
  have AL := Lib.hid (awake_any w hM)
  unfold maxLen at hn2
  clear hM
  go_enter Tryd.func3, Tryd.ntmps3
  go_wp2_with (go_at_call 4; (with_reducible refine AL.out.mono ?_); rintro e w1 ⟨rfl, hb⟩; have HB := Lib.hid hb; clear hb)
  go_ret
  exact ⟨rfl, HB.out⟩

set_option maxHeartbeats 1000000 in
theorem law_err (A : Option Addr) (n c : Nat) (W H : Int) (w : World) (hM : Mat w) (hn : n ≤ 100)
    (h1 : Calls Tryd.prog 5 #[.slice A n c, .int .i64 W, .int .i64 H] w fun e w' => e = .returned (.tuple #[.slice none 0 0, .int .i64 2]) ∧ Below w.heap.size w w')
    (h2 : ∀ w0, Below w.heap.size w w0 → Calls Tryd.prog 6 #[.slice A n c, .int .i64 W, .int .i64 H] w0 fun e w' => e = .returned (.tuple #[.slice none 0 0, .int .i64 2]) ∧ Below w0.heap.size w0 w') :
    Calls Tryd.prog 3 #[.slice A n c, .int .i64 W, .int .i64 H] w fun e w' => e = .returned (.bool true) ∧ Below w.heap.size w w' := by
  have H1 := Lib.hid h1
  have H2 := Lib.hid h2
  have HM := Lib.hid hM
  have AL := Lib.hid awake_any
  have SM := Lib.hid (fun w : World => same_yes none none 0 0 0 w.heap.size [] w Reads.none_ Reads.none_ (by omega))
  clear h1 h2 hM
  go_enter Tryd.func3, Tryd.ntmps3
  go_wp2_with (first | (go_at_call 5; (with_reducible refine H1.out.mono ?_); rintro e w1 ⟨rfl, hb⟩; have Z1 := Lib.hid hb; clear hb) | (go_at_call 6; (with_reducible refine (H2.out _ Z1.out).mono ?_); rintro e w2 ⟨rfl, hb⟩; have Z2 := Lib.hid (Z1.out.trans (hb.mono Z1.out.size)); clear hb) | (go_at_call 7; (with_reducible refine (SM.out _).mono ?_); rintro e w3 ⟨rfl, hb⟩; have Z3 := Lib.hid (Z2.out.trans (hb.mono Z2.out.size)); clear hb))
  refine wp_loop_rounds 1 ?_
  rw [rounds_succ]
  go_wp2_with (go_at_call 4; (with_reducible refine (AL.out _ (HM.out.below Z3.out HM.out.pos)).mono ?_); rintro e w4 ⟨rfl, hb⟩; have Z4 := Lib.hid (Z3.out.trans (hb.mono Z3.out.size)); clear hb)
  go_ret
  exact ⟨rfl, Z4.out⟩

set_option maxRecDepth 100000 in
set_option maxHeartbeats 2000000 in
theorem law_good (A : Option Addr) (n c W H p q S : Nat) (G : List Nat) (w : World) (hM : Mat w) (hn : n ≤ 100) (hS : (p + 1) * (q + 1) = S) (hS4 : S ≤ 4096)
    (hG0 : 0 ∈ G) (hG8 : ∀ k ∈ G, k < 8) (hGk : ∀ k ∈ G, keeps k p q) (hGc : ∀ a ∈ G, ∀ b ∈ G, comp a b ∈ G)
    (h1 : Calls Tryd.prog 5 #[.slice A n c, .int .i64 (W : Nat), .int .i64 (H : Nat)] w (OrbSays G p q S w))
    (h2 : ∀ w0, Below w.heap.size w w0 → Calls Tryd.prog 6 #[.slice A n c, .int .i64 (W : Nat), .int .i64 (H : Nat)] w0 (OrbSays G p q S w0)) :
    Calls Tryd.prog 3 #[.slice A n c, .int .i64 (W : Nat), .int .i64 (H : Nat)] w fun e w' => e = .returned (.bool true) ∧ Below w.heap.size w w' := by
  have OO := Lib.hid (fun i (hi : i < S) => orb_orb (G := G) (p := p) (q := q) (i := i) hG0 hG8 hGk hGc (by rw [hS]; exact hi))
  have H1 := Lib.hid h1
  have H2 := Lib.hid h2
  have HM := Lib.hid hM
  have AL := Lib.hid awake_any
  clear h1 h2 hM hS hG0 hG8 hGk hGc
  go_enter Tryd.func3, Tryd.ntmps3
  go_wp2_with (first | (go_at_call 5; (with_reducible refine H1.out.mono ?_); rintro e w1 ⟨b1, c1, rfl, hr, hb⟩; have R1 := Lib.hid hr; have Z1 := Lib.hid hb; clear hr hb) | (go_at_call 6; (with_reducible refine (H2.out _ Z1.out).mono ?_); rintro e w2 ⟨b2, c2, rfl, hr, hb⟩; have R2 := Lib.hid hr; have R1' := Lib.hid ((R1.out.below hb).more hb.size); have Z2 := Lib.hid (Z1.out.trans (hb.mono Z1.out.size)); clear hr hb) | (go_at_call 7; (with_reducible refine (same_yes (some ⟨b1, 0, none⟩) (some ⟨b2, 0, none⟩) S c1 c2 w2.heap.size (olist G p q S) w2 R1'.out R2.out (by omega)).mono ?_); rintro e w3 ⟨rfl, hb⟩; have R3 := Lib.hid ((R1'.out.below hb).more hb.size); have Z3 := Lib.hid (Z2.out.trans (hb.mono Z2.out.size)); clear hb))
  go_loopw [41] (fun iv wr => ∃ i k : Nat, i ≤ S ∧ iv = .int .i64 i ∧ wr = w3.drewN k) (fun iv _ => S - (intOf iv).toNat)
  case atStart => exact ⟨0, 0, Nat.zero_le _, rfl, rfl⟩
  case round =>
    obtain ⟨i, k, hi, rfl, rfl⟩ := hrel
    by_cases hlt : i < S
    · have e1 := (reads_cell R3.out hlt).1
      have g1 : (olist G p q S).getD i 0 = orb G p q i := by
        rw [List.getD_eq_getElem?_getD, List.getElem?_eq_getElem (by rw [olist_len]; exact hlt)]
        simp [olist]
      have hle := orb_le G p q i
      have e2 := (reads_cell R3.out (show orb G p q i < S by omega)).1
      have g2 : (olist G p q S).getD (orb G p q i) 0 = orb G p q (orb G p q i) := by
        rw [List.getD_eq_getElem?_getD, List.getElem?_eq_getElem (by rw [olist_len]; omega)]
        simp [olist]
      rw [g1] at e1
      rw [g2, OO.out i hlt] at e2
      clear g1 g2
      generalize orb G p q i = v at e1 e2 hle
      have hi0 : (0 : Int) ≤ (i : Int) := Int.natCast_nonneg _
      have hi1 : (i : Int) < (S : Int) := by omega
      have hv0 : (0 : Int) ≤ (v : Int) := Int.natCast_nonneg _
      have hv1 : (v : Int) < (S : Int) := by omega
      have hvS : v < S := by omega
      have d1 : decide ((v : Int) < 0) = false := by rw [decide_eq_false_iff_not]; omega
      have d2 : decide ((i : Int) < (v : Int)) = false := by rw [decide_eq_false_iff_not]; omega
      have d3 : decide (i < v) = false := by rw [decide_eq_false_iff_not]; omega
      go_wp2
      go_quiet (fail)
      clear d1 d2 d3
      go_wp2
      go_roundw
      case rel => exact ⟨i + 1, _, by omega, by go_num, rfl⟩
      case measure => simp [intOf]; omega
    · obtain rfl : i = S := by omega
      have Z3' := Lib.hid (below_drewN2 Z3.out k)
      go_wp2_with (go_at_call 4; (with_reducible refine (AL.out _ (HM.out.below Z3'.out HM.out.pos)).mono ?_); rintro e w4 ⟨rfl, hb⟩; have Z4 := Lib.hid (Z3'.out.trans (hb.mono Z3'.out.size)); clear hb)
      go_ret
      exact ⟨rfl, Z4.out⟩

theorem law_any (A : Option Addr) (n c B : Nat) (l : List Int) (W H : Int) (w : World) (h : Ins w B A n l) (hB : B ≤ w.heap.size) (hn : n ≤ maxLen) (hM : Mat w) :
    Calls Tryd.prog 3 #[.slice A n c, .int .i64 W, .int .i64 H] w fun e w' => e = .returned (.bool true) ∧ Below w.heap.size w w' := by
  by_cases h100 : 100 < n
  · exact law_long A n c W H w hM h100 hn
  have hn1 : n ≤ 100 := by omega
  have HIn : ∀ w0, Below w.heap.size w w0 → Ins w0 B A n l := fun w0 hb => h.keep (hb.mono hB)
  by_cases hs : Size W H
  · obtain ⟨s1, s2, s3, s4, s5⟩ := hs
    obtain ⟨W', rfl⟩ : ∃ W' : Nat, W = W' := ⟨W.toNat, by omega⟩
    obtain ⟨H', rfl⟩ : ∃ H' : Nat, H = H' := ⟨H.toNat, by omega⟩
    have hs : Size W' H' := ⟨s1, s2, s3, s4, s5⟩
    by_cases hbad : W' ≠ H' ∧ ∃ k ∈ grp (mds l), k % 2 = 1
    · exact law_err A n c W' H' w hM hn1 (orbits_bad A n c B W' H' l w h hB hn1 hs hbad.1 hbad.2) (fun w0 hb => rorbits_bad A n c B W' H' l w0 (HIn w0 hb) (Nat.le_trans hB hb.size) hn1 hs hbad.1 hbad.2)
    · obtain ⟨p, rfl⟩ : ∃ p, W' = p + 1 := ⟨W' - 1, by omega⟩
      obtain ⟨q, rfl⟩ : ∃ q, H' = q + 1 := ⟨H' - 1, by omega⟩
      have hS : (p + 1) * (q + 1) ≤ 4096 := by
        have h5 : (((p + 1) * (q + 1) : Nat) : Int) ≤ 4096 := by rw [Int.natCast_mul]; exact s5
        omega
      have hk : ∀ k ∈ grp (mds l), keeps k p q := fun k hk => by
        unfold keeps
        by_cases e : p = q
        · exact .inr e
        · by_cases ho : k % 2 = 1
          · exact absurd ⟨by omega, k, hk, ho⟩ hbad
          · exact .inl (by omega)
      have hl := mds_lt l
      exact law_good A n c (p + 1) (q + 1) p q _ (grp (mds l)) w hM hn1 rfl hS (grp_zero _) (fun k hk => grp_lt hk) hk
        (fun a ha b hb => (mem_grp hl).2 (Gen.comp hl ((mem_grp hl).1 ha) ((mem_grp hl).1 hb)))
        (orbits_good A n c B (p + 1) (q + 1) p q _ l w h hB hn1 hM rfl rfl (by omega) (by omega) rfl hS hk)
        (fun w0 hb => rorbits_good A n c B (p + 1) (q + 1) p q _ l w0 (HIn w0 hb) (Nat.le_trans hB hb.size) hn1 rfl rfl (by omega) (by omega) rfl hS hk)
  · exact law_err A n c W H w hM hn1 ((orbits_size _ W H w hs).mono fun e w' ⟨he, hw⟩ => ⟨he, by subst hw; exact Below.refl _ _⟩) (fun w0 hb => (rorbits_size _ W H w0 hs).mono fun e w' ⟨he, hw⟩ => ⟨he, by subst hw; exact Below.refl _ _⟩)
end Go.Proofs.YthjamghemmanfaaDoor
