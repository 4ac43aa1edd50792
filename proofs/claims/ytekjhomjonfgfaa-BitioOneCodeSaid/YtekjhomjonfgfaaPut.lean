/- The walk of put. -/
import Derived.Test.YtekjhomjonfgfaaPack
namespace Go.Proofs.Ytekjhomjonfgfaa
open Go.RowKit

theorem bit_digit (v k : Nat) (hv : v < 18446744073709551616) : bits .and .u8 ((v : Int) / 2 ^ k % 256) 1 = ((v / 2 ^ k % 2 : Nat) : Int) := by
  have e : (v : Int) / 2 ^ k % 256 = ((v / 2 ^ k % 256 : Nat) : Int) := by simp
  rw [e]
  have h1 : v / 2 ^ k % 256 < 256 := Nat.mod_lt _ (by decide)
  have h2 : v / 2 ^ k % 256 % 2 = v / 2 ^ k % 2 := by omega
  generalize v / 2 ^ k % 256 = z at h1 h2 ⊢
  rw [u8_and _ _ (by omega) (by omega) (by omega) (by omega)]
  simp [h2]

theorem shl_bit (b k : Nat) (hb : b < 2) (hk : k ≤ 7) : (b : Int) * 2 ^ k % 256 = ((b * 2 ^ k : Nat) : Int) := by
  have h1 : 2 ^ k ≤ 2 ^ 7 := Nat.pow_le_pow_right (by decide) hk
  have h2 : b * 2 ^ k ≤ 1 * 2 ^ k := Nat.mul_le_mul_right _ (by omega)
  have e : (b : Int) * 2 ^ k = ((b * 2 ^ k : Nat) : Int) := by simp
  rw [e]
  omega
/-- the end of a round: the bit lies in its byte -/
theorem put_end {w : World} {base g g' n c u q b pl : Nat} {zs zs0 : List Int} {L M : List Nat} {d : Int} (hblk : Blk w g 32 #[.slice (some ⟨g', 0, none⟩) n c, .int .i64 (u : Nat)])
    (hown : w.ownsRow base 5 1 (.slice (some ⟨g', 0, none⟩) n c) n (i8s zs)) (hne : g ≠ g') (hM : L ++ [b] = M) (hS : pack (L ++ [b]) = putB zs0 u b) (hu : u = L.length) (hn : n = zs.length) (hq : q = u / 8) (hpl : pl = 7 - u % 8) (hd : d = zs.getD q 0) (h8 : room zs0 u = zs) :
    Wr ((w.setCell ⟨g', q, none⟩ (.int .u8 (bits .or .u8 d ((b * 2 ^ pl : Nat) : Int)))).setCell ⟨g, 1, none⟩ (.int .i64 ((u : Int) + 1))) base g M := by
  subst hM
  have hr : putB zs0 u b = zs.set q (bits .or .u8 d ((b * 2 ^ pl : Nat) : Int)) := by
    unfold putB
    rw [h8, ← hq, ← hpl, ← hd]
  have hlen : (pack (L ++ [b])).length = n := by rw [hS, hr, List.length_set, hn]
  refine ⟨some ⟨g', 0, none⟩, c, ?_, ?_⟩
  · have h := (hblk.far (p := ⟨g', q, none⟩) hne (.int .u8 (bits .or .u8 d ((b * 2 ^ pl : Nat) : Int)))).set_ 1 (.int .i64 ((u : Int) + 1))
    rw [hlen]
    have e : ((L ++ [b]).length : Int) = (u : Int) + 1 := by rw [List.length_append, ← hu]; rfl
    rw [e]
    simpa using h
  · rw [hlen, hS, hr, ← i8s_set]
    refine own_same (hown.stored q _).1 fun ad hA _ _ => Below.heap_setCell _ _ _ _ ?_
    obtain rfl := Option.some.inj hA
    exact fun e => hne e.symm

set_option maxRecDepth 100000 in
set_option maxHeartbeats 1000000 in
theorem put_any (g base v m : Nat) (l : List Nat) (w : World) (h : Wr w base g l) (hg : base ≤ w.heap.size) (hgb : g < base) (hv : v < 18446744073709551616) (hm : m ≤ 64) (hl : l.length + m ≤ 524288) :
    Calls Try.prog 20 #[.pointer (some ⟨g, 0, none⟩), .int .u64 (v : Nat), .int .i64 (m : Nat)] w fun e w' => e = .returned (.tuple #[]) ∧ Wr w' base g (l ++ digs v m m) ∧ Touch base g w w' := by
  obtain ⟨i0, hi0, hz0, hz1, hz2⟩ := info_parts Try.info_u8
  go_enter Try.func20, Try.ntmps20
  go_wp2
  go_loopw [9] (fun iv wr => ∃ i : Nat, i ≤ m ∧ iv = .int .i64 i ∧ Wr wr base g (l ++ digs v m i) ∧ Touch base g w wr) (fun iv _ => m - (intOf iv).toNat)
  case atStart => exact ⟨0, Nat.zero_le _, rfl, by simpa [digs] using h, Touch.refl _ _ _⟩
  case round =>
    obtain ⟨i, hi, rfl, ⟨A, c, hblk, hown⟩, htou⟩ := hrel
    by_cases hlt : i < m
    · obtain ⟨L, hL⟩ : ∃ L, L = l ++ digs v m i := ⟨_, rfl⟩
      rw [← hL] at hblk hown
      have hlen : L.length = l.length + i := by rw [hL, List.length_append, digs_len]
      have HL := Lib.hid hL
      clear hL
      have hpl := pack_len L
      have HSN := Lib.hid (pack_snoc L (v / 2 ^ (m - 1 - i) % 2))
      have HST := Lib.hid (show (L ++ [v / 2 ^ (m - 1 - i) % 2]) = l ++ digs v m (i + 1) by rw [HL.out, List.append_assoc, ← digs_succ])
      obtain ⟨zs, hzs⟩ : ∃ zs, zs = pack L := ⟨_, rfl⟩
      rw [← hzs] at hblk hown hpl HSN
      obtain ⟨u, hu⟩ : ∃ u, u = L.length := ⟨_, rfl⟩
      rw [← hu] at hblk hpl hlen HSN
      obtain ⟨n, hn⟩ : ∃ n, n = zs.length := ⟨_, rfl⟩
      rw [← hn] at hblk hown hpl
      obtain ⟨p0, p1, p2, p3, p4⟩ := hblk.two
      have HN := Lib.hid hn
      have HU := Lib.hid hu
      have HZS := Lib.hid hzs
      have HLE := Lib.hid hlen
      clear hn hu hzs hlen
      have hsz := htou.size
      by_cases h8 : u % 8 = 0
      · obtain ⟨q, hq⟩ : ∃ q, q = u / 8 := ⟨_, rfl⟩
        have hqn : q = n := by omega
        have hub : u ≤ 524288 := by have := HLE.out; omega
        have hn1 : n ≤ 65536 := by omega
        have hw : IntKind.i64.wrap ((u : Int) / 8) = (q : Int) := by rw [IntWalk.i64_in _ (by omega)]; omega
        have hq0 : (0 : Int) ≤ (q : Int) := Int.natCast_nonneg _
        have hq1 : (q : Int) < (n : Int) + 1 := by omega
        have hq8 : ((u : Int) % 8 == 0) = true := by rw [beq_iff_eq]; omega
        have HQ := Lib.hid hq
        have HPL := Lib.hid hpl
        obtain ⟨b, hb⟩ : ∃ b, b = v / 2 ^ (m - 1 - i) % 2 := ⟨_, rfl⟩
        have hbl : b < 2 := by omega
        rw [← hb] at HST HSN
        have hbd := bit_digit v (m - 1 - i) hv
        rw [← hb] at hbd
        obtain ⟨pl, hpe⟩ : ∃ pl, pl = 7 - u % 8 := ⟨_, rfl⟩
        have HB := Lib.hid hb
        have hpl7 : pl ≤ 7 := by omega
        have HQN := Lib.hid hqn
        have HPE := Lib.hid hpe
        have H8 := Lib.hid h8
        clear hpl hb hq hqn hpe h8
        go_wp2_with (at_builtin; refine wpList_append1 rfl _ _ 22 rfl base 5 i0 (.int .u8 0) 1 Try.underlying22 hi0 hz0 hz1 hz2 rfl _ _ _ _ rfl hown (.int .u8 0) rfl rfl (by unfold maxLen; omega) (by omega) (by omega) ?_; intro g' c' w1 hown1 hbel1; obtain ⟨p01, p11, p21, p31, p41⟩ := (hblk.below hbel1 hgb).two)
        have hblk3 := (hblk.below hbel1 hgb).set_ 0 (.slice (some ⟨g', 0, none⟩) (n + 1) c')
        have hg' : base ≤ g' := (hown1.lt g' rfl).1
        have hne : g ≠ g' := by omega
        rw [i8s_append] at hown1
        have hown3 : (w1.setCell ⟨g, 0, none⟩ (.slice (some ⟨g', 0, none⟩) (n + 1) c')).ownsRow base 5 1 (.slice (some ⟨g', 0, none⟩) (n + 1) c') (n + 1) (i8s (zs ++ [0])) := own_same hown1 fun ad hA _ _ => Below.heap_setCell _ _ _ _ (by obtain rfl := Option.some.inj hA; exact fun e => hne e.symm)
        have htou3 := (htou.trans (Touch.of_below (g := g) hbel1)).set_ (p := ⟨g, 0, none⟩) (.inl rfl) (.slice (some ⟨g', 0, none⟩) (n + 1) c')
        have hblk3' : Blk (w1.setCell ⟨g, 0, none⟩ (.slice (some ⟨g', 0, none⟩) (n + 1) c')) g 32 #[.slice (some ⟨g', 0, none⟩) (n + 1) c', .int .i64 (u : Nat)] := by simpa using hblk3
        clear hblk3 hblk hown htou hown1 hbel1 p0 p1 p2 p3 p4 p01 p11 p21 p31 p41 hsz
        generalize w1.setCell ⟨g, 0, none⟩ (.slice (some ⟨g', 0, none⟩) (n + 1) c') = w3 at hown3 htou3 hblk3' ⊢
        obtain ⟨p0, p1, p2, p3, p4⟩ := hblk3'.two
        have HNN := Lib.hid (show n + 1 = (zs ++ [0]).length by rw [List.length_append, ← HN.out]; rfl)
        have hqn1 : q < n + 1 := by have := HQN.out; omega
        have hc := hown3.cellAt q (by omega)
        rw [i8s_at _ _ (by rw [← HNN.out]; exact hqn1)] at hc
        obtain ⟨d, hd⟩ : ∃ d, d = (zs ++ [0]).getD q 0 := ⟨_, rfl⟩
        rw [← hd] at hc
        have HD := Lib.hid hd
        have hpla := place_any u w3.drew (by unfold maxLen; omega)
        rw [← HPE.out] at hpla
        have HPLA := Lib.hid hpla
        clear hd hpla
        refine wp_region_still_tail 20 (by kernel_rfl) (by kernel_rfl) ?_
        simp only [List.take_succ_cons, List.take_zero, List.drop_succ_cons, List.drop_zero]
        repeat still_step
        still_call (HPLA.out.mono fun _ _ h => ⟨h.1, h.2.symm⟩)
        repeat still_step
        try refine wpStill_nil ?_
        change wpList _ _ _ _ _ w3.drew
        have hblk2 := hblk3'.drew
        have hown2 := hown3.drew
        have htou2 := htou3.drew
        clear p0 p1 p2 p3 p4 hc hblk3' hown3 htou3 HPLA
        generalize w3.drew = w2 at hblk2 hown2 htou2 ⊢
        obtain ⟨p0, p1, p2, p3, p4⟩ := hblk2.two
        have hf : w2.frozen? ⟨g', q, none⟩ = false := hown2.frozenAt q
        have hc := hown2.cellAt q (by omega)
        rw [i8s_at _ _ (by rw [← HNN.out]; exact hqn1), ← HD.out] at hc
        have hsh := shl_bit b pl hbl hpl7
        go_wp2
        go_roundw
        case rel => exact ⟨i + 1, by omega, by go_num, put_end hblk2 hown2 hne HST.out HSN.out HU.out HNN.out HQ.out HPE.out HD.out (if_pos H8.out), (htou2.set_ (p := ⟨g', q, none⟩) (.inr hg') _).set_ (p := ⟨g, 1, none⟩) (.inl rfl) _⟩
        case measure => simp [intOf]; omega
      · obtain ⟨q, hq⟩ : ∃ q, q = u / 8 := ⟨_, rfl⟩
        have hqn : q < n := by omega
        obtain ⟨g', cap, hv', hg', hgs'⟩ := hown.form (by omega)
        obtain ⟨rfl, rfl⟩ : A = some ⟨g', 0, none⟩ ∧ c = cap := by injection hv' with h1 _ h3; exact ⟨h1, h3⟩
        clear hv'
        have hc := hown.cellAt q (by omega)
        rw [i8s_at _ _ (by rw [← HN.out]; exact hqn)] at hc
        have hf : wr.frozen? ⟨g', q, none⟩ = false := hown.frozenAt q
        have hw : IntKind.i64.wrap ((u : Int) / 8) = (q : Int) := by rw [IntWalk.i64_in _ (by have := HLE.out; omega)]; omega
        have hq0 : (0 : Int) ≤ (q : Int) := Int.natCast_nonneg _
        have hq1 : (q : Int) < (n : Int) := by omega
        have hq8 : ((u : Int) % 8 == 0) = false := by rw [beq_eq_false_iff_ne]; omega
        have hub : u ≤ 524288 := by have := HLE.out; omega
        have HQ := Lib.hid hq
        clear hq
        obtain ⟨d, hd⟩ : ∃ d, d = zs.getD q 0 := ⟨_, rfl⟩
        rw [← hd] at hc
        have HD := Lib.hid hd
        have HPL := Lib.hid hpl
        obtain ⟨b, hb⟩ : ∃ b, b = v / 2 ^ (m - 1 - i) % 2 := ⟨_, rfl⟩
        have hbl : b < 2 := by omega
        rw [← hb] at HST HSN
        have hbd := bit_digit v (m - 1 - i) hv
        rw [← hb] at hbd
        obtain ⟨pl, hpe⟩ : ∃ pl, pl = 7 - u % 8 := ⟨_, rfl⟩
        have hpla := place_any u wr.drew (by unfold maxLen; omega)
        rw [← hpe] at hpla
        have HPLA := Lib.hid hpla
        have HB := Lib.hid hb
        have HPE := Lib.hid hpe
        have hpl7 : pl ≤ 7 := by omega
        clear hd hpl hb hpla hpe
        go_wp2
        refine wp_region_still_tail 20 (by kernel_rfl) (by kernel_rfl) ?_
        simp only [List.take_succ_cons, List.take_zero, List.drop_succ_cons, List.drop_zero]
        repeat still_step
        still_call (HPLA.out.mono fun _ _ h => ⟨h.1, h.2.symm⟩)
        repeat still_step
        try refine wpStill_nil ?_
        change wpList _ _ _ _ _ wr.drew
        have hblk2 := hblk.drew
        have hown2 := hown.drew
        have htou2 := htou.drew
        have hsz2 : w.heap.size ≤ wr.drew.heap.size := hsz
        have hgs2 : g' < wr.drew.heap.size := hgs'
        clear p0 p1 p2 p3 p4 hc hf hblk hown htou HPLA hsz hgs'
        generalize wr.drew = w2 at hblk2 hown2 htou2 hsz2 hgs2 ⊢
        obtain ⟨p0, p1, p2, p3, p4⟩ := hblk2.two
        have hf : w2.frozen? ⟨g', q, none⟩ = false := hown2.frozenAt q
        have hc := hown2.cellAt q (by omega)
        rw [i8s_at _ _ (by rw [← HN.out]; exact hqn)] at hc
        have hne : g ≠ g' := by omega
        have hsh := shl_bit b pl hbl hpl7
        go_wp2
        go_roundw
        case rel => exact ⟨i + 1, by omega, by go_num, put_end hblk2 hown2 hne HST.out HSN.out HU.out HN.out HQ.out HPE.out HD.out (if_neg h8), (htou2.set_ (p := ⟨g', q, none⟩) (.inr hg') _).set_ (p := ⟨g, 1, none⟩) (.inl rfl) _⟩
        case measure => simp [intOf]; omega
    · obtain rfl : i = m := by omega
      go_wp2
      go_end0
      exact ⟨rfl, ⟨A, c, hblk, hown⟩, htou⟩
end Go.Proofs.Ytekjhomjonfgfaa
