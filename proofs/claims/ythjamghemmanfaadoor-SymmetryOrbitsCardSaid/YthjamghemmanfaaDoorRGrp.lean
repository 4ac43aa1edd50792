/- The walk of the reference's Group. -/
import Derived.Test.YthjamghemmanfaaDoorGrp
import Derived.Test.YthjamghemmanfaaDoorFind
namespace Go.Proofs.YthjamghemmanfaaDoor
open Go.RowKit

theorem Good.snoc {l : List Int} {g : List Nat} {x : Nat} (h : Good l g) (hx : Gen (mds l) x) (hn : x ∉ g) : Good l (g ++ [x]) := by
  refine ⟨?_, ?_, ?_⟩
  · have h1 := h.1
    cases g with
    | nil => simp at h1
    | cons a g => simpa using h1
  · rw [List.nodup_append]
    refine ⟨h.2.1, by simp, ?_⟩
    intro a ha b hb e
    simp at hb
    subst hb
    subst e
    exact hn ha
  · intro k hk
    rw [List.mem_append] at hk
    rcases hk with hk | hk
    · exact h.2.2 k hk
    · simp at hk
      subst hk
      exact hx
theorem Good.add1 {l : List Int} {g : List Nat} {z : Int} (h : Good l g) (hz : z ∈ l) (hn : md z ∉ g) : Good l (g ++ [md z]) := h.snoc (Gen.one (mds_lt l) (mds_mem hz)) hn
theorem Good.add2 {l : List Int} {g : List Nat} {a b : Nat} (h : Good l g) (ha : a ∈ g) (hb : b ∈ g) (hn : comp a b ∉ g) : Good l (g ++ [comp a b]) := h.snoc ((h.2.2 a ha).comp (mds_lt l) (h.2.2 b hb)) hn
/-- the list's numbers are in -/
def Has1 (l : List Int) (g : List Nat) (i : Nat) : Prop := ∀ q, q < i → ∀ z, l[q]? = some z → md z ∈ g
def Has2 (l : List Int) (g : List Nat) : Prop := ∀ z ∈ l, md z ∈ g
def Closed (g : List Nat) (i : Nat) : Prop := ∀ p, p < i → ∀ q, q < g.length → comp (g.getD p 0) (g.getD q 0) ∈ g
def ClosedAt (g : List Nat) (i k : Nat) : Prop := ∀ q, q < k → comp (g.getD i 0) (g.getD q 0) ∈ g
theorem Good.all2 {l : List Int} {g : List Nat} (h : Good l g) (h1 : Has2 l g) (hc : Closed g g.length) (k : Nat) : k ∈ g ↔ Gen (mds l) k := by
  refine ⟨h.2.2 k, fun hk => gen_of_closed h.first (fun x hx s hs => ?_) hk⟩
  obtain ⟨p, hp, rfl⟩ := mem_getD hx
  unfold mds at hs
  rw [List.mem_map] at hs
  obtain ⟨z, hz, rfl⟩ := hs
  obtain ⟨q, hq, e⟩ := mem_getD (h1 z hz)
  rw [← e]
  exact hc p hp q hq
theorem filter_grp {l : List Int} {g : List Nat} (h : ∀ k, k ∈ g ↔ Gen (mds l) k) : (List.range 8).filter (fun k => decide (k ∈ g)) = grp (mds l) := by
  unfold grp
  refine List.filter_congr fun k _ => ?_
  by_cases hk : k ∈ g
  · rw [decide_eq_true hk]
    exact (@decide_eq_true _ (Classical.propDecidable _) ((h k).1 hk)).symm
  · rw [decide_eq_false hk]
    exact (@decide_eq_false _ (Classical.propDecidable _) (fun e => hk ((h k).2 e))).symm
def flt (g : List Nat) (k : Nat) : List Nat := (List.range k).filter (fun k => decide (k ∈ g))
theorem flt_yes {g : List Nat} {k : Nat} (h : k ∈ g) : flt g (k + 1) = flt g k ++ [k] := by
  unfold flt; rw [List.range_succ, List.filter_append]; simp [h]
theorem flt_no {g : List Nat} {k : Nat} (h : k ∉ g) : flt g (k + 1) = flt g k := by
  unfold flt; rw [List.range_succ, List.filter_append]; simp [h]
theorem flt_len (g : List Nat) (k : Nat) : (flt g k).length ≤ k := by
  have := List.length_filter_le (fun k => decide (k ∈ g)) (List.range k)
  simpa [flt] using this

def lenOf : Value → Nat
  | .slice _ n _ => n
  | _ => 0
def boolN : Value → Nat
  | .bool true => 1
  | _ => 0

/-- a group under way -/
def Way (l : List Int) (base : Nat) (w0 w : World) (g : List Nat) (b m c' : Nat) : Prop :=
  g.length = m ∧ 1 ≤ m ∧ m ≤ 8 ∧ w.ownsRow base 3 1 (.slice (some ⟨b, 0, none⟩) m c') m (ints g) ∧ Good l g ∧ Below base w0 w
theorem Way.below {l : List Int} {base : Nat} {w0 w w' : World} {g : List Nat} {b m c' : Nat} (h : Way l base w0 w g b m c') (hb : Below w.heap.size w w') (hB : base ≤ w.heap.size) : Way l base w0 w' g b m c' :=
  ⟨h.1, h.2.1, h.2.2.1, own_below h.2.2.2.1 hb, h.2.2.2.2.1, h.2.2.2.2.2.trans (hb.mono hB)⟩
theorem Way.row {l : List Int} {base : Nat} {w0 w : World} {g : List Nat} {b m c' : Nat} (h : Way l base w0 w g b m c') : Row w b m (fun j => g.getD j 0) := Row.of_own h.2.2.2.1 (by have := h.2.1; omega)

set_option maxRecDepth 100000 in
set_option maxHeartbeats 4000000 in
theorem rgroup_any (A : Option Addr) (n c B : Nat) (l : List Int) (w : World) (h : Ins w B A n l) (hB : B ≤ w.heap.size) (hn : n ≤ 100) :
    Calls Tryd.prog 17 #[.slice A n c] w (GroupSays l w) := by
  obtain ⟨i0, hi, hz0, hz1, hz2⟩ := info_parts Tryd.info_int
  have HI := Lib.hid h
  have HLN := Lib.hid h.len
  have own0 := Lib.hid (World.ownsRow_lit (e := 3) (size := 1) (base := w.heap.size) w #[.int .i64 0] 1 (Nat.le_refl _) (by decide) rfl)
  have B0 := Lib.hid ((Below.refl w.heap.size w).alloc (Nat.le_refl _) (.cells #[.int .i64 0] 3))
  clear h
  go_enter Tryd.func17, Tryd.ntmps17
  go_wp2
  go_loopw [3, 4] (fun sv iv wr => ∃ (g : List Nat) (i b m c' : Nat), i ≤ n ∧ m ≤ 8 ∧ sv = .slice (some ⟨b, 0, none⟩) m c' ∧ iv = .int .i64 (i : Int) ∧ Way l w.heap.size w wr g b m c' ∧ Has1 l g i) (fun _ iv _ => n - (intOf iv).toNat)
  case atStart => exact ⟨[0], 0, _, 1, 1, by omega, by omega, rfl, rfl, ⟨rfl, by omega, by omega, own0.out, ⟨rfl, by simp, fun k hk => by simp at hk; subst hk; exact Gen.zero⟩, B0.out⟩, fun p hp => by omega⟩
  case round =>
    obtain ⟨g, i, b, m, c', hin, hm8, rfl, rfl, hway, hhas⟩ := hrel
    have HW := Lib.hid hway
    have HH := Lib.hid hhas
    have hs2 : w.heap.size ≤ wr.heap.size := hway.2.2.2.2.2.size
    clear hway hhas own0 B0
    by_cases hlt : i < n
    · obtain ⟨ad, z, rfl, hadb, hcz, hzl, hzk, hz1', hz2'⟩ := (HI.out.keep (HW.out.2.2.2.2.2.mono hB)).at_ hlt
      have MM := Lib.hid (fun w => mod_any z w hz1' hz2')
      obtain ⟨y, hy⟩ : ∃ y, y = md z := ⟨_, rfl⟩
      rw [← hy] at MM
      have CT := Lib.hid (has_any (some ⟨b, 0, none⟩) m c' wr.heap.size g y wr (Reads.of_own HW.out.2.2.2.1) (by omega))
      have HZ := Lib.hid hzl
      have HZK := Lib.hid hzk
      have HY := Lib.hid hy
      clear hzl hzk hy
      by_cases hy : y ∈ g
      · rw [show decide (y ∈ g) = true by simpa using hy] at CT
        have HIN := Lib.hid hy
        clear hy
        go_wp2_with (first | (go_at_call 28; (with_reducible refine (MM.out _).mono ?_); rintro e w' ⟨rfl, rfl⟩) | (go_at_call 27; (with_reducible refine CT.out.mono ?_); rintro e w' ⟨rfl, rfl⟩))
        go_roundw
        case rel =>
          refine ⟨g, i + 1, b, m, c', by omega, hm8, rfl, by go_num, HW.out, fun q hq z' hz' => ?_⟩
          by_cases e : q = i
          · subst e
            rw [HZK.out] at hz'
            obtain rfl := Option.some.inj hz'
            rw [← HY.out]; exact HIN.out
          · exact HH.out q (by omega) z' hz'
        case measure => simp [intOf]; omega
      · rw [show decide (y ∈ g) = false by simpa using hy] at CT
        have hG' : Good l (g ++ [y]) := by
          rw [HY.out]; exact HW.out.2.2.2.2.1.add1 HZ.out (by rw [← HY.out]; exact hy)
        have hl9 := hG'.len
        have HG' := Lib.hid hG'
        have hm82' : m + 1 ≤ 8 := by have := HW.out.1; simp at hl9; omega
        have hown := HW.out.2.2.2.1
        clear hy hG' hl9
        go_wp2_with (first | (go_at_call 28; (with_reducible refine (MM.out _).mono ?_); rintro e w' ⟨rfl, rfl⟩) | (go_at_call 27; (with_reducible refine CT.out.mono ?_); rintro e w' ⟨rfl, rfl⟩) | (at_builtin; refine wpList_append1 rfl _ _ 22 rfl w.heap.size 3 i0 (.int .i64 0) 8 Tryd.underlying22 hi hz0 hz1 hz2 rfl _ _ _ _ rfl hown (.int .i64 (y : Int)) rfl rfl (by unfold maxLen; omega) (by omega) hs2 ?_; intro g' c4 w2 hown' hbel'))
        go_roundw
        case rel =>
          refine ⟨g ++ [y], i + 1, g', m + 1, c4, by omega, hm82', rfl, by go_num, ⟨by simp [HW.out.1], by omega, hm82', by rw [ints_snoc]; exact hown', HG'.out, HW.out.2.2.2.2.2.trans (hbel'.mono (Nat.le_refl _))⟩, fun q hq z' hz' => ?_⟩
          by_cases e : q = i
          · subst e
            rw [HZK.out] at hz'
            obtain rfl := Option.some.inj hz'
            rw [← HY.out]; simp
          · exact List.mem_append_left _ (HH.out q (by omega) z' hz')
        case measure => simp [intOf]; omega
    · obtain rfl : i = n := by omega
      have HAll := Lib.hid (show Has2 l g from fun z hz => by
        obtain ⟨q, hq, rfl⟩ := List.getElem_of_mem hz
        exact HH.out q (by have := HLN.out; omega) _ (List.getElem?_eq_getElem hq))
      clear HH hlt
      obtain ⟨wo, hwo⟩ : ∃ wo, wo = wr := ⟨_, rfl⟩
      subst hwo
      go_wp2
      go_loopw [3, 5] (fun sv av wr => ∃ (g : List Nat) (b m c' : Nat) (a : Bool), m ≤ 8 ∧ sv = .slice (some ⟨b, 0, none⟩) m c' ∧ av = .bool a ∧ Way l w.heap.size w wr g b m c' ∧ Has2 l g ∧ (a = false → Closed g m)) (fun sv av _ => 2 * (8 - lenOf sv) + boolN av)
      case atStart => exact ⟨g, b, m, c', true, hm8, rfl, rfl, HW.out, HAll.out, fun h => by cases h⟩
      case round =>
        obtain ⟨g1, b1, m1, c1, a, hm18, rfl, rfl, hway, hhas, hcl⟩ := hrel
        have HW1 := Lib.hid hway
        have HH1 := Lib.hid hhas
        clear hway hhas HW HAll
        cases a
        · have HC := Lib.hid (hcl rfl)
          clear hcl
          obtain ⟨w9, hw9⟩ : ∃ w9, w9 = wr := ⟨_, rfl⟩
          subst hw9
          go_wp2
          have hgl := HW1.out.1
          have HGR := Lib.hid (filter_grp (HW1.out.2.2.2.2.1.all2 HH1.out (by rw [hgl]; exact HC.out)))
          have HMM := Lib.hid (HW1.out.2.2.2.2.2)
          have hs9 : w.heap.size ≤ w9.heap.size := HMM.out.size
          have hm1p := HW1.out.2.1
          have hbm := (HW1.out.2.2.2.1.lt b1 rfl).2
          have HRd := Lib.hid (Reads.of_own HW1.out.2.2.2.1)
          clear hgl HC HH1
          go_loopw [9, 10] (fun ov kv wr => ∃ (k m2 c2 : Nat) (A2 : Option Addr), k ≤ 8 ∧ m2 = (flt g1 k).length ∧ ov = .slice A2 m2 c2 ∧ kv = .int .i64 (k : Int) ∧ wr.ownsRow w9.heap.size 3 1 (.slice A2 m2 c2) m2 (ints (flt g1 k)) ∧ Below w9.heap.size w9 wr) (fun _ kv _ => 8 - (intOf kv).toNat)
          case atStart => exact ⟨0, 0, 0, none, by omega, rfl, rfl, rfl, ⟨rfl, .inl ⟨rfl, rfl⟩⟩, Below.refl _ _⟩
          case round =>
            obtain ⟨k, m2, c2, A2, hk8, hm2, rfl, rfl, hown, hbel⟩ := hrel
            have hs10 : w9.heap.size ≤ wr.heap.size := hbel.size
            have hm2k : m2 ≤ k := by rw [hm2]; exact flt_len _ _
            by_cases hk : k < 8
            · have CT := Lib.hid (has_any (some ⟨b1, 0, none⟩) m1 c1 w9.heap.size g1 k wr (HRd.out.below hbel) (by omega))
              have HM2 := Lib.hid hm2
              have HB2 := Lib.hid hbel
              by_cases hkg : k ∈ g1
              · rw [show decide (k ∈ g1) = true by simpa using hkg] at CT
                have HF := Lib.hid (flt_yes hkg)
                clear hkg hm2 hbel
                go_wp2_with (first | (go_at_call 27; (with_reducible refine CT.out.mono ?_); rintro e w' ⟨rfl, rfl⟩) | (at_builtin; refine wpList_append1 rfl _ _ 22 rfl w9.heap.size 3 i0 (.int .i64 0) 8 Tryd.underlying22 hi hz0 hz1 hz2 rfl _ _ _ _ rfl hown (.int .i64 (k : Int)) rfl rfl (by unfold maxLen; omega) (by omega) hs10 ?_; intro g' c4 w2 hown' hbel'))
                go_roundw
                case rel => exact ⟨k + 1, m2 + 1, c4, _, by omega, by rw [HF.out, HM2.out]; simp, rfl, by go_num, by rw [HF.out, ints_snoc]; exact hown', HB2.out.trans hbel'⟩
                case measure => simp [intOf]; omega
              · rw [show decide (k ∈ g1) = false by simpa using hkg] at CT
                have HF := Lib.hid (flt_no hkg)
                clear hkg hm2 hbel
                go_wp2_with (first | (go_at_call 27; (with_reducible refine CT.out.mono ?_); rintro e w' ⟨rfl, rfl⟩))
                go_roundw
                case rel => exact ⟨k + 1, m2, c2, A2, by omega, by rw [HF.out]; exact HM2.out, rfl, by go_num, by rw [HF.out]; exact hown, HB2.out⟩
                case measure => simp [intOf]; omega
            · obtain rfl : k = 8 := by omega
              have hfe : flt g1 8 = grp (mds l) := HGR.out
              have hlen := grp_len (mds l)
              rw [hfe] at hown hm2
              obtain ⟨b3, c3, hv3, hb3, hb4⟩ := hown.form (by omega)
              have hR := Lib.hid (Reads.of_own hown)
              injection hv3 with hv31 hv32 hv33
              subst hv31 hv33
              have HM2 := Lib.hid hm2
              have HZ := Lib.hid (HMM.out.trans (hbel.mono hs9))
              clear hm2 hfe hlen hown hbel
              go_wp2
              go_ret
              have hm2 := HM2.out
              subst hm2
              exact ⟨b3, c2, rfl, hR.out, HZ.out⟩
        · clear hcl
          obtain ⟨w9, hw9⟩ : ∃ w9, w9 = wr := ⟨_, rfl⟩
          subst hw9
          go_wp2
          go_loopw [3, 5, 6] (fun sv av iv wr => ∃ (g : List Nat) (b m c' : Nat) (a : Bool) (i : Nat), m ≤ 8 ∧ i ≤ 8 ∧ sv = .slice (some ⟨b, 0, none⟩) m c' ∧ av = .bool a ∧ iv = .int .i64 (i : Int) ∧ Way l w.heap.size w wr g b m c' ∧ Has2 l g ∧ (a = false → m = m1 ∧ i ≤ m ∧ Closed g i) ∧ (a = true → m1 < m)) (fun _ _ iv _ => 9 - (intOf iv).toNat)
          case atStart => exact ⟨g1, b1, m1, c1, false, 0, hm18, by omega, rfl, rfl, rfl, HW1.out, HH1.out, fun _ => ⟨rfl, by omega, fun p hp => by omega⟩, fun h => by cases h⟩
          case round =>
            obtain ⟨g2, b2, m2, c2, a, i2, hm28, hi28, rfl, rfl, rfl, hway, hhas, hf, ht⟩ := hrel
            have HW2 := Lib.hid hway
            have HH2 := Lib.hid hhas
            clear hway hhas HW1 HH1
            cases a
            · obtain ⟨hmm, him, hcl⟩ := hf rfl
              have HMM := Lib.hid hmm
              have HC2 := Lib.hid hcl
              clear hf ht hmm hcl
              by_cases hi2 : i2 < m2
              · obtain ⟨w8, hw8⟩ : ∃ w8, w8 = wr := ⟨_, rfl⟩
                subst hw8
                go_wp2
                go_loopw [3, 5, 7] (fun sv av kv wr => ∃ (g : List Nat) (b m c' : Nat) (a : Bool) (k : Nat), m ≤ 8 ∧ k ≤ 8 ∧ sv = .slice (some ⟨b, 0, none⟩) m c' ∧ av = .bool a ∧ kv = .int .i64 (k : Int) ∧ Way l w.heap.size w wr g b m c' ∧ Has2 l g ∧ (a = false → m = m1 ∧ i2 < m ∧ k ≤ m ∧ Closed g i2 ∧ ClosedAt g i2 k) ∧ (a = true → m1 < m)) (fun _ _ kv _ => 9 - (intOf kv).toNat)
                case atStart => exact ⟨g2, b2, m2, c2, false, 0, hm28, by omega, rfl, rfl, rfl, HW2.out, HH2.out, fun _ => ⟨HMM.out, hi2, by omega, HC2.out, fun p hp => by omega⟩, fun h => by cases h⟩
                case round =>
                  obtain ⟨g3, b3, m3, c3, a, k, hm38, hk8, rfl, rfl, rfl, hway, hhas, hf, ht⟩ := hrel
                  have HW3 := Lib.hid hway
                  have HH3 := Lib.hid hhas
                  clear hway hhas HW2 HH2
                  cases a
                  · obtain ⟨hmm, him3, hkm, hcl, hca⟩ := hf rfl
                    have HMM3 := Lib.hid hmm
                    have HC3 := Lib.hid hcl
                    have HA3 := Lib.hid hca
                    clear hf ht hmm hcl hca HMM HC2
                    by_cases hk : k < m3
                    · have hrow := HW3.out.row
                      have hb3 := hrow.1
                      have r1 := (hrow.2 i2 him3).1
                      have r2 := (hrow.2 k hk).1
                      simp only at r1 r2
                      have hgl := HW3.out.1
                      have x8 := HW3.out.2.2.2.2.1.lt _ (getD_mem (show i2 < g3.length by omega))
                      have y8 := HW3.out.2.2.2.2.1.lt _ (getD_mem (show k < g3.length by omega))
                      obtain ⟨x, hx⟩ : ∃ x, x = g3.getD i2 0 := ⟨_, rfl⟩
                      obtain ⟨y, hy⟩ : ∃ y, y = g3.getD k 0 := ⟨_, rfl⟩
                      rw [← hx] at r1 x8
                      rw [← hy] at r2 y8
                      have CC := Lib.hid (fun w => by have := rcompose_any (x : Int) (y : Int) w (by omega) (by omega) (by omega) (by omega); rwa [md_nat x x8, md_nat y y8] at this)
                      have HX := Lib.hid hx
                      have HY := Lib.hid hy
                      obtain ⟨z, hz⟩ : ∃ z, z = comp x y := ⟨_, rfl⟩
                      rw [← hz] at CC
                      have HZ := Lib.hid hz
                      have hs3 : w.heap.size ≤ wr.heap.size := HW3.out.2.2.2.2.2.size
                      have q1 := fun p : LowW wr.heap.size wr => (p.below.cell (p := ⟨b3, i2, none⟩) hb3).trans r1
                      have q2 := fun p : LowW wr.heap.size wr => (p.below.cell (p := ⟨b3, k, none⟩) hb3).trans r2
                      clear hx hy hz hrow hgl r1 r2
                      go_wp2_with fail
                      refine wp_region_low wr.heap.size wr (by kernel_rfl) (by kernel_rfl) (Below.refl _ _) ?_
                      repeat (quiet_step (first | (go_at_call 29; with_reducible exact LowW.of_call _ (Nat.le_refl _) (CC.out _))))
                      refine wpQuiet_nil ?_
                      rintro w' ⟨p, rfl⟩
                      have HW4 := Lib.hid (HW3.out.below p.below hs3)
                      have hs4 : w.heap.size ≤ p.w.heap.size := Nat.le_trans hs3 p.below.size
                      clear q1 q2 HW3
                      generalize p.w = w7 at HW4 hs4 ⊢
                      have CT := Lib.hid (has_any (some ⟨b3, 0, none⟩) m3 c3 w7.heap.size g3 z w7 (Reads.of_own HW4.out.2.2.2.1) (by omega))
                      by_cases hin : z ∈ g3
                      · rw [show decide (z ∈ g3) = true by simpa using hin] at CT
                        have HIN := Lib.hid hin
                        clear hin
                        go_wp2_with (first | (go_at_call 27; (with_reducible refine CT.out.mono ?_); rintro e w' ⟨rfl, rfl⟩))
                        go_roundw
                        case rel =>
                          refine ⟨g3, b3, m3, c3, false, k + 1, hm38, by omega, rfl, rfl, by go_num, HW4.out, HH3.out, fun _ => ⟨HMM3.out, him3, by omega, HC3.out, fun q hq => ?_⟩, fun h => by cases h⟩
                          by_cases e : q = k
                          · subst e
                            rw [← HX.out, ← HY.out, ← HZ.out]; exact HIN.out
                          · exact HA3.out q (by omega)
                        case measure => simp [intOf]; omega
                      · rw [show decide (z ∈ g3) = false by simpa using hin] at CT
                        have hG' : Good l (g3 ++ [z]) := by
                          rw [HZ.out, HX.out, HY.out]
                          have hgl := HW4.out.1
                          exact HW4.out.2.2.2.2.1.add2 (getD_mem (by omega)) (getD_mem (by omega)) (by rw [← HX.out, ← HY.out, ← HZ.out]; exact hin)
                        have hl9 := hG'.len
                        have HG' := Lib.hid hG'
                        have hm82' : m3 + 1 ≤ 8 := by have := HW4.out.1; simp at hl9; omega
                        have hown := HW4.out.2.2.2.1
                        clear hin hG' hl9
                        go_wp2_with (first | (go_at_call 27; (with_reducible refine CT.out.mono ?_); rintro e w' ⟨rfl, rfl⟩) | (at_builtin; refine wpList_append1 rfl _ _ 22 rfl w.heap.size 3 i0 (.int .i64 0) 8 Tryd.underlying22 hi hz0 hz1 hz2 rfl _ _ _ _ rfl hown (.int .i64 (z : Int)) rfl rfl (by unfold maxLen; omega) (by omega) hs4 ?_; intro g' c4 w2 hown' hbel'))
                        go_roundw
                        case rel =>
                          refine ⟨g3 ++ [z], g', m3 + 1, c4, true, k + 1, hm82', by omega, rfl, rfl, by go_num, ⟨by simp [HW4.out.1], by omega, hm82', by rw [ints_snoc]; exact hown', HG'.out, HW4.out.2.2.2.2.2.trans (hbel'.mono (Nat.le_refl _))⟩, fun z' hz' => List.mem_append_left _ (HH3.out z' hz'), (fun h => by cases h), fun _ => by have := HMM3.out; omega⟩
                        case measure => simp [intOf]; omega
                    · obtain rfl : k = m3 := by omega
                      go_wp2
                      go_roundw
                      case rel =>
                        refine ⟨g3, b3, k, c3, false, i2 + 1, hm38, by omega, rfl, rfl, by go_num, HW3.out, HH3.out, fun _ => ⟨HMM3.out, by omega, fun p hp q hq => ?_⟩, fun h => by cases h⟩
                        by_cases e : p = i2
                        · subst e
                          exact HA3.out q (by have := HW3.out.1; omega)
                        · exact HC3.out p (by omega) q hq
                      case measure => simp [intOf]; omega
                  · have hmt := ht rfl
                    clear hf ht
                    by_cases hkk : k < m3
                    all_goals
                      go_wp2
                      go_roundw
                      case rel => exact ⟨g3, b3, m3, c3, true, i2 + 1, hm38, by omega, rfl, rfl, by go_num, HW3.out, HH3.out, (fun h => by cases h), fun _ => hmt⟩
                      case measure => simp [intOf]; omega
              · obtain rfl : i2 = m2 := by omega
                go_wp2
                go_roundw
                case rel => exact ⟨g2, b2, i2, c2, false, hm28, rfl, rfl, HW2.out, HH2.out, fun _ => HC2.out⟩
                case measure => have := HMM.out; simp [lenOf, boolN]; omega
            · have hmt := ht rfl
              clear hf ht
              by_cases hkk : i2 < m2
              all_goals
                go_wp2
                go_roundw
                case rel => exact ⟨g2, b2, m2, c2, true, hm28, rfl, rfl, HW2.out, HH2.out, fun h => by cases h⟩
                case measure => simp [lenOf, boolN]; omega
end Go.Proofs.YthjamghemmanfaaDoor
