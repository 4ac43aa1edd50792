/- The walk of decimal. -/
import Derived.Test.YtckkbeknjipddaaDoorDiv
import Derived.Test.YtckkbeknjipddaaDoorRev
import Derived.Test.YtckkbeknjipddaaDoorParse
import Derived.Laws.BytesArg
namespace Go.Proofs.YtckkbeknjipddaaDoor
open Go.RowKit

/-- the text t is the decimal form of N, which is not 0 -/
def DecOf (N : Nat) (t : ByteArray) : Prop := ∃ D, Can 10 D ∧ val 10 D = N ∧ bs t = (D.map (48 + ·)).reverse
theorem DecOf.uniq {N : Nat} {t t' : ByteArray} (h : DecOf N t) (h' : DecOf N t') : t = t' := by
  obtain ⟨D, h1, h2, h3⟩ := h
  obtain ⟨D', h1', h2', h3'⟩ := h'
  have : D = D' := can_inj (by decide) h1 h1' (h2.trans h2'.symm)
  subst this
  exact bs_inj (h3.trans h3'.symm)

theorem trimC_map (l : List Nat) (k : Nat) (hk : k ≤ l.length) : trimC 48 (l.map (48 + ·)) k = trimN l k := by
  induction k with
  | zero => rfl
  | succ k ih =>
    have hkl : k < l.length := by omega
    have e1 : (l.map (48 + ·)).getD k 0 = 48 + l.getD k 0 := by simp [List.getD, hkl]
    unfold trimC trimN
    rw [e1, ih (by omega)]
    by_cases h : l.getD k 0 = 0
    · rw [if_pos h, if_pos (by omega)]
    · rw [if_neg h, if_neg (by omega)]
theorem str_bs (l : List Nat) (h : ∀ d ∈ l, d < 256) : bs (strOfNums (l.map fun (d : Nat) => (d : Int))) = l := by
  unfold bs
  rw [strOfNums_data, List.map_map, List.map_map]
  conv => rhs; rw [← List.map_id l]
  apply List.map_congr_left
  intro d hd
  have := h d hd
  simp
  omega

theorem cells_u8 {w : World} {base g n c : Nat} {xs : List Nat} (h : w.ownsRow base 5 1 (.slice (some ⟨g, 0, none⟩) n c) n (u8s xs)) :
    ∀ i, i < n → w.cell? ⟨g, 0 + i, none⟩ = some (.int .u8 ((xs.map fun (d : Nat) => (d : Int)).getD i 0)) := by
  intro i hi
  have hl : xs.length = n := by have := h.1; simpa [u8s] using this
  rw [Nat.zero_add, h.cellAt i (by omega), u8s_at' _ _ (by omega)]
  simp [List.getD, show i < xs.length by omega]

theorem Tryd.info_u8 : (Tryd.prog.info? 5).map (fun i => (i.zero, i.size, i.bytes)) = some (some (.int .u8 0), 1, 1) := by kernel_rfl

set_option maxRecDepth 100000 in
set_option maxHeartbeats 1000000 in
theorem decimal_any (A : Option Addr) (n c B : Nat) (xs : List Nat) (w : World) (h : Reads w B A n (u32s xs)) (hB : B ≤ w.heap.size) (hn : n ≤ 64) (hc : n ≤ c) (hx : ∀ d ∈ xs, d < 4294967296) (hpos : 0 < val 4294967296 xs) :
    Calls Tryd.prog 28 #[.slice A n c] w fun e w' => ∃ t, e = .returned (.string t) ∧ DecOf (val 4294967296 xs) t ∧ Below w.heap.size w w' := by
  have HL := Lib.hid (u32s_len h)
  have hle := trimN_le xs n
  have hRt : Reads w B A (trimN xs n) (u32s (trimL xs)) := by
    have := h.take hle
    have e : (u32s xs).take (trimN xs n) = u32s (trimL xs) := by
      rw [trimL, HL.out]; simp [u32s]
    rwa [e] at this
  have HT := Lib.hid (show (trimL xs).length = trimN xs n by rw [trimL_len, HL.out])
  have htrim := trim_any A n c B xs w h (by unfold maxLen; omega) hc
  have hcan := trimL_can hx
  have hval := trimL_val 4294967296 xs
  have hlim : val 4294967296 xs < lim := by
    have h1 := val_lt hx
    rw [HL.out] at h1
    exact Nat.lt_of_lt_of_le h1 (Nat.le_trans (Nat.pow_le_pow_right (by decide) hn) (by rw [lim32]; exact Nat.le_refl _))
  obtain ⟨N, hN⟩ : ∃ N, N = val 4294967296 xs := ⟨_, rfl⟩
  rw [← hN] at hval hlim hpos ⊢
  obtain ⟨d0, hd0⟩ : ∃ d0, d0 = trimL xs := ⟨_, rfl⟩
  rw [← hd0] at hRt HT hcan hval
  obtain ⟨m, hm⟩ : ∃ m, m = trimN xs n := ⟨_, rfl⟩
  rw [← hm] at hle hRt HT htrim
  have HTR := Lib.hid htrim
  have HCAN := Lib.hid hcan
  have HVAL := Lib.hid hval
  have HLIM := Lib.hid hlim
  clear htrim hm hd0 hN hcan hval hlim
  obtain ⟨i0, hi, hz0, hz1, hz2⟩ := info_parts Tryd.info_u8
  go_enter Tryd.func28, Tryd.ntmps28
  go_wp2_with (go_at_call 42; refine HTR.out.mono ?_; rintro e w' ⟨rfl, rfl⟩)
  go_loopw [0, 3] (fun dv bv wr => ∃ (A1 : Option Addr) (n1 c1 : Nat) (ds : List Nat) (A2 : Option Addr) (c2 : Nat) (bk : List Nat), dv = .slice A1 n1 c1 ∧ bv = .slice A2 bk.length c2 ∧ n1 ≤ 64 ∧ n1 ≤ c1 ∧
      Reads wr wr.heap.size A1 n1 (u32s ds) ∧ Can 4294967296 ds ∧ wr.ownsRow w.heap.size 5 1 (.slice A2 bk.length c2) bk.length (u8s (bk.map (48 + ·))) ∧ (∀ d ∈ bk, d < 10) ∧
      N = val 10 bk + 10 ^ bk.length * val 4294967296 ds ∧ bk.length ≤ 1100 ∧ Below w.heap.size w wr)
    (fun _ bv _ => 2000 - lenOf bv)
  case atStart =>
    exact ⟨A, m, c, d0, none, 0, [], rfl, rfl, by omega, by omega, hRt.more hB, HCAN.out, World.ownsRow_nil _ _ _ _, by simp, by rw [HVAL.out]; simp [val], by decide, Below.refl _ _⟩
  case round =>
    obtain ⟨A1, n1, c1, ds, A2, c2, bk, rfl, rfl, hn1, hc1, hrd, hcan, hown, hbk, hNv, hbl, hbel⟩ := hrel
    have HDL := Lib.hid (u32s_len hrd)
    have hsz := hbel.size
    by_cases h0 : n1 = 0
    · subst h0
      have hd0 : ds = [] := List.eq_nil_of_length_eq_zero HDL.out
      have hN2 : N = val 10 bk := by rw [hNv, hd0]; simp [val]
      have hbp : 0 < bk.length := by
        rcases Nat.eq_zero_or_pos bk.length with h1 | h1
        · have := List.eq_nil_of_length_eq_zero h1
          rw [this] at hN2
          simp [val] at hN2
          omega
        · exact h1
      obtain ⟨g2, cap2, hv2, hg2, _⟩ := hown.form hbp
      obtain ⟨rfl, rfl⟩ : A2 = some ⟨g2, 0, none⟩ ∧ c2 = cap2 := by injection hv2 with a1 _ a3; exact ⟨a1, a3⟩
      clear hv2 hNv
      have hle2 := trimN_le bk bk.length
      have htr := trimRight_any (some ⟨g2, 0, none⟩) bk.length c2 wr.heap.size (bk.map (48 + ·)) wr (Reads.of_own hown) (by unfold maxLen; omega) (own_le hown) hbp
      rw [trimC_map _ _ (Nat.le_refl _)] at htr
      have hot := own_take hown hle2
      have htk : (u8s (bk.map (48 + ·))).take (trimN bk bk.length) = u8s ((trimL bk).map (48 + ·)) := by
        rw [trimL]; simp [u8s]
      rw [htk] at hot
      have hrev := reverse_any g2 (trimN bk bk.length) c2 w.heap.size ((trimL bk).map (48 + ·)) wr hot hg2 (by unfold maxLen; omega)
      have HTRR := Lib.hid htr
      have HREV := Lib.hid hrev
      have HN2 := Lib.hid hN2
      clear htr hrev hot htk hN2
      have hbyte : ∀ d ∈ ((trimL bk).map (48 + ·)).reverse, d < 256 := by
        intro d hd
        simp only [List.mem_reverse, List.mem_map] at hd
        obtain ⟨x, hx1, rfl⟩ := hd
        have := hbk x (List.mem_of_mem_take hx1)
        omega
      have HBY := Lib.hid hbyte; clear hbyte
      have HBKC := Lib.hid (trimL_can hbk)
      clear hbk
      go_wp2_with (first | (go_at_call 44; refine HTRR.out.mono ?_; rintro e w' ⟨rfl, rfl⟩) | (go_at_call 45; refine HREV.out.mono ?_; rintro e w3 ⟨rfl, hown3, hbel3⟩; have hcv := run_convert_bytes_arg w3 68 5 Tryd.underlying68 Tryd.underlying5 g2 0 (trimN bk bk.length) c2 ((((trimL bk).map (48 + ·)).reverse).map fun (d : Nat) => (d : Int)) (by simp [trimL_len]) (cells_u8 hown3) 9 Tryd.underlying9))
      go_ret
      refine ⟨_, rfl, ⟨trimL bk, HBKC.out, by rw [trimL_val, ← HN2.out], ?_⟩, hbel.trans hbel3⟩
      have hs := str_bs _ HBY.out
      rw [List.map_reverse, List.map_map] at hs
      exact hs
    · have hblt : bk.length < 1000 := by
        have hvp : 0 < val 4294967296 ds := by
          have hne : ds ≠ [] := by intro e; subst e; exact h0 HDL.out.symm
          exact Nat.lt_of_lt_of_le (Nat.pow_pos (by decide)) (can_pos (by decide) hcan hne)
        obtain ⟨e, he, hl⟩ := lim10
        have h1 : 10 ^ bk.length < 10 ^ e := by
          refine Nat.lt_of_le_of_lt ?_ (Nat.lt_of_lt_of_le HLIM.out hl)
          rw [hNv]
          exact Nat.le_trans (Nat.le_mul_of_pos_right _ hvp) (Nat.le_add_left _ _)
        have := (Nat.pow_lt_pow_iff_right (show 1 < 10 by decide)).1 h1
        omega
      have hdiv := divide_any A1 n1 c1 wr.heap.size 1000000000 ds wr hrd (Nat.le_refl _) (by omega) hcan.1 (by decide) (by decide)
      have HDIV := Lib.hid hdiv
      have HNV := Lib.hid hNv
      have HCN := Lib.hid hcan
      have HBK := Lib.hid hbk
      clear hdiv hNv hcan hbk
      go_wp2_with (go_at_call 37; refine HDIV.out.mono ?_; rintro e w1 ⟨g, c3, L, G, rfl, hownq, hLb, hLv, hG, hbq⟩; have HLV := Lib.hid hLv; have HG := Lib.hid hG; have HLB := Lib.hid hLb; clear hLv hG hLb)
      have hownb := own_below hown hbq
      have hsq := hbq.size
      have hbel1 := hbel.trans (hbq.mono hsz)
      obtain ⟨w0, rfl⟩ : ∃ w0, w0 = wr := ⟨_, rfl⟩
      go_loopw [3, 5, 17] (fun bv gv iv wr => ∃ (q : Nat) (A3 : Option Addr) (c4 : Nat) (E : List Nat) (R : Nat), q ≤ 9 ∧ iv = .int .i64 q ∧ gv = .int .u64 R ∧ bv = .slice A3 (bk.length + q) c4 ∧ E.length = q ∧ (∀ d ∈ E, d < 10) ∧ R < 1000000000 ∧ G = val 10 E + 10 ^ q * R ∧
          wr.ownsRow w.heap.size 5 1 (.slice A3 (bk.length + q) c4) (bk.length + q) (u8s ((bk ++ E).map (48 + ·))) ∧ wr.ownsRow w0.heap.size 42 1 (.slice (some ⟨g, 0, none⟩) n1 c3) n1 (u32s L) ∧ Below w.heap.size w wr)
        (fun _ _ iv _ => 9 - (intOf iv).toNat)
      case atStart => exact ⟨0, A2, c2, [], G, by omega, rfl, rfl, rfl, rfl, by simp, by rw [HG.out]; exact Nat.mod_lt _ (by decide), by simp [val], by simpa using hownb, hownq, hbel1⟩
      case round =>
        obtain ⟨q, A3, c4, E, R, hq, rfl, rfl, rfl, hE, hE10, hR9, hGE, hownb2, hownq2, hbel2⟩ := hrel
        have hs2 := hbel2.size
        by_cases hq9 : q < 9
        · have HE := Lib.hid hE
          have HGE := Lib.hid hGE
          clear hE hGE
          go_wp2_with (at_builtin; refine wpList_append1g rfl _ _ 68 rfl w.heap.size 5 i0 (.int .u8 0) 1 Tryd.underlying68 hi hz0 hz1 hz2 rfl _ _ _ _ rfl hownb2 (.int .u8 (48 + (R : Int) % 10)) rfl rfl (by unfold maxLen; omega) (by omega) hs2 ?_; intro g' c5 w2 hown' hbel' hgr')
          go_roundw
          case rel =>
            refine ⟨q + 1, some ⟨g', 0, none⟩, c5, E ++ [R % 10], R / 10, by omega, by go_num, ?_, rfl, by rw [List.length_append, HE.out]; rfl, ?_, by omega, ?_, ?_, ?_, hbel2.trans hbel'⟩
            · exact congrArg (Value.int .u64) (by omega)
            · intro d hd
              rcases List.mem_append.1 hd with hd | hd
              · exact hE10 d hd
              · simp at hd; subst hd; exact Nat.mod_lt _ (by decide)
            · rw [HGE.out, val_append, HE.out, Nat.pow_succ, Nat.mul_assoc, Nat.add_assoc, ← Nat.mul_add]
              congr 2
              simp only [val]
              omega
            · have e : u8s ((bk ++ (E ++ [R % 10])).map (48 + ·)) = u8s ((bk ++ E).map (48 + ·)) ++ [.int .u8 (48 + (R : Int) % 10)] := by
                rw [← List.append_assoc]
                simp [u8s]
              rw [e]
              exact hown'
            · exact (hownq2.alloc _).kept hgr' (own_ne hownq2 hownb2 (by decide))
          case measure => simp [intOf]; omega
        · obtain rfl : q = 9 := by omega
          have htq := trim_any (some ⟨g, 0, none⟩) n1 c3 wr.heap.size L wr (Reads.of_own hownq2) (by unfold maxLen; omega) (own_le hownq2)
          have HTQ := Lib.hid htq
          have HE := Lib.hid hE
          have HGE := Lib.hid hGE
          clear htq hE hGE
          go_wp2_with (go_at_call 42; refine HTQ.out.mono ?_; rintro e w' ⟨rfl, rfl⟩)
          go_roundw
          case rel =>
            have hLlen : L.length = n1 := by have := hownq2.1; simpa [u32s] using this
            have htl : (u32s L).take (trimN L n1) = u32s (trimL L) := by
              rw [trimL, hLlen]; simp [u32s]
            have hle1 := trimN_le L n1
            refine ⟨some ⟨g, 0, none⟩, trimN L n1, c3, trimL L, A3, c4, bk ++ E, rfl, ?_, by omega, Nat.le_trans hle1 (own_le hownq2), ?_, trimL_can HLB.out, ?_, ?_, ?_, ?_, hbel2⟩
            · rw [List.length_append, HE.out]
            · rw [← htl]; exact (Reads.of_own hownq2).take hle1
            · rw [List.length_append, HE.out]; exact hownb2
            · intro d hd
              rcases List.mem_append.1 hd with hd | hd
              · exact HBK.out d hd
              · exact hE10 d hd
            · rw [trimL_val, HLV.out, val_append, List.length_append, HE.out, Nat.pow_add, Nat.mul_assoc, Nat.add_assoc, ← Nat.mul_add, HNV.out]
              congr 2
              have h1 := HGE.out
              have h2 := HG.out
              have h3 : G < 1000000000 := by rw [h2]; exact Nat.mod_lt _ (by decide)
              have h4 : (10 : Nat) ^ 9 = 1000000000 := by decide
              rw [h4] at h1 ⊢
              have h5 : R = 0 := by omega
              rw [h5] at h1
              have h6 := Nat.div_add_mod (val 4294967296 ds) 1000000000
              omega
            · rw [List.length_append, HE.out]; omega
          case measure => simp [lenOf]; omega

end Go.Proofs.YtckkbeknjipddaaDoor
