/- The walk of the reference's insert. -/
import Derived.Test.YtaicehkphokacaaMay
import Derived.Test.YtaicehkphokacaaMao
namespace Go.Proofs.Ytaicehkphokacaa
open Go.RowKit

theorem cp_bef (a b : C3) : cp a b < 0 ↔ bef a b := by
  have := pc_lt (a.1, a.2.1) (b.1, b.2.1)
  unfold bef
  exact this
theorem rbefore (a b c x y z : Int) (w : World) : Calls Try.prog 21 #[.agg #[.int .i64 a, .int .i64 b, .int .i64 c], .agg #[.int .i64 x, .int .i64 y, .int .i64 z]] w fun e w' => e = .returned (.bool (decide (bef (a, b, c) (x, y, z)))) ∧ Below w.heap.size w w' := by
  have q := before_anyA (a, b, c) (x, y, z) w
  have e : decide (cp (a, b, c) (x, y, z) < 0) = decide (bef (a, b, c) (x, y, z)) := by
    rw [Bool.eq_iff_iff, decide_eq_true_iff, decide_eq_true_iff]
    exact cp_bef _ _
  rw [e] at q
  exact q
theorem cg_app (l : List C3) (x y s : Int) : cg (l ++ [(x, y, s)]) = cg l ++ [.int .i64 x, .int .i64 y, .int .i64 s] := by simp [cg]
set_option maxRecDepth 100000 in
set_option maxHeartbeats 8000000 in
theorem insert_any (A : Option Addr) (cA q : Nat) (p : List C3) (x y s : Int) (w : World) (h : CReads w w.heap.size A q (fun k => p.getD k (0, 0, 0))) (hpl : p.length = q) (hq : q ≤ 20000) :
    Calls Try.prog 27 #[.slice A q cA, .agg #[.int .i64 x, .int .i64 y, .int .i64 s]] w fun e w' => ∃ A' c', e = .returned (.slice A' (q + 1) c') ∧ CReads w' w'.heap.size A' (q + 1) (fun k => (insC p (x, y, s)).getD k (0, 0, 0)) ∧ Below w.heap.size w w' := by
  obtain ⟨ic, hic, hy0, hy1, hy2⟩ := info_parts info_cellC
  have H := Lib.hid h
  have HL := Lib.hid hpl
  have IL := Lib.hid (show (insC p (x, y, s)).length = q + 1 by rw [insC_len, hpl])
  obtain ⟨R, hR⟩ : ∃ R, insC p (x, y, s) = R := ⟨_, rfl⟩
  have HR := Lib.hid hR
  rw [hR] at IL ⊢
  obtain ⟨Q, hQ⟩ : ∃ Q : Ending → World → Prop, (fun e w' => ∃ A' c', e = .returned (.slice A' (q + 1) c') ∧ CReads w' w'.heap.size A' (q + 1) (fun k => R.getD k (0, 0, 0)) ∧ Below w.heap.size w w') = Q := ⟨_, rfl⟩
  have HQ := Lib.hid (show ∀ A' c' w', CReads w' w'.heap.size A' (q + 1) (fun k => R.getD k (0, 0, 0)) → Below w.heap.size w w' → Q (.returned (.slice A' (q + 1) c')) w' from fun A' c' w' h1 h2 => by rw [← hQ]; exact ⟨A', c', rfl, h1, h2⟩)
  rw [hQ]
  have K1 := Blk.new w 47 #[.int .i64 x, .int .i64 y, .int .i64 s]
  have B1 := Lib.hid ((Below.refl w.heap.size w).alloc (Nat.le_refl _) (.cells #[.int .i64 x, .int .i64 y, .int .i64 s] 47))
  clear h hpl hR hQ
  go_enter Try.func27, Try.ntmps27
  go_upto_region 1 with (fail)
  generalize w.alloc (.cells #[.int .i64 x, .int .i64 y, .int .i64 s] 47) = w1 at *
  have KC := Lib.hid K1
  clear K1
  go_upto_region 4 with (fail)
  go_loopw [5, 6, 7] (fun ov dv iv wr => ∃ (i : Nat) (out : List C3) (d : Bool) (A' : Option Addr) (c' : Nat), i ≤ q ∧ ov = .slice A' out.length c' ∧ dv = .bool d ∧ iv = .int .i64 (i : Int) ∧ Hid (wr.ownsRow w1.heap.size 47 3 (.slice A' out.length c') out.length (cg out)) ∧ Hid (out.length ≤ i + 1 ∧ (d = false → out.length ≤ i)) ∧ Hid (R = out ++ (if d = true then p.drop i else insC (p.drop i) (x, y, s))) ∧ Hid (Below w1.heap.size w1 wr)) (fun _ _ iv _ => q - (intOf iv).toNat)
  case atStart => exact ⟨0, [], false, none, 0, Nat.zero_le _, rfl, rfl, rfl, Lib.hid (World.ownsRow_nil _ _ _ _), Lib.hid ⟨Nat.zero_le _, fun _ => Nat.zero_le _⟩, Lib.hid (by simpa using HR.out.symm), Lib.hid (Below.refl _ _)⟩
  case round =>
    obtain ⟨i, out, d, A', c', hi, rfl, rfl, rfl, HO, HOL, HE, HB⟩ := hrel
    have KC' := Lib.hid (KC.out.below HB.out KC.out.lt)
    obtain ⟨hol, hol2⟩ := HOL.out
    by_cases hlt : i < q
    · have hiI : (i : Int) < (q : Int) := by omega
      obtain ⟨g, o, hA, hg, hcells⟩ := (H.out.below B1.out) (by omega)
      subst hA
      have hcl := hcells i hlt
      clear hcells
      simp only at hcl
      have CE := Lib.hid (fun W (hb : Below w1.heap.size w1 W) => show W.cell? ⟨g, o + i * 3, none⟩ = _ ∧ W.cell? ⟨g, o + i * 3 + 1, none⟩ = _ ∧ W.cell? ⟨g, o + i * 3 + 2, none⟩ = _ from ⟨(hb.cell (p := ⟨g, o + i * 3, none⟩) (Nat.lt_of_lt_of_le hg B1.out.size)).trans hcl.1, (hb.cell (p := ⟨g, o + i * 3 + 1, none⟩) (Nat.lt_of_lt_of_le hg B1.out.size)).trans hcl.2.1, (hb.cell (p := ⟨g, o + i * 3 + 2, none⟩) (Nat.lt_of_lt_of_le hg B1.out.size)).trans hcl.2.2⟩)
      clear hcl
      have hpi : i < p.length := by rw [HL.out]; exact hlt
      have hdr : p.drop i = p.getD i (0, 0, 0) :: p.drop (i + 1) := by
        rw [List.drop_eq_getElem_cons hpi, List.getD_eq_getElem?_getD, List.getElem?_eq_getElem hpi]
        rfl
      have he := HE.out
      rw [hdr] at he
      obtain ⟨⟨u, v, r⟩, hc⟩ : ∃ c, p.getD i (0, 0, 0) = c := ⟨_, rfl⟩
      rw [hc] at CE he
      simp only at CE
      obtain ⟨y0, y1, y2⟩ := CE.out wr HB.out
      have BE := Lib.hid (fun W => rbefore x y s u v r W)
      obtain ⟨k0, k1, k2, _, _, _, k6⟩ := KC'.out.three6
      have hszr : w1.heap.size ≤ wr.heap.size := HB.out.size
      obtain ⟨L, hL⟩ : ∃ L, out.length = L := ⟨_, rfl⟩
      have HLL := Lib.hid hL
      rw [hL] at HO hol hol2 ⊢
      clear hc hdr hpi hg hL
      cases d with
      | true =>
        have HE' := Lib.hid (show R = (out ++ [(u, v, r)]) ++ p.drop (i + 1) from by simpa using he)
        clear he
        exact (by
          go_wp2_with fail
          go_region
          all_goals
            have HO5 := Lib.hid (show wr.drew.ownsRow w1.heap.size 47 3 (.slice A' L c') L (cg out) from HO.out)
            have HB5 := Lib.hid (show Below w1.heap.size w1 wr.drew from HB.out.drew)
            have hsz5 : w1.heap.size ≤ wr.drew.heap.size := hszr
            obtain ⟨z0, z1, z2⟩ := CE.out _ HB5.out
            clear y0 y1 y2 k0 k1 k2 k6
            generalize wr.drew = w5 at *
            go_wp2_with (at_builtin; refine wpList_append3L rfl _ _ 27 rfl w1.heap.size 47 ic (.agg #[.int .i64 0, .int .i64 0, .int .i64 0]) 24 Try.underlying27 hic hy0 hy1 hy2 rfl A' L c' _ rfl HO5.out (.int .i64 u) (.int .i64 v) (.int .i64 r) rfl rfl rfl rfl (by unfold maxLen; omega) (by omega) hsz5 ?_; intro g9 c9 w9 hown hfr; have O9 := Lib.hid hown; have B9 := Lib.hid (HB5.out.trans (hfr.below (B := w1.heap.size) (fun k hk => (ob_ge HO5.out k hk).1) hsz5)); have hs9 : w1.heap.size ≤ w9.heap.size := B9.out.size; clear hown hfr)
            go_roundw
            case rel => exact ⟨i + 1, out ++ [(u, v, r)], true, some ⟨g9, 0, none⟩, c9, by omega, by rw [List.length_append, HLL.out]; rfl, rfl, by go_num, Lib.hid (by rw [List.length_append, HLL.out, cg_app]; exact O9.out), Lib.hid ⟨by rw [List.length_append, HLL.out]; simp; omega, fun h => by first | (exact absurd h (by decide)) | (rw [List.length_append, HLL.out]; simp; omega)⟩, HE', B9⟩
            case measure => simp [intOf]; omega)
      | false =>
        have hol3 := hol2 rfl
        clear hol2
        obtain ⟨b, hb⟩ : ∃ b, decide (bef (x, y, s) (u, v, r)) = b := ⟨_, rfl⟩
        rw [hb] at BE
        rw [insC] at he
        cases b with
        | true =>
          rw [if_pos (of_decide_eq_true hb)] at he
          have HE' := Lib.hid (show R = ((out ++ [(x, y, s)]) ++ [(u, v, r)]) ++ p.drop (i + 1) from by simpa using he)
          clear he hb
          exact (by
            go_wp2_with fail
            go_region_with (go_at_call 21; (with_reducible refine (BE.out _).mono ?_); rintro e w5 ⟨rfl, hb⟩; have Z5 := Lib.hid (show Below wr.heap.size wr w5 from by first | exact (Below.refl _ wr).drew.trans hb | exact hb); clear hb)
            all_goals
              have HO5 := Lib.hid (own_belowk HO.out Z5.out)
              have HB5 := Lib.hid (HB.out.trans (Z5.out.mono hszr))
              have hsz5 : w1.heap.size ≤ w5.heap.size := HB5.out.size
              have KC5 := Lib.hid (KC'.out.below Z5.out KC'.out.lt)
              clear k0 k1 k2 k6
              obtain ⟨k0, k1, k2, _, _, _, k6⟩ := KC5.out.three6
              clear y0 y1 y2
              go_wp2_with (first
                | (at_builtin; refine wpList_append3L rfl _ _ 27 rfl w1.heap.size 47 ic (.agg #[.int .i64 0, .int .i64 0, .int .i64 0]) 24 Try.underlying27 hic hy0 hy1 hy2 rfl (some ⟨g8, 0, none⟩) (L + 1) c8 _ rfl O8.out (.int .i64 u) (.int .i64 v) (.int .i64 r) rfl rfl rfl rfl (by unfold maxLen; omega) (by omega) hs8 ?_; intro g9 c9 w9 hown hfr; have O9 := Lib.hid hown; have B9 := Lib.hid (B8.out.trans (hfr.below (B := w1.heap.size) (fun k hk => (ob_ge O8.out k hk).1) hs8)); have hs9 : w1.heap.size ≤ w9.heap.size := B9.out.size; clear hown hfr)
                | (at_builtin; refine wpList_append3L rfl _ _ 27 rfl w1.heap.size 47 ic (.agg #[.int .i64 0, .int .i64 0, .int .i64 0]) 24 Try.underlying27 hic hy0 hy1 hy2 rfl A' L c' _ rfl HO5.out (.int .i64 x) (.int .i64 y) (.int .i64 s) rfl rfl rfl rfl (by unfold maxLen; omega) (by omega) hsz5 ?_; intro g8 c8 w8 hown hfr; have O8 := Lib.hid hown; have B8 := Lib.hid (HB5.out.trans (hfr.below (B := w1.heap.size) (fun k hk => (ob_ge HO5.out k hk).1) hsz5)); have hs8 : w1.heap.size ≤ w8.heap.size := B8.out.size; obtain ⟨z0, z1, z2⟩ := CE.out _ B8.out; clear hown hfr))
              go_roundw
              case rel => exact ⟨i + 1, (out ++ [(x, y, s)]) ++ [(u, v, r)], true, some ⟨g9, 0, none⟩, c9, by omega, by rw [List.length_append, List.length_append, HLL.out]; rfl, rfl, by go_num, Lib.hid (by rw [List.length_append, List.length_append, HLL.out, cg_app, cg_app]; exact O9.out), Lib.hid ⟨by rw [List.length_append, List.length_append, HLL.out]; simp; omega, fun h => absurd h (by decide)⟩, HE', B9⟩
              case measure => simp [intOf]; omega)
        | false =>
          rw [if_neg (of_decide_eq_false hb)] at he
          have HE' := Lib.hid (show R = (out ++ [(u, v, r)]) ++ insC (p.drop (i + 1)) (x, y, s) from by simpa using he)
          clear he hb
          exact (by
            go_wp2_with fail
            go_region_with (go_at_call 21; (with_reducible refine (BE.out _).mono ?_); rintro e w5 ⟨rfl, hb⟩; have Z5 := Lib.hid (show Below wr.heap.size wr w5 from by first | exact (Below.refl _ wr).drew.trans hb | exact hb); clear hb)
            all_goals
              have HO5 := Lib.hid (own_belowk HO.out Z5.out)
              have HB5 := Lib.hid (HB.out.trans (Z5.out.mono hszr))
              have hsz5 : w1.heap.size ≤ w5.heap.size := HB5.out.size
              clear y0 y1 y2 k0 k1 k2 k6
              obtain ⟨z0, z1, z2⟩ := CE.out _ HB5.out
              go_wp2_with (at_builtin; refine wpList_append3L rfl _ _ 27 rfl w1.heap.size 47 ic (.agg #[.int .i64 0, .int .i64 0, .int .i64 0]) 24 Try.underlying27 hic hy0 hy1 hy2 rfl A' L c' _ rfl HO5.out (.int .i64 u) (.int .i64 v) (.int .i64 r) rfl rfl rfl rfl (by unfold maxLen; omega) (by omega) hsz5 ?_; intro g9 c9 w9 hown hfr; have O9 := Lib.hid hown; have B9 := Lib.hid (HB5.out.trans (hfr.below (B := w1.heap.size) (fun k hk => (ob_ge HO5.out k hk).1) hsz5)); have hs9 : w1.heap.size ≤ w9.heap.size := B9.out.size; clear hown hfr)
              go_roundw
              case rel => exact ⟨i + 1, out ++ [(u, v, r)], false, some ⟨g9, 0, none⟩, c9, by omega, by rw [List.length_append, HLL.out]; rfl, rfl, by go_num, Lib.hid (by rw [List.length_append, HLL.out, cg_app]; exact O9.out), Lib.hid ⟨by rw [List.length_append, HLL.out]; simp; omega, fun h => by first | (exact absurd h (by decide)) | (rw [List.length_append, HLL.out]; simp; omega)⟩, HE', B9⟩
              case measure => simp [intOf]; omega)
    · obtain rfl : i = q := by omega
      have hdn : p.drop i = [] := by rw [List.drop_eq_nil_of_le]; rw [HL.out]; exact Nat.le_refl _
      have he := HE.out
      rw [hdn] at he
      obtain ⟨k0, k1, k2, _, _, _, k6⟩ := KC'.out.three6
      have hszr : w1.heap.size ≤ wr.heap.size := HB.out.size
      obtain ⟨L, hL⟩ : ∃ L, out.length = L := ⟨_, rfl⟩
      have HLL := Lib.hid hL
      rw [hL] at HO hol hol2 ⊢
      clear hL hdn
      cases d with
      | true =>
        have he : R = out := by simpa using he
        have hl2 : L = i + 1 := by rw [← HLL.out, ← he, IL.out]
        subst hl2
        have HE' := Lib.hid he
        clear he
        exact (by
          go_wp2_with fail
          (try go_ret)
          refine HQ.out A' c' _ ?_ (B1.out.trans (HB.out.mono B1.out.size))
          have := creads_cg (gs := out) (by rw [HLL.out]; exact HO.out)
          rw [HLL.out] at this
          rw [HE'.out]
          exact this)
      | false =>
        have he : R = out ++ [(x, y, s)] := by simpa [insC] using he
        have hl2 : L = i := by have := IL.out; rw [he, List.length_append, HLL.out] at this; simpa using this
        subst hl2
        have HE' := Lib.hid he
        clear he
        exact (by
          go_wp2_with (at_builtin; refine wpList_append3L rfl _ _ 27 rfl w1.heap.size 47 ic (.agg #[.int .i64 0, .int .i64 0, .int .i64 0]) 24 Try.underlying27 hic hy0 hy1 hy2 rfl A' L c' _ rfl HO.out (.int .i64 x) (.int .i64 y) (.int .i64 s) rfl rfl rfl rfl (by unfold maxLen; omega) (by omega) hszr ?_; intro g9 c9 w9 hown hfr; have O9 := Lib.hid hown; have B9 := Lib.hid (HB.out.trans (hfr.below (B := w1.heap.size) (fun k hk => (ob_ge HO.out k hk).1) hszr)); have hs9 : w1.heap.size ≤ w9.heap.size := B9.out.size; clear hown hfr)
          (try go_ret)
          refine HQ.out (some ⟨g9, 0, none⟩) c9 _ ?_ (B1.out.trans (B9.out.mono B1.out.size))
          have := creads_cg (gs := out ++ [(x, y, s)]) (w := w9) (A := some ⟨g9, 0, none⟩) (c := c9) (base := w1.heap.size) (e := 47) (by rw [List.length_append, HLL.out, cg_app]; exact O9.out)
          rw [List.length_append, HLL.out] at this
          rw [HE'.out]
          exact this)
end Go.Proofs.Ytaicehkphokacaa
