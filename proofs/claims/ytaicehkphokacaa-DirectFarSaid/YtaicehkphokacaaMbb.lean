/- The walk of the reference's From at valid cells. -/
import Derived.Test.YtaicehkphokacaaMba
namespace Go.Proofs.Ytaicehkphokacaa
open Go.RowKit

theorem rplace_ok (x y s : Int) (w : World) (h : okc x ∧ okc y) : Calls Try.prog 20 #[.int .i64 x, .int .i64 y] w fun e w' => e = .returned (.bool true) ∧ w = w' := by
  have q := rplace_any (x, y, s) w
  have e : decide (OkP (x, y, s)) = true := decide_eq_true (by unfold OkP; unfold okc at h; exact ⟨h.1.1, h.1.2, h.2.1, h.2.2⟩)
  rw [e] at q
  exact q
theorem frm_take (l : List C3) (i : Nat) (h : i < l.length) : frm (l.take (i + 1)) = insC (frm (l.take i)) (l.getD i (0, 0, 0)) := by
  unfold frm
  rw [List.take_add_one, List.getElem?_eq_getElem h, Option.toList, List.foldl_append]
  simp [List.getD_eq_getElem?_getD, h]
theorem frm_len : ∀ (l p : List C3), (l.foldl insC p).length = l.length + p.length
  | [], p => by simp
  | c :: r, p => by rw [List.foldl_cons, frm_len r, insC_len, List.length_cons]; omega
set_option maxRecDepth 100000 in
set_option maxHeartbeats 8000000 in
theorem from_ok (A : Option Addr) (cA q : Nat) (l : List C3) (w : World) (h : CReads w w.heap.size A q (fun k => l.getD k (0, 0, 0))) (hpl : l.length = q) (hq : q ≤ 5000) (hok : ∀ c ∈ l, okc c.1 ∧ okc c.2.1 ∧ 1 ≤ c.2.2 ∧ c.2.2 < 8) (hd : l.Pairwise fun x y => ¬ sp x y) :
    Calls Try.prog 10 #[.slice A q cA] w fun e w' => ∃ A' c', e = .returned (.tuple #[.slice A' q c', .int .i64 0]) ∧ CReads w' w'.heap.size A' q (fun k => (frm l).getD k (0, 0, 0)) ∧ Below w.heap.size w w' := by
  have H := Lib.hid h
  have HL := Lib.hid hpl
  have HOK := Lib.hid hok
  obtain ⟨f1, f2, f3⟩ := frm_ok hd
  have F1 := Lib.hid f1
  have F3 := Lib.hid (show (frm l).length = q by rw [f3, hpl])
  obtain ⟨Q, hQ⟩ : ∃ Q : Ending → World → Prop, (fun e w' => ∃ A' c', e = .returned (.tuple #[.slice A' q c', .int .i64 0]) ∧ CReads w' w'.heap.size A' q (fun k => (frm l).getD k (0, 0, 0)) ∧ Below w.heap.size w w') = Q := ⟨_, rfl⟩
  have HQ := Lib.hid (show ∀ A' c' w', CReads w' w'.heap.size A' q (fun k => (frm l).getD k (0, 0, 0)) → Below w.heap.size w w' → Q (.returned (.tuple #[.slice A' q c', .int .i64 0])) w' from fun A' c' w' h1 h2 => by rw [← hQ]; exact ⟨A', c', rfl, h1, h2⟩)
  rw [hQ]
  have CE := Lib.hid (fun (i : Nat) (hi : i < q) => show ∃ g o x y s, A = some ⟨g, o, none⟩ ∧ l.getD i (0, 0, 0) = (x, y, s) ∧ (okc x ∧ okc y) ∧ 1 ≤ s ∧ s < 8 ∧ ∀ W, Below w.heap.size w W → W.cell? ⟨g, o + i * 3, none⟩ = some (.int .i64 x) ∧ W.cell? ⟨g, o + i * 3 + 1, none⟩ = some (.int .i64 y) ∧ W.cell? ⟨g, o + i * 3 + 2, none⟩ = some (.int .i64 s) from by
    obtain ⟨g, o, hA, hg, hcells⟩ := h (by omega)
    have hcl := hcells i hi
    simp only at hcl
    have hm : l.getD i (0, 0, 0) ∈ l := by rw [List.getD_eq_getElem?_getD, List.getElem?_eq_getElem (by rw [hpl]; exact hi)]; exact List.getElem_mem _
    obtain ⟨o1, o2, o3, o4⟩ := hok _ hm
    refine ⟨g, o, (l.getD i (0, 0, 0)).1, (l.getD i (0, 0, 0)).2.1, (l.getD i (0, 0, 0)).2.2, hA, rfl, ⟨o1, o2⟩, o3, o4, fun W hb => ⟨?_, ?_, ?_⟩⟩
    · exact (hb.cell (p := ⟨g, o + i * 3, none⟩) hg).trans hcl.1
    · exact (hb.cell (p := ⟨g, o + i * 3 + 1, none⟩) hg).trans hcl.2.1
    · exact (hb.cell (p := ⟨g, o + i * 3 + 2, none⟩) hg).trans hcl.2.2)
  clear h hpl hok hd f1 f2 f3 hQ
  go_enter Try.func10, Try.ntmps10
  go_upto_region 3 with (fail)
  go_loopw [5] (fun iv wr => ∃ (i : Nat), i ≤ q ∧ iv = .int .i64 (i : Int) ∧ Hid (Below w.heap.size w wr)) (fun iv _ => q - (intOf iv).toNat)
  case atStart => exact ⟨0, Nat.zero_le _, rfl, Lib.hid (Below.refl _ _)⟩
  case round =>
    obtain ⟨i, hi, rfl, HB⟩ := hrel
    by_cases hlt : i < q
    · have hiI : (i : Int) < (q : Int) := by omega
      obtain ⟨g, o, x, y, s, rfl, hc, hv, s1, s8, hcell⟩ := CE.out i hlt
      obtain ⟨y0, y1, y2⟩ := hcell wr HB.out
      have PL := Lib.hid (fun W => rplace_ok x y s W hv)
      have n0 : ¬ s < 0 := by omega
      have n8 : ¬ 8 ≤ s := by omega
      have HB2 := Lib.hid (fun k => below_drewN HB.out k)
      clear hcell hc hv
      exact (by
        go_wp2_with fail
        go_quiet ((go_at_call 20; exact Calls.quiet_of_same ((PL.out _).mono fun _ _ h => ⟨h.1, h.2.symm⟩)))
        go_wp2
        go_roundw
        case rel => exact ⟨i + 1, by omega, by go_num, Lib.hid (HB2.out _)⟩
        case measure => simp [intOf]; omega)
    · obtain rfl : i = q := by omega
      exact (by
        go_upto_region 10 with (fail)
        go_loopw [4, 6] (fun pv iv wr2 => ∃ (j : Nat) (A' : Option Addr) (c' : Nat), j ≤ i ∧ pv = .slice A' j c' ∧ iv = .int .i64 (j : Int) ∧ Hid (CReads wr2 wr2.heap.size A' j (fun k => (frm (l.take j)).getD k (0, 0, 0))) ∧ Hid (Below w.heap.size w wr2)) (fun _ iv _ => i - (intOf iv).toNat)
        case atStart => exact ⟨0, none, 0, Nat.zero_le _, rfl, rfl, Lib.hid (fun h => absurd h (Nat.lt_irrefl _)), HB⟩
        case round =>
          clear HB hlt hi
          obtain ⟨j, A', c', hj, rfl, rfl, HC, HB⟩ := hrel
          by_cases hlt : j < i
          · have hjI : (j : Int) < (i : Int) := by omega
            obtain ⟨g, o, x, y, s, rfl, hc, hv, s1, s8, hcell⟩ := CE.out j hlt
            obtain ⟨y0, y1, y2⟩ := hcell _ HB.out
            have n0 : (s != 0) = true := by rw [bne_iff_ne]; omega
            have HFT := Lib.hid (frm_take l j (by rw [HL.out]; exact hlt))
            rw [hc] at HFT
            have hfl : (frm (l.take j)).length = j := by unfold frm; rw [frm_len]; simp; rw [HL.out]; omega
            have IN := Lib.hid (insert_any A' c' j (frm (l.take j)) x y s _ HC.out hfl (by omega))
            clear hcell hc hv hfl
            exact (by
              go_wp2_with (go_at_call 27; (with_reducible refine (IN.out).mono ?_); rintro e w5 ⟨A5, c5, rfl, hcr, hb⟩; have C5 := Lib.hid hcr; have B5 := Lib.hid (HB.out.trans (hb.mono HB.out.size)); clear hcr hb)
              go_roundw
              case rel => exact ⟨j + 1, A5, c5, by omega, rfl, by go_num, Lib.hid (by rw [HFT.out]; exact C5.out), B5⟩
              case measure => simp [intOf]; omega)
          · obtain rfl : j = i := by omega
            have htk : l.take j = l := by rw [← HL.out]; exact List.take_length
            rw [htk] at HC
            clear hlt hj
            exact (by
              obtain ⟨w0, hw0⟩ : ∃ w0, w0 = wr := ⟨_, rfl⟩
              rw [← hw0] at HC HB ⊢
              clear hw0
              have PW := Lib.hid (fun (k : Nat) (h1 : 1 ≤ k) (h2 : k < j) => show bef ((frm l).getD (k - 1) (0, 0, 0)) ((frm l).getD k (0, 0, 0)) from by
                have hp := F1.out
                rw [List.pairwise_iff_getElem] at hp
                have hl := F3.out
                have := hp (k - 1) k (by omega) (by omega) (by omega)
                simpa [List.getD_eq_getElem?_getD, show k - 1 < (frm l).length by omega, show k < (frm l).length by omega] using this)
              go_upto_region 15 with (fail)
              go_loopw [7] (fun iv wr3 => ∃ (k : Nat), 1 ≤ k ∧ k ≤ j + 1 ∧ iv = .int .i64 (k : Int) ∧ Hid (Below w0.heap.size w0 wr3)) (fun iv _ => j + 1 - (intOf iv).toNat)
              case atStart => exact ⟨1, Nat.le_refl _, by omega, rfl, Lib.hid (Below.refl _ _)⟩
              case round =>
                obtain ⟨k, hk1, hkj, rfl, HB3⟩ := hrel
                by_cases hlt : k < j
                · have hkI : (k : Int) < (j : Int) := by omega
                  obtain ⟨g, o, hA, hg, hcells⟩ := (HC.out.below HB3.out) (by omega)
                  subst hA
                  have h1 := hcells (k - 1) (by omega)
                  have h2 := hcells k hlt
                  have hbef := PW.out k hk1 hlt
                  clear hcells
                  simp only at h1 h2
                  obtain ⟨k', hk'⟩ : ∃ k', k - 1 = k' := ⟨_, rfl⟩
                  rw [hk'] at h1 hbef
                  obtain ⟨⟨x, y, s⟩, hc1⟩ : ∃ c, (frm l).getD k' (0, 0, 0) = c := ⟨_, rfl⟩
                  obtain ⟨⟨u, v, r⟩, hc2⟩ : ∃ c, (frm l).getD k (0, 0, 0) = c := ⟨_, rfl⟩
                  rw [hc1] at h1 hbef
                  rw [hc2] at h2 hbef
                  obtain ⟨y0, y1, y2⟩ := h1
                  obtain ⟨z0, z1, z2⟩ := h2
                  simp only at y0 y1 y2 z0 z1 z2
                  have BE := fun W => rbefore x y s u v r W
                  rw [decide_eq_true hbef] at BE
                  have BE := Lib.hid BE
                  have e1 : IntKind.i64.wrap ((k : Int) - 1) = (k' : Int) := by rw [show (k : Int) - 1 = (k' : Int) by omega]; exact IntWalk.i64_in _ ⟨by omega, by omega⟩
                  have kI : (k' : Int) < (j : Int) := by omega
                  have HK1 := Lib.hid hk'
                  have HK2 := Lib.hid hk1
                  clear hk' hk1
                  clear hc1 hc2 hbef hg
                  exact (by
                    go_wp2_with fail
                    go_region_with (go_at_call 21; (with_reducible refine (BE.out _).mono ?_); rintro e w5 ⟨rfl, hb⟩; have Z5 := Lib.hid (HB3.out.trans ((show Below wr.heap.size wr w5 from by first | exact (Below.refl _ wr).drew.trans hb | exact hb).mono HB3.out.size)); clear hb)
                    all_goals
                      go_wp2_with fail
                      go_roundw
                      case rel => exact ⟨k + 1, by omega, by omega, by go_num, Z5⟩
                      case measure => simp [intOf]; omega)
                · have hkI : ¬ (k : Int) < (j : Int) := by omega
                  have h5 : ¬ (5000 : Int) < (j : Int) := by omega
                  exact (by
                    go_wp2_with fail
                    (try go_ret2)
                    exact HQ.out A' c' _ (HC.out.later HB3.out) (HB.out.trans (HB3.out.mono HB.out.size)))))
end Go.Proofs.Ytaicehkphokacaa
