/- The walk of Pattern at any valid grid. -/
import Derived.Test.YtbbehbgfdlamfaaGri
import Derived.Test.YtbbehbgfdlamfaaGsl
namespace Go.Proofs.Ytbbehbgfdlamfaa
open Go.RowKit

theorem Try.info_cellG : (Try.prog.info? 33).map (fun i => (i.zero, i.size, i.bytes)) = some (some (.agg #[.int .i64 0, .int .i64 0, .int .i64 0]), 3, 24) := by kernel_rfl
/-- the cells of a grid whose state is not 0 -/
def pcs (W : Nat) (l : List Int) : Nat → List C3
  | 0 => []
  | j + 1 => if ig l j = 0 then pcs W l j else pcs W l j ++ [(((j % W : Nat) : Int), ((j / W : Nat) : Int), ig l j)]
theorem pcs_no {W : Nat} {l : List Int} {j : Nat} (h : ig l j = 0) : pcs W l (j + 1) = pcs W l j := by rw [pcs, if_pos h]
theorem pcs_yes {W : Nat} {l : List Int} {j : Nat} (h : ¬ ig l j = 0) : cg (pcs W l (j + 1)) = cg (pcs W l j) ++ [.int .i64 ((j % W : Nat) : Int), .int .i64 ((j / W : Nat) : Int), .int .i64 (ig l j)] ∧ (pcs W l (j + 1)).length = (pcs W l j).length + 1 := by
  rw [pcs, if_neg h]
  exact ⟨by simp [cg], by simp⟩
theorem pcs_len (W : Nat) (l : List Int) : ∀ j, (pcs W l j).length ≤ j
  | 0 => Nat.le_refl _
  | j + 1 => by
    have := pcs_len W l j
    rw [pcs]
    split
    · omega
    · simp; omega
set_option maxRecDepth 100000 in
set_option maxHeartbeats 4000000 in
theorem gpat_any (A : Option Addr) (W H n c : Nat) (E : Int) (l : List Int) (w : World) (h : Reads w w.heap.size A n (il l)) (hr : grt W H E l = true) :
    Calls Try.prog 13 #[.agg #[.int .i64 (W : Int), .int .i64 (H : Int), .int .i64 E, .slice A n c]] w fun e w' => ∃ X m d, e = .returned (.slice X m d) ∧ m = (pcs W l n).length ∧ w'.ownsRow (w.heap.size + 1) 33 3 (.slice X m d) m (cg (pcs W l n)) ∧ Below w.heap.size w w' := by
  obtain ⟨ic, hic, hy0, hy1, hy2⟩ := info_parts Try.info_cellG
  have L := reads_len h
  have hr' := hr
  simp only [grt, Bool.and_eq_true, decide_eq_true_eq] at hr'
  obtain ⟨hsh, hl, hc⟩ := hr'
  obtain ⟨⟨w1, w2⟩, ⟨h1, h2⟩, p1, e0, e2⟩ := (vsh_iff W H E).1 hsh
  have hn : n ≤ 4096 := by omega
  have K := Blk.new w 24 #[.int .i64 (W : Int), .int .i64 (H : Int), .int .i64 E, .slice A n c]
  have B := (Below.refl w.heap.size w).alloc (Nat.le_refl _) (.cells #[.int .i64 (W : Int), .int .i64 (H : Int), .int .i64 E, .slice A n c] 24)
  have s0 : w.heap.size + 1 ≤ (w.alloc (.cells #[.int .i64 (W : Int), .int .i64 (H : Int), .int .i64 E, .slice A n c] 24)).heap.size := by simp
  generalize hw0 : w.alloc (.cells #[.int .i64 (W : Int), .int .i64 (H : Int), .int .i64 E, .slice A n c] 24) = w0 at K B s0
  have R := Lib.hid (by have := gright_any A W H E n c l w0 (h.later B) (by omega); rwa [hr] at this)
  have HL := Lib.hid (h.below B)
  have B := Lib.hid B
  have K := Lib.hid K
  clear h hr hsh hl hc L p1 e0 e2 h1 h2
  have hW1 : 1 ≤ W := by omega
  have hW2 : W ≤ 256 := by omega
  clear w1 w2
  obtain ⟨k0, k1, k2, k3, k4⟩ := K.out.four
  go_enter Try.func13, Try.ntmps13
  go_upto_region 1 with (fail)
  clear hw0
  go_upto_region 4 with (go_at_call 14; (with_reducible refine R.out.mono ?_); rintro e w3 ⟨rfl, hb⟩; have L3 := Lib.hid (hb.mono s0); have K3 := Lib.hid (K.out.below hb K.out.lt); have s3 := hb.size; clear hb)
  have B3 := Lib.hid (B.out.trans (L3.out.mono (Nat.le_succ _)))
  have R3 := Lib.hid (HL.out.below (L3.out.mono (Nat.le_succ _)))
  have s4 : w.heap.size + 1 ≤ w3.heap.size := by omega
  clear k0 k1 k2 k3 k4 s3 L3
  obtain ⟨k0, k1, k2, k3, k4⟩ := K3.out.four
  go_wp2_with fail
  clear k0 k1 k2 k3 k4
  go_loopw [3, 12] (fun av iv wr => ∃ (j m : Nat) (X : Option Addr) (d : Nat), j ≤ n ∧ Hid (m = (pcs W l j).length) ∧ av = .slice X m d ∧ iv = .int .i64 (j : Int) ∧ Hid (wr.ownsRow (w.heap.size + 1) 33 3 (.slice X m d) m (cg (pcs W l j))) ∧ Hid (Below (w.heap.size + 1) w3 wr)) (fun _ iv _ => n - (intOf iv).toNat)
  case atStart => exact ⟨0, 0, none, 0, Nat.zero_le _, Lib.hid rfl, rfl, rfl, Lib.hid (World.ownsRow_nil _ _ _ _), Lib.hid (Below.refl _ _)⟩
  case round =>
    obtain ⟨j, m, X, d, hj, HM, rfl, rfl, HO, HB⟩ := hrel
    by_cases hlt : j < n
    · obtain ⟨ad, rfl, hbb, hcc⟩ := il_at (R3.out.below (HB.out.mono (Nat.le_succ _))) hlt
      obtain ⟨k0, k1, k2, k3, k4⟩ := (K3.out.below HB.out (Nat.lt_succ_self _)).four
      have hsz : w.heap.size + 1 ≤ wr.heap.size := by omega
      by_cases hz : ig l j = 0
      · have PN := Lib.hid (pcs_no (W := W) hz)
        rw [hz] at hcc
        clear hz
        go_wp2
        go_roundw
        case rel => exact ⟨j + 1, m, X, d, by omega, Lib.hid (by rw [PN.out]; exact HM.out), rfl, by go_num, Lib.hid (by rw [PN.out]; exact HO.out), HB⟩
        case measure => simp [intOf]; omega
      · have PY := Lib.hid (pcs_yes (W := W) hz)
        have hm := pcs_len W l j
        rw [← HM.out] at hm
        generalize ig l j = s at *
        have hz1 : (s != 0) = true := by rw [bne_iff_ne]; exact hz
        have hW0 : ¬ (W : Int) = 0 := by omega
        have hWn : ¬ W = 0 := by omega
        have q1 : (j : Int).tmod (W : Int) = ((j % W : Nat) : Int) := by rw [Int.tmod_eq_emod_of_nonneg (by omega)]; simp
        have q2 : (j : Int).tdiv (W : Int) = ((j / W : Nat) : Int) := by rw [Int.tdiv_eq_ediv_of_nonneg (by omega)]; simp
        have b1 : j % W < W := Nat.mod_lt _ (by omega)
        have b2 : j / W ≤ j := Nat.div_le_self _ _
        generalize j % W = u at *
        generalize j / W = v at *
        have q3 : IntKind.i64.wrap (v : Int) = (v : Int) := IntWalk.i64_in _ (by omega)
        exact (by
          go_upto_region 8 with (fail)
          go_region_law (refine step_append_lies _ (by rfl) _ _ _ (by rfl) (w.heap.size + 1) 33 ic (.agg #[.int .i64 0, .int .i64 0, .int .i64 0]) 3 24 Try.underlying35 hic hy0 hy1 hy2 rfl (by decide) (.slice X m d) m (cg (pcs W l j)) (by rfl) (by first | exact HO.out.alloc _ | exact (own_drew (HO.out.alloc _)) | exact (HO.out.alloc _ : (World.drew _).ownsRow _ _ _ _ _ _)) ⟨wr.heap.size, 0, none⟩ 1 1 [.int .i64 (u : Int), .int .i64 (v : Int), .int .i64 s] (by rfl) (by rfl) (World.news_of_block (cs := #[.int .i64 (u : Int), .int .i64 (v : Int), .int .i64 s]) (t := 33) (fr := (0, 0)) (heap_alloc_new wr _)) (by simp [Value.oneCell']) (by omega) (by unfold maxLen; omega) (by omega) (by simp; omega) (wr.heap.size + 1) (by simp) ?_; intro gn c2 w5 hown hgrow hat hltg; have hfr := fr_app1 (grown_drew hgrow) hat; have P5 := Lib.hid hown; have B5 := Lib.hid (HB.out.trans (hfr.below (B := w.heap.size + 1) (fun k hk => (ob_ge HO.out k hk).1) hsz)); clear hown hgrow hat hfr)
          all_goals
            go_wp2_with fail
            go_roundw
            case rel => exact ⟨j + 1, m + 1, some ⟨gn, 0, none⟩, c2, by omega, Lib.hid (by rw [PY.out.2, HM.out]), rfl, by go_num, Lib.hid (by rw [PY.out.1]; exact P5.out), B5⟩
            case measure => simp [intOf]; omega)
    · obtain rfl : j = n := by omega
      go_wp2
      go_ret
      exact ⟨X, m, d, rfl, HM.out, HO.out, B3.out.trans (HB.out.mono (Nat.le_succ _))⟩
end Go.Proofs.Ytbbehbgfdlamfaa
