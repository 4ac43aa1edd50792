/- The walks of far and Small. -/
import Derived.Test.YtaicehkphokacaaMbb
import Derived.Test.YtaicehkphokacaaMam
namespace Go.Proofs.Ytaicehkphokacaa
open Go.RowKit

/-- near each other -/
def Near (a b : C3) : Prop := -4 ≤ a.1 - b.1 ∧ a.1 - b.1 ≤ 4 ∧ -4 ≤ a.2.1 - b.2.1 ∧ a.2.1 - b.2.1 ≤ 4
/-- cells of a list, one by one -/
theorem cells_of {w : World} {A : Option Addr} {q : Nat} {l : List C3} (h : CReads w w.heap.size A q (fun k => l.getD k (0, 0, 0))) (hpl : l.length = q) (hok : ∀ c ∈ l, okc c.1 ∧ okc c.2.1) (i : Nat) (hi : i < q) :
    ∃ g o x y s, A = some ⟨g, o, none⟩ ∧ l.getD i (0, 0, 0) = (x, y, s) ∧ (okc x ∧ okc y) ∧ ∀ W, Below w.heap.size w W → W.cell? ⟨g, o + i * 3, none⟩ = some (.int .i64 x) ∧ W.cell? ⟨g, o + i * 3 + 1, none⟩ = some (.int .i64 y) ∧ W.cell? ⟨g, o + i * 3 + 2, none⟩ = some (.int .i64 s) := by
  obtain ⟨g, o, hA, hg, hcells⟩ := h (by omega)
  have hcl := hcells i hi
  simp only at hcl
  have hm : l.getD i (0, 0, 0) ∈ l := by rw [List.getD_eq_getElem?_getD, List.getElem?_eq_getElem (by rw [hpl]; exact hi)]; exact List.getElem_mem _
  obtain ⟨o1, o2⟩ := hok _ hm
  refine ⟨g, o, (l.getD i (0, 0, 0)).1, (l.getD i (0, 0, 0)).2.1, (l.getD i (0, 0, 0)).2.2, hA, rfl, ⟨o1, o2⟩, fun W hb => ⟨?_, ?_, ?_⟩⟩
  · exact (hb.cell (p := ⟨g, o + i * 3, none⟩) hg).trans hcl.1
  · exact (hb.cell (p := ⟨g, o + i * 3 + 1, none⟩) hg).trans hcl.2.1
  · exact (hb.cell (p := ⟨g, o + i * 3 + 2, none⟩) hg).trans hcl.2.2
set_option maxRecDepth 100000 in
set_option maxHeartbeats 8000000 in
theorem far_any (A B : Option Addr) (cA cB n m : Nat) (a b : List C3) (w : World) (ha : CReads w w.heap.size A n (fun k => a.getD k (0, 0, 0))) (hb : CReads w w.heap.size B m (fun k => b.getD k (0, 0, 0))) (hal : a.length = n) (hbl : b.length = m) (hn : n ≤ 60) (hm : m ≤ 60)
    (ka : ∀ c ∈ a, okc c.1 ∧ okc c.2.1) (kb : ∀ c ∈ b, okc c.1 ∧ okc c.2.1) :
    Calls Try.prog 8 #[.slice A n cA, .slice B m cB] w fun e w' => BoolThat (∀ x ∈ a, ∀ y ∈ b, ¬ Near x y) w e w' := by
  have CA := Lib.hid (cells_of ha hal ka)
  have CB := Lib.hid (cells_of hb hbl kb)
  have FIN := Lib.hid (show (∀ i k, i < n → k < m → ¬ Near (a.getD i (0, 0, 0)) (b.getD k (0, 0, 0))) → (∀ x ∈ a, ∀ y ∈ b, ¬ Near x y) from fun h x hx y hy => by
    obtain ⟨i, hi, rfl⟩ := List.getElem_of_mem hx
    obtain ⟨k, hk, rfl⟩ := List.getElem_of_mem hy
    have := h i k (by omega) (by omega)
    simpa [List.getD_eq_getElem?_getD, hi, hk] using this)
  generalize (∀ x ∈ a, ∀ y ∈ b, ¬ Near x y) = FP at *
  clear ha hb hal hbl ka kb
  go_enter Try.func8, Try.ntmps8
  go_upto_region 2 with (fail)
  go_loopw [11] (fun iv wr => ∃ (i : Nat), i ≤ n ∧ iv = .int .i64 (i : Int) ∧ Hid (∀ i' k, i' < i → k < m → ¬ Near (a.getD i' (0, 0, 0)) (b.getD k (0, 0, 0))) ∧ Hid (Below w.heap.size w wr)) (fun iv _ => n - (intOf iv).toNat)
  case atStart => exact ⟨0, Nat.zero_le _, rfl, Lib.hid (fun i' k h => absurd h (Nat.not_lt_zero _)), Lib.hid (Below.refl _ _)⟩
  case round =>
    obtain ⟨i, hi, rfl, HN, HB⟩ := hrel
    by_cases hlt : i < n
    · have hiI : (i : Int) < (n : Int) := by omega
      obtain ⟨g, o, x, y, s, rfl, hc, ⟨hx, hy⟩, hcell⟩ := CA.out i hlt
      unfold okc at hx hy
      have HCE := Lib.hid hcell
      have HC := Lib.hid hc
      clear hcell hc
      obtain ⟨w0, hw0⟩ : ∃ w0, w0 = wr := ⟨_, rfl⟩
      rw [← hw0] at HB ⊢
      clear hw0
      exact (by
        go_upto_region 5 with (fail)
        go_loopw [16] (fun kv wr => ∃ (k : Nat), k ≤ m ∧ kv = .int .i64 (k : Int) ∧ Hid (∀ k', k' < k → ¬ Near (x, y, s) (b.getD k' (0, 0, 0))) ∧ Hid (Below w.heap.size w wr)) (fun kv _ => m - (intOf kv).toNat)
        case atStart => exact ⟨0, Nat.zero_le _, rfl, Lib.hid (fun k' h => absurd h (Nat.not_lt_zero _)), HB⟩
        case round =>
          obtain ⟨k, hk, rfl, HM, HB2⟩ := hrel
          by_cases hlt2 : k < m
          · have hkI : (k : Int) < (m : Int) := by omega
            obtain ⟨g2, o2, u, v, r, rfl, hc2, ⟨hu, hv⟩, hcell2⟩ := CB.out k hlt2
            unfold okc at hu hv
            obtain ⟨y0, y1, y2⟩ := HCE.out wr HB2.out
            obtain ⟨z0, z1, z2⟩ := hcell2 wr HB2.out
            have e1 : IntKind.i64.wrap (x - u) = x - u := IntWalk.i64_in _ ⟨by omega, by omega⟩
            have e2 : IntKind.i64.wrap (y - v) = y - v := IntWalk.i64_in _ ⟨by omega, by omega⟩
            have e3 : IntKind.i64.wrap (-(x - u)) = -(x - u) := IntWalk.i64_in _ ⟨by omega, by omega⟩
            have e4 : IntKind.i64.wrap (-(y - v)) = -(y - v) := IntWalk.i64_in _ ⟨by omega, by omega⟩
            have HNear := Lib.hid (show Near (x, y, s) (b.getD k (0, 0, 0)) → -4 ≤ x - u ∧ x - u ≤ 4 ∧ -4 ≤ y - v ∧ y - v ≤ 4 from fun h => by rw [hc2] at h; exact h)
            have HB3 := Lib.hid (fun j => below_drewN HB2.out j)
            clear hcell2 hc2
            exact (by
              go_wp2_with fail
              go_quiet (fail)
              go_wp2
              all_goals (first
                | (go_ret; exact ⟨false, rfl, fun h => absurd h (by decide), HB3.out _⟩)
                | (refine ⟨⟨k + 1, by omega, by go_num, Lib.hid (fun k' hk' => ?_), Lib.hid (HB3.out _)⟩, by simp [intOf]; omega⟩
                   rcases Nat.lt_or_ge k' k with h | h
                   · exact HM.out k' h
                   · obtain rfl : k' = k := by omega
                     intro hnear
                     have := HNear.out hnear
                     omega)
                | (go_roundw
                   case rel =>
                     refine ⟨k + 1, by omega, by go_num, Lib.hid (fun k' hk' => ?_), Lib.hid (HB3.out _)⟩
                     rcases Nat.lt_or_ge k' k with h | h
                     · exact HM.out k' h
                     · obtain rfl : k' = k := by omega
                       intro hnear
                       have := HNear.out hnear
                       omega
                   case measure => simp [intOf]; omega)))
          · obtain rfl : k = m := by omega
            exact (by
              go_wp2_with fail
              go_roundw
              case rel =>
                refine ⟨i + 1, by omega, by go_num, Lib.hid (fun i' k' h1 h2 => ?_), HB2⟩
                rcases Nat.lt_or_ge i' i with h | h
                · exact HN.out i' k' h h2
                · obtain rfl : i' = i := by omega
                  rw [HC.out]
                  exact HM.out k' h2
              case measure => simp [intOf]; omega))
    · obtain rfl : i = n := by omega
      go_wp2
      go_ret
      exact ⟨true, rfl, fun _ => FIN.out (fun i' k h1 h2 => HN.out i' k h1 h2), HB.out⟩
set_option maxRecDepth 100000 in
theorem small_any (AH AN A : Option Addr) (cH cN cA q : Nat) (T : Tr) (w : World) (h : TS w AH AN T) (h1 : T.n < 9223372036854775808) (h2 : T.m < 9223372036854775808) (h4 : ∀ k, k < T.m → (T.nx k).length < 9223372036854775808) (hq : q < 9223372036854775808) :
    Calls Try.prog 5 #[.agg #[.int .i64 T.st, .slice AH T.n cH, .slice AN T.m cN], .slice A q cA] w fun e w' => BoolThat (Sm T ∧ q ≤ 60) w e w' := by
  have FW := Lib.hid (fun w' (hb : Below w.heap.size w w') => few_any AH cH AN cN T w' (h.later hb) h1 h2 h4)
  generalize Sm T = SMT at *
  clear h h1 h2 h4
  obtain ⟨st, n, f, m, lv, nx⟩ := T
  simp only at *
  have K1 := Blk.new w 25 #[.int .i64 st, .slice AH n cH, .slice AN m cN]
  have B1 := Lib.hid ((Below.refl w.heap.size w).alloc (Nat.le_refl _) (.cells #[.int .i64 st, .slice AH n cH, .slice AN m cN] 25))
  go_enter Try.func5, Try.ntmps5
  go_upto_region 1 with (fail)
  generalize w.alloc (.cells #[.int .i64 st, .slice AH n cH, .slice AN m cN] 25) = w1 at *
  obtain ⟨t0, t1, t2, _, _, _, t3⟩ := K1.three6
  go_wp2_with fail
  go_at_call 17
  refine (FW.out _ B1.out).mono ?_
  rintro e w2 ⟨b, rfl, hq1, hb⟩
  have B2 := Lib.hid (B1.out.trans (hb.mono B1.out.size))
  have HQ1 := Lib.hid hq1
  clear hb hq1
  cases b with
  | false =>
    go_wp2
    go_ret
    exact ⟨false, rfl, fun h => absurd h (by decide), B2.out⟩
  | true =>
    by_cases hm : q ≤ 60
    · have hm' : (q : Int) ≤ 60 := by omega
      go_wp2
      go_ret
      exact ⟨_, rfl, fun _ => ⟨HQ1.out (by trivial), hm⟩, B2.out⟩
    · have hm' : ¬ (q : Int) ≤ 60 := by omega
      go_wp2
      go_ret
      exact ⟨false, ret_bool (by simp; omega), fun h => absurd h (by decide), B2.out⟩
end Go.Proofs.Ytaicehkphokacaa
