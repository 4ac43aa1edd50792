/- The walks of begin and moveOuts. -/
import Derived.Test.YtnhkgkpjkgifoaaMbb
namespace Go.Proofs.Ytnhkgkpjkgifoaa
open Go.RowKit

theorem addz (g k : Nat) : ((⟨g, 0, none⟩ : Addr).add k) = ⟨g, k, none⟩ := by
  unfold Addr.add
  split
  · next e => subst e; rfl
  · simp
section
variable {wk b0 N : Nat} {gs : List C3} {os ws : List Int} {A O V : Option Addr} {cA cO cV mb : Nat} {w : World}
theorem WK.drewN (h : WK wk b0 N gs os ws A O V cA cO cV mb w) (k : Nat) : WK wk b0 N gs os ws A O V cA cO cV mb (w.drewN k) := ⟨h.blk.drewN k, h.g, h.o, h.v, h.ov, h.wb⟩
theorem idW_succ (j : Nat) : idW (j + 1) = idW j ++ [(j : Int)] := by simp [idW, List.range_succ]
theorem idW_len (j : Nat) : (idW j).length = j := by simp [idW]
theorem WK.nilcap (h : WK wk b0 N gs os ws A O none cA cO cV mb w) : cV = 0 := by
  rcases h.v.2 with ⟨hv, _⟩ | ⟨g, cap, cur, hv, _⟩
  · injection hv
  · cases hv
/-- where a row begins -/
theorem own_some {w : World} {b0 k n c : Nat} {e : TypeId} {ad : Addr} {xs : List Value} (h : w.ownsRow b0 e k (.slice (some ad) n c) n xs) : ∃ g, ad = ⟨g, 0, none⟩ ∧ n ≤ c ∧ b0 ≤ g ∧ g < w.heap.size := by
  rcases h.2 with ⟨hv, _⟩ | ⟨g, cap, cur, hv, hbg, hg, h3, _⟩
  · cases hv
  · injection hv with e1 e2 e3
    injection e1 with e1
    subst e1 e3
    exact ⟨g, rfl, h3, hbg, (Array.getElem?_eq_some_iff.1 hg).1⟩
def BegOut (wk b0 N : Nat) (gs : List C3) (os : List Int) (A O V : Option Addr) (cA cO mb : Nat) (w : World) (e : Ending) (w' : World) : Prop :=
  e = .returned (.tuple #[]) ∧ ∃ V' cV', WK wk b0 N gs os (idW N) A O V' cA cO cV' mb w' ∧ Fr (TS4 wk A O V) w (TS4 wk A O V') w'
set_option maxRecDepth 100000 in
set_option maxHeartbeats 4000000 in
theorem begin_nil (h : WK wk b0 N gs os ws A O none cA cO cV mb w) (hN : N ≤ 1000) :
    Calls Try.prog 90 #[.pointer (some ⟨wk, 0, none⟩)] w fun e w' => BegOut wk b0 N gs os A O none cA cO mb w e w' := by
  obtain ⟨ii, hii, hz0, hz1, hz2⟩ := info_parts Try.info_intL
  obtain ⟨c0, _, _, c3, _, c5⟩ := h.blk.five
  have f3 := h.blk.frozen 3
  have hb := h.wb
  obtain ⟨q1, q2⟩ := h.cut
  have hcv := h.nilcap
  subst hcv
  have Q1 := Lib.hid q1
  have Q2 := Lib.hid q2
  generalize ws.length = nv at c3
  clear h q1 q2
  go_enter Try.func90, Try.ntmps90
  go_upto_region 1 with (fail)
  generalize w.setCell ⟨wk, 3, none⟩ (.slice none 0 0) = w1 at Q1 Q2 ⊢
  have c0' := Q1.out.blk.five.1
  clear c0 c3 f3
  go_upto_region 2 with (fail)
  clear c0'
  exact (by
    go_loopw [16] (fun iv wr => ∃ (j : Nat) (V' : Option Addr) (c' : Nat), j ≤ N ∧ iv = .int .i64 (j : Int) ∧ Hid (WK wk b0 N gs os (idW j) A O V' cA cO c' mb wr) ∧ Hid (Fr (TS4 wk A O none) w (TS4 wk A O V') wr)) (fun iv _ => N - (intOf iv).toNat)
    case atStart => exact ⟨0, none, 0, Nat.zero_le _, rfl, Q1, Q2⟩
    case round =>
      obtain ⟨j, V', c', hj, rfl, HW, HF⟩ := hrel
      by_cases hlt : j < N
      · have hjI : (j : Int) < (N : Int) := by omega
        have HV := Lib.hid (show wr.ownsRow b0 3 1 (.slice V' j c') j (il (idW j)) from by have := HW.out.v; rwa [idW_len] at this)
        have c3 : wr.cell? ⟨wk, 3, none⟩ = some (.slice V' j c') := by have := HW.out.blk.five.2.2.2.1; rwa [idW_len] at this
        have hsz : b0 ≤ wr.heap.size := by have := HW.out.blk.lt; omega
        clear hlt
        go_wp2_with (at_builtin; refine wpList_append1F rfl _ _ 26 rfl b0 3 ii (.int .i64 0) 8 Try.underlying26 hii hz0 hz1 hz2 rfl V' j c' _ rfl HV.out (.int .i64 (j : Int)) rfl rfl (by unfold maxLen; omega) (by omega) hsz ?_; intro g' c2 w5 hown hfr; have P5 := Lib.hid (HW.out.push (by rw [idW_len]; exact hown) hfr); have K5 := hfr.blk HW.out.blk HW.out.lb.2.2; have d3 := (K5.cell 3).trans (show (#[_, _, _, _, _] : Array Value)[3]? = some _ from rfl); rw [idW_len] at d3; have d3f := K5.frozen 3; clear hown hfr K5 c3)
        go_roundw
        case rel =>
          have P6 := P5.out
          rw [idW_len] at P6
          exact ⟨j + 1, some ⟨g', 0, none⟩, c2, by omega, by go_num, Lib.hid (by rw [idW_succ]; exact P6.1), Lib.hid (HF.out.trans P6.2)⟩
        case measure => simp [intOf]; omega
      · obtain rfl : j = N := by omega
        go_wp2
        go_end0
        exact ⟨rfl, V', c', HW.out, HF.out⟩)
set_option maxRecDepth 100000 in
set_option maxHeartbeats 4000000 in
theorem begin_some (gv : Nat) (h : WK wk b0 N gs os ws A O (some ⟨gv, 0, none⟩) cA cO cV mb w) (hN : N ≤ 1000) :
    Calls Try.prog 90 #[.pointer (some ⟨wk, 0, none⟩)] w fun e w' => BegOut wk b0 N gs os A O (some ⟨gv, 0, none⟩) cA cO mb w e w' := by
  obtain ⟨ii, hii, hz0, hz1, hz2⟩ := info_parts Try.info_intL
  obtain ⟨c0, _, _, c3, _, c5⟩ := h.blk.five
  have f3 := h.blk.frozen 3
  have hb := h.wb
  obtain ⟨q1, q2⟩ := h.cut
  have Q1 := Lib.hid q1
  have Q2 := Lib.hid q2
  generalize ws.length = nv at c3
  clear h q1 q2
  go_enter Try.func90, Try.ntmps90
  go_upto_region 1 with (fail)
  generalize w.setCell ⟨wk, 3, none⟩ (.slice (some ⟨gv, 0, none⟩) 0 cV) = w1 at Q1 Q2 ⊢
  have c0' := Q1.out.blk.five.1
  clear c0 c3 f3
  go_upto_region 2 with (fail)
  clear c0'
  exact (by
    go_loopw [16] (fun iv wr => ∃ (j : Nat) (V' : Option Addr) (c' : Nat), j ≤ N ∧ iv = .int .i64 (j : Int) ∧ Hid (WK wk b0 N gs os (idW j) A O V' cA cO c' mb wr) ∧ Hid (Fr (TS4 wk A O (some ⟨gv, 0, none⟩)) w (TS4 wk A O V') wr)) (fun iv _ => N - (intOf iv).toNat)
    case atStart => exact ⟨0, (some ⟨gv, 0, none⟩), cV, Nat.zero_le _, rfl, Q1, Q2⟩
    case round =>
      obtain ⟨j, V', c', hj, rfl, HW, HF⟩ := hrel
      by_cases hlt : j < N
      · have hjI : (j : Int) < (N : Int) := by omega
        have HV := Lib.hid (show wr.ownsRow b0 3 1 (.slice V' j c') j (il (idW j)) from by have := HW.out.v; rwa [idW_len] at this)
        have c3 : wr.cell? ⟨wk, 3, none⟩ = some (.slice V' j c') := by have := HW.out.blk.five.2.2.2.1; rwa [idW_len] at this
        have hsz : b0 ≤ wr.heap.size := by have := HW.out.blk.lt; omega
        clear hlt
        go_wp2_with (at_builtin; refine wpList_append1F rfl _ _ 26 rfl b0 3 ii (.int .i64 0) 8 Try.underlying26 hii hz0 hz1 hz2 rfl V' j c' _ rfl HV.out (.int .i64 (j : Int)) rfl rfl (by unfold maxLen; omega) (by omega) hsz ?_; intro g' c2 w5 hown hfr; have P5 := Lib.hid (HW.out.push (by rw [idW_len]; exact hown) hfr); have K5 := hfr.blk HW.out.blk HW.out.lb.2.2; have d3 := (K5.cell 3).trans (show (#[_, _, _, _, _] : Array Value)[3]? = some _ from rfl); rw [idW_len] at d3; have d3f := K5.frozen 3; clear hown hfr K5 c3)
        go_roundw
        case rel =>
          have P6 := P5.out
          rw [idW_len] at P6
          exact ⟨j + 1, some ⟨g', 0, none⟩, c2, by omega, by go_num, Lib.hid (by rw [idW_succ]; exact P6.1), Lib.hid (HF.out.trans P6.2)⟩
        case measure => simp [intOf]; omega
      · obtain rfl : j = N := by omega
        go_wp2
        go_end0
        exact ⟨rfl, V', c', HW.out, HF.out⟩)
theorem begin_any (h : WK wk b0 N gs os ws A O V cA cO cV mb w) (hN : N ≤ 1000) :
    Calls Try.prog 90 #[.pointer (some ⟨wk, 0, none⟩)] w fun e w' => BegOut wk b0 N gs os A O V cA cO mb w e w' := by
  cases V with
  | none => exact begin_nil h hN
  | some ad =>
    obtain ⟨g, rfl, _⟩ := own_some h.v
    exact begin_some g h hN
/-- the outputs, some of them moved -/
def mo1 (ws os : List Int) (i : Nat) : List Int := mo ws (os.take i) ++ os.drop i
theorem mo1_len (ws os : List Int) (i : Nat) (h : i ≤ os.length) : (mo1 ws os i).length = os.length := by simp [mo1, mo]; omega
theorem mo1_set (ws os : List Int) (i : Nat) (h : i < os.length) : (mo1 ws os i).set i (ig ws (ig os i).toNat) = mo1 ws os (i + 1) := by
  have hl : (mo ws (os.take i)).length = i := by simp [mo]; omega
  have e : os.drop i = os[i] :: os.drop (i + 1) := List.drop_eq_getElem_cons h
  have e2 : ig os i = os[i] := by simp [ig, List.getD_eq_getElem?_getD, h]
  unfold mo1
  rw [e, List.set_append_right _ _ (by omega), hl, Nat.sub_self, List.set_cons_zero, List.take_add_one, List.getElem?_eq_getElem h, e2]
  unfold mo
  rw [List.map_append]
  simp only [Option.toList, List.map_cons, List.map_nil, List.append_assoc, List.cons_append, List.nil_append]
theorem mo1_at (ws os : List Int) (i : Nat) (h : i < os.length) : ig (mo1 ws os i) i = ig os i := by
  have hl : (mo ws (os.take i)).length = i := by simp [mo]; omega
  unfold mo1
  simp only [ig, List.getD_eq_getElem?_getD]
  rw [List.getElem?_append_right (by omega), hl, Nat.sub_self, List.getElem?_drop]
  rfl
/-- an output moved -/
theorem WK.out {gq : Nat} (h : WK wk b0 N gs os ws A (some ⟨gq, 0, none⟩) V cA cO cV mb w) (i : Nat) (x : Int) : WK wk b0 N gs (os.set i x) ws A (some ⟨gq, 0, none⟩) V cA cO cV mb (w.setCell ⟨gq, i, none⟩ (.int .i64 x)) ∧ Fr (TS4 wk A (some ⟨gq, 0, none⟩) V) w (TS4 wk A (some ⟨gq, 0, none⟩) V) (w.setCell ⟨gq, i, none⟩ (.int .i64 x)) := by
  obtain ⟨l1, l2, l3⟩ := h.lb
  obtain ⟨a1, a2⟩ := h.ag
  have hw : ob (some ⟨gq, 0, none⟩) gq := rfl
  have hne : wk ≠ gq := fun e => l2 (by rw [e]; exact hw)
  have ho := (h.o.stored i (.int .i64 x)).1
  refine ⟨⟨?_, own_set h.g (fun e => a1 gq (ob_own.2 e) hw) _, ?_, own_set h.v (fun e => h.ov gq hw (ob_own.2 e)) _, h.ov, h.wb⟩, Fr.set_ w (p := ⟨gq, i, none⟩) _ (.inr (.inr (.inl hw)))⟩
  · rw [List.length_set]
    exact h.blk.far (p := ⟨gq, i, none⟩) hne _
  · rw [List.length_set]
    have e : (il os).set i (.int .i64 x) = il (os.set i x) := by simp [il, List.map_set]
    rw [e] at ho
    exact ho
def MovOut (wk b0 N : Nat) (gs : List C3) (os ws : List Int) (A O V : Option Addr) (cA cO cV mb : Nat) (w : World) (e : Ending) (w' : World) : Prop :=
  e = .returned (.tuple #[]) ∧ WK wk b0 N gs (mo ws os) ws A O V cA cO cV mb w' ∧ Fr (TS4 wk A O V) w (TS4 wk A O V) w'
set_option maxRecDepth 100000 in
set_option maxHeartbeats 4000000 in
theorem moveOuts_any (h : WK wk b0 N gs os ws A O V cA cO cV mb w) (ho : ∀ k, k < os.length → 0 ≤ ig os k ∧ ig os k < (ws.length : Int)) (hl : os.length ≤ 1000) :
    Calls Try.prog 92 #[.pointer (some ⟨wk, 0, none⟩)] w fun e w' => MovOut wk b0 N gs os ws A O V cA cO cV mb w e w' := by
  obtain ⟨_, _, c2, _, _, c5⟩ := h.blk.five
  obtain ⟨q, hq⟩ : ∃ q, os.length = q := ⟨_, rfl⟩
  have HQ := Lib.hid hq
  rw [hq] at c2 hl
  have HO := Lib.hid ho
  have HH := Lib.hid (show WK wk b0 N gs (mo1 ws os 0) ws A O V cA cO cV mb w from by simpa [mo1, mo] using h)
  clear h ho hq
  go_enter Try.func92, Try.ntmps92
  go_wp2_with fail
  clear c2 c5
  exact (by
    go_loopw [10] (fun iv wr => ∃ (j : Nat), j ≤ q ∧ iv = .int .i64 (j : Int) ∧ Hid (WK wk b0 N gs (mo1 ws os j) ws A O V cA cO cV mb wr) ∧ Hid (Fr (TS4 wk A O V) w (TS4 wk A O V) wr)) (fun iv _ => q - (intOf iv).toNat)
    case atStart => exact ⟨0, Nat.zero_le _, rfl, HH, Lib.hid (Fr.refl _ _)⟩
    case round =>
      obtain ⟨j, hj, rfl, HW, HF⟩ := hrel
      by_cases hlt : j < q
      · have hjI : (j : Int) < (q : Int) := by omega
        have hml := mo1_len ws os j (by rw [HQ.out]; exact hj)
        rw [HQ.out] at hml
        have hO := HW.out.o
        rw [hml] at hO
        have c2 := HW.out.blk.five.2.2.1
        rw [hml] at c2
        have c3 := HW.out.blk.five.2.2.2.1
        cases O with
        | none =>
          exfalso
          rcases hO.2 with ⟨hv, _⟩ | ⟨g, cap, cur, hv, _⟩
          · injection hv; omega
          · cases hv
        | some ad =>
          obtain ⟨go, rfl, _, _, _⟩ := own_some hO
          obtain ⟨x1, x2⟩ := HO.out j (by rw [HQ.out]; exact hlt)
          obtain ⟨ad1, e1, _, y1⟩ := il_at HW.out.or_ (k := j) (by rw [hml]; exact hlt)
          injection e1 with e1
          subst e1
          rw [mo1_at ws os j (by rw [HQ.out]; exact hlt)] at y1
          have P5 := Lib.hid (HW.out.out j (ig ws (ig os j).toNat))
          have HM := Lib.hid (mo1_set ws os j (by rw [HQ.out]; exact hlt))
          generalize ig os j = x at x1 x2 y1 P5 HM
          obtain ⟨x, rfl⟩ : ∃ k : Nat, x = (k : Int) := ⟨x.toNat, by omega⟩
          rw [Int.toNat_natCast] at P5 HM
          obtain ⟨ad2, e2, _, y2⟩ := il_at HW.out.vr (k := x) (by omega)
          subst e2
          generalize ig ws x = y at y2 P5 HM
          have y1' : wr.cell? ⟨go, j, none⟩ = some (.int .i64 (x : Int)) := by rwa [addz] at y1
          have fo := hO.frozenAt j
          generalize ws.length = nv at *
          have xI : (x : Int) < (nv : Int) := x2
          clear hO y1 hml
          go_wp2_with fail
          go_region
          all_goals
            go_wp2_with fail
            go_roundw
            case rel => exact ⟨j + 1, by omega, by go_num, Lib.hid (by rw [← HM.out]; exact P5.out.1.drewN 1), Lib.hid ((HF.out.trans P5.out.2).drew)⟩
            case measure => simp [intOf]; omega
      · obtain rfl : j = q := by omega
        have e : mo1 ws os j = mo ws os := by
          unfold mo1
          rw [← HQ.out, List.take_length, List.drop_length, List.append_nil]
        go_wp2
        go_end0
        exact ⟨rfl, by rw [← e]; exact HW.out, HF.out⟩)
end
end Go.Proofs.Ytnhkgkpjkgifoaa
