/- The new state is a state; it depends on the numbers of states only, if positions may be exchanged. -/
/- The walks of Next where it answers an error, and of the new state that Tree asks for. -/
import Derived.Test.YtedjjhaopohibaaGreatDoorMf
import Derived.Test.YtedjjhaopohibaaGreatDoorMj
namespace Go.Proofs.YtedjjhaopohibaaGreatDoor
open Go.RowKit

theorem ch_st {v : Nat → List Int} {nv : Nat} {st : Int} (hv : Vd v nv st) (hs : st ≤ 8) (l : List Int) (ce sc : Int) {e : Int} (h1 : -(nv : Int) ≤ e) (h2 : e < st) (k : Nat) (hk : k < (ch v l e ce sc).length) : 0 ≤ ig (ch v l e ce sc) k ∧ ig (ch v l e ce sc) k < st := by
  exact (ch_bd hv hs l ce sc h1 h2).2 _ (ig_mem hk)
/-- the new state is a state -/
theorem av_st {T : Tab} (ht : Rt T) {l r : List Int} {o : Int} (hr : rr T.n T.st T.nv r o = true) (hl : l.length = T.n) (hs : als T.st l = true) (h2 : (av T l r o).2 = true) : 0 ≤ (av T l r o).1 ∧ (av T l r o).1 < T.st := by
  have hw := rw_of hr
  have s2 := ht.s2
  have s1 := ht.s1
  have hst := (als_iff _ _).1 hs
  by_cases h3 : T.sy = 3
  · have hob : -(T.nv : Int) ≤ o ∧ o < T.st := by
      rcases hw.out with h | h
      · omega
      · obtain ⟨i, hi, rfl⟩ := mem_ig h
        exact hw.els i (by rw [← hw.len]; exact hi)
    unfold av at *
    rw [if_pos h3] at *
    unfold pm at *
    split at h2
    · cases h2
    · rename_i hne
      rw [if_neg hne]
      split at h2
      · rename_i h0
        rw [if_pos h0]
        rcases fx_cases (pg T.v r o (px T.f T.n (0, 0)) (ig l (px T.f T.n (0, 0)).toNat) (pf T.v r o (px T.f T.n (0, 0)) (ig l (px T.f T.n (0, 0)).toNat) (cl8 l T.n) r.length)) (ch T.v r o (px T.f T.n (0, 0)) (ig l (px T.f T.n (0, 0)).toNat)).length with ⟨j, hj, e, _⟩ | ⟨e, _⟩
        · rw [e, show ((j : Int)).toNat = j from rfl]
          exact ch_st ht.bd.2 s2 r _ _ hob.1 hob.2 j hj
        · rw [e] at h0
          omega
      · cases h2
  · unfold av at *
    rw [if_neg h3] at *
    unfold ta at *
    split at h2
    · cases h2
    · rename_i hne
      rw [if_neg hne]
      have h4 := (le_tl (st := T.st) (v := T.v) (l := r) (o := o) (vs := fun k => vw T.f T.n l k T.n) (m := nwv T.sy) (tl T.st T.v r o (fun k => vw T.f T.n l k T.n) (nwv T.sy))).1 (Int.le_refl _)
      have h5 := (le_tl (st := T.st) (v := T.v) (l := r) (o := o) (vs := fun k => vw T.f T.n l k T.n) (m := nwv T.sy) 0).2 ⟨by omega, fun k hk _ => by
        unfold so
        split
        · rename_i ho
          have hmem : o ∈ r := by
            rcases hw.out with h | h
            · omega
            · exact h
          obtain ⟨i, hi, hix, _⟩ := ix_mem hmem
          rw [hix, show ((i : Int)).toNat = i from rfl]
          have hin : i < T.n := by rw [← hw.len]; exact hi
          have hk2 := (keeps_at (ht.keeps k hk) hin).1
          have : ig (vw T.f T.n l k T.n) i = ig l (vi T.f T.n k i) := by
            unfold vw
            simp [ig, hin, List.getD_eq_getElem?_getD]
          rw [this]
          exact (hst _ (by rw [hl]; exact hk2)).1
        · omega⟩
      dsimp only
      omega
theorem nx_st {T : Tab} (ht : Rt T) {l : List Int} (hl : l.length = T.n) (hs : als T.st l = true) : 0 ≤ nx T l ∧ nx T l < T.st := by
  have s2 := ht.s2
  have s1 := ht.s1
  rcases fx_cases (fun k => (av T l (T.ri k) (T.ro k)).2) T.nr with ⟨k, hk, e, h1, h2⟩ | ⟨e, h1⟩
  · rw [nx_row hk h2 h1]
    exact av_st ht (ht.rs k hk) hl hs h1
  · rw [nx_none h1]
    split
    · omega
    · have := px_bd T.f T.n (0, 0)
      have := (als_iff _ _).1 hs (px T.f T.n (0, 0)).toNat (by omega)
      omega

/-- counting, as the library counts -/
theorem cnt_take (l : List Int) (k : Int) (n : Nat) (hn : n ≤ l.length) : cnt l k n = (((l.take n).count k : Nat) : Int) := by
  induction n with
  | zero => simp [cnt]
  | succ n ih =>
    have e : ig l n = l[n] := by simp [ig, show n < l.length by omega]
    rw [cnt, ih (by omega), List.take_succ_eq_append_getElem (by omega), List.count_append, List.count_singleton, e]
    by_cases h : l[n] = k
    · simp [h]
    · simp [h]
theorem cnt_count (l : List Int) (k : Int) : cnt l k l.length = ((l.count k : Nat) : Int) := by
  rw [cnt_take l k l.length (Nat.le_refl _), List.take_length]
theorem nx_eqv {T : Tab} (h3 : T.sy = 3) {l m : List Int} (hl : l.length = T.n) (h : Eqv T.n T.f l m) : nx T m = nx T l := by
  have hm : m.length = T.n := h.1.length_eq.trans hl
  have h8 : cl8 m T.n = cl8 l T.n := by
    have e : ∀ k, cnt m k T.n = cnt l k T.n := fun k => by
      have h1 := cnt_count m k
      have h2 := cnt_count l k
      rw [hm] at h1
      rw [hl] at h2
      rw [h1, h2, h.1.count_eq]
    simp only [cl8, e]
  refine nx_congr (fun r o => ?_) h.2
  unfold av
  rw [if_pos h3, if_pos h3, h8]
  by_cases h0 : 0 ≤ px T.f T.n (0, 0)
  · rw [h.2 h0]
  · exact pm_neg _ _ _ _ _ _ _ (by omega)
end Go.Proofs.YtedjjhaopohibaaGreatDoor
namespace Go.Proofs.YtedjjhaopohibaaGreatDoor
open Go.RowKit

set_option maxRecDepth 100000 in
set_option maxHeartbeats 2000000 in
theorem next_bad (AH : Option Addr) (cH : Nat) (AV : Option Addr) (cV : Nat) (AR : Option Addr) (cR : Nat) (T : Tab) (AI : Option Addr) (q cI : Nat) (w : World) (hM : Mat w) (h : TR w AH AV AR T) (hb : Bd T) (ht : ¬ Rt T) :
    Calls Tryz.prog 6 #[.agg #[.int .i64 T.st, .int .i64 T.sy, .slice AH T.n cH, .slice AV T.nv cV, .slice AR T.nr cR], .slice AI q cI] w fun e w' => e = .returned (.tuple #[.int .i64 0, .int .i64 2]) ∧ Below w.heap.size w w' := by
  have RT := Lib.hid (fun w' (hb' : Below w.heap.size w w') => rt_any AH cH AV cV AR cR T w' (hM.below hb' hM.1) (h.later hb') hb)
  rw [rt_no ht] at RT
  have K0 := Blk.new w 26 #[.int .i64 T.st, .int .i64 T.sy, .slice AH T.n cH, .slice AV T.nv cV, .slice AR T.nr cR]
  have B0 := (Below.refl w.heap.size w).alloc (Nat.le_refl _) (.cells #[.int .i64 T.st, .int .i64 T.sy, .slice AH T.n cH, .slice AV T.nv cV, .slice AR T.nr cR] 26)
  clear h hb ht hM
  obtain ⟨st, ky, n, f, nv, v, nr, ri, ro⟩ := T
  simp only at *
  go_enter Tryz.func6, Tryz.ntmps6
  go_wp2_with fail
  generalize w.alloc (.cells #[.int .i64 st, .int .i64 ky, .slice AH n cH, .slice AV nv cV, .slice AR nr cR] 26) = w0 at K0 B0 ⊢
  obtain ⟨t0, t1, t2, t3, t4, t5⟩ := K0.five
  have B0 := Lib.hid B0
  clear K0
  go_wp2_with (go_at_call 9; (with_reducible refine (RT.out _ B0.out).mono ?_); rintro e w1 ⟨rfl, hb⟩; have B1 := Lib.hid (B0.out.trans (hb.mono B0.out.size)); clear hb)
  go_ret2
  exact ⟨rfl, B1.out⟩
set_option maxRecDepth 100000 in
set_option maxHeartbeats 2000000 in
theorem next_len (AH : Option Addr) (cH : Nat) (AV : Option Addr) (cV : Nat) (AR : Option Addr) (cR : Nat) (T : Tab) (AI : Option Addr) (q cI : Nat) (w : World) (hM : Mat w) (h : TR w AH AV AR T) (hb : Bd T) (ht : Rt T) (hq : q ≠ T.n) :
    Calls Tryz.prog 6 #[.agg #[.int .i64 T.st, .int .i64 T.sy, .slice AH T.n cH, .slice AV T.nv cV, .slice AR T.nr cR], .slice AI q cI] w fun e w' => e = .returned (.tuple #[.int .i64 0, .int .i64 2]) ∧ Below w.heap.size w w' := by
  have RT := Lib.hid (fun w' (hb' : Below w.heap.size w w') => rt_any AH cH AV cV AR cR T w' (hM.below hb' hM.1) (h.later hb') hb)
  rw [(rt_iff T).2 ht] at RT
  have K0 := Blk.new w 26 #[.int .i64 T.st, .int .i64 T.sy, .slice AH T.n cH, .slice AV T.nv cV, .slice AR T.nr cR]
  have B0 := (Below.refl w.heap.size w).alloc (Nat.le_refl _) (.cells #[.int .i64 T.st, .int .i64 T.sy, .slice AH T.n cH, .slice AV T.nv cV, .slice AR T.nr cR] 26)
  clear h hb ht hM
  obtain ⟨st, ky, n, f, nv, v, nr, ri, ro⟩ := T
  simp only at *
  have hnn : ((q : Int) != (n : Int)) = true := by rw [bne_iff_ne]; omega
  clear hq
  go_enter Tryz.func6, Tryz.ntmps6
  go_wp2_with fail
  generalize w.alloc (.cells #[.int .i64 st, .int .i64 ky, .slice AH n cH, .slice AV nv cV, .slice AR nr cR] 26) = w0 at K0 B0 ⊢
  obtain ⟨t0, t1, t2, t3, t4, t5⟩ := K0.five
  have K0 := Lib.hid K0
  have B0 := Lib.hid B0
  go_wp2_with (go_at_call 9; (with_reducible refine (RT.out _ B0.out).mono ?_); rintro e w1 ⟨rfl, hb⟩; have B1 := Lib.hid (B0.out.trans (hb.mono B0.out.size)); obtain ⟨u0, u1, u2, u3, u4, u5⟩ := (K0.out.below hb K0.out.lt).five; clear hb)
  go_ret2
  exact ⟨rfl, B1.out⟩
/-- the new state, as Tree asks for it -/
theorem tree1_any (AH : Option Addr) (cH : Nat) (AV : Option Addr) (cV : Nat) (AR : Option Addr) (cR : Nat) (T : Tab) (A : Option Addr) (c tb : Nat) (m : List Int) (w : World) (hM : Mat w) (h : TR w AH AV AR T) (hb : Bd T) (ht : Rt T) (hI : Reads w w.heap.size A T.n (il m)) (hc : T.n ≤ c) (hst : als T.st m = true)
    (hk : Blk w tb 26 #[.int .i64 T.st, .int .i64 T.sy, .slice AH T.n cH, .slice AV T.nv cV, .slice AR T.nr cR]) :
    Calls Tryz.prog 11 #[.slice A T.n c, .pointer (some ⟨tb, 0, none⟩)] w fun e w' => e = .returned (.int .i64 (((nx T m).toNat : Nat) : Int)) ∧ Below w.heap.size w w' := by
  have NX := Lib.hid (next_ok AH cH AV cV AR cR T A c m w hM h hb ht hI hc hst)
  have hnx := nx_st ht (reads_len hI) hst
  have e : nx T m = (((nx T m).toNat : Nat) : Int) := by omega
  rw [e] at NX
  generalize (nx T m).toNat = y at NX ⊢
  obtain ⟨t0, t1, t2, t3, t4, t5⟩ := hk.five
  clear hM h hb ht hI hc hst hk hnx e
  go_enter Tryz.func11, Tryz.ntmps11
  go_wp2_with (go_at_call 6; (with_reducible refine NX.out.mono ?_); rintro e w1 ⟨rfl, hb⟩; have B1 := Lib.hid hb; clear hb)
  go_ret
  exact ⟨rfl, B1.out⟩
end Go.Proofs.YtedjjhaopohibaaGreatDoor
