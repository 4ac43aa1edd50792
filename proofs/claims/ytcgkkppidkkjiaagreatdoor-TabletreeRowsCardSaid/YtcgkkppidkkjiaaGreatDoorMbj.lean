/- Dead at the examples' table, deciders' answer given. -/
/- Two rows of the call's own, in different blocks; the numbers of the two parts. -/
/- slices.Clone of rows. -/
/- A region that draws its order, in the round of a range over a function: by the laws that serve outside of rounds. -/
/- The walk of the iterator of slices.Chunk at two rows, one by one. -/
import Derived.Test.YtcgkkppidkkjiaaGreatDoorMbh
import Derived.Test.YtcgkkppidkkjiaaGreatDoorMan
import Derived.Test.YtcgkkppidkkjiaaGreatDoorMao
import Derived.Test.YtcgkkppidkkjiaaGreatDoorMbf
import Derived.Test.YtcgkkppidkkjiaaGreatDoorMaf
import Derived.Deep.RegionHeldLaw
import Derived.RangeFuncNested
import Derived.RangeFuncBound
import Derived.RangeFuncCalls
import Derived.RangeFuncLeaves
import Derived.OwnWalkIn
import Derived.TacticsInMore
import Derived.LoopNIn
import Derived.LoopIn
namespace Go.Proofs.YtcgkkppidkkjiaaGreatDoor
open Go.RowKit

theorem nm8_at : ∀ k, k < 8 → nm 2 (dg 2 3 k) = k := by decide +kernel
set_option maxRecDepth 100000 in
set_option maxHeartbeats 8000000 in
theorem dead0 (AH : Option Addr) (cH : Nat) (AR : Option Addr) (cR : Nat) (w : World) (hM : Mat w) (h : TR w AH none AR T0)
    (DD : ∀ w' A c, Below w.heap.size w w' → Reads w' w'.heap.size A 8 (il (numR 8)) → Calls Tryz.prog 29 #[.agg #[.int .i64 2, .int .i64 0, .slice AH 3 cH, .slice none 0 0, .slice AR 2 cR], .slice A 8 c] w' fun e w'' => ∃ g c', e = .returned (.slice (some ⟨g, 0, none⟩) 2 c') ∧ w''.cell? ⟨g, 0, none⟩ = some (.bool true) ∧ w''.cell? ⟨g, 1, none⟩ = some (.bool false) ∧ g < w''.heap.size ∧ Below w'.heap.size w' w'') :
    Calls Tryz.prog 12 #[.agg #[.int .i64 2, .int .i64 0, .slice AH 3 cH, .slice none 0 0, .slice AR 2 cR]] w fun e w' => ∃ A c, e = .returned (.tuple #[.slice A 1 c, .int .i64 0]) ∧ Reads w' w'.heap.size A 1 (il [1]) ∧ Below w.heap.size w w' := by
  obtain ⟨i0, hi, hz0, hz1, hz2⟩ := info_parts Tryz.info_int
  have RT := Lib.hid (fun w' (hb' : Below w.heap.size w w') => rt_any AH cH none 0 AR cR T0 w' (hM.below hb' hM.1) (h.later hb') bd0)
  rw [(rt_iff T0).2 rt0] at RT
  have RT := Lib.hid (show ∀ w', Below w.heap.size w w' → Calls Tryz.prog 17 #[.agg #[.int .i64 2, .int .i64 0, .slice AH 3 cH, .slice none 0 0, .slice AR 2 cR]] w' fun e w'' => e = .returned (.bool true) ∧ Below w'.heap.size w' w'' from RT.out)
  have IP := Lib.hid (show ∀ w', Calls Tryz.prog 26 #[.agg #[.int .i64 2, .int .i64 0, .slice AH 3 cH, .slice none 0 0, .slice AR 2 cR]] w' fun e w'' => e = .returned (.tuple #[.int .i64 8, .bool true]) ∧ Below w'.heap.size w' w'' from fun w' => inputs_yes 2 0 AH 3 cH none 0 0 AR 2 cR w' (by omega) (by omega) (by omega) (by decide))
  have IN := Lib.hid (show ∀ (k : Nat) w', k < 8 → Calls Tryz.prog 28 #[.agg #[.int .i64 2, .int .i64 0, .slice AH 3 cH, .slice none 0 0, .slice AR 2 cR], .int .i64 (k : Int)] w' fun e w'' => ∃ g, e = .returned (.slice (some ⟨g, 0, none⟩) 3 3) ∧ Reads w'' w''.heap.size (some ⟨g, 0, none⟩) 3 (il (dg 2 3 k)) ∧ Below w'.heap.size w' w'' from fun k w' hk =>
    (input_any 2 k 0 AH 3 cH none 0 0 AR 2 cR w' (by omega) (by omega) (by omega) (by omega)).mono fun e w'' ⟨g, he, hk, hb⟩ => ⟨g, he, by
      have := Reads.of_blk1 (l := dg 2 3 k) hk
      rwa [dg_len] at this, hb⟩)
  have EQ := Lib.hid (show ∀ (k g : Nat) w', Below w.heap.size w w' → k < 8 → Reads w' w'.heap.size (some ⟨g, 0, none⟩) 3 (il (dg 2 3 k)) → Calls Tryz.prog 27 #[.agg #[.int .i64 2, .int .i64 0, .slice AH 3 cH, .slice none 0 0, .slice AR 2 cR], .slice (some ⟨g, 0, none⟩) 3 3] w' fun e w'' => e = .returned (.int .i64 (k : Int)) ∧ Below w'.heap.size w' w'' from fun k g w' hb' hk hr =>
    (equiv_any 2 0 AH 3 cH lnf none 0 0 AR 2 cR (some ⟨g, 0, none⟩) 3 (dg 2 3 k) w' (by omega) (by omega) (by omega) (by omega) (by decide) (h.1.later hb') hr (sts_dg (by omega) _ _)).mono fun e w'' ⟨m, he, _, hm, hb⟩ => ⟨by
      rcases hm with rfl | ⟨h3, _⟩
      · rw [he, nm8_at k hk]
      · exact absurd h3 (by decide), hb⟩)
  have DD := Lib.hid DD
  clear hM h
  have K0 := Lib.hid (Blk.new w 26 #[.int .i64 2, .int .i64 0, .slice AH 3 cH, .slice none 0 0, .slice AR 2 cR])
  have B0 := Lib.hid ((Below.refl w.heap.size w).alloc (Nat.le_refl _) (.cells #[.int .i64 2, .int .i64 0, .slice AH 3 cH, .slice none 0 0, .slice AR 2 cR] 26))
  have z0 : (w.alloc (.cells #[.int .i64 2, .int .i64 0, .slice AH 3 cH, .slice none 0 0, .slice AR 2 cR] 26)).heap.size = w.heap.size + 1 := by simp
  go_enter Tryz.func12, Tryz.ntmps12
  go_upto_region 1 with (fail)
  generalize w.alloc (.cells #[.int .i64 2, .int .i64 0, .slice AH 3 cH, .slice none 0 0, .slice AR 2 cR] 26) = w0 at *
  obtain ⟨t0, t1, t2, t3, t4, t5⟩ := K0.out.five
  go_wp2_with (first
    | (go_at_call 17; (with_reducible refine (RT.out _ B0.out).mono ?_); rintro e w1 ⟨rfl, hb⟩; have B1 := Lib.hid (B0.out.trans (hb.mono B0.out.size)); have K1 := Lib.hid (K0.out.below hb K0.out.lt); have z1 := hb.size; clear hb t0 t1 t2 t3 t4 t5; obtain ⟨t0, t1, t2, t3, t4, t5⟩ := K1.out.five)
    | (go_at_call 26; (with_reducible refine (IP.out _).mono ?_); rintro e w2 ⟨rfl, hb⟩; have B2 := Lib.hid (B1.out.trans (hb.mono B1.out.size)); have K2 := Lib.hid (K1.out.below hb K1.out.lt); have z2 := hb.size; clear hb t0 t1 t2 t3 t4 t5; obtain ⟨t0, t1, t2, t3, t4, t5⟩ := K2.out.five))
  have O2 := Lib.hid (show w2.ownsRow (w.heap.size + 1) 3 1 (.slice none 0 0) 0 (il (numR 0)) from World.ownsRow_nil _ _ _ _)
  clear t0 t1 t2 t3 t4 t5
  go_loopw [6, 22] (fun nv iv wr => ∃ (j : Nat) (A : Option Addr) (c : Nat), j ≤ 8 ∧ iv = .int .i64 (j : Int) ∧ nv = .slice A j c ∧ Hid (wr.ownsRow (w.heap.size + 1) 3 1 (.slice A j c) j (il (numR j))) ∧ Hid (Blk wr w.heap.size 26 #[.int .i64 2, .int .i64 0, .slice AH 3 cH, .slice none 0 0, .slice AR 2 cR]) ∧ Hid (Below w.heap.size w wr) ∧ w.heap.size + 1 ≤ wr.heap.size) (fun _ iv _ => 8 - (intOf iv).toNat)
  case atStart => exact ⟨0, none, 0, by omega, rfl, rfl, O2, K2, B2, by omega⟩
  case round =>
    obtain ⟨j, A, c, hj, rfl, rfl, HO, HK, HB, hz⟩ := hrel
    have KP := Lib.hid (fun W (hb' : Below wr.heap.size wr W) => show W.cell? ⟨w.heap.size, 0, none⟩ = some (.int .i64 2) ∧ W.cell? ⟨w.heap.size, 1, none⟩ = some (.int .i64 0) ∧ W.cell? ⟨w.heap.size, 2, none⟩ = some (.slice AH 3 cH) ∧ W.cell? ⟨w.heap.size, 3, none⟩ = some (.slice none 0 0) ∧ W.cell? ⟨w.heap.size, 4, none⟩ = some (.slice AR 2 cR) from
      have q := (HK.out.below hb' HK.out.lt).five
      ⟨q.1, q.2.1, q.2.2.1, q.2.2.2.1, q.2.2.2.2.1⟩)
    by_cases hlt : j < 8
    · have hjI : (j : Int) < 8 := by omega
      have P1 := Lib.hid (show ∀ W, Below wr.heap.size wr W → Calls Tryz.prog 28 #[.agg #[.int .i64 2, .int .i64 0, .slice AH 3 cH, .slice none 0 0, .slice AR 2 cR], .int .i64 (j : Int)] W fun e W' => ∃ g, e = .returned (.slice (some ⟨g, 0, none⟩) 3 3) ∧ Reads W' W'.heap.size (some ⟨g, 0, none⟩) 3 (il (dg 2 3 j)) ∧ Below wr.heap.size wr W' ∧ Below W.heap.size W W' from
        fun W hb => (IN.out j W hlt).mono fun e W' ⟨g, he, hr, hx⟩ => ⟨g, he, hr, hb.trans (hx.mono hb.size), hx⟩)
      have P2 := Lib.hid (show ∀ g W, Below wr.heap.size wr W → Reads W W.heap.size (some ⟨g, 0, none⟩) 3 (il (dg 2 3 j)) → Calls Tryz.prog 27 #[.agg #[.int .i64 2, .int .i64 0, .slice AH 3 cH, .slice none 0 0, .slice AR 2 cR], .slice (some ⟨g, 0, none⟩) 3 3] W fun e W' => e = .returned (.int .i64 (j : Int)) ∧ Below wr.heap.size wr W' ∧ Below W.heap.size W W' from
        fun g W hb hr => (EQ.out j g W (HB.out.trans (hb.mono HB.out.size)) hlt hr).mono fun e W' ⟨he, hx⟩ => ⟨he, hb.trans (hx.mono hb.size), hx⟩)
      have S1 := KP.out wr (Below.refl _ _)
      go_wp2_with fail
      go_region_held_law (fun W => W.cell? ⟨w.heap.size, 0, none⟩ = some (.int .i64 2) ∧ W.cell? ⟨w.heap.size, 1, none⟩ = some (.int .i64 0) ∧ W.cell? ⟨w.heap.size, 2, none⟩ = some (.slice AH 3 cH) ∧ W.cell? ⟨w.heap.size, 3, none⟩ = some (.slice none 0 0) ∧ W.cell? ⟨w.heap.size, 4, none⟩ = some (.slice AR 2 cR))
        (first | assumption | (refine KP.out _ ?_; (with_reducible (repeat (first | assumption | exact Below.refl _ _ | refine Below.drew' ?_ | refine Below.alloc' ?_ _))); done) | go_keep)
        (first
        | (go_at_call 28; (with_reducible refine (P1.out _ ?_).mono ?_); (with_reducible (repeat (first | assumption | exact Below.refl _ _ | refine Below.drew' ?_ | refine Below.alloc' ?_ _))); rintro e wa ⟨g, rfl, hr, ha1, ha2⟩)
        | (go_at_call 27; (with_reducible refine (P2.out g _ ha1 hr).mono ?_); rintro e wb ⟨rfl, hb1, hb2⟩))
      all_goals
        have HX := Lib.hid hb1
        have ho := own_below HO.out hb1
        have hzb : w.heap.size + 1 ≤ wb.heap.size := Nat.le_trans hz hb1.size
        clear hb1 hb2 ha1 ha2 hr S1 KP P1 P2
        go_wp2_with (at_builtin; refine wpList_append1 rfl _ _ 27 rfl (w.heap.size + 1) 3 i0 (.int .i64 0) 8 Tryz.underlying27 hi hz0 hz1 hz2 rfl A j c _ rfl ho (.int .i64 (j : Int)) rfl rfl (by unfold maxLen; omega) (by omega) hzb ?_; intro g6 c6 w6 hown6 hbel6; have O6 := Lib.hid hown6; have B6 := Lib.hid hbel6; clear hown6 hbel6)
        go_roundw
        case rel =>
          have o6 := O6.out
          rw [numR_succ] at o6
          exact ⟨j + 1, some ⟨g6, 0, none⟩, c6, by omega, by go_num, rfl, Lib.hid o6, Lib.hid ((HK.out.below HX.out HK.out.lt).below B6.out (Nat.lt_succ_self _)), Lib.hid ((HB.out.trans (HX.out.mono (by omega))).trans (B6.out.mono (by omega))), Nat.le_trans hzb B6.out.size⟩
        case measure => simp [intOf]; omega
    · obtain rfl : j = 8 := by omega
      obtain ⟨t0, t1, t2, t3, t4, t5⟩ := HK.out.five
      have D1 := Lib.hid (DD.out wr A c HB.out (Reads.of_own HO.out))
      go_wp2_with (go_at_call 29; (with_reducible refine (D1.out).mono ?_); rintro e w3 ⟨g3, c3, rfl, d0, d1, dl, hb⟩; have B3 := Lib.hid (HB.out.trans (hb.mono HB.out.size)); clear hb)
      have O3 := World.ownsRow_nil w3 w.heap.size 3 1
      have z3 := B3.out.size
      refine wp_loop_rounds 3 ?_
      rw [rounds_succ]
      go_wp2
      rw [rounds_succ]
      go_wp2_with (at_builtin; refine wpList_append1 rfl _ _ 27 rfl w.heap.size 3 i0 (.int .i64 0) 8 Tryz.underlying27 hi hz0 hz1 hz2 rfl none 0 0 _ rfl O3 (.int .i64 1) rfl rfl (by unfold maxLen; omega) (by omega) z3 ?_; intro g6 c6 w6 hown6 hbel6; have O6 := Lib.hid hown6; have B6 := Lib.hid hbel6; clear hown6 hbel6)
      rw [rounds_succ]
      go_wp2
      go_ret2
      exact ⟨_, _, rfl, Reads.of_own O6.out, B3.out.trans B6.out⟩
end Go.Proofs.YtcgkkppidkkjiaaGreatDoor
namespace Go.Proofs.YtcgkkppidkkjiaaGreatDoor
open Go.RowKit

/-- two rows of the call's own, in different blocks -/
def Two (w : World) (base : Nat) (e : TypeId) (v1 : Value) (n1 : Nat) (x1 : List Value) (v2 : Value) (n2 : Nat) (x2 : List Value) : Prop :=
  w.ownsRow base e 1 v1 n1 x1 ∧ w.ownsRow base e 1 v2 n2 x2 ∧ ∀ k, v1.ownBlock = some k → v2.ownBlock ≠ some k
section
variable {w w' : World} {base : Nat} {e : TypeId} {v1 v2 : Value} {n1 n2 : Nat} {x1 x2 : List Value}
theorem Two.swap (h : Two w base e v1 n1 x1 v2 n2 x2) : Two w base e v2 n2 x2 v1 n1 x1 := ⟨h.2.1, h.1, fun k h2 h1 => h.2.2 k h1 h2⟩
theorem Two.left {o : Obj} {g n c : Nat} {x : List Value} (h : Two w base e v1 n1 x1 v2 n2 x2) (ho : w'.ownsRow base e 1 (.slice (some ⟨g, 0, none⟩) n c) n x) (hg : (w.alloc o).grownBy w' v1.ownBlock) (ha : v1.ownBlock = some g ∨ g = w.heap.size + 1) :
    Two w' base e (.slice (some ⟨g, 0, none⟩) n c) n x v2 n2 x2 := by
  refine ⟨ho, (h.2.1.alloc o).kept hg ?_, fun k hk => ?_⟩
  · cases hv : v2.ownBlock with
    | none => exact .inl rfl
    | some k => exact .inr fun e1 => h.2.2 k e1.symm hv
  · have hk : g = k := by simpa [Value.ownBlock] using hk
    subst hk
    intro h2
    rcases ha with ha | ha
    · exact h.2.2 _ ha h2
    · have := (h.2.1.lt _ h2).2
      omega
theorem Two.far {g i : Nat} (h : Two w base e v1 n1 x1 v2 n2 x2) (hg : g < base) (u : Value) : Two (w.setCell ⟨g, i, none⟩ u) base e v1 n1 x1 v2 n2 x2 := ⟨own_set h.1 (fun e => by have := (h.1.lt _ e).1; simp only at this; omega) u, own_set h.2.1 (fun e => by have := (h.2.1.lt _ e).1; simp only at this; omega) u, h.2.2⟩
theorem Two.alloc (h : Two w base e v1 n1 x1 v2 n2 x2) (o : Obj) : Two (w.alloc o) base e v1 n1 x1 v2 n2 x2 := ⟨h.1.alloc o, h.2.1.alloc o, h.2.2⟩
end

/-- behind the draw and a store below the base -/
theorem Two.below {w w' : World} {base : Nat} {e : TypeId} {v1 v2 : Value} {n1 n2 : Nat} {x1 x2 : List Value} (h : Two w base e v1 n1 x1 v2 n2 x2) (hb : Below w.heap.size w w') : Two w' base e v1 n1 x1 v2 n2 x2 :=
  ⟨own_keep h.1 (fun g hg _ => hb.block g hg), own_keep h.2.1 (fun g hg _ => hb.block g hg), h.2.2⟩
/-- the numbers below j of a part -/
def fp (p j : Nat) : List Int := ((List.range j).filter fun k => k / 2 % 2 == p).map fun k : Nat => (k : Int)
theorem fp_yes {p j : Nat} (h : j / 2 % 2 = p) : fp p (j + 1) = fp p j ++ [(j : Int)] := by simp [fp, List.range_succ, List.filter_append, h]
theorem fp_no {p j : Nat} (h : j / 2 % 2 ≠ p) : fp p (j + 1) = fp p j := by simp [fp, List.range_succ, List.filter_append, h]
theorem fp_le (p : Nat) : ∀ j, j ≤ 8 → (fp p j).length ≤ 8 := fun j hj => by
  have := List.length_filter_le (fun k => k / 2 % 2 == p) (List.range j)
  simp only [List.length_range] at this
  simp only [fp, List.length_map]
  omega
theorem fp_zero : fp 0 8 = [0, 1, 4, 5] := by decide
theorem fp_one : fp 1 8 = [2, 3, 6, 7] := by decide
theorem numR_at : ∀ j, j < 8 → ig ((List.range 8).map fun k : Nat => (k : Int)) j = (j : Int) := by decide
end Go.Proofs.YtcgkkppidkkjiaaGreatDoor
namespace Go.Proofs.YtcgkkppidkkjiaaGreatDoor
open Go.RowKit

theorem Tryz.info_rowT : (Tryz.prog.info? 41).map (fun i => (i.zero, i.size, i.bytes)) = some (some (.agg #[.slice none 0 0, .int .i64 0]), 2, 32) := by kernel_rfl
set_option maxRecDepth 100000 in
set_option maxHeartbeats 1000000 in
theorem rclone_any (ad : Addr) (n c : Nat) (xs : List Value) (w : World) (hx : ∀ (j : Nat) (u : Value), xs[j]? = some u → w.cell? (ad.add j) = some u) (hlt : ad.block < w.heap.size) (L : xs.length = n * 2) (O : ∀ u ∈ xs, u.oneCell' = true) (h0 : 0 < n) (hn : n ≤ 5000) :
    Calls Tryz.prog 50 #[.slice (some ad) n c] w fun e w' => ∃ g' c', e = .returned (.slice (some ⟨g', 0, none⟩) n c') ∧ w'.ownsRow w.heap.size 41 2 (.slice (some ⟨g', 0, none⟩) n c') n xs ∧ Below w.heap.size w w' := by
  obtain ⟨i0, hi, hz0, hz1, hz2⟩ := info_parts Tryz.info_rowT
  have HN := Lib.hid (show ∀ (j : Nat) (u : Value), xs[j]? = some u → (w.alloc (.cells #[] 41)).cell? (ad.add j) = some u from fun j u hj => (World.cell?_alloc_lt w _ _ (by rw [block_of_add]; exact hlt)).trans (hx j u hj))
  have B1 := Lib.hid ((Below.refl w.heap.size w).alloc (Nat.le_refl _) (.cells #[] 41))
  have HO := Lib.hid (World.ownsRow_made (base := w.heap.size) (e := 41) (size := 2) w #[] 0 (Nat.le_refl _) (by unfold maxLen; omega) (by rfl))
  have s1 := B1.out.size
  clear hx hlt
  have q22 : ∀ (w : World) (a : Option Addr) (n c n' c' : Nat), (binOp .eql 24 (.slice a n c) (.slice none n' c')).run Tryz.prog w = .ok (.bool a.isNone) w := fun w a n c n' c' => Lib.run_eql_slice_nil w _ _ a n c n' c' Tryz.underlying24
  go_enter Tryz.func50, Tryz.ntmps50
  go_wp2_with (at_builtin; refine wpList_append_own _ rfl _ _ 24 rfl w.heap.size 41 i0 (.agg #[.slice none 0 0, .int .i64 0]) 2 32 Tryz.underlying24 hi hz0 hz1 hz2 rfl (by decide) _ 0 [] rfl HO.out ad n c xs rfl L HN.out O (by unfold maxLen; omega) (by omega) s1 ?_; intro v' w2 hown2 hg2 hiff; have B2 := Lib.hid (B1.out.grown hg2 s1 (fun k hk => (HO.out.lt k hk).1)); have HO2 := Lib.hid hown2; clear hown2 hg2 hiff)
  have h := HO2.out
  rw [Nat.zero_add, List.nil_append] at h
  obtain ⟨g, cap, rfl, _, _⟩ := h.form h0
  go_ret
  exact ⟨g, cap, rfl, h, B2.out⟩
end Go.Proofs.YtcgkkppidkkjiaaGreatDoor
namespace Go.Proofs.YtcgkkppidkkjiaaGreatDoor
open Go.RowKit

theorem stepsIn_wideR {P : Program} {l : Nat} {m m' : Machine} : StepsIn (Machine.fenced P (Fence.wide.inRound l)) P m m' ↔ Steps P m m' := by
  rw [fenced_inRound]; exact stepsIn_wide
/-- one operation -/
theorem wpIn_of_op {P : Program} {o : Oper} {l n : Nat} {a : Act} {w : World} {next next' : Act → World → Prop} {Q : Exit → Act → World → Prop} (hnd : ∀ c : Call, o.op ≠ Op.defer c) (h : o.wp P a w next Q) (hk : ∀ a w, next a w → next' a w) : o.wpIn (Fence.wide.inRound l) n P a w next' Q := by
  refine ⟨fun _ _ => trivial, ?_⟩
  rw [Fence.inRound_round, Oper.semAt_some l _ _ hnd]
  unfold Oper.wp at h
  generalize (execOp a.eval o).run P w = r at h ⊢
  match r, h with
  | .ok (.value v) w', h => exact hk _ _ h
  | .ok .skip w', h => exact hk _ _ h
  | .ok (.defer d) w', h => exact hk _ _ h
  | .ok (.enter f args) w', h =>
    refine ⟨fun h0 => by simp [Fence.wide] at h0, CallsIn.inRound l ?_⟩
    refine callsIn_wide.2 (h.mono ?_)
    intro e w'' he
    cases e with
    | returned v => exact hk _ _ he
    | panicked c => exact he
    | outgrown => exact he
  | .ok (.row row args) w', h =>
    refine ⟨fun h0 => by simp [Fence.wide] at h0, fun c cs _ => ?_⟩
    obtain ⟨v, w'', h1, h2⟩ := h c cs
    exact ⟨v, w'', hk _ _ h1, stepsIn_wideR.2 h2⟩
  | .halt (.panic v) w', h => exact h
/-- the operations in one order -/
theorem wpOpsIn_of {P : Program} {ops : Array Oper} {Q : Exit → Act → World → Prop} {l n : Nat} (hL : ∀ a w, ¬ Q .outgrown a w) (hnd : ∀ (i : Nat) (o : Oper), ops[i]? = some o → ∀ c : Call, o.op ≠ Op.defer c) : ∀ (s : List Nat) (a : Act) (w : World), wpOps P ops Q s a w → wpOpsIn (Fence.wide.inRound l) n P ops Q s a w
  | [], _, _, h => h
  | i :: rest, a, w, h => by
    unfold wpOps at h
    unfold wpOpsIn
    cases ho : ops[i]? with
    | none =>
      simp only [ho] at h ⊢
      exact wpOpsIn_of hL hnd rest a w h
    | some o =>
      simp only [ho] at h ⊢
      by_cases hw : Region.wanted o (yielded ops a.tmps) = true
      · simp only [hw, if_true] at h ⊢
        rcases h with h | ⟨_, a0, w0, h0⟩
        · exact wpIn_of_op (hnd i o ho) h (fun a' w' h' => wpOpsIn_of hL hnd rest a' w' h')
        · exact absurd h0 (hL _ _)
      · simp only [hw, if_false, Bool.false_eq_true] at h ⊢
        exact ⟨fun _ _ => trivial, wpOpsIn_of hL hnd rest _ w h⟩
/-- the region -/
theorem wpIn_region_round {P : Program} {id : Nat} {ops : Array Oper} {Q : Exit → Act → World → Prop} {l n : Nat} {a : Act} {w : World} (S : World → Prop) (hm : P.follows .mixedOrders = true) (hL : ∀ a w, ¬ Q .outgrown a w) (hnd : ops.all (fun (o : Oper) => match o.op with | Op.defer _ => false | _ => true) = true)
    (hS : S w.drew) (h : S w.drew → wpAnyH P .any ops Q S ops.size (Array.replicate ops.size false) a w.drew) : (Code.region id ops true).wpIn (Fence.wide.inRound l) n P Q a w := by
  refine wpIn_region_draw fun t => ?_
  simp only [Region.schedule, hm, Bool.true_or, if_true]
  refine wpOpsIn_of hL (fun i o hi c hc => ?_) _ _ _ (wpAny_sound ops.size t _ a _ (wpAny_of_held _ _ _ _ (h hS)))
  have hmem : o ∈ ops := Array.mem_of_getElem? hi
  have := Array.all_eq_true_iff_forall_mem.1 hnd o hmem
  rw [hc] at this
  cases this
end Go.Proofs.YtcgkkppidkkjiaaGreatDoor
namespace Go.Proofs.YtcgkkppidkkjiaaGreatDoor
open Go.RowKit Go.Shelf
attribute [local go_sem] Oper.semAt_some

/-- two blocks are as they were -/
def KpC (Bs Bn : Nat) (W W' : World) : Prop := W'.heap[Bs]? = W.heap[Bs]? ∧ W'.heap[Bn]? = W.heap[Bn]?
theorem KpC.trans {Bs Bn : Nat} {A B C : World} (h : KpC Bs Bn A B) (k : KpC Bs Bn B C) : KpC Bs Bn A C := ⟨k.1.trans h.1, k.2.trans h.2⟩
/-- a part of the rows -/
def encC (g o : Nat) (x : Fin 2) : Array Value := #[.slice (some ⟨g, o + 2 * x.val, none⟩) 1 1]
theorem chunk_any (AR : Option Addr) (n c : Nat) (w : World) :
    Calls Tryz.prog 51 #[.slice AR n c, .int .i64 1] w fun e w' => e = .returned (.func (.func 82) #[] #[.pointer (some ⟨w.heap.size, 0, none⟩), .pointer (some ⟨w.heap.size + 1, 0, none⟩)]) ∧ w' = (w.alloc (.cells #[.slice AR n c] 24)).alloc (.cells #[.int .i64 1] 3) := by
  go_enter Tryz.func51, Tryz.ntmps51
  go_wp2
  go_ret
  exact ⟨rfl, rfl⟩
set_option maxRecDepth 100000 in
set_option maxHeartbeats 4000000 in
theorem chunk1_in (g o cR : Nat) (hcR : 2 ≤ cR) (n : Nat) (hn : 1 ≤ n) (l Bs Bn : Nat) (J Jx : List (Fin 2) → World → Prop) (W : World) (hJd : ∀ pre W, J pre W → J pre W.drew)
    (hY : ∀ pre x W, J pre W → pre.length < 2 → YieldAt Fence.wide (n - 1) Tryz.prog l (encC g o x) W fun e W' =>
      (e = .returned (.bool true) ∧ J (pre ++ [x]) W' ∧ KpC Bs Bn W W') ∨ (e = .returned (.bool false) ∧ Jx (pre ++ [x]) W'))
    (hBs : Blk W Bs 24 #[.slice (some ⟨g, o, none⟩) 2 cR]) (hBn : Blk W Bn 3 #[.int .i64 1]) (h0 : J [] W) :
    CallsIn Fence.wide n Tryz.prog 82 #[.func (.yield l) #[] #[], .pointer (some ⟨Bs, 0, none⟩), .pointer (some ⟨Bn, 0, none⟩)] W fun e W' => (∃ v, e = .returned v) ∧
      ((∃ ys : List (Fin 2), ys = [0, 1] ∧ J ys W') ∨ (∃ pre, True ∧ Jx pre W')) := by
  have HBs := Lib.hid hBs
  have HBn := Lib.hid hBn
  have hcI : (2 : Int) ≤ (cR : Int) := by omega
  have hcI1 : (1 : Int) ≤ (cR : Int) := by omega
  have hc0 : (0 : Int) ≤ (cR : Int) := by omega
  have hc2 : ¬ cR = 1 := by omega
  have hc3 : ¬ cR = 0 := by omega
  have hc4 : ¬ (cR : Int) = 1 := by omega
  have hc5 : ¬ (cR : Int) = 0 := by omega
  clear hBs hBn
  refine callsIn_of_wp Tryz.func82 rfl trivial ?_ rfl
  simp only [Tryz.ntmps82, List.size_toArray, List.length_cons, List.length_nil, Nat.reduceAdd, Nat.reduceSub, Array.replicate_succ, Array.replicate_zero, List.push_toArray, List.append_toArray, List.nil_append, List.cons_append]
  have c0 := HBs.out.one.1
  have c1 := HBn.out.one.1
  have m1 : (min 1 2 : Int) = 1 := by decide
  have m2 : (min 1 1 : Int) = 1 := by decide
  obtain ⟨fn, tmps, assign, body, hy, hR⟩ := hY [] 0 W.drew (hJd _ _ h0) (by simp)
  have hy := show _ from hy
  simp only [encC, Fin.isValue, Fin.val_zero, Nat.mul_zero, Nat.add_zero] at hy
  gi_wp2
  refine wpIn_loop_rounds 3 ?_
  rw [roundsIn_succ]
  gi_wp2
  gi_region
  all_goals
    gi_wp2
    refine hR.mono ?_
    rintro e W3 (⟨rfl, hJ3, hk3⟩ | ⟨rfl, hJx3⟩)
    · clear hy hR c0 c1
      obtain ⟨fn, tmps, assign, body, hy, hR⟩ := hY [0] 1 W3.drew (hJd _ _ hJ3) (by simp)
      simp only [encC, Fin.isValue, Fin.val_one, Nat.mul_one] at hy
      have ks : Blk W3 Bs 24 #[.slice (some ⟨g, o, none⟩) 2 cR] := hk3.1.trans HBs.out
      have kn : Blk W3 Bn 3 #[.int .i64 1] := hk3.2.trans HBn.out
      have c0 := ks.one.1
      have c1 := kn.one.1
      gi_wp2
      rw [roundsIn_succ]
      gi_wp2
      gi_region
      all_goals
        gi_wp2
        refine hR.mono ?_
        rintro e W4 (⟨rfl, hJ4, hk4⟩ | ⟨rfl, hJx4⟩)
        · have ks4 : Blk W4 Bs 24 #[.slice (some ⟨g, o, none⟩) 2 cR] := hk4.1.trans ks
          have kn4 : Blk W4 Bn 3 #[.int .i64 1] := hk4.2.trans kn
          have d0 := ks4.one.1
          have d1 := kn4.one.1
          gi_wp2
          rw [roundsIn_succ]
          gi_wp2
          go_end0
          exact ⟨⟨_, rfl⟩, .inl ⟨_, rfl, hJ4⟩⟩
        · gi_wp2
          refine bodyPost_ret (results_none rfl _ _ _) rfl ?_
          exact ⟨⟨_, rfl⟩, .inr ⟨_, trivial, hJx4⟩⟩
    · gi_wp2
      refine bodyPost_ret (results_none rfl _ _ _) rfl ?_
      exact ⟨⟨_, rfl⟩, .inr ⟨_, trivial, hJx3⟩⟩
end Go.Proofs.YtcgkkppidkkjiaaGreatDoor
