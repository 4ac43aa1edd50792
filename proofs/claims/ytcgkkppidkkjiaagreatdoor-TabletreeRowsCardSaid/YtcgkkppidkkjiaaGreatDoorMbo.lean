/- Dead at the examples' table, deciders' answer given. -/
/- What a round of deciders' range leaves. -/
import Derived.Test.YtcgkkppidkkjiaaGreatDoorMbm
import Derived.Test.YtcgkkppidkkjiaaGreatDoorMaz
import Derived.Test.YtcgkkppidkkjiaaGreatDoorMad
import Derived.Test.YtcgkkppidkkjiaaGreatDoorMbi
import Derived.Test.YtcgkkppidkkjiaaGreatDoorMbj
namespace Go.Proofs.YtcgkkppidkkjiaaGreatDoor
open Go.RowKit

theorem nm8_at : ∀ k, k < 8 → nm 2 (dg 2 3 k) = k := by decide +kernel
set_option maxRecDepth 100000 in
set_option maxHeartbeats 8000000 in
theorem dead0 (AH : Option Addr) (cH : Nat) (AR : Option Addr) (cR : Nat) (w : World) (hM : Mat w) (h : TR w AH none AR T0)
    (DD : ∀ w' A c, Below w.heap.size w w' → Reads w' w'.heap.size A 8 (il (numR 8)) → Calls Tryz.prog 29 #[.agg #[.int .i64 2, .int .i64 0, .slice AH 3 cH, .slice none 0 0, .slice AR 2 cR], .slice A 8 c] w' fun e w'' => ∃ g c', e = .returned (.slice (some ⟨g, 0, none⟩) 2 c') ∧ w''.cell? ⟨g, 0, none⟩ = some (.bool true) ∧ w''.cell? ⟨g, 1, none⟩ = some (.bool false) ∧ g < w''.heap.size ∧ Below w'.heap.size w' w'') :
    Calls Tryz.prog 12 #[.agg #[.int .i64 2, .int .i64 0, .slice AH 3 cH, .slice none 0 0, .slice AR 2 cR]] w fun e w' => ∃ A c, e = .returned (.tuple #[.slice A 1 c, .int .i64 0]) ∧ Reads w' w'.heap.size A 1 (il [1]) ∧ Below w.heap.size w w' := by
  obtain ⟨i0, hi, hz0, hz1, hz2⟩ := info_parts Tryz.info_int
  have RT := Lib.hid (fun w' (hb' : Below w.heap.size w w') => rt_any AH cH none 0 AR cR T0 w' (hM.below hb' hM.1) (h.later hb') bd0)
  rw [(rt_iff T0).2 rt0] at RT
  have RT := Lib.hid (show ∀ w', Below w.heap.size w w' → Calls Tryz.prog 17 #[.agg #[.int .i64 2, .int .i64 0, .slice AH 3 cH, .slice none 0 0, .slice AR 2 cR]] w' fun e w'' => e = .returned (.bool true) ∧ Below w'.heap.size w' w'' from RT.out)
  have IP := Lib.hid (show ∀ w', Calls Tryz.prog 26 #[.agg #[.int .i64 2, .int .i64 0, .slice AH 3 cH, .slice none 0 0, .slice AR 2 cR]] w' fun e w'' => e = .returned (.tuple #[.int .i64 8, .bool true]) ∧ Below w'.heap.size w' w'' from fun w' => inputs_yes 2 0 AH 3 cH none 0 0 AR 2 cR w' (by omega) (by omega) (by omega) (by decide))
  have IN := Lib.hid (show ∀ (k : Nat) w', k < 8 → Calls Tryz.prog 28 #[.agg #[.int .i64 2, .int .i64 0, .slice AH 3 cH, .slice none 0 0, .slice AR 2 cR], .int .i64 (k : Int)] w' fun e w'' => ∃ g, e = .returned (.slice (some ⟨g, 0, none⟩) 3 3) ∧ Reads w'' w''.heap.size (some ⟨g, 0, none⟩) 3 (il (dg 2 3 k)) ∧ Below w'.heap.size w' w'' from fun k w' hk =>
    (input_any 2 k 0 AH 3 cH none 0 0 AR 2 cR w' (by omega) (by omega) (by omega) (by omega)).mono fun e w'' ⟨g, he, hk, hb⟩ => ⟨g, he, by
      have := Reads.of_blk1 (l := dg 2 3 k) hk
      rwa [dg_len] at this, hb⟩)
  have EQ := Lib.hid (show ∀ (k g : Nat) w', Below w.heap.size w w' → k < 8 → Reads w' w'.heap.size (some ⟨g, 0, none⟩) 3 (il (dg 2 3 k)) → Calls Tryz.prog 27 #[.agg #[.int .i64 2, .int .i64 0, .slice AH 3 cH, .slice none 0 0, .slice AR 2 cR], .slice (some ⟨g, 0, none⟩) 3 3] w' fun e w'' => e = .returned (.int .i64 (k : Int)) ∧ Below w'.heap.size w' w'' from fun k g w' hb' hk hr =>
    (equiv_any 2 0 AH 3 cH lnf none 0 0 AR 2 cR (some ⟨g, 0, none⟩) 3 (dg 2 3 k) w' (by omega) (by omega) (by omega) (by omega) (by decide) (h.1.later hb') hr (sts_dg (by omega) _ _)).mono fun e w'' ⟨m, he, _, hm, hb⟩ => ⟨by
      rcases hm with rfl | ⟨h3, _⟩
      · rw [he, nm8_at k hk]
      · exact absurd h3 (by decide), hb⟩)
  have DD := Lib.hid DD
  clear hM h
  have K0 := Lib.hid (Blk.new w 26 #[.int .i64 2, .int .i64 0, .slice AH 3 cH, .slice none 0 0, .slice AR 2 cR])
  have B0 := Lib.hid ((Below.refl w.heap.size w).alloc (Nat.le_refl _) (.cells #[.int .i64 2, .int .i64 0, .slice AH 3 cH, .slice none 0 0, .slice AR 2 cR] 26))
  have z0 : (w.alloc (.cells #[.int .i64 2, .int .i64 0, .slice AH 3 cH, .slice none 0 0, .slice AR 2 cR] 26)).heap.size = w.heap.size + 1 := by simp
  go_enter Tryz.func12, Tryz.ntmps12
  go_upto_region 1 with (fail)
  generalize w.alloc (.cells #[.int .i64 2, .int .i64 0, .slice AH 3 cH, .slice none 0 0, .slice AR 2 cR] 26) = w0 at *
  obtain ⟨t0, t1, t2, t3, t4, t5⟩ := K0.out.five
  go_wp2_with (first
    | (go_at_call 17; (with_reducible refine (RT.out _ B0.out).mono ?_); rintro e w1 ⟨rfl, hb⟩; have B1 := Lib.hid (B0.out.trans (hb.mono B0.out.size)); have K1 := Lib.hid (K0.out.below hb K0.out.lt); have z1 := hb.size; clear hb t0 t1 t2 t3 t4 t5; obtain ⟨t0, t1, t2, t3, t4, t5⟩ := K1.out.five)
    | (go_at_call 26; (with_reducible refine (IP.out _).mono ?_); rintro e w2 ⟨rfl, hb⟩; have B2 := Lib.hid (B1.out.trans (hb.mono B1.out.size)); have K2 := Lib.hid (K1.out.below hb K1.out.lt); have z2 := hb.size; clear hb t0 t1 t2 t3 t4 t5; obtain ⟨t0, t1, t2, t3, t4, t5⟩ := K2.out.five))
  have O2 := Lib.hid (show w2.ownsRow (w.heap.size + 1) 3 1 (.slice none 0 0) 0 (il (numR 0)) from World.ownsRow_nil _ _ _ _)
  clear t0 t1 t2 t3 t4 t5
  go_loopw [6, 22] (fun nv iv wr => ∃ (j : Nat) (A : Option Addr) (c : Nat), j ≤ 8 ∧ iv = .int .i64 (j : Int) ∧ nv = .slice A j c ∧ Hid (wr.ownsRow (w.heap.size + 1) 3 1 (.slice A j c) j (il (numR j))) ∧ Hid (Blk wr w.heap.size 26 #[.int .i64 2, .int .i64 0, .slice AH 3 cH, .slice none 0 0, .slice AR 2 cR]) ∧ Hid (Below w.heap.size w wr) ∧ w.heap.size + 1 ≤ wr.heap.size) (fun _ iv _ => 8 - (intOf iv).toNat)
  case atStart => exact ⟨0, none, 0, by omega, rfl, rfl, O2, K2, B2, by omega⟩
  case round =>
    obtain ⟨j, A, c, hj, rfl, rfl, HO, HK, HB, hz⟩ := hrel
    have KP := Lib.hid (fun W (hb' : Below wr.heap.size wr W) => show W.cell? ⟨w.heap.size, 0, none⟩ = some (.int .i64 2) ∧ W.cell? ⟨w.heap.size, 1, none⟩ = some (.int .i64 0) ∧ W.cell? ⟨w.heap.size, 2, none⟩ = some (.slice AH 3 cH) ∧ W.cell? ⟨w.heap.size, 3, none⟩ = some (.slice none 0 0) ∧ W.cell? ⟨w.heap.size, 4, none⟩ = some (.slice AR 2 cR) from
      have q := (HK.out.below hb' HK.out.lt).five
      ⟨q.1, q.2.1, q.2.2.1, q.2.2.2.1, q.2.2.2.2.1⟩)
    by_cases hlt : j < 8
    · have hjI : (j : Int) < 8 := by omega
      have P1 := Lib.hid (show ∀ W, Below wr.heap.size wr W → Calls Tryz.prog 28 #[.agg #[.int .i64 2, .int .i64 0, .slice AH 3 cH, .slice none 0 0, .slice AR 2 cR], .int .i64 (j : Int)] W fun e W' => ∃ g, e = .returned (.slice (some ⟨g, 0, none⟩) 3 3) ∧ Reads W' W'.heap.size (some ⟨g, 0, none⟩) 3 (il (dg 2 3 j)) ∧ Below wr.heap.size wr W' ∧ Below W.heap.size W W' from
        fun W hb => (IN.out j W hlt).mono fun e W' ⟨g, he, hr, hx⟩ => ⟨g, he, hr, hb.trans (hx.mono hb.size), hx⟩)
      have P2 := Lib.hid (show ∀ g W, Below wr.heap.size wr W → Reads W W.heap.size (some ⟨g, 0, none⟩) 3 (il (dg 2 3 j)) → Calls Tryz.prog 27 #[.agg #[.int .i64 2, .int .i64 0, .slice AH 3 cH, .slice none 0 0, .slice AR 2 cR], .slice (some ⟨g, 0, none⟩) 3 3] W fun e W' => e = .returned (.int .i64 (j : Int)) ∧ Below wr.heap.size wr W' ∧ Below W.heap.size W W' from
        fun g W hb hr => (EQ.out j g W (HB.out.trans (hb.mono HB.out.size)) hlt hr).mono fun e W' ⟨he, hx⟩ => ⟨he, hb.trans (hx.mono hb.size), hx⟩)
      have S1 := KP.out wr (Below.refl _ _)
      go_wp2_with fail
      go_region_held_law (fun W => W.cell? ⟨w.heap.size, 0, none⟩ = some (.int .i64 2) ∧ W.cell? ⟨w.heap.size, 1, none⟩ = some (.int .i64 0) ∧ W.cell? ⟨w.heap.size, 2, none⟩ = some (.slice AH 3 cH) ∧ W.cell? ⟨w.heap.size, 3, none⟩ = some (.slice none 0 0) ∧ W.cell? ⟨w.heap.size, 4, none⟩ = some (.slice AR 2 cR))
        (first | assumption | (refine KP.out _ ?_; (with_reducible (repeat (first | assumption | exact Below.refl _ _ | refine Below.drew' ?_ | refine Below.alloc' ?_ _))); done) | go_keep)
        (first
        | (go_at_call 28; (with_reducible refine (P1.out _ ?_).mono ?_); (with_reducible (repeat (first | assumption | exact Below.refl _ _ | refine Below.drew' ?_ | refine Below.alloc' ?_ _))); rintro e wa ⟨g, rfl, hr, ha1, ha2⟩)
        | (go_at_call 27; (with_reducible refine (P2.out g _ ha1 hr).mono ?_); rintro e wb ⟨rfl, hb1, hb2⟩))
      all_goals
        have HX := Lib.hid hb1
        have ho := own_below HO.out hb1
        have hzb : w.heap.size + 1 ≤ wb.heap.size := Nat.le_trans hz hb1.size
        clear hb1 hb2 ha1 ha2 hr S1 KP P1 P2
        go_wp2_with (at_builtin; refine wpList_append1 rfl _ _ 27 rfl (w.heap.size + 1) 3 i0 (.int .i64 0) 8 Tryz.underlying27 hi hz0 hz1 hz2 rfl A j c _ rfl ho (.int .i64 (j : Int)) rfl rfl (by unfold maxLen; omega) (by omega) hzb ?_; intro g6 c6 w6 hown6 hbel6; have O6 := Lib.hid hown6; have B6 := Lib.hid hbel6; clear hown6 hbel6)
        go_roundw
        case rel =>
          have o6 := O6.out
          rw [numR_succ] at o6
          exact ⟨j + 1, some ⟨g6, 0, none⟩, c6, by omega, by go_num, rfl, Lib.hid o6, Lib.hid ((HK.out.below HX.out HK.out.lt).below B6.out (Nat.lt_succ_self _)), Lib.hid ((HB.out.trans (HX.out.mono (by omega))).trans (B6.out.mono (by omega))), Nat.le_trans hzb B6.out.size⟩
        case measure => simp [intOf]; omega
    · obtain rfl : j = 8 := by omega
      obtain ⟨t0, t1, t2, t3, t4, t5⟩ := HK.out.five
      have D1 := Lib.hid (DD.out wr A c HB.out (Reads.of_own HO.out))
      go_wp2_with (go_at_call 29; (with_reducible refine (D1.out).mono ?_); rintro e w3 ⟨g3, c3, rfl, d0, d1, dl, hb⟩; have B3 := Lib.hid (HB.out.trans (hb.mono HB.out.size)); clear hb)
      have O3 := World.ownsRow_nil w3 w.heap.size 3 1
      have z3 := B3.out.size
      refine wp_loop_rounds 3 ?_
      rw [rounds_succ]
      go_wp2
      rw [rounds_succ]
      go_wp2_with (at_builtin; refine wpList_append1 rfl _ _ 27 rfl w.heap.size 3 i0 (.int .i64 0) 8 Tryz.underlying27 hi hz0 hz1 hz2 rfl none 0 0 _ rfl O3 (.int .i64 1) rfl rfl (by unfold maxLen; omega) (by omega) z3 ?_; intro g6 c6 w6 hown6 hbel6; have O6 := Lib.hid hown6; have B6 := Lib.hid hbel6; clear hown6 hbel6)
      rw [rounds_succ]
      go_wp2
      go_ret2
      exact ⟨_, _, rfl, Reads.of_own O6.out, B3.out.trans B6.out⟩
end Go.Proofs.YtcgkkppidkkjiaaGreatDoor
namespace Go.Proofs.YtcgkkppidkkjiaaGreatDoor
open Go.RowKit Go.Shelf

theorem info_boolE : (Tryz.prog.info? 4).map (fun i => (i.zero, i.size, i.bytes)) = some (some (.bool false), 1, 1) := by kernel_rfl
/-- truth values as cells -/
def bl (l : List Bool) : List Value := l.map fun b => .bool b
/-- the numbers of a part -/
def lst8 (i : Nat) : List Int := if i = 0 then [0, 1, 4, 5] else [2, 3, 6, 7]
/-- what a row decides for the numbers of a part -/
def dv (i : Nat) (x : Fin 2) : Bool := (lst8 i).any (pd (alone T0 x.val) 2)
def dvs (pre : List (Fin 2)) : List Bool := pre.zipIdx.map fun p => dv p.2 p.1
theorem dvs_push (pre : List (Fin 2)) (x : Fin 2) : dvs (pre ++ [x]) = dvs pre ++ [dv pre.length x] := by
  simp [dvs, List.zipIdx_append]
theorem dvs_all : dvs [0, 1] = [true, false] := by
  show [dv 0 0, dv 1 1] = _
  rw [show dv 0 0 = true from pd_zero, show dv 1 1 = false from pd_one]
/-- between two rounds -/
def Irow (b13 B : Nat) (wr : World) (pre : List (Fin 2)) (W : World) : Prop :=
  (∃ Av cv, Blk W b13 62 #[.slice Av pre.length cv] ∧ W.ownsRow B 4 1 (.slice Av pre.length cv) pre.length (bl (dvs pre))) ∧ Below b13 wr W ∧ B ≤ W.heap.size
theorem irow_own {b13 B : Nat} {wr : World} (h1 : b13 ≤ wr.heap.size) (h2 : b13 ≤ B) : OwnFrom B (Irow b13 B wr) := by
  refine OwnFrom.and ?_ (OwnFrom.and (ownFrom_below h1 h2) (fun _ _ _ _ hs hg _ => Nat.le_trans hs hg.size))
  rintro s W W' row ⟨Av, cv, hk, ho⟩ hg hr
  refine ⟨Av, cv, (hg.block b13 hk.lt (fun e => ?_)).trans hk, ho.kept hg ?_⟩
  · obtain ⟨_, o, h3, h4⟩ := hr b13 e.symm
    rw [show W.heap[b13]? = _ from hk] at h3
    cases h3
    cases h4
  · rcases ho.2 with ⟨hv, _⟩ | ⟨g, cap, cur, hv, _, hgg, _⟩
    · left; rw [hv]; rfl
    · right
      rw [hv]
      intro e
      obtain ⟨_, o, h3, h4⟩ := hr g (by rw [← e]; rfl)
      rw [hgg] at h3
      cases h3
      cases h4
/-- behind a round -/
theorem rnd_fin {b13 B Bs Bn : Nat} {wr W wb w7 : World} {pre : List (Fin 2)} {x : Fin 2} {Av : Option Addr} {cv g' c' : Nat} (hlt : b13 < Bs ∧ Bs < Bn ∧ Bn < B) (hBW : B ≤ W.heap.size)
    (hk : Blk W b13 62 #[.slice Av pre.length cv]) (ho : W.ownsRow B 4 1 (.slice Av pre.length cv) pre.length (bl (dvs pre))) (hb : Below b13 wr W) (h13 : b13 ≤ wr.heap.size)
    (hwb : Below W.heap.size W wb) (hg : wb.grownBy w7 (Value.slice Av pre.length cv).ownBlock) (h7 : w7.ownsRow B 4 1 (.slice (some ⟨g', 0, none⟩) (pre.length + 1) c') (pre.length + 1) (bl (dvs pre) ++ [.bool (dv pre.length x)])) :
    KeepsFrom B W (w7.setCell ⟨b13, 0, none⟩ (.slice (some ⟨g', 0, none⟩) (pre.length + 1) c')) ∧ KpC Bs Bn W (w7.setCell ⟨b13, 0, none⟩ (.slice (some ⟨g', 0, none⟩) (pre.length + 1) c')) ∧ Irow b13 B wr (pre ++ [x]) (w7.setCell ⟨b13, 0, none⟩ (.slice (some ⟨g', 0, none⟩) (pre.length + 1) c')) := by
  have hol : ∀ k, (Value.slice Av pre.length cv).ownBlock = some k → B ≤ k := fun k e => (ho.lt k e).1
  have hsz := hwb.size
  have hs7 := hg.size
  have same : ∀ k, k < W.heap.size → k ≠ b13 → (Value.slice Av pre.length cv).ownBlock ≠ some k → (w7.setCell ⟨b13, 0, none⟩ (.slice (some ⟨g', 0, none⟩) (pre.length + 1) c')).heap[k]? = W.heap[k]? := fun k h1 h2 h3 => by
    rw [Below.heap_setCell w7 ⟨b13, 0, none⟩ _ k h2, hg.block k (by omega) (fun e => h3 e.symm)]
    exact hwb.block k h1
  refine ⟨⟨by simp [World.setCell]; omega, fun k ob hB hob hc => ?_⟩, ⟨same Bs (by omega) (by omega) (fun e => by have := hol _ e; omega), same Bn (by omega) (by omega) (fun e => by have := hol _ e; omega)⟩, ⟨some ⟨g', 0, none⟩, c', ?_, ?_⟩, ?_, by simp [World.setCell]; omega⟩
  · rw [same k (Array.getElem?_eq_some_iff.1 hob).1 (by omega) (fun e => ?_)]
    · exact hob
    · rcases ho.2 with ⟨hv, _⟩ | ⟨g, cap, cur, hv, _, hgg, _⟩
      · rw [hv] at e; cases e
      · rw [hv] at e
        have e : g = k := by simpa [Value.ownBlock] using e
        subst e
        rw [hgg] at hob
        cases hob
        cases hc
  · rw [List.length_append]
    have k7 : Blk w7 b13 62 #[.slice Av pre.length cv] := ((hg.block b13 (by omega) (fun e => by have := hol _ e.symm; omega)).trans (hwb.block b13 (by omega))).trans hk
    simpa using k7.set_ 0 (.slice (some ⟨g', 0, none⟩) (pre.length + 1) c')
  · rw [List.length_append, dvs_push, bl, List.map_append]
    have hlt' := (h7.lt g' rfl).1
    exact own_set h7 (fun e => by have e := (by simpa [Value.ownBlock] using e); omega) _
  · exact ((hb.trans (hwb.mono (by omega))).trans ((show Below b13 wb w7 from ⟨hg.os, hg.tape, hg.output, hg.size, fun k hk2 => hg.block k (by omega) (fun e => by have := hol _ e.symm; omega)⟩))).setCell (p := ⟨b13, 0, none⟩) (Nat.le_refl _) _
/-- the list's cell behind the append -/
theorem rnd_q {b13 B : Nat} {wr W wb w7 : World} {pre : List (Fin 2)} {Av : Option Addr} {cv : Nat} (hk : Blk W b13 62 #[.slice Av pre.length cv]) (ho : W.ownsRow B 4 1 (.slice Av pre.length cv) pre.length (bl (dvs pre))) (hb : Below b13 wr W) (h1 : b13 < B) (hBW : b13 ≤ W.heap.size) (h13 : b13 ≤ wr.heap.size) (hwb : Below W.heap.size W wb) (hg : wb.grownBy w7 (Value.slice Av pre.length cv).ownBlock) :
    w7.cell? ⟨b13, 0, none⟩ = some (.slice Av pre.length cv) ∧ w7.frozen? ⟨b13, 0, none⟩ = false ∧ Below b13 wr w7 := by
  have hol : ∀ k, (Value.slice Av pre.length cv).ownBlock = some k → B ≤ k := fun k e => (ho.lt k e).1
  have hsz := hwb.size
  have hkl := hk.lt
  have k7 : Blk w7 b13 62 #[.slice Av pre.length cv] := ((hg.block b13 (by omega) (fun e => by have := hol _ e.symm; omega)).trans (hwb.block b13 (by omega))).trans hk
  exact ⟨k7.cell 0, k7.frozen 0, (hb.trans (hwb.mono (by omega))).trans (show Below b13 wb w7 from ⟨hg.os, hg.tape, hg.output, hg.size, fun k hk2 => hg.block k (by omega) (fun e => by have := hol _ e.symm; omega)⟩)⟩
theorem KpC.put {Bs Bn l : Nat} {W : World} {o : Obj} (h1 : l ≠ Bs) (h2 : l ≠ Bn) : KpC Bs Bn W (W.putObj l o) :=
  ⟨by simp [World.putObj, Array.getElem?_setIfInBounds, h1], by simp [World.putObj, Array.getElem?_setIfInBounds, h2]⟩
end Go.Proofs.YtcgkkppidkkjiaaGreatDoor
