/- The walk of deciders at the examples' table, two rows. -/
import Derived.Test.YtcgkkppidkkjiaaGreatDoorMbo
import Derived.Test.YtcgkkppidkkjiaaGreatDoorMbm
import Derived.Test.YtcgkkppidkkjiaaGreatDoorMbj
import Derived.Test.YtcgkkppidkkjiaaGreatDoorMbg
namespace Go.Proofs.YtcgkkppidkkjiaaGreatDoor
open Go.RowKit Go.Shelf
attribute [local go_sem] Oper.semAt_some
/-- the same, where no panic comes -/
def noPan (Q : Exit → Act → World → Prop) : Exit → Act → World → Prop := fun e a w => match e with
  | .panic _ => False
  | e => Q e a w
theorem noPan_to {Q : Exit → Act → World → Prop} {e : Exit} {a : Act} {w : World} (h : noPan Q e a w) : Q e a w := by
  cases e with
  | panic c => exact h.elim
  | _ => exact h
theorem cu4 {cur : Array Value} {a c x y : Value} (hs : 4 ≤ cur.size) (h0 : cur[0]? = some a) (h2 : cur[2]? = some c) : ((cur.setIfInBounds 1 x).setIfInBounds 3 y)[0]? = some a ∧ ((cur.setIfInBounds 1 x).setIfInBounds 3 y)[1]? = some x ∧ ((cur.setIfInBounds 1 x).setIfInBounds 3 y)[2]? = some c ∧ ((cur.setIfInBounds 1 x).setIfInBounds 3 y)[3]? = some y := by
  have h1 : 1 < cur.size := by omega
  have h3 : 3 < cur.size := by omega
  refine ⟨?_, ?_, ?_, ?_⟩
  · rw [Array.getElem?_setIfInBounds_ne (by omega), Array.getElem?_setIfInBounds_ne (by omega)]; exact h0
  · rw [Array.getElem?_setIfInBounds_ne (by omega), Array.getElem?_setIfInBounds_self_of_lt h1]
  · rw [Array.getElem?_setIfInBounds_ne (by omega), Array.getElem?_setIfInBounds_ne (by omega)]; exact h2
  · rw [Array.getElem?_setIfInBounds_self_of_lt (by simpa using h3)]
theorem tr8_of {w : World} {AH X0 X1 : Option Addr} {gc c0 c1 : Nat} (hq : QReads w w.heap.size AH 3 lnf) (hl : gc < w.heap.size) (h0 : w.cell? ⟨gc, 0, none⟩ = some (.slice X0 3 c0)) (h1 : w.cell? ⟨gc, 1, none⟩ = some (.int .i64 0)) (h2 : w.cell? ⟨gc, 2, none⟩ = some (.slice X1 3 c1)) (h3 : w.cell? ⟨gc, 3, none⟩ = some (.int .i64 1)) (r0 : Reads w w.heap.size X0 3 (il [1, 0, 0])) (r1 : Reads w w.heap.size X1 3 (il [1, 0, 0])) : TR w AH none (some ⟨gc, 0, none⟩) T8 :=
  ⟨hq, fun h => absurd h (by decide), fun _ => ⟨gc, 0, rfl, hl, fun k hk => by
    match k, hk with
    | 0, _ => exact ⟨X0, c0, h0, r0, h1⟩
    | 1, _ => exact ⟨X1, c1, h2, r1, h3⟩⟩⟩

theorem own_set5 {w : World} {base k n g : Nat} {e : TypeId} {v : Value} {xs : List Value} (h : w.ownsRow base e k v n xs) (hg : v.ownBlock ≠ some g) (a b c d f : Value) : (((((w.setCell ⟨g, 0, none⟩ a).setCell ⟨g, 1, none⟩ b).setCell ⟨g, 2, none⟩ c).setCell ⟨g, 3, none⟩ d).setCell ⟨g, 4, none⟩ f).ownsRow base e k v n xs :=
  own_set (own_set (own_set (own_set (own_set h hg a) hg b) hg c) hg d) hg f
set_option maxRecDepth 100000 in
set_option maxHeartbeats 40000000 in
theorem dec_two (AH : Option Addr) (cH : Nat) (AR : Option Addr) (cR : Nat) (A : Option Addr) (c : Nat) (w : World) (hM : Mat w) (h : TR w AH none AR T0) (hR : 2 ≤ cR) (hI : Reads w w.heap.size A 8 (il (numR 8))) :
    Calls Tryz.prog 29 #[.agg #[.int .i64 2, .int .i64 0, .slice AH 3 cH, .slice none 0 0, .slice AR 2 cR], .slice A 8 c] w fun e w' => ∃ g c', e = .returned (.slice (some ⟨g, 0, none⟩) 2 c') ∧ w'.cell? ⟨g, 0, none⟩ = some (.bool true) ∧ w'.cell? ⟨g, 1, none⟩ = some (.bool false) ∧ g < w'.heap.size ∧ Below w.heap.size w w' := by
  obtain ⟨i0, hi, hz0, hz1, hz2⟩ := info_parts Tryz.info_int
  obtain ⟨ib, hib, hib0, hib1, hib2⟩ := info_parts info_boolE
  obtain ⟨gR, oR, rfl, hgR, hcR⟩ := h.2.2 (by decide)
  obtain ⟨X0, c0, r0, rr0, r1⟩ := hcR 0 (by decide)
  obtain ⟨X1, c1, r2, rr1, r3⟩ := hcR 1 (by decide)
  have r0 := (show w.cell? ⟨gR, oR, none⟩ = some (.slice X0 3 c0) from r0)
  have r1 := (show w.cell? ⟨gR, oR + 1, none⟩ = some (.int .i64 1) from r1)
  have r2 := (show w.cell? ⟨gR, oR + 2, none⟩ = some (.slice X1 3 c1) from r2)
  have r3 := (show w.cell? ⟨gR, oR + 3, none⟩ = some (.int .i64 0) from r3)
  have CLW := Lib.hid (show ∀ W, Below w.heap.size w W → Calls Tryz.prog 50 #[.slice (some ⟨gR, oR, none⟩) 2 cR] W fun e W' => ∃ g' c', e = .returned (.slice (some ⟨g', 0, none⟩) 2 c') ∧ W'.ownsRow W.heap.size 41 2 (.slice (some ⟨g', 0, none⟩) 2 c') 2 [.slice X0 3 c0, .int .i64 1, .slice X1 3 c1, .int .i64 0] ∧ W.heap.size ≤ g' ∧ Below w.heap.size w W' ∧ Below W.heap.size W W' from fun W hb => by
    refine (rclone_any ⟨gR, oR, none⟩ 2 cR [.slice X0 3 c0, .int .i64 1, .slice X1 3 c1, .int .i64 0] W (fun j u hj => ?_) (Nat.lt_of_lt_of_le hgR hb.size) rfl (by simp [Value.oneCell']) (by omega) (by omega)).mono fun e W' ⟨g', c', he, ho, hx⟩ => ⟨g', c', he, ho, (ho.lt g' rfl).1, hb.trans (hx.mono hb.size), hx⟩
    have hcell : ∀ p : Addr, p.block = gR → W.cell? p = w.cell? p := fun p hp => hb.cell (by rw [hp]; exact hgR)
    match j, hj with
    | 0, hj => simp at hj; subst hj; rw [hcell _ (by simp [Addr.add])]; simpa [Addr.add] using r0
    | 1, hj => simp at hj; subst hj; rw [hcell _ (by simp [Addr.add])]; simpa [Addr.add] using r1
    | 2, hj => simp at hj; subst hj; rw [hcell _ (by simp [Addr.add])]; simpa [Addr.add] using r2
    | 3, hj => simp at hj; subst hj; rw [hcell _ (by simp [Addr.add])]; simpa [Addr.add] using r3)
  have RR0 := Lib.hid (show Reads w w.heap.size X0 3 (il [1, 0, 0]) from rr0)
  have RR1 := Lib.hid (show Reads w w.heap.size X1 3 (il [1, 0, 0]) from rr1)
  have HTR := Lib.hid h
  have HM := Lib.hid hM
  have HI := Lib.hid hI
  clear h hM hI hcR r0 r1 r2 r3 rr0 rr1
  have K0 := Blk.new w 26 #[.int .i64 2, .int .i64 0, .slice AH 3 cH, .slice none 0 0, .slice (some ⟨gR, oR, none⟩) 2 cR]
  have B0 := (Below.refl w.heap.size w).alloc (Nat.le_refl _) (.cells #[.int .i64 2, .int .i64 0, .slice AH 3 cH, .slice none 0 0, .slice (some ⟨gR, oR, none⟩) 2 cR] 26)
  have z0 : (w.alloc (.cells #[.int .i64 2, .int .i64 0, .slice AH 3 cH, .slice none 0 0, .slice (some ⟨gR, oR, none⟩) 2 cR] 26)).heap.size = w.heap.size + 1 := by simp
  refine (callsIn_wide (n := 9)).1 ?_
  refine callsIn_of_wp_marks Tryz.func29 rfl trivial ?_ rfl
  simp only [Tryz.ntmps29, List.size_toArray, List.length_cons, List.length_nil, Nat.reduceAdd, Nat.reduceSub, Array.replicate_succ, Array.replicate_zero, List.push_toArray, List.append_toArray, List.nil_append, List.cons_append]
  refine wpIn_mono (Q := noPan _) ?_ (fun _ _ _ h => noPan_to h)
  refine wpIn_wide.2 ?_
  go_upto_region 1 with (fail)
  generalize w.alloc (.cells #[.int .i64 2, .int .i64 0, .slice AH 3 cH, .slice none 0 0, .slice (some ⟨gR, oR, none⟩) 2 cR] 26) = w0 at K0 B0 z0 ⊢
  obtain ⟨t0, t1, t2, t3, t4, t5⟩ := K0.five
  go_upto_region 4 with (fail)
  have K10 := Lib.hid (K0.alloc (.cells #[.int .i64 1] 3))
  have K11 := Blk.new w0 3 #[.int .i64 1]
  rw [z0] at K11
  have K11 := Lib.hid K11
  have B1 := Lib.hid (B0.alloc (by omega) (.cells #[.int .i64 1] 3))
  have z1 : (w0.alloc (.cells #[.int .i64 1] 3)).heap.size = w.heap.size + 2 := by rw [World.size_alloc, z0]
  generalize w0.alloc (.cells #[.int .i64 1] 3) = w1 at K10 K11 B1 z1 ⊢
  clear K0 B0 z0 t0 t1 t2 t3 t4 t5
  have KP := Lib.hid (fun W (hb : Below w.heap.size w W) (hk : Blk W w.heap.size 26 #[.int .i64 2, .int .i64 0, .slice AH 3 cH, .slice none 0 0, .slice (some ⟨gR, oR, none⟩) 2 cR]) => hk.five)
  have KP := Lib.hid (fun W (hb : Below w1.heap.size w1 W) => show W.cell? ⟨w.heap.size, 0, none⟩ = some (.int .i64 2) ∧ W.cell? ⟨w.heap.size, 1, none⟩ = some (.int .i64 0) ∧ W.cell? ⟨w.heap.size, 2, none⟩ = some (.slice AH 3 cH) ∧ W.cell? ⟨w.heap.size, 3, none⟩ = some (.slice none 0 0) ∧ W.cell? ⟨w.heap.size, 4, none⟩ = some (.slice (some ⟨gR, oR, none⟩) 2 cR) from
    have q := (K10.out.below hb K10.out.lt).five
    ⟨q.1, q.2.1, q.2.2.1, q.2.2.2.1, q.2.2.2.2.1⟩)
  have CLW := Lib.hid (show ∀ W, Below w1.heap.size w1 W → Calls Tryz.prog 50 #[.slice (some ⟨gR, oR, none⟩) 2 cR] W fun e W' => ∃ g' c', e = .returned (.slice (some ⟨g', 0, none⟩) 2 c') ∧ W'.ownsRow w1.heap.size 41 2 (.slice (some ⟨g', 0, none⟩) 2 c') 2 [.slice X0 3 c0, .int .i64 1, .slice X1 3 c1, .int .i64 0] ∧ W.heap.size ≤ g' ∧ Below w1.heap.size w1 W' ∧ Below W.heap.size W W' from fun W hb =>
    (CLW.out W (B1.out.trans (hb.mono B1.out.size))).mono fun e W' ⟨g', c', he, ho, hg, _, hx⟩ => ⟨g', c', he, own_base ho hb.size, hg, hb.trans (hx.mono hb.size), hx⟩)
  have P1 := Lib.hid (show ∀ gc cc W, Below w1.heap.size w1 W → Calls Tryz.prog 23 #[.agg #[.int .i64 2, .int .i64 0, .slice AH 3 cH, .slice none 0 0, .slice (some ⟨gR, oR, none⟩) 2 cR], .slice (some ⟨gc, 0, none⟩) 2 cc] W fun e W' => e = .returned (.agg #[.int .i64 2, .int .i64 0, .slice AH 3 cH, .slice none 0 0, .slice (some ⟨gc, 0, none⟩) 2 cc]) ∧ Below w1.heap.size w1 W' ∧ Below W.heap.size W W' from
    fun gc cc W hb => (withRows_any 2 0 AH none (some ⟨gR, oR, none⟩) (some ⟨gc, 0, none⟩) 3 0 2 2 cH 0 cR cc W).mono fun e W' ⟨he, hx⟩ => ⟨he, hb.trans (hx.mono hb.size), hx⟩)
  have S1 := KP.out w1 (Below.refl _ _)
  go_cut [6] from 28 to 32 (fun s6 wx => ∃ gx gc cc, s6 = .pointer (some ⟨gx, 0, none⟩) ∧ Blk wx gx 26 #[.int .i64 2, .int .i64 0, .slice AH 3 cH, .slice none 0 0, .slice (some ⟨gc, 0, none⟩) 2 cc] ∧ wx.ownsRow w1.heap.size 41 2 (.slice (some ⟨gc, 0, none⟩) 2 cc) 2 [.slice X0 3 c0, .int .i64 1, .slice X1 3 c1, .int .i64 0] ∧ gc ≠ gx ∧ w1.heap.size ≤ gx ∧ Below w1.heap.size w1 wx)
  case first =>
    clear z1
    refine wp_region_held_drew (S := fun W => W.cell? ⟨w.heap.size, 0, none⟩ = some (.int .i64 2) ∧ W.cell? ⟨w.heap.size, 1, none⟩ = some (.int .i64 0) ∧ W.cell? ⟨w.heap.size, 2, none⟩ = some (.slice AH 3 cH) ∧ W.cell? ⟨w.heap.size, 3, none⟩ = some (.slice none 0 0) ∧ W.cell? ⟨w.heap.size, 4, none⟩ = some (.slice (some ⟨gR, oR, none⟩) 2 cR)) (by kernel_rfl) (KP.out _ (Below.refl _ _).drew) (fun hHeld => ?_)
    refine wpAnyH_take (i := 0) (oi := _) (v := .agg #[.int .i64 2, .int .i64 0, .slice AH 3 cH, .slice none 0 0, .slice (some ⟨gR, oR, none⟩) 2 cR]) rfl (by kernel_rfl) (by kernel_rfl) (by kernel_rfl) (fun _ _ _ h => h) (Or.inl ⟨by rfl, ?_⟩) (by assumption) ?_
    · intro w hSw
      (try dsimp only at hSw)
      go_simp
      all_goals (with_reducible rfl)
    simp only [Act.put, List.setIfInBounds_toArray, List.set_cons_zero, List.set_cons_succ]
    refine wpAnyH_take (i := 1) (oi := _) (v := .pointer (some ⟨w.heap.size, 4, none⟩)) rfl (by kernel_rfl) (by kernel_rfl) (by kernel_rfl) (fun _ _ _ h => h) (Or.inl ⟨by rfl, ?_⟩) (by assumption) ?_
    · intro w hSw
      (try dsimp only at hSw)
      go_simp
      all_goals (with_reducible rfl)
    simp only [Act.put, List.setIfInBounds_toArray, List.set_cons_zero, List.set_cons_succ]
    refine wpAnyH_take (i := 2) (oi := _) (v := .slice (some ⟨gR, oR, none⟩) 2 cR) rfl (by kernel_rfl) (by kernel_rfl) (by kernel_rfl) (fun _ _ _ h => h) (Or.inl ⟨by rfl, ?_⟩) (by assumption) ?_
    · intro w hSw
      (try dsimp only at hSw)
      go_simp
      all_goals (with_reducible rfl)
    simp only [Act.put, List.setIfInBounds_toArray, List.set_cons_zero, List.set_cons_succ]
    refine wpAnyH_ready (rs := [3, 5]) (by kernel_rfl) (by simp) ?_
    refine AllReadyH.cons rfl (fun K hK => ?_) ?_
    · exact (by
        go_simp
        go_wp2_with (go_at_call 50; (with_reducible refine (CLW.out _ ?_).mono ?_); (with_reducible (repeat (first | assumption | exact Below.refl _ _ | refine Below.drew' ?_ | refine Below.alloc' ?_ _))); rintro e wa ⟨gc, cc, rfl, ho, hgc, ha1, ha2⟩; have HO := Lib.hid ho; have HGC := Lib.hid hgc; have sa := ha1.size; clear ho)
        refine hK.out _ _ ?_ (fun hHeld => ?_)
        · (first | assumption | (refine KP.out _ ?_; (with_reducible (repeat (first | assumption | exact Below.refl _ _ | refine Below.drew' ?_ | refine Below.alloc' ?_ _))); done))
        clear hK K
        (try simp only [Act.put, List.setIfInBounds_toArray, List.set_cons_zero, List.set_cons_succ])
        refine wpAnyH_ready (rs := [4, 5]) (by kernel_rfl) (by simp) ?_
        refine AllReadyH.cons rfl (fun K hK => ?_) ?_
        · exact (by
            go_simp
            go_wp2_with (go_at_call 23; (with_reducible refine (P1.out gc cc _ ?_).mono ?_); (with_reducible (repeat (first | assumption | exact Below.refl _ _ | refine Below.drew' ?_ | refine Below.alloc' ?_ _))); rintro e wb ⟨rfl, hb1, hb2⟩; have sb := hb1.size; have sb2 := hb2.size; have OB := Lib.hid (own_below2 HO.out hb2); clear hb2)
            refine hK.out _ _ ?_ (fun hHeld => ?_)
            · (first | assumption | (refine KP.out _ ?_; (with_reducible (repeat (first | assumption | exact Below.refl _ _ | refine Below.drew' ?_ | refine Below.alloc' ?_ _))); done))
            clear hK K
            (try simp only [Act.put, List.setIfInBounds_toArray, List.set_cons_zero, List.set_cons_succ])
            refine wpAnyH_ready (rs := [5]) (by kernel_rfl) (by simp) ?_
            refine AllReadyH.cons rfl (fun K hK => ?_) ?_
            · exact (by
                go_simp
                refine hK.out _ _ ?_ (fun hHeld => ?_)
                · (first | assumption | (refine KP.out _ ?_; (with_reducible (repeat (first | assumption | exact Below.refl _ _ | refine Below.drew' ?_ | refine Below.alloc' ?_ _))); done))
                clear hK K
                (try simp only [Act.put, List.setIfInBounds_toArray, List.set_cons_zero, List.set_cons_succ])
                refine wpAnyH_ready (rs := [6]) (by kernel_rfl) (by simp) ?_
                refine AllReadyH.cons rfl (fun K hK => ?_) ?_
                · exact (by
                    go_simp
                    refine hK.out _ _ ?_ (fun hHeld => ?_)
                    · exact KP.out _ (hb1.alloc hb1.size _)
                    clear hK K
                    (try simp only [Act.put, List.setIfInBounds_toArray, List.set_cons_zero, List.set_cons_succ])
                    refine wpAnyH_done (by kernel_rfl) ?_ _
                    go_wp2_with fail
                    go_meet
                    have hgl := (HO.out.lt gc rfl).2
                    have hgc := HGC.out
                    exact ⟨_, gc, cc, rfl, Blk.new wb _ _, OB.out.alloc _, by omega, sb, hb1.alloc hb1.size _⟩)
                exact AllReadyH.nil)
            exact AllReadyH.nil)
        refine AllReadyH.cons rfl (fun K hK => ?_) ?_
        · exact (by
            go_simp
            refine hK.out _ _ ?_ (fun hHeld => ?_)
            · (first | assumption | (refine KP.out _ ?_; (with_reducible (repeat (first | assumption | exact Below.refl _ _ | refine Below.drew' ?_ | refine Below.alloc' ?_ _))); done))
            clear hK K
            (try simp only [Act.put, List.setIfInBounds_toArray, List.set_cons_zero, List.set_cons_succ])
            refine wpAnyH_ready (rs := [4]) (by kernel_rfl) (by simp) ?_
            refine AllReadyH.cons rfl (fun K hK => ?_) ?_
            · exact (by
                go_simp
                go_wp2_with (go_at_call 23; (with_reducible refine (P1.out gc cc _ ?_).mono ?_); (with_reducible (repeat (first | assumption | exact Below.refl _ _ | refine Below.drew' ?_ | refine Below.alloc' ?_ _))); rintro e wb ⟨rfl, hb1, hb2⟩; have sb := hb1.size; have sb2 := hb2.size; have OB := Lib.hid (own_below2 (World.ownsRow.alloc HO.out _) hb2); have hk2 := Blk.below' (w := _) (by first | exact Blk.new _ 26 #[.int .i64 0, .int .i64 0, .slice none 0 0, .slice none 0 0, .slice none 0 0] | exact Blk.drew (Blk.new _ 26 #[.int .i64 0, .int .i64 0, .slice none 0 0, .slice none 0 0, .slice none 0 0])) hb2; have HX := Lib.hid (show gc < wa.heap.size ∧ w1.heap.size ≤ wa.heap.size from ⟨(HO.out.lt gc rfl).2, sa⟩); obtain ⟨k0, k1, k2, k3, k4, k5⟩ := hk2.five; have g0 := hk2.frozen 0; have g1 := hk2.frozen 1; have g2 := hk2.frozen 2; have g3 := hk2.frozen 3; have g4 := hk2.frozen 4; clear hb2)
                refine hK.out _ _ ?_ (fun hHeld => ?_)
                · (first | assumption | (refine KP.out _ ?_; (with_reducible (repeat (first | assumption | exact Below.refl _ _ | refine Below.drew' ?_ | refine Below.alloc' ?_ _))); done))
                clear hK K
                (try simp only [Act.put, List.setIfInBounds_toArray, List.set_cons_zero, List.set_cons_succ])
                refine wpAnyH_ready (rs := [6]) (by kernel_rfl) (by simp) ?_
                refine AllReadyH.cons rfl (fun K hK => ?_) ?_
                · exact (by
                    go_simp
                    refine hK.out _ _ ?_ (fun hHeld => ?_)
                    · exact KP.out _ (below_set5 hb1 (by have := HX.out; omega) _ _ _ _ _)
                    clear hK K
                    (try simp only [Act.put, List.setIfInBounds_toArray, List.set_cons_zero, List.set_cons_succ])
                    refine wpAnyH_done (by kernel_rfl) ?_ _
                    go_wp2_with fail
                    go_meet
                    have hgl := (HO.out.lt gc rfl).2
                    have hgc := HGC.out
                    have hX := HX.out
                    exact ⟨_, gc, cc, rfl, hk2.all5 _ _ _ _ _, own_set5 OB.out (fun e => by have e := (by simpa [Value.ownBlock] using e); omega) _ _ _ _ _, by omega, by omega, below_set5 hb1 (by omega) _ _ _ _ _⟩)
                exact AllReadyH.nil)
            exact AllReadyH.nil)
        exact AllReadyH.nil)
    refine AllReadyH.cons rfl (fun K hK => ?_) ?_
    · exact (by
        go_simp
        refine hK.out _ _ ?_ (fun hHeld => ?_)
        · (first | assumption | (refine KP.out _ ?_; (with_reducible (repeat (first | assumption | exact Below.refl _ _ | refine Below.drew' ?_ | refine Below.alloc' ?_ _))); done))
        clear hK K
        (try simp only [Act.put, List.setIfInBounds_toArray, List.set_cons_zero, List.set_cons_succ])
        refine wpAnyH_ready (rs := [3]) (by kernel_rfl) (by simp) ?_
        refine AllReadyH.cons rfl (fun K hK => ?_) ?_
        · exact (by
            go_simp
            go_wp2_with (go_at_call 50; (with_reducible refine (CLW.out _ ?_).mono ?_); (with_reducible (repeat (first | assumption | exact Below.refl _ _ | refine Below.drew' ?_ | refine Below.alloc' ?_ _))); rintro e wa ⟨gc, cc, rfl, ho, hgc, ha1, ha2⟩; have HO := Lib.hid ho; have HGC := Lib.hid hgc; have sa := ha1.size; have hk := Blk.below' (by first | exact Blk.new _ 26 #[.int .i64 0, .int .i64 0, .slice none 0 0, .slice none 0 0, .slice none 0 0] | exact Blk.drew (Blk.new _ 26 #[.int .i64 0, .int .i64 0, .slice none 0 0, .slice none 0 0, .slice none 0 0])) ha2; have HX := Lib.hid (show w1.heap.size < gc ∧ w1.heap.size ≤ w1.heap.size from ⟨by have := hgc; simp [World.drew] at this; omega, Nat.le_refl _⟩); clear ho)
            refine hK.out _ _ ?_ (fun hHeld => ?_)
            · (first | assumption | (refine KP.out _ ?_; (with_reducible (repeat (first | assumption | exact Below.refl _ _ | refine Below.drew' ?_ | refine Below.alloc' ?_ _))); done))
            clear hK K
            (try simp only [Act.put, List.setIfInBounds_toArray, List.set_cons_zero, List.set_cons_succ])
            refine wpAnyH_ready (rs := [4]) (by kernel_rfl) (by simp) ?_
            refine AllReadyH.cons rfl (fun K hK => ?_) ?_
            · exact (by
                go_simp
                go_wp2_with (go_at_call 23; (with_reducible refine (P1.out gc cc _ ?_).mono ?_); (with_reducible (repeat (first | assumption | exact Below.refl _ _ | refine Below.drew' ?_ | refine Below.alloc' ?_ _))); rintro e wb ⟨rfl, hb1, hb2⟩; have sb := hb1.size; have sb2 := hb2.size; have OB := Lib.hid (own_below2 HO.out hb2); have hk2 := Blk.below' hk hb2; obtain ⟨k0, k1, k2, k3, k4, k5⟩ := hk2.five; have g0 := hk2.frozen 0; have g1 := hk2.frozen 1; have g2 := hk2.frozen 2; have g3 := hk2.frozen 3; have g4 := hk2.frozen 4; clear hb2)
                refine hK.out _ _ ?_ (fun hHeld => ?_)
                · (first | assumption | (refine KP.out _ ?_; (with_reducible (repeat (first | assumption | exact Below.refl _ _ | refine Below.drew' ?_ | refine Below.alloc' ?_ _))); done))
                clear hK K
                (try simp only [Act.put, List.setIfInBounds_toArray, List.set_cons_zero, List.set_cons_succ])
                refine wpAnyH_ready (rs := [6]) (by kernel_rfl) (by simp) ?_
                refine AllReadyH.cons rfl (fun K hK => ?_) ?_
                · exact (by
                    go_simp
                    refine hK.out _ _ ?_ (fun hHeld => ?_)
                    · exact KP.out _ (below_set5 hb1 (by have := HX.out; omega) _ _ _ _ _)
                    clear hK K
                    (try simp only [Act.put, List.setIfInBounds_toArray, List.set_cons_zero, List.set_cons_succ])
                    refine wpAnyH_done (by kernel_rfl) ?_ _
                    go_wp2_with fail
                    go_meet
                    have hgl := (HO.out.lt gc rfl).2
                    have hgc := HGC.out
                    have hX := HX.out
                    exact ⟨_, gc, cc, rfl, hk2.all5 _ _ _ _ _, own_set5 OB.out (fun e => by have e := (by simpa [Value.ownBlock] using e); omega) _ _ _ _ _, by omega, by omega, below_set5 hb1 (by omega) _ _ _ _ _⟩)
                exact AllReadyH.nil)
            exact AllReadyH.nil)
        exact AllReadyH.nil)
    exact AllReadyH.nil
  case rest =>
    obtain ⟨gx, gc, cc, rfl, hX, hO, hne, hgx, hBx⟩ := hcut
    have hlg := (hO.lt gc rfl)
    have hgl := hX.lt
    have hsx := hBx.size
    obtain ⟨cur, hcur, hcs, hct, hcc⟩ : ∃ cur, Blk wc gc 41 cur ∧ cur.size = cc * 2 ∧ cur.toList.take 4 = [.slice X0 3 c0, .int .i64 1, .slice X1 3 c1, .int .i64 0] ∧ 2 ≤ cc := by
      rcases hO.2 with ⟨hv, _⟩ | ⟨g', cap', cur, hv, _, hg, hn, _, hs, ht⟩
      · cases hv
      · injection hv with e1 _ e3
        injection e1 with e1
        injection e1 with e1
        subst e1 e3
        exact ⟨cur, hg, hs, ht, hn⟩
    have hcu : ∀ j u, j < 4 → ([.slice X0 3 c0, .int .i64 1, .slice X1 3 c1, .int .i64 0] : List Value)[j]? = some u → cur[j]? = some u := fun j u hj hu => by
      rw [← hct, List.getElem?_take_of_lt hj, Array.getElem?_toList] at hu
      exact hu
    have BX := Lib.hid (B1.out.trans (hBx.mono B1.out.size))
    have KX := Lib.hid (K10.out.below hBx K10.out.lt)
    have KW := Lib.hid (K11.out.below hBx K11.out.lt)
    obtain ⟨u0, u1, u2, u3, u4, u5⟩ := hX.five
    have uf := hX.frozen 0
    exact (by
      have G5 := Lib.hid (show Blk (wc.setCell ⟨gx, 0, none⟩ (.int .i64 8)) gx 26 #[.int .i64 8, .int .i64 0, .slice AH 3 cH, .slice none 0 0, .slice (some ⟨gc, 0, none⟩) 2 cc] from by simpa using hX.set_ 0 (.int .i64 8))
      have C5 := Lib.hid (show Blk (wc.setCell ⟨gx, 0, none⟩ (.int .i64 8)) gc 41 cur from hcur.far (by show gc ≠ gx; exact hne) _)
      have W5 := Lib.hid (show Blk (wc.setCell ⟨gx, 0, none⟩ (.int .i64 8)) (w.heap.size + 1) 3 #[.int .i64 1] from KW.out.far (by show w.heap.size + 1 ≠ gx; omega) _)
      have X5 := Lib.hid (show Blk (wc.setCell ⟨gx, 0, none⟩ (.int .i64 8)) w.heap.size 26 #[.int .i64 2, .int .i64 0, .slice AH 3 cH, .slice none 0 0, .slice (some ⟨gR, oR, none⟩) 2 cR] from KX.out.far (by show w.heap.size ≠ gx; omega) _)
      have B5 := Lib.hid (show Below w1.heap.size w1 (wc.setCell ⟨gx, 0, none⟩ (.int .i64 8)) from hBx.setCell (p := ⟨gx, 0, none⟩) hgx _)
      have hs5 : (wc.setCell ⟨gx, 0, none⟩ (.int .i64 8)).heap.size = wc.heap.size := by simp [World.setCell]
      clear hX hO hcur S1 KP P1 CLW hBx KX KW BX
      go_upto_region 6 with (fail)
      generalize wc.setCell ⟨gx, 0, none⟩ (.int .i64 8) = w5 at G5 C5 W5 X5 B5 hs5 ⊢
      exact (by
        clear u0 u1 u2 u3 u4 u5 uf
        obtain ⟨u0, u1, u2, u3, u4, u5⟩ := G5.out.five
        have v0 := W5.out.one.1
        have cf1 := C5.out.frozen 1
        have cf3 := C5.out.frozen 3
        have x1 : w5.cell? ⟨gc, 1, none⟩ = some (.int .i64 1) := by rw [C5.out.cell]; exact hcu 1 _ (by omega) rfl
        have x3 : w5.cell? ⟨gc, 3, none⟩ = some (.int .i64 0) := by rw [C5.out.cell]; exact hcu 3 _ (by omega) rfl
        exact (by
          go_wp2_with fail
          refine wp_loop_rounds 3 ?_
          rw [rounds_succ]
          exact (by
            go_wp2_with fail
            go_region
            exact (by
              have G6 := Lib.hid (show Blk (w5.setCell ⟨gc, 1, none⟩ (.int .i64 0)).drew gx 26 #[.int .i64 8, .int .i64 0, .slice AH 3 cH, .slice none 0 0, .slice (some ⟨gc, 0, none⟩) 2 cc] from G5.out.far (by show gx ≠ gc; omega) _)
              have C6 := Lib.hid (show Blk (w5.setCell ⟨gc, 1, none⟩ (.int .i64 0)).drew gc 41 (cur.setIfInBounds 1 (.int .i64 0)) from C5.out.set_ 1 _)
              have W6 := Lib.hid (show Blk (w5.setCell ⟨gc, 1, none⟩ (.int .i64 0)).drew (w.heap.size + 1) 3 #[.int .i64 1] from W5.out.far (by show w.heap.size + 1 ≠ gc; omega) _)
              have X6 := Lib.hid (show Blk (w5.setCell ⟨gc, 1, none⟩ (.int .i64 0)).drew w.heap.size 26 #[.int .i64 2, .int .i64 0, .slice AH 3 cH, .slice none 0 0, .slice (some ⟨gR, oR, none⟩) 2 cR] from X5.out.far (by show w.heap.size ≠ gc; omega) _)
              have B6 := Lib.hid (show Below w1.heap.size w1 (w5.setCell ⟨gc, 1, none⟩ (.int .i64 0)).drew from (B5.out.setCell (p := ⟨gc, 1, none⟩) hlg.1 (.int .i64 0)).drew)
              have hs6 : (w5.setCell ⟨gc, 1, none⟩ (.int .i64 0)).drew.heap.size = wc.heap.size := by rw [← hs5]; simp [World.setCell, World.drew]
              have x3' : (w5.setCell ⟨gc, 1, none⟩ (.int .i64 0)).drew.cell? ⟨gc, 3, none⟩ = some (.int .i64 0) := by rw [C6.out.cell, Array.getElem?_setIfInBounds_ne (by omega)]; exact hcu 3 _ (by omega) rfl
              have cf3' := C6.out.frozen 3
              generalize (w5.setCell ⟨gc, 1, none⟩ (.int .i64 0)).drew = w6 at G6 C6 W6 X6 B6 hs6 x3' cf3' ⊢
              exact (by
                clear u0 u1 u2 u3 u4 u5 v0 x1 x3 cf1 cf3 G5 C5 W5 X5 B5 hs5
                obtain ⟨u0, u1, u2, u3, u4, u5⟩ := G6.out.five
                have v0 := W6.out.one.1
                exact (by
                  go_wp2_with fail
                  rw [rounds_succ]
                  go_wp2_with fail
                  go_region
                  exact (by
                    have G7 := Lib.hid (show Blk (w6.setCell ⟨gc, 3, none⟩ (.int .i64 1)).drew gx 26 #[.int .i64 8, .int .i64 0, .slice AH 3 cH, .slice none 0 0, .slice (some ⟨gc, 0, none⟩) 2 cc] from G6.out.far (by show gx ≠ gc; omega) _)
                    have C7 := Lib.hid (show Blk (w6.setCell ⟨gc, 3, none⟩ (.int .i64 1)).drew gc 41 ((cur.setIfInBounds 1 (.int .i64 0)).setIfInBounds 3 (.int .i64 1)) from C6.out.set_ 3 _)
                    have W7 := Lib.hid (show Blk (w6.setCell ⟨gc, 3, none⟩ (.int .i64 1)).drew (w.heap.size + 1) 3 #[.int .i64 1] from W6.out.far (by show w.heap.size + 1 ≠ gc; omega) _)
                    have X7 := Lib.hid (show Blk (w6.setCell ⟨gc, 3, none⟩ (.int .i64 1)).drew w.heap.size 26 #[.int .i64 2, .int .i64 0, .slice AH 3 cH, .slice none 0 0, .slice (some ⟨gR, oR, none⟩) 2 cR] from X6.out.far (by show w.heap.size ≠ gc; omega) _)
                    have B7 := Lib.hid (show Below w1.heap.size w1 (w6.setCell ⟨gc, 3, none⟩ (.int .i64 1)).drew from (B6.out.setCell (p := ⟨gc, 3, none⟩) hlg.1 (.int .i64 1)).drew)
                    have hs7 : (w6.setCell ⟨gc, 3, none⟩ (.int .i64 1)).drew.heap.size = wc.heap.size := by rw [← hs6]; simp [World.setCell, World.drew]
                    generalize (w6.setCell ⟨gc, 3, none⟩ (.int .i64 1)).drew = w7 at G7 C7 W7 X7 B7 hs7 ⊢
                    exact (by
                      clear u0 u1 u2 u3 u4 u5 v0 x3' cf3' G6 C6 W6 X6 B6 hs6
                      have BW := Lib.hid (B1.out.trans (B7.out.mono B1.out.size))
                      exact (by
                        obtain ⟨y0, y1, y2, y3⟩ := cu4 (x := .int .i64 0) (y := .int .i64 1) (show 4 ≤ cur.size by omega) (hcu 0 _ (by omega) rfl) (hcu 2 _ (by omega) rfl)
                        have T7 := Lib.hid (tr8_of (w := w7) (AH := AH) (X0 := X0) (X1 := X1) (gc := gc) (c0 := c0) (c1 := c1) (HTR.out.later BW.out).1 C7.out.lt ((C7.out.cell 0).trans y0) ((C7.out.cell 1).trans y1) ((C7.out.cell 2).trans y2) ((C7.out.cell 3).trans y3) (RR0.out.later BW.out) (RR1.out.later BW.out))
                        clear y0 y1 y2 y3
                        exact (by
                          clear hcu hct hcs hcc
                          obtain ⟨u0, u1, u2, u3, u4, u5⟩ := G7.out.five
                          go_wp2_with fail
                          rw [rounds_succ]
                          exact (by
                            go_upto_region 12 with (fail)
                            have GA := Lib.hid (show Blk (w7.alloc (.cells #[.slice none 0 0, .slice none 0 0, .slice none 0 0, .slice none 0 0, .slice none 0 0, .slice none 0 0, .slice none 0 0, .slice none 0 0] 91)) wc.heap.size 91 #[.slice none 0 0, .slice none 0 0, .slice none 0 0, .slice none 0 0, .slice none 0 0, .slice none 0 0, .slice none 0 0, .slice none 0 0] from by rw [← hs7]; exact Blk.new w7 _ _)
                            have BA := Lib.hid ((Below.refl w7.heap.size w7).alloc (Nat.le_refl _) (.cells #[.slice none 0 0, .slice none 0 0, .slice none 0 0, .slice none 0 0, .slice none 0 0, .slice none 0 0, .slice none 0 0, .slice none 0 0] 91))
                            have hz8 : (w7.alloc (.cells #[.slice none 0 0, .slice none 0 0, .slice none 0 0, .slice none 0 0, .slice none 0 0, .slice none 0 0, .slice none 0 0, .slice none 0 0] 91)).heap.size = wc.heap.size + 1 := by rw [World.size_alloc, hs7]
                            generalize (w7.alloc (.cells #[.slice none 0 0, .slice none 0 0, .slice none 0 0, .slice none 0 0, .slice none 0 0, .slice none 0 0, .slice none 0 0, .slice none 0 0] 91)) = w8 at GA BA hz8 ⊢
                            clear u0 u1 u2 u3 u4 u5
                            have TA := Lib.hid (show Two w8 (wc.heap.size + 1) 3 (.slice none 0 0) 0 (il []) (.slice none 0 0) 0 (il []) from ⟨World.ownsRow_nil _ _ _ _, World.ownsRow_nil _ _ _ _, fun k h => by cases h⟩)
                            exact (by
                              go_wp2_with fail
                              go_loopw [51] (fun iv wr => ∃ (j : Nat) (A0 A1 : Option Addr) (d0 d1 : Nat), j ≤ 8 ∧ iv = .int .i64 (j : Int) ∧ Hid (Blk wr wc.heap.size 91 #[.slice A0 (fp 0 j).length d0, .slice A1 (fp 1 j).length d1, .slice none 0 0, .slice none 0 0, .slice none 0 0, .slice none 0 0, .slice none 0 0, .slice none 0 0]) ∧ Hid (Two wr (wc.heap.size + 1) 3 (.slice A0 (fp 0 j).length d0) (fp 0 j).length (il (fp 0 j)) (.slice A1 (fp 1 j).length d1) (fp 1 j).length (il (fp 1 j))) ∧ Hid (Below w7.heap.size w7 wr) ∧ wc.heap.size + 1 ≤ wr.heap.size) (fun iv _ => 8 - (intOf iv).toNat)
                              case atStart => exact ⟨0, none, none, 0, 0, by omega, rfl, GA, TA, BA, by omega⟩
                              case round =>
                                obtain ⟨j, A0, A1, d0, d1, hj, rfl, HG, HT, HB, hz⟩ := hrel
                                by_cases hlt : j < 8
                                · exact (by
                                    have hjI : (j : Int) < 8 := by omega
                                    obtain ⟨ad, rfl, hadb, hc⟩ := il_at (HI.out.later (BW.out.trans (HB.out.mono BW.out.size))) hlt
                                    rw [show ig (numR 8) j = (j : Int) from numR_at j hlt] at hc
                                    have hl0 := fp_le 0 j hj
                                    have hl1 := fp_le 1 j hj
                                    obtain ⟨n0, hn0⟩ : ∃ n0, (fp 0 j).length = n0 := ⟨_, rfl⟩
                                    obtain ⟨n1, hn1⟩ : ∃ n1, (fp 1 j).length = n1 := ⟨_, rfl⟩
                                    rw [hn0, hn1] at HG HT
                                    rw [hn0] at hl0
                                    rw [hn1] at hl1
                                    have HN0 := Lib.hid hn0
                                    have HN1 := Lib.hid hn1
                                    clear hn0 hn1
                                    have KQ := Lib.hid (fun W (hb : Below wr.heap.size wr W) => show W.cell? ⟨w.heap.size, 0, none⟩ = some (.int .i64 2) ∧ W.cell? ⟨w.heap.size, 1, none⟩ = some (.int .i64 0) ∧ W.cell? ⟨w.heap.size, 2, none⟩ = some (.slice AH 3 cH) ∧ W.cell? ⟨w.heap.size, 3, none⟩ = some (.slice none 0 0) ∧ W.cell? ⟨w.heap.size, 4, none⟩ = some (.slice (some ⟨gR, oR, none⟩) 2 cR) ∧ W.cell? ⟨gx, 0, none⟩ = some (.int .i64 8) ∧ W.cell? ⟨gx, 1, none⟩ = some (.int .i64 0) ∧ W.cell? ⟨gx, 2, none⟩ = some (.slice AH 3 cH) ∧ W.cell? ⟨gx, 3, none⟩ = some (.slice none 0 0) ∧ W.cell? ⟨gx, 4, none⟩ = some (.slice (some ⟨gc, 0, none⟩) 2 cc) from
                                      have b := HB.out.trans (hb.mono HB.out.size)
                                      have q := (X7.out.below b X7.out.lt).five
                                      have r := (G7.out.below b G7.out.lt).five
                                      ⟨q.1, q.2.1, q.2.2.1, q.2.2.2.1, q.2.2.2.2.1, r.1, r.2.1, r.2.2.1, r.2.2.2.1, r.2.2.2.2.1⟩)
                                    have P3 := Lib.hid (show ∀ W, Below wr.heap.size wr W → Calls Tryz.prog 28 #[.agg #[.int .i64 2, .int .i64 0, .slice AH 3 cH, .slice none 0 0, .slice (some ⟨gR, oR, none⟩) 2 cR], .int .i64 (j : Int)] W fun e W' => ∃ g, e = .returned (.slice (some ⟨g, 0, none⟩) 3 3) ∧ Reads W' W'.heap.size (some ⟨g, 0, none⟩) 3 (il (dg 2 3 j)) ∧ Below wr.heap.size wr W' ∧ Below W.heap.size W W' from fun W hb =>
                                      (input_any 2 j 0 AH 3 cH none 0 0 (some ⟨gR, oR, none⟩) 2 cR W (by omega) (by omega) (by omega) (by omega)).mono fun e W' ⟨g, he, hk, hx⟩ => ⟨g, he, by
                                        have := Reads.of_blk1 (l := dg 2 3 j) hk
                                        rwa [dg_len] at this, hb.trans (hx.mono hb.size), hx⟩)
                                    have P4 := (show ∀ g W, Below wr.heap.size wr W → Reads W W.heap.size (some ⟨g, 0, none⟩) 3 (il (dg 2 3 j)) → Calls Tryz.prog 20 #[.agg #[.int .i64 8, .int .i64 0, .slice AH 3 cH, .slice none 0 0, .slice (some ⟨gc, 0, none⟩) 2 cc], .slice (some ⟨g, 0, none⟩) 3 3] W fun e W' => e = .returned (.tuple #[.int .i64 ((j / 2 % 2 : Nat) : Int), .int .i64 0]) ∧ Below wr.heap.size wr W' ∧ Below W.heap.size W W' from fun g W hb hr =>
                                      (next8 AH cH (some ⟨gc, 0, none⟩) cc (some ⟨g, 0, none⟩) 3 j W (HM.out.below (BW.out.trans ((HB.out.trans (hb.mono HB.out.size)).mono BW.out.size)) HM.out.1) (T7.out.later (HB.out.trans (hb.mono HB.out.size))) hlt hr (by omega)).mono fun e W' ⟨he, hx⟩ => ⟨he, hb.trans (hx.mono hb.size), hx⟩)
                                    have S1 := KQ.out wr (Below.refl _ _)
                                    have hp2 : j / 2 % 2 = 0 ∨ j / 2 % 2 = 1 := by omega
                                    rcases hp2 with hp | hp
                                    · exact (by
                                      rw [hp] at P4
                                      have P4 := Lib.hid (show ∀ g W, Below wr.heap.size wr W → Reads W W.heap.size (some ⟨g, 0, none⟩) 3 (il (dg 2 3 j)) → Calls Tryz.prog 20 #[.agg #[.int .i64 8, .int .i64 0, .slice AH 3 cH, .slice none 0 0, .slice (some ⟨gc, 0, none⟩) 2 cc], .slice (some ⟨g, 0, none⟩) 3 3] W fun e W' => e = .returned (.tuple #[.int .i64 0, .int .i64 0]) ∧ Below wr.heap.size wr W' ∧ Below W.heap.size W W' from P4)
                                      go_wp2_with fail
                                      go_region_held_law (fun W => W.cell? ⟨w.heap.size, 0, none⟩ = some (.int .i64 2) ∧ W.cell? ⟨w.heap.size, 1, none⟩ = some (.int .i64 0) ∧ W.cell? ⟨w.heap.size, 2, none⟩ = some (.slice AH 3 cH) ∧ W.cell? ⟨w.heap.size, 3, none⟩ = some (.slice none 0 0) ∧ W.cell? ⟨w.heap.size, 4, none⟩ = some (.slice (some ⟨gR, oR, none⟩) 2 cR) ∧ W.cell? ⟨gx, 0, none⟩ = some (.int .i64 8) ∧ W.cell? ⟨gx, 1, none⟩ = some (.int .i64 0) ∧ W.cell? ⟨gx, 2, none⟩ = some (.slice AH 3 cH) ∧ W.cell? ⟨gx, 3, none⟩ = some (.slice none 0 0) ∧ W.cell? ⟨gx, 4, none⟩ = some (.slice (some ⟨gc, 0, none⟩) 2 cc))
                                        (first | assumption | (refine KQ.out _ ?_; (with_reducible (repeat (first | assumption | exact Below.refl _ _ | refine Below.drew' ?_ | refine Below.alloc' ?_ _))); done) | go_keep)
                                        (first
                                        | (go_at_call 28; (with_reducible refine (P3.out _ ?_).mono ?_); (with_reducible (repeat (first | assumption | exact Below.refl _ _ | refine Below.drew' ?_ | refine Below.alloc' ?_ _))); rintro e wa ⟨g, rfl, hr, ha1, ha2⟩)
                                        | (go_at_call 20; (with_reducible refine (P4.out g _ ha1 hr).mono ?_); rintro e wb ⟨rfl, hb1, hb2⟩))
                                      exact (by
                                        have TB := Lib.hid (HT.out.below hb1)
                                        have GB := Lib.hid (HG.out.below hb1 HG.out.lt)
                                        have BB := Lib.hid (HB.out.trans (hb1.mono HB.out.size))
                                        have hzb := Nat.le_trans hz hb1.size
                                        have gf := GB.out.frozen 0
                                        obtain ⟨y0, y1, y2, y3, y4, y5, y6, y7, y8⟩ := GB.out.eight
                                        clear hb1 hb2 ha1 ha2 hr KQ P3 P4
                                        exact (by
                                          go_wp2_with (at_builtin; refine wpList_append1L rfl _ _ 27 rfl (wc.heap.size + 1) 3 i0 (.int .i64 0) 8 Tryz.underlying27 hi hz0 hz1 hz2 rfl A0 n0 d0 _ rfl TB.out.1 (.int .i64 (j : Int)) rfl rfl (by unfold maxLen; omega) (by omega) hzb ?_; intro g6 c6 w6 hown6 hbel6 hgr6 hat6; have q6 := GB.out.below hbel6 (Nat.lt_succ_self _); have gf6 := q6.frozen 0; have gy6 := q6.eight.1)
                                          have T6 := Lib.hid ((TB.out).left hown6 hgr6 hat6)
                                          have F6 := Lib.hid (show Blk w6 wc.heap.size 91 #[.slice A0 n0 d0, .slice A1 n1 d1, .slice none 0 0, .slice none 0 0, .slice none 0 0, .slice none 0 0, .slice none 0 0, .slice none 0 0] from q6)
                                          have B6 := Lib.hid (show Below w7.heap.size w7 w6 from BB.out.trans (hbel6.mono (by omega)))
                                          have hz6 := Nat.le_trans hzb hbel6.size
                                          have hlt6 := F6.out.lt
                                          clear hown6 hgr6 hat6 hbel6 q6
                                          exact (by
                                            go_wp2_with fail
                                            go_roundw
                                            case rel =>
                                              have H0 := HN0.out
                                              have H1 := HN1.out
                                              refine ⟨j + 1, some ⟨g6, 0, none⟩, A1, c6, d1, by omega, by go_num, Lib.hid ?_, Lib.hid ?_, Lib.hid (B6.out.setCell (p := ⟨wc.heap.size, 0, none⟩) (by show w7.heap.size ≤ wc.heap.size; omega) _), by simpa [World.setCell] using hz6⟩
                                              · rw [fp_yes (p := 0) hp, fp_no (p := 1) (by omega), List.length_append, H0, H1]
                                                simpa using F6.out.set_ 0 (.slice (some ⟨g6, 0, none⟩) (n0 + 1) c6)
                                              · rw [fp_yes (p := 0) hp, fp_no (p := 1) (by omega), List.length_append, il_add, H0, H1]
                                                exact (T6.out).far (by omega) _
                                            case measure => simp [intOf]; omega))))
                                    · exact (by
                                      rw [hp] at P4
                                      have P4 := Lib.hid (show ∀ g W, Below wr.heap.size wr W → Reads W W.heap.size (some ⟨g, 0, none⟩) 3 (il (dg 2 3 j)) → Calls Tryz.prog 20 #[.agg #[.int .i64 8, .int .i64 0, .slice AH 3 cH, .slice none 0 0, .slice (some ⟨gc, 0, none⟩) 2 cc], .slice (some ⟨g, 0, none⟩) 3 3] W fun e W' => e = .returned (.tuple #[.int .i64 1, .int .i64 0]) ∧ Below wr.heap.size wr W' ∧ Below W.heap.size W W' from P4)
                                      go_wp2_with fail
                                      go_region_held_law (fun W => W.cell? ⟨w.heap.size, 0, none⟩ = some (.int .i64 2) ∧ W.cell? ⟨w.heap.size, 1, none⟩ = some (.int .i64 0) ∧ W.cell? ⟨w.heap.size, 2, none⟩ = some (.slice AH 3 cH) ∧ W.cell? ⟨w.heap.size, 3, none⟩ = some (.slice none 0 0) ∧ W.cell? ⟨w.heap.size, 4, none⟩ = some (.slice (some ⟨gR, oR, none⟩) 2 cR) ∧ W.cell? ⟨gx, 0, none⟩ = some (.int .i64 8) ∧ W.cell? ⟨gx, 1, none⟩ = some (.int .i64 0) ∧ W.cell? ⟨gx, 2, none⟩ = some (.slice AH 3 cH) ∧ W.cell? ⟨gx, 3, none⟩ = some (.slice none 0 0) ∧ W.cell? ⟨gx, 4, none⟩ = some (.slice (some ⟨gc, 0, none⟩) 2 cc))
                                        (first | assumption | (refine KQ.out _ ?_; (with_reducible (repeat (first | assumption | exact Below.refl _ _ | refine Below.drew' ?_ | refine Below.alloc' ?_ _))); done) | go_keep)
                                        (first
                                        | (go_at_call 28; (with_reducible refine (P3.out _ ?_).mono ?_); (with_reducible (repeat (first | assumption | exact Below.refl _ _ | refine Below.drew' ?_ | refine Below.alloc' ?_ _))); rintro e wa ⟨g, rfl, hr, ha1, ha2⟩)
                                        | (go_at_call 20; (with_reducible refine (P4.out g _ ha1 hr).mono ?_); rintro e wb ⟨rfl, hb1, hb2⟩))
                                      exact (by
                                        have TB := Lib.hid (HT.out.below hb1)
                                        have GB := Lib.hid (HG.out.below hb1 HG.out.lt)
                                        have BB := Lib.hid (HB.out.trans (hb1.mono HB.out.size))
                                        have hzb := Nat.le_trans hz hb1.size
                                        have gf := GB.out.frozen 1
                                        obtain ⟨y0, y1, y2, y3, y4, y5, y6, y7, y8⟩ := GB.out.eight
                                        clear hb1 hb2 ha1 ha2 hr KQ P3 P4
                                        exact (by
                                          go_wp2_with (at_builtin; refine wpList_append1L rfl _ _ 27 rfl (wc.heap.size + 1) 3 i0 (.int .i64 0) 8 Tryz.underlying27 hi hz0 hz1 hz2 rfl A1 n1 d1 _ rfl TB.out.2.1 (.int .i64 (j : Int)) rfl rfl (by unfold maxLen; omega) (by omega) hzb ?_; intro g6 c6 w6 hown6 hbel6 hgr6 hat6; have q6 := GB.out.below hbel6 (Nat.lt_succ_self _); have gf6 := q6.frozen 1; have gy6 := q6.eight.2.1)
                                          have T6 := Lib.hid ((TB.out.swap).left hown6 hgr6 hat6)
                                          have F6 := Lib.hid (show Blk w6 wc.heap.size 91 #[.slice A0 n0 d0, .slice A1 n1 d1, .slice none 0 0, .slice none 0 0, .slice none 0 0, .slice none 0 0, .slice none 0 0, .slice none 0 0] from q6)
                                          have B6 := Lib.hid (show Below w7.heap.size w7 w6 from BB.out.trans (hbel6.mono (by omega)))
                                          have hz6 := Nat.le_trans hzb hbel6.size
                                          have hlt6 := F6.out.lt
                                          clear hown6 hgr6 hat6 hbel6 q6
                                          exact (by
                                            go_wp2_with fail
                                            go_roundw
                                            case rel =>
                                              have H0 := HN0.out
                                              have H1 := HN1.out
                                              refine ⟨j + 1, A0, some ⟨g6, 0, none⟩, d0, c6, by omega, by go_num, Lib.hid ?_, Lib.hid ?_, Lib.hid (B6.out.setCell (p := ⟨wc.heap.size, 1, none⟩) (by show w7.heap.size ≤ wc.heap.size; omega) _), by simpa [World.setCell] using hz6⟩
                                              · rw [fp_yes (p := 1) hp, fp_no (p := 0) (by omega), List.length_append, H0, H1]
                                                simpa using F6.out.set_ 1 (.slice (some ⟨g6, 0, none⟩) (n1 + 1) c6)
                                              · rw [fp_yes (p := 1) hp, fp_no (p := 0) (by omega), List.length_append, il_add, H0, H1]
                                                exact (T6.out.swap).far (by omega) _
                                            case measure => simp [intOf]; omega)))))
                                · obtain rfl : j = 8 := by omega
                                  rw [fp_zero, fp_one] at HG HT
                                  simp only [List.length_cons, List.length_nil, Nat.zero_add, Nat.reduceAdd] at HG HT
                                  have X8 := Lib.hid (X7.out.below HB.out X7.out.lt)
                                  have V8 := Lib.hid (W7.out.below HB.out W7.out.lt)
                                  obtain ⟨t0, t1, t2, t3, t4, t5⟩ := X8.out.five
                                  have v0 := V8.out.one.1
                                  have v1 := V8.out.lt
                                  have BR := Lib.hid (BW.out.trans (HB.out.mono BW.out.size))
                                  exact (by
                                    go_wp2_with (go_at_call 51; (with_reducible refine (chunk_any _ _ _ _).mono ?_); rintro e wk ⟨rfl, rfl⟩)
                                    obtain ⟨K13, KS, KN, B3⟩ := three_blks wr #[.slice none 0 0] #[.slice (some ⟨gR, oR, none⟩) 2 cR] #[.int .i64 1] 62 24 3
                                    have hsS : (((wr.alloc (.cells #[.slice none 0 0] 62)).alloc (.cells #[.slice (some ⟨gR, oR, none⟩) 2 cR] 24)).alloc (.cells #[.int .i64 1] 3)).heap.size = wr.heap.size + 3 := by simp
                                    generalize ((wr.alloc (.cells #[.slice none 0 0] 62)).alloc (.cells #[.slice (some ⟨gR, oR, none⟩) 2 cR] 24)).alloc (.cells #[.int .i64 1] 3) = wS at K13 KS KN B3 hsS ⊢
                                    have K13 := Lib.hid K13
                                    have KS := Lib.hid KS
                                    have KN := Lib.hid KN
                                    have B3 := Lib.hid B3
                                    clear t0 t1 t2 t3 t4 t5 v0 v1
                                    have HIO := irow_own (b13 := wr.heap.size) (B := wS.heap.size) (wr := wr) (Nat.le_refl _) (by omega)
                                    exact (by
                                      refine (wpIn_wide (n := 9)).1 ?_
                                      refine' wpIn_rangeFunc_ownG rfl (by omega) (gf := 82) (lb := #[.pointer (some ⟨wr.heap.size + 1, 0, none⟩), .pointer (some ⟨wr.heap.size + 1 + 1, 0, none⟩)]) rfl trivial (enters_of Tryz.func82 (by kernel_rfl) rfl)
                                        (encs := encC gR oR) (Kp := KpC (wr.heap.size + 1) (wr.heap.size + 1 + 1)) (S := fun ys => ys = [0, 1]) (Sp := fun _ => True) (N := 2) (w0 := wS)
                                        (fun l J Jx W hW hJ _ hY h0 => chunk1_in gR oR cR hR (9 - 1) (by omega) l (wr.heap.size + 1) (wr.heap.size + 1 + 1) J Jx W (fun pre W1 h1 => hJ pre W1 W1.drew none h1 ⟨rfl, rfl, rfl, Nat.le_refl _, fun _ _ _ => rfl⟩ (fun r e => by cases e)) hY (KS.out.below hW KS.out.lt) (KN.out.below hW KN.out.lt) h0)
                                        (fun h k => h.trans k) (fun W l o o' hl _ _ _ => KpC.put (by omega) (by omega)) (Below.refl _ _) (fun _ => rfl)
                                        (Irow wr.heap.size wS.heap.size wr) (fun _ _ _ => False) HIO (fun _ _ _ _ _ hs _ _ => hs) ⟨⟨none, 0, K13.out, World.ownsRow_nil _ _ _ _⟩, B3.out, Nat.le_refl _⟩ _ ?assign ?body ?done ?stop
                                      case assign =>
                                        intro l x W K hK
                                        unfold encC
                                        gi_wp2
                                        exact hK
                                      case body =>
                                        rintro l' pre x W ⟨⟨Av, cv, hk, ho⟩, hb, hBW⟩ hlt
                                        have DW := Lib.hid hb
                                        have P1 := Lib.hid (show ∀ W', Calls Tryz.prog 23 #[.agg #[.int .i64 2, .int .i64 0, .slice AH 3 cH, .slice none 0 0, .slice (some ⟨gR, oR, none⟩) 2 cR], .slice (some ⟨gR, oR + 2 * x.val, none⟩) 1 1] W' fun e W'' => e = .returned (.agg #[.int .i64 2, .int .i64 0, .slice AH 3 cH, .slice none 0 0, .slice (some ⟨gR, oR + 2 * x.val, none⟩) 1 1]) ∧ Below W'.heap.size W' W'' from fun W' => withRows_any 2 0 AH none (some ⟨gR, oR, none⟩) (some ⟨gR, oR + 2 * x.val, none⟩) 3 0 2 1 cH 0 cR 1 W')
                                        have FIN := (fun wb w7 g' c' (hwb : Below W.heap.size W wb) (hg : wb.grownBy w7 (Value.slice Av pre.length cv).ownBlock) (h7 : w7.ownsRow wS.heap.size 4 1 (.slice (some ⟨g', 0, none⟩) (pre.length + 1) c') (pre.length + 1) (bl (dvs pre) ++ [.bool (dv pre.length x)])) =>
                                          And.intro (rnd_fin (b13 := wr.heap.size) (B := wS.heap.size) (Bs := wr.heap.size + 1) (Bn := wr.heap.size + 1 + 1) (wr := wr) ⟨by omega, by omega, by omega⟩ hBW hk ho hb (Nat.le_refl _) hwb hg h7) (rnd_q hk ho hb (by omega) (by omega) (Nat.le_refl _) hwb hg))
                                        have hn2 : pre.length = 0 ∨ pre.length = 1 := by omega
                                        rcases hn2 with hn | hn
                                        · exact (by
                                            rw [hn] at hk ho FIN
                                            simp only [Nat.zero_add, Nat.reduceAdd] at FIN
                                            have HO := Lib.hid ho
                                            have FIN := Lib.hid FIN
                                            have KQ := Lib.hid (fun W (hb : Below wr.heap.size wr W) => show W.cell? ⟨w.heap.size, 0, none⟩ = some (.int .i64 2) ∧ W.cell? ⟨w.heap.size, 1, none⟩ = some (.int .i64 0) ∧ W.cell? ⟨w.heap.size, 2, none⟩ = some (.slice AH 3 cH) ∧ W.cell? ⟨w.heap.size, 3, none⟩ = some (.slice none 0 0) ∧ W.cell? ⟨w.heap.size, 4, none⟩ = some (.slice (some ⟨gR, oR, none⟩) 2 cR) ∧ W.cell? ⟨w.heap.size + 1, 0, none⟩ = some (.int .i64 1) ∧ W.cell? ⟨wc.heap.size, 0, none⟩ = some (.slice A0 4 d0) from
                                              have q := (X8.out.below hb X8.out.lt).five
                                              have r := (V8.out.below hb V8.out.lt).one
                                              have g := (HG.out.below hb HG.out.lt).eight
                                              ⟨q.1, q.2.1, q.2.2.1, q.2.2.2.1, q.2.2.2.2.1, r.1, g.1⟩)
                                            have Q13 := Lib.hid (fun W' (hb' : Below W.heap.size W W') => show W'.cell? ⟨wr.heap.size, 0, none⟩ = some (.slice Av 0 cv) from (hk.below hb' hk.lt).one.1)
                                            have P2 := Lib.hid (show ∀ W', Below W.heap.size W W' → Calls Tryz.prog 29 #[.agg #[.int .i64 2, .int .i64 0, .slice AH 3 cH, .slice none 0 0, .slice (some ⟨gR, oR + 2 * x.val, none⟩) 1 1], .slice A0 4 d0] W' fun e W'' => ∃ gd, e = .returned (.slice (some ⟨gd, 0, none⟩) 1 1) ∧ Blk W'' gd 4 #[.bool (dv 0 x)] ∧ Below W.heap.size W W'' from fun W' hb' => by
                                              have hx2 : x.val < 2 := x.isLt
                                              have hbr := DW.out.trans (hb'.mono DW.out.size)
                                              have tr := alone_tr (i := x.val) (HTR.out.later (BR.out.trans (hbr.mono BR.out.size))) hx2
                                              rw [show oR + x.val * 2 = oR + 2 * x.val by omega] at tr
                                              exact (dec_one 2 AH cH none 0 (some ⟨gR, oR + 2 * x.val, none⟩) 1 (alone T0 x.val) A0 4 d0 [0, 1, 4, 5] W' (HM.out.below (BR.out.trans (hbr.mono BR.out.size)) HM.out.1) tr (alone_bd bd0 hx2) (alone_rt rt0 hx2) rfl rfl ((Reads.of_own HT.out.1).later hbr) (by omega) (by decide)).mono fun e W'' ⟨gd, he, hkd, _, hx⟩ => ⟨gd, he, hkd, hb'.trans (hx.mono hb'.size)⟩)
                                            have q0 := Q13.out W (Below.refl _ _)
                                            have f0 := hk.frozen 0
                                            have wr0 : IntKind.i64.wrap 0 = 0 := by decide
                                            have wr1 : IntKind.i64.wrap 1 = 1 := by decide
                                            clear hk ho
                                            refine wpIn_block ?_
                                            refine wpIn_region_round (fun W => W.cell? ⟨w.heap.size, 0, none⟩ = some (.int .i64 2) ∧ W.cell? ⟨w.heap.size, 1, none⟩ = some (.int .i64 0) ∧ W.cell? ⟨w.heap.size, 2, none⟩ = some (.slice AH 3 cH) ∧ W.cell? ⟨w.heap.size, 3, none⟩ = some (.slice none 0 0) ∧ W.cell? ⟨w.heap.size, 4, none⟩ = some (.slice (some ⟨gR, oR, none⟩) 2 cR) ∧ W.cell? ⟨w.heap.size + 1, 0, none⟩ = some (.int .i64 1) ∧ W.cell? ⟨wc.heap.size, 0, none⟩ = some (.slice A0 4 d0)) (by kernel_rfl) (fun _ _ h => h) (by kernel_rfl) (KQ.out _ DW.out.drew) (fun hHeld => ?_)
                                            refine wpAnyH_take (i := 1) (oi := _) (v := .agg #[.int .i64 2, .int .i64 0, .slice AH 3 cH, .slice none 0 0, .slice (some ⟨gR, oR, none⟩) 2 cR]) rfl (by kernel_rfl) (by kernel_rfl) (by kernel_rfl) (fun _ _ _ h => h) (Or.inl ⟨by rfl, ?_⟩) (by assumption) ?_
                                            · intro w hSw
                                              (try dsimp only at hSw)
                                              go_simp
                                              all_goals (with_reducible rfl)
                                            simp only [Act.put, List.setIfInBounds_toArray, List.set_cons_zero, List.set_cons_succ]
                                            refine wpAnyH_take (i := 2) (oi := _) (v := .slice (some ⟨gR, oR + 2 * x.val, none⟩) 1 1) rfl (by kernel_rfl) (by kernel_rfl) (by kernel_rfl) (fun _ _ _ h => h) (Or.inl ⟨by rfl, ?_⟩) (by assumption) ?_
                                            · intro w hSw
                                              (try dsimp only at hSw)
                                              go_simp
                                              all_goals (with_reducible rfl)
                                            simp only [Act.put, List.setIfInBounds_toArray, List.set_cons_zero, List.set_cons_succ]
                                            refine wpAnyH_take (i := 6) (oi := _) (v := .int .i64 1) rfl (by kernel_rfl) (by kernel_rfl) (by kernel_rfl) (fun _ _ _ h => h) (Or.inl ⟨by rfl, ?_⟩) (by assumption) ?_
                                            · intro w hSw
                                              (try dsimp only at hSw)
                                              go_simp
                                              all_goals (with_reducible rfl)
                                            simp only [Act.put, List.setIfInBounds_toArray, List.set_cons_zero, List.set_cons_succ]
                                            refine wpAnyH_ready (rs := [0, 3, 4]) (by kernel_rfl) (by simp) ?_
                                            refine AllReadyH.cons rfl (fun K hK => ?_) ?_
                                            · exact (by
                                                go_simp
                                                refine hK.out _ _ ?_ (fun hHeld => ?_)
                                                · (refine KQ.out _ ?_; first | assumption | exact DW.out | exact (show Below wr.heap.size wr W.drew from DW.out.drew))
                                                clear hK K
                                                (try simp only [Act.put, List.setIfInBounds_toArray, List.set_cons_zero, List.set_cons_succ])
                                                refine wpAnyH_ready (rs := [3, 4]) (by kernel_rfl) (by simp) ?_
                                                refine AllReadyH.cons rfl (fun K hK => ?_) ?_
                                                · exact (by
                                                    go_simp
                                                    go_wp2_with (go_at_call 23; (with_reducible refine (P1.out _).mono ?_); rintro e wa ⟨rfl, hwa⟩; have hwa : Below W.heap.size W wa := ⟨hwa.os, hwa.tape, hwa.output, hwa.size, hwa.block⟩; have DA : Below wr.heap.size wr wa := DW.out.trans (hwa.mono DW.out.size); have qa := Q13.out wa hwa)
                                                    refine hK.out _ _ ?_ (fun hHeld => ?_)
                                                    · (refine KQ.out _ ?_; first | assumption | exact DW.out | exact (show Below wr.heap.size wr W.drew from DW.out.drew))
                                                    clear hK K
                                                    (try simp only [Act.put, List.setIfInBounds_toArray, List.set_cons_zero, List.set_cons_succ])
                                                    refine wpAnyH_ready (rs := [4]) (by kernel_rfl) (by simp) ?_
                                                    refine AllReadyH.cons rfl (fun K hK => ?_) ?_
                                                    · exact (by
                                                        go_simp
                                                        refine hK.out _ _ ?_ (fun hHeld => ?_)
                                                        · (refine KQ.out _ ?_; first | assumption | exact DW.out | exact (show Below wr.heap.size wr W.drew from DW.out.drew))
                                                        clear hK K
                                                        (try simp only [Act.put, List.setIfInBounds_toArray, List.set_cons_zero, List.set_cons_succ])
                                                        refine wpAnyH_take (i := 5) (oi := _) (v := .int .i64 0) rfl (by kernel_rfl) (by kernel_rfl) (by kernel_rfl) (fun _ _ _ h => h) (Or.inl ⟨by rfl, ?_⟩) (by assumption) ?_
                                                        · intro w hSw
                                                          (try dsimp only at hSw)
                                                          go_simp
                                                          all_goals (with_reducible rfl)
                                                        simp only [Act.put, List.setIfInBounds_toArray, List.set_cons_zero, List.set_cons_succ]
                                                        refine wpAnyH_take (i := 7) (oi := _) (v := .int .i64 0) rfl (by kernel_rfl) (by kernel_rfl) (by kernel_rfl) (fun _ _ _ h => h) (Or.inl ⟨by rfl, ?_⟩) (by assumption) ?_
                                                        · intro w hSw
                                                          (try dsimp only at hSw)
                                                          go_simp
                                                          all_goals (with_reducible rfl)
                                                        simp only [Act.put, List.setIfInBounds_toArray, List.set_cons_zero, List.set_cons_succ]
                                                        refine wpAnyH_take (i := 8) (oi := _) (v := .pointer (some ⟨wc.heap.size, 0, none⟩)) rfl (by kernel_rfl) (by kernel_rfl) (by kernel_rfl) (fun _ _ _ h => h) (Or.inl ⟨by rfl, ?_⟩) (by assumption) ?_
                                                        · intro w hSw
                                                          (try dsimp only at hSw)
                                                          go_simp
                                                          all_goals (with_reducible rfl)
                                                        simp only [Act.put, List.setIfInBounds_toArray, List.set_cons_zero, List.set_cons_succ]
                                                        refine wpAnyH_take (i := 9) (oi := _) (v := .slice A0 4 d0) rfl (by kernel_rfl) (by kernel_rfl) (by kernel_rfl) (fun _ _ _ h => h) (Or.inl ⟨by rfl, ?_⟩) (by assumption) ?_
                                                        · intro w hSw
                                                          (try dsimp only at hSw)
                                                          go_simp
                                                          all_goals (with_reducible rfl)
                                                        simp only [Act.put, List.setIfInBounds_toArray, List.set_cons_zero, List.set_cons_succ]
                                                        refine wpAnyH_ready (rs := [10]) (by kernel_rfl) (by simp) ?_
                                                        refine AllReadyH.cons rfl (fun K hK => ?_) ?_
                                                        · exact (by
                                                            go_simp
                                                            go_wp2_with (go_at_call 29; (with_reducible refine (P2.out wa hwa).mono ?_); rintro e wb ⟨gd, rfl, hkd, hwb⟩; have KD := Lib.hid hkd; have DB : Below wr.heap.size wr wb := DW.out.trans (hwb.mono DW.out.size); have qb := Q13.out wb hwb; have OB := Lib.hid (own_below HO.out hwb); clear hkd)
                                                            refine hK.out _ _ ?_ (fun hHeld => ?_)
                                                            · (refine KQ.out _ ?_; first | assumption | exact DW.out | exact (show Below wr.heap.size wr W.drew from DW.out.drew))
                                                            clear hK K
                                                            (try simp only [Act.put, List.setIfInBounds_toArray, List.set_cons_zero, List.set_cons_succ])
                                                            refine wpAnyH_ready (rs := [11]) (by kernel_rfl) (by simp) ?_
                                                            refine AllReadyH.cons rfl (fun K hK => ?_) ?_
                                                            · exact (by
                                                                refine step_append_lies _ (by rfl) _ _ _ (by rfl) wS.heap.size 4 ib (.bool false) 1 1 Tryz.underlying62 hib hib0 hib1 hib2 rfl (by decide) (.slice Av 0 cv) 0 (bl (dvs pre)) (by rfl) OB.out ⟨gd, 0, none⟩ 1 1 [.bool (dv 0 x)] (by rfl) (by rfl) (World.news_of_block (cs := #[.bool (dv 0 x)]) (t := 4) (fr := (0, 0)) KD.out) (by simp [Value.oneCell']) (by omega) (by unfold maxLen; omega) (by omega) (by have := hwb.size; omega) wb.heap.size rfl ?_
                                                                intro g7 c7 w7 hown7 hgrow7 hat7 hlt7
                                                                obtain ⟨FF, q7, f7, D7⟩ := FIN.out wb w7 g7 c7 hwb hgrow7 hown7
                                                                refine hK.out _ _ ?_ (fun hHeld => ?_)
                                                                · (refine KQ.out _ ?_; first | assumption | exact DW.out | exact (show Below wr.heap.size wr W.drew from DW.out.drew))
                                                                clear hK K
                                                                (try simp only [Act.put, List.setIfInBounds_toArray, List.set_cons_zero, List.set_cons_succ])
                                                                refine wpAnyH_ready (rs := [12]) (by kernel_rfl) (by simp) ?_
                                                                refine AllReadyH.cons rfl (fun K hK => ?_) ?_
                                                                · exact (by
                                                                    go_simp
                                                                    refine hK.out _ _ ?_ (fun hHeld => ?_)
                                                                    · exact KQ.out _ (D7.setCell (p := ⟨wr.heap.size, 0, none⟩) (Nat.le_refl _) _)
                                                                    clear hK K
                                                                    (try simp only [Act.put, List.setIfInBounds_toArray, List.set_cons_zero, List.set_cons_succ])
                                                                    refine wpAnyH_done (by kernel_rfl) ?_ _
                                                                    exact FF)
                                                                exact AllReadyH.nil)
                                                            exact AllReadyH.nil)
                                                        exact AllReadyH.nil)
                                                    exact AllReadyH.nil)
                                                refine AllReadyH.cons rfl (fun K hK => ?_) ?_
                                                · exact (by
                                                    go_simp
                                                    refine hK.out _ _ ?_ (fun hHeld => ?_)
                                                    · (refine KQ.out _ ?_; first | assumption | exact DW.out | exact (show Below wr.heap.size wr W.drew from DW.out.drew))
                                                    clear hK K
                                                    (try simp only [Act.put, List.setIfInBounds_toArray, List.set_cons_zero, List.set_cons_succ])
                                                    refine wpAnyH_take (i := 5) (oi := _) (v := .int .i64 0) rfl (by kernel_rfl) (by kernel_rfl) (by kernel_rfl) (fun _ _ _ h => h) (Or.inl ⟨by rfl, ?_⟩) (by assumption) ?_
                                                    · intro w hSw
                                                      (try dsimp only at hSw)
                                                      go_simp
                                                      all_goals (with_reducible rfl)
                                                    simp only [Act.put, List.setIfInBounds_toArray, List.set_cons_zero, List.set_cons_succ]
                                                    refine wpAnyH_take (i := 7) (oi := _) (v := .int .i64 0) rfl (by kernel_rfl) (by kernel_rfl) (by kernel_rfl) (fun _ _ _ h => h) (Or.inl ⟨by rfl, ?_⟩) (by assumption) ?_
                                                    · intro w hSw
                                                      (try dsimp only at hSw)
                                                      go_simp
                                                      all_goals (with_reducible rfl)
                                                    simp only [Act.put, List.setIfInBounds_toArray, List.set_cons_zero, List.set_cons_succ]
                                                    refine wpAnyH_take (i := 8) (oi := _) (v := .pointer (some ⟨wc.heap.size, 0, none⟩)) rfl (by kernel_rfl) (by kernel_rfl) (by kernel_rfl) (fun _ _ _ h => h) (Or.inl ⟨by rfl, ?_⟩) (by assumption) ?_
                                                    · intro w hSw
                                                      (try dsimp only at hSw)
                                                      go_simp
                                                      all_goals (with_reducible rfl)
                                                    simp only [Act.put, List.setIfInBounds_toArray, List.set_cons_zero, List.set_cons_succ]
                                                    refine wpAnyH_take (i := 9) (oi := _) (v := .slice A0 4 d0) rfl (by kernel_rfl) (by kernel_rfl) (by kernel_rfl) (fun _ _ _ h => h) (Or.inl ⟨by rfl, ?_⟩) (by assumption) ?_
                                                    · intro w hSw
                                                      (try dsimp only at hSw)
                                                      go_simp
                                                      all_goals (with_reducible rfl)
                                                    simp only [Act.put, List.setIfInBounds_toArray, List.set_cons_zero, List.set_cons_succ]
                                                    refine wpAnyH_ready (rs := [3]) (by kernel_rfl) (by simp) ?_
                                                    refine AllReadyH.cons rfl (fun K hK => ?_) ?_
                                                    · exact (by
                                                        go_simp
                                                        go_wp2_with (go_at_call 23; (with_reducible refine (P1.out _).mono ?_); rintro e wa ⟨rfl, hwa⟩; have hwa : Below W.heap.size W wa := ⟨hwa.os, hwa.tape, hwa.output, hwa.size, hwa.block⟩; have DA : Below wr.heap.size wr wa := DW.out.trans (hwa.mono DW.out.size); have qa := Q13.out wa hwa)
                                                        refine hK.out _ _ ?_ (fun hHeld => ?_)
                                                        · (refine KQ.out _ ?_; first | assumption | exact DW.out | exact (show Below wr.heap.size wr W.drew from DW.out.drew))
                                                        clear hK K
                                                        (try simp only [Act.put, List.setIfInBounds_toArray, List.set_cons_zero, List.set_cons_succ])
                                                        refine wpAnyH_ready (rs := [10]) (by kernel_rfl) (by simp) ?_
                                                        refine AllReadyH.cons rfl (fun K hK => ?_) ?_
                                                        · exact (by
                                                            go_simp
                                                            go_wp2_with (go_at_call 29; (with_reducible refine (P2.out wa hwa).mono ?_); rintro e wb ⟨gd, rfl, hkd, hwb⟩; have KD := Lib.hid hkd; have DB : Below wr.heap.size wr wb := DW.out.trans (hwb.mono DW.out.size); have qb := Q13.out wb hwb; have OB := Lib.hid (own_below HO.out hwb); clear hkd)
                                                            refine hK.out _ _ ?_ (fun hHeld => ?_)
                                                            · (refine KQ.out _ ?_; first | assumption | exact DW.out | exact (show Below wr.heap.size wr W.drew from DW.out.drew))
                                                            clear hK K
                                                            (try simp only [Act.put, List.setIfInBounds_toArray, List.set_cons_zero, List.set_cons_succ])
                                                            refine wpAnyH_ready (rs := [11]) (by kernel_rfl) (by simp) ?_
                                                            refine AllReadyH.cons rfl (fun K hK => ?_) ?_
                                                            · exact (by
                                                                refine step_append_lies _ (by rfl) _ _ _ (by rfl) wS.heap.size 4 ib (.bool false) 1 1 Tryz.underlying62 hib hib0 hib1 hib2 rfl (by decide) (.slice Av 0 cv) 0 (bl (dvs pre)) (by rfl) OB.out ⟨gd, 0, none⟩ 1 1 [.bool (dv 0 x)] (by rfl) (by rfl) (World.news_of_block (cs := #[.bool (dv 0 x)]) (t := 4) (fr := (0, 0)) KD.out) (by simp [Value.oneCell']) (by omega) (by unfold maxLen; omega) (by omega) (by have := hwb.size; omega) wb.heap.size rfl ?_
                                                                intro g7 c7 w7 hown7 hgrow7 hat7 hlt7
                                                                obtain ⟨FF, q7, f7, D7⟩ := FIN.out wb w7 g7 c7 hwb hgrow7 hown7
                                                                refine hK.out _ _ ?_ (fun hHeld => ?_)
                                                                · (refine KQ.out _ ?_; first | assumption | exact DW.out | exact (show Below wr.heap.size wr W.drew from DW.out.drew))
                                                                clear hK K
                                                                (try simp only [Act.put, List.setIfInBounds_toArray, List.set_cons_zero, List.set_cons_succ])
                                                                refine wpAnyH_ready (rs := [12]) (by kernel_rfl) (by simp) ?_
                                                                refine AllReadyH.cons rfl (fun K hK => ?_) ?_
                                                                · exact (by
                                                                    go_simp
                                                                    refine hK.out _ _ ?_ (fun hHeld => ?_)
                                                                    · exact KQ.out _ (D7.setCell (p := ⟨wr.heap.size, 0, none⟩) (Nat.le_refl _) _)
                                                                    clear hK K
                                                                    (try simp only [Act.put, List.setIfInBounds_toArray, List.set_cons_zero, List.set_cons_succ])
                                                                    refine wpAnyH_done (by kernel_rfl) ?_ _
                                                                    exact FF)
                                                                exact AllReadyH.nil)
                                                            exact AllReadyH.nil)
                                                        exact AllReadyH.nil)
                                                    exact AllReadyH.nil)
                                                exact AllReadyH.nil)
                                            refine AllReadyH.cons rfl (fun K hK => ?_) ?_
                                            · exact (by
                                                go_simp
                                                go_wp2_with (go_at_call 23; (with_reducible refine (P1.out _).mono ?_); rintro e wa ⟨rfl, hwa⟩; have hwa : Below W.heap.size W wa := ⟨hwa.os, hwa.tape, hwa.output, hwa.size, hwa.block⟩; have DA : Below wr.heap.size wr wa := DW.out.trans (hwa.mono DW.out.size); have qa := Q13.out wa hwa)
                                                refine hK.out _ _ ?_ (fun hHeld => ?_)
                                                · (refine KQ.out _ ?_; first | assumption | exact DW.out | exact (show Below wr.heap.size wr W.drew from DW.out.drew))
                                                clear hK K
                                                (try simp only [Act.put, List.setIfInBounds_toArray, List.set_cons_zero, List.set_cons_succ])
                                                refine wpAnyH_ready (rs := [0, 4]) (by kernel_rfl) (by simp) ?_
                                                refine AllReadyH.cons rfl (fun K hK => ?_) ?_
                                                · exact (by
                                                    go_simp
                                                    refine hK.out _ _ ?_ (fun hHeld => ?_)
                                                    · (refine KQ.out _ ?_; first | assumption | exact DW.out | exact (show Below wr.heap.size wr W.drew from DW.out.drew))
                                                    clear hK K
                                                    (try simp only [Act.put, List.setIfInBounds_toArray, List.set_cons_zero, List.set_cons_succ])
                                                    refine wpAnyH_ready (rs := [4]) (by kernel_rfl) (by simp) ?_
                                                    refine AllReadyH.cons rfl (fun K hK => ?_) ?_
                                                    · exact (by
                                                        go_simp
                                                        refine hK.out _ _ ?_ (fun hHeld => ?_)
                                                        · (refine KQ.out _ ?_; first | assumption | exact DW.out | exact (show Below wr.heap.size wr W.drew from DW.out.drew))
                                                        clear hK K
                                                        (try simp only [Act.put, List.setIfInBounds_toArray, List.set_cons_zero, List.set_cons_succ])
                                                        refine wpAnyH_take (i := 5) (oi := _) (v := .int .i64 0) rfl (by kernel_rfl) (by kernel_rfl) (by kernel_rfl) (fun _ _ _ h => h) (Or.inl ⟨by rfl, ?_⟩) (by assumption) ?_
                                                        · intro w hSw
                                                          (try dsimp only at hSw)
                                                          go_simp
                                                          all_goals (with_reducible rfl)
                                                        simp only [Act.put, List.setIfInBounds_toArray, List.set_cons_zero, List.set_cons_succ]
                                                        refine wpAnyH_take (i := 7) (oi := _) (v := .int .i64 0) rfl (by kernel_rfl) (by kernel_rfl) (by kernel_rfl) (fun _ _ _ h => h) (Or.inl ⟨by rfl, ?_⟩) (by assumption) ?_
                                                        · intro w hSw
                                                          (try dsimp only at hSw)
                                                          go_simp
                                                          all_goals (with_reducible rfl)
                                                        simp only [Act.put, List.setIfInBounds_toArray, List.set_cons_zero, List.set_cons_succ]
                                                        refine wpAnyH_take (i := 8) (oi := _) (v := .pointer (some ⟨wc.heap.size, 0, none⟩)) rfl (by kernel_rfl) (by kernel_rfl) (by kernel_rfl) (fun _ _ _ h => h) (Or.inl ⟨by rfl, ?_⟩) (by assumption) ?_
                                                        · intro w hSw
                                                          (try dsimp only at hSw)
                                                          go_simp
                                                          all_goals (with_reducible rfl)
                                                        simp only [Act.put, List.setIfInBounds_toArray, List.set_cons_zero, List.set_cons_succ]
                                                        refine wpAnyH_take (i := 9) (oi := _) (v := .slice A0 4 d0) rfl (by kernel_rfl) (by kernel_rfl) (by kernel_rfl) (fun _ _ _ h => h) (Or.inl ⟨by rfl, ?_⟩) (by assumption) ?_
                                                        · intro w hSw
                                                          (try dsimp only at hSw)
                                                          go_simp
                                                          all_goals (with_reducible rfl)
                                                        simp only [Act.put, List.setIfInBounds_toArray, List.set_cons_zero, List.set_cons_succ]
                                                        refine wpAnyH_ready (rs := [10]) (by kernel_rfl) (by simp) ?_
                                                        refine AllReadyH.cons rfl (fun K hK => ?_) ?_
                                                        · exact (by
                                                            go_simp
                                                            go_wp2_with (go_at_call 29; (with_reducible refine (P2.out wa hwa).mono ?_); rintro e wb ⟨gd, rfl, hkd, hwb⟩; have KD := Lib.hid hkd; have DB : Below wr.heap.size wr wb := DW.out.trans (hwb.mono DW.out.size); have qb := Q13.out wb hwb; have OB := Lib.hid (own_below HO.out hwb); clear hkd)
                                                            refine hK.out _ _ ?_ (fun hHeld => ?_)
                                                            · (refine KQ.out _ ?_; first | assumption | exact DW.out | exact (show Below wr.heap.size wr W.drew from DW.out.drew))
                                                            clear hK K
                                                            (try simp only [Act.put, List.setIfInBounds_toArray, List.set_cons_zero, List.set_cons_succ])
                                                            refine wpAnyH_ready (rs := [11]) (by kernel_rfl) (by simp) ?_
                                                            refine AllReadyH.cons rfl (fun K hK => ?_) ?_
                                                            · exact (by
                                                                refine step_append_lies _ (by rfl) _ _ _ (by rfl) wS.heap.size 4 ib (.bool false) 1 1 Tryz.underlying62 hib hib0 hib1 hib2 rfl (by decide) (.slice Av 0 cv) 0 (bl (dvs pre)) (by rfl) OB.out ⟨gd, 0, none⟩ 1 1 [.bool (dv 0 x)] (by rfl) (by rfl) (World.news_of_block (cs := #[.bool (dv 0 x)]) (t := 4) (fr := (0, 0)) KD.out) (by simp [Value.oneCell']) (by omega) (by unfold maxLen; omega) (by omega) (by have := hwb.size; omega) wb.heap.size rfl ?_
                                                                intro g7 c7 w7 hown7 hgrow7 hat7 hlt7
                                                                obtain ⟨FF, q7, f7, D7⟩ := FIN.out wb w7 g7 c7 hwb hgrow7 hown7
                                                                refine hK.out _ _ ?_ (fun hHeld => ?_)
                                                                · (refine KQ.out _ ?_; first | assumption | exact DW.out | exact (show Below wr.heap.size wr W.drew from DW.out.drew))
                                                                clear hK K
                                                                (try simp only [Act.put, List.setIfInBounds_toArray, List.set_cons_zero, List.set_cons_succ])
                                                                refine wpAnyH_ready (rs := [12]) (by kernel_rfl) (by simp) ?_
                                                                refine AllReadyH.cons rfl (fun K hK => ?_) ?_
                                                                · exact (by
                                                                    go_simp
                                                                    refine hK.out _ _ ?_ (fun hHeld => ?_)
                                                                    · exact KQ.out _ (D7.setCell (p := ⟨wr.heap.size, 0, none⟩) (Nat.le_refl _) _)
                                                                    clear hK K
                                                                    (try simp only [Act.put, List.setIfInBounds_toArray, List.set_cons_zero, List.set_cons_succ])
                                                                    refine wpAnyH_done (by kernel_rfl) ?_ _
                                                                    exact FF)
                                                                exact AllReadyH.nil)
                                                            exact AllReadyH.nil)
                                                        exact AllReadyH.nil)
                                                    exact AllReadyH.nil)
                                                refine AllReadyH.cons rfl (fun K hK => ?_) ?_
                                                · exact (by
                                                    go_simp
                                                    refine hK.out _ _ ?_ (fun hHeld => ?_)
                                                    · (refine KQ.out _ ?_; first | assumption | exact DW.out | exact (show Below wr.heap.size wr W.drew from DW.out.drew))
                                                    clear hK K
                                                    (try simp only [Act.put, List.setIfInBounds_toArray, List.set_cons_zero, List.set_cons_succ])
                                                    refine wpAnyH_take (i := 5) (oi := _) (v := .int .i64 0) rfl (by kernel_rfl) (by kernel_rfl) (by kernel_rfl) (fun _ _ _ h => h) (Or.inl ⟨by rfl, ?_⟩) (by assumption) ?_
                                                    · intro w hSw
                                                      (try dsimp only at hSw)
                                                      go_simp
                                                      all_goals (with_reducible rfl)
                                                    simp only [Act.put, List.setIfInBounds_toArray, List.set_cons_zero, List.set_cons_succ]
                                                    refine wpAnyH_take (i := 7) (oi := _) (v := .int .i64 0) rfl (by kernel_rfl) (by kernel_rfl) (by kernel_rfl) (fun _ _ _ h => h) (Or.inl ⟨by rfl, ?_⟩) (by assumption) ?_
                                                    · intro w hSw
                                                      (try dsimp only at hSw)
                                                      go_simp
                                                      all_goals (with_reducible rfl)
                                                    simp only [Act.put, List.setIfInBounds_toArray, List.set_cons_zero, List.set_cons_succ]
                                                    refine wpAnyH_take (i := 8) (oi := _) (v := .pointer (some ⟨wc.heap.size, 0, none⟩)) rfl (by kernel_rfl) (by kernel_rfl) (by kernel_rfl) (fun _ _ _ h => h) (Or.inl ⟨by rfl, ?_⟩) (by assumption) ?_
                                                    · intro w hSw
                                                      (try dsimp only at hSw)
                                                      go_simp
                                                      all_goals (with_reducible rfl)
                                                    simp only [Act.put, List.setIfInBounds_toArray, List.set_cons_zero, List.set_cons_succ]
                                                    refine wpAnyH_take (i := 9) (oi := _) (v := .slice A0 4 d0) rfl (by kernel_rfl) (by kernel_rfl) (by kernel_rfl) (fun _ _ _ h => h) (Or.inl ⟨by rfl, ?_⟩) (by assumption) ?_
                                                    · intro w hSw
                                                      (try dsimp only at hSw)
                                                      go_simp
                                                      all_goals (with_reducible rfl)
                                                    simp only [Act.put, List.setIfInBounds_toArray, List.set_cons_zero, List.set_cons_succ]
                                                    refine wpAnyH_ready (rs := [0, 10]) (by kernel_rfl) (by simp) ?_
                                                    refine AllReadyH.cons rfl (fun K hK => ?_) ?_
                                                    · exact (by
                                                        go_simp
                                                        refine hK.out _ _ ?_ (fun hHeld => ?_)
                                                        · (refine KQ.out _ ?_; first | assumption | exact DW.out | exact (show Below wr.heap.size wr W.drew from DW.out.drew))
                                                        clear hK K
                                                        (try simp only [Act.put, List.setIfInBounds_toArray, List.set_cons_zero, List.set_cons_succ])
                                                        refine wpAnyH_ready (rs := [10]) (by kernel_rfl) (by simp) ?_
                                                        refine AllReadyH.cons rfl (fun K hK => ?_) ?_
                                                        · exact (by
                                                            go_simp
                                                            go_wp2_with (go_at_call 29; (with_reducible refine (P2.out wa hwa).mono ?_); rintro e wb ⟨gd, rfl, hkd, hwb⟩; have KD := Lib.hid hkd; have DB : Below wr.heap.size wr wb := DW.out.trans (hwb.mono DW.out.size); have qb := Q13.out wb hwb; have OB := Lib.hid (own_below HO.out hwb); clear hkd)
                                                            refine hK.out _ _ ?_ (fun hHeld => ?_)
                                                            · (refine KQ.out _ ?_; first | assumption | exact DW.out | exact (show Below wr.heap.size wr W.drew from DW.out.drew))
                                                            clear hK K
                                                            (try simp only [Act.put, List.setIfInBounds_toArray, List.set_cons_zero, List.set_cons_succ])
                                                            refine wpAnyH_ready (rs := [11]) (by kernel_rfl) (by simp) ?_
                                                            refine AllReadyH.cons rfl (fun K hK => ?_) ?_
                                                            · exact (by
                                                                refine step_append_lies _ (by rfl) _ _ _ (by rfl) wS.heap.size 4 ib (.bool false) 1 1 Tryz.underlying62 hib hib0 hib1 hib2 rfl (by decide) (.slice Av 0 cv) 0 (bl (dvs pre)) (by rfl) OB.out ⟨gd, 0, none⟩ 1 1 [.bool (dv 0 x)] (by rfl) (by rfl) (World.news_of_block (cs := #[.bool (dv 0 x)]) (t := 4) (fr := (0, 0)) KD.out) (by simp [Value.oneCell']) (by omega) (by unfold maxLen; omega) (by omega) (by have := hwb.size; omega) wb.heap.size rfl ?_
                                                                intro g7 c7 w7 hown7 hgrow7 hat7 hlt7
                                                                obtain ⟨FF, q7, f7, D7⟩ := FIN.out wb w7 g7 c7 hwb hgrow7 hown7
                                                                refine hK.out _ _ ?_ (fun hHeld => ?_)
                                                                · (refine KQ.out _ ?_; first | assumption | exact DW.out | exact (show Below wr.heap.size wr W.drew from DW.out.drew))
                                                                clear hK K
                                                                (try simp only [Act.put, List.setIfInBounds_toArray, List.set_cons_zero, List.set_cons_succ])
                                                                refine wpAnyH_ready (rs := [12]) (by kernel_rfl) (by simp) ?_
                                                                refine AllReadyH.cons rfl (fun K hK => ?_) ?_
                                                                · exact (by
                                                                    go_simp
                                                                    refine hK.out _ _ ?_ (fun hHeld => ?_)
                                                                    · exact KQ.out _ (D7.setCell (p := ⟨wr.heap.size, 0, none⟩) (Nat.le_refl _) _)
                                                                    clear hK K
                                                                    (try simp only [Act.put, List.setIfInBounds_toArray, List.set_cons_zero, List.set_cons_succ])
                                                                    refine wpAnyH_done (by kernel_rfl) ?_ _
                                                                    exact FF)
                                                                exact AllReadyH.nil)
                                                            exact AllReadyH.nil)
                                                        exact AllReadyH.nil)
                                                    refine AllReadyH.cons rfl (fun K hK => ?_) ?_
                                                    · exact (by
                                                        go_simp
                                                        go_wp2_with (go_at_call 29; (with_reducible refine (P2.out wa hwa).mono ?_); rintro e wb ⟨gd, rfl, hkd, hwb⟩; have KD := Lib.hid hkd; have DB : Below wr.heap.size wr wb := DW.out.trans (hwb.mono DW.out.size); have qb := Q13.out wb hwb; have OB := Lib.hid (own_below HO.out hwb); clear hkd)
                                                        refine hK.out _ _ ?_ (fun hHeld => ?_)
                                                        · (refine KQ.out _ ?_; first | assumption | exact DW.out | exact (show Below wr.heap.size wr W.drew from DW.out.drew))
                                                        clear hK K
                                                        (try simp only [Act.put, List.setIfInBounds_toArray, List.set_cons_zero, List.set_cons_succ])
                                                        refine wpAnyH_ready (rs := [0]) (by kernel_rfl) (by simp) ?_
                                                        refine AllReadyH.cons rfl (fun K hK => ?_) ?_
                                                        · exact (by
                                                            go_simp
                                                            refine hK.out _ _ ?_ (fun hHeld => ?_)
                                                            · (refine KQ.out _ ?_; first | assumption | exact DW.out | exact (show Below wr.heap.size wr W.drew from DW.out.drew))
                                                            clear hK K
                                                            (try simp only [Act.put, List.setIfInBounds_toArray, List.set_cons_zero, List.set_cons_succ])
                                                            refine wpAnyH_ready (rs := [11]) (by kernel_rfl) (by simp) ?_
                                                            refine AllReadyH.cons rfl (fun K hK => ?_) ?_
                                                            · exact (by
                                                                refine step_append_lies _ (by rfl) _ _ _ (by rfl) wS.heap.size 4 ib (.bool false) 1 1 Tryz.underlying62 hib hib0 hib1 hib2 rfl (by decide) (.slice Av 0 cv) 0 (bl (dvs pre)) (by rfl) OB.out ⟨gd, 0, none⟩ 1 1 [.bool (dv 0 x)] (by rfl) (by rfl) (World.news_of_block (cs := #[.bool (dv 0 x)]) (t := 4) (fr := (0, 0)) KD.out) (by simp [Value.oneCell']) (by omega) (by unfold maxLen; omega) (by omega) (by have := hwb.size; omega) wb.heap.size rfl ?_
                                                                intro g7 c7 w7 hown7 hgrow7 hat7 hlt7
                                                                obtain ⟨FF, q7, f7, D7⟩ := FIN.out wb w7 g7 c7 hwb hgrow7 hown7
                                                                refine hK.out _ _ ?_ (fun hHeld => ?_)
                                                                · (refine KQ.out _ ?_; first | assumption | exact DW.out | exact (show Below wr.heap.size wr W.drew from DW.out.drew))
                                                                clear hK K
                                                                (try simp only [Act.put, List.setIfInBounds_toArray, List.set_cons_zero, List.set_cons_succ])
                                                                refine wpAnyH_ready (rs := [12]) (by kernel_rfl) (by simp) ?_
                                                                refine AllReadyH.cons rfl (fun K hK => ?_) ?_
                                                                · exact (by
                                                                    go_simp
                                                                    refine hK.out _ _ ?_ (fun hHeld => ?_)
                                                                    · exact KQ.out _ (D7.setCell (p := ⟨wr.heap.size, 0, none⟩) (Nat.le_refl _) _)
                                                                    clear hK K
                                                                    (try simp only [Act.put, List.setIfInBounds_toArray, List.set_cons_zero, List.set_cons_succ])
                                                                    refine wpAnyH_done (by kernel_rfl) ?_ _
                                                                    exact FF)
                                                                exact AllReadyH.nil)
                                                            exact AllReadyH.nil)
                                                        exact AllReadyH.nil)
                                                    exact AllReadyH.nil)
                                                exact AllReadyH.nil)
                                            refine AllReadyH.cons rfl (fun K hK => ?_) ?_
                                            · exact (by
                                                go_simp
                                                refine hK.out _ _ ?_ (fun hHeld => ?_)
                                                · (refine KQ.out _ ?_; first | assumption | exact DW.out | exact (show Below wr.heap.size wr W.drew from DW.out.drew))
                                                clear hK K
                                                (try simp only [Act.put, List.setIfInBounds_toArray, List.set_cons_zero, List.set_cons_succ])
                                                refine wpAnyH_take (i := 5) (oi := _) (v := .int .i64 0) rfl (by kernel_rfl) (by kernel_rfl) (by kernel_rfl) (fun _ _ _ h => h) (Or.inl ⟨by rfl, ?_⟩) (by assumption) ?_
                                                · intro w hSw
                                                  (try dsimp only at hSw)
                                                  go_simp
                                                  all_goals (with_reducible rfl)
                                                simp only [Act.put, List.setIfInBounds_toArray, List.set_cons_zero, List.set_cons_succ]
                                                refine wpAnyH_take (i := 7) (oi := _) (v := .int .i64 0) rfl (by kernel_rfl) (by kernel_rfl) (by kernel_rfl) (fun _ _ _ h => h) (Or.inl ⟨by rfl, ?_⟩) (by assumption) ?_
                                                · intro w hSw
                                                  (try dsimp only at hSw)
                                                  go_simp
                                                  all_goals (with_reducible rfl)
                                                simp only [Act.put, List.setIfInBounds_toArray, List.set_cons_zero, List.set_cons_succ]
                                                refine wpAnyH_take (i := 8) (oi := _) (v := .pointer (some ⟨wc.heap.size, 0, none⟩)) rfl (by kernel_rfl) (by kernel_rfl) (by kernel_rfl) (fun _ _ _ h => h) (Or.inl ⟨by rfl, ?_⟩) (by assumption) ?_
                                                · intro w hSw
                                                  (try dsimp only at hSw)
                                                  go_simp
                                                  all_goals (with_reducible rfl)
                                                simp only [Act.put, List.setIfInBounds_toArray, List.set_cons_zero, List.set_cons_succ]
                                                refine wpAnyH_take (i := 9) (oi := _) (v := .slice A0 4 d0) rfl (by kernel_rfl) (by kernel_rfl) (by kernel_rfl) (fun _ _ _ h => h) (Or.inl ⟨by rfl, ?_⟩) (by assumption) ?_
                                                · intro w hSw
                                                  (try dsimp only at hSw)
                                                  go_simp
                                                  all_goals (with_reducible rfl)
                                                simp only [Act.put, List.setIfInBounds_toArray, List.set_cons_zero, List.set_cons_succ]
                                                refine wpAnyH_ready (rs := [0, 3]) (by kernel_rfl) (by simp) ?_
                                                refine AllReadyH.cons rfl (fun K hK => ?_) ?_
                                                · exact (by
                                                    go_simp
                                                    refine hK.out _ _ ?_ (fun hHeld => ?_)
                                                    · (refine KQ.out _ ?_; first | assumption | exact DW.out | exact (show Below wr.heap.size wr W.drew from DW.out.drew))
                                                    clear hK K
                                                    (try simp only [Act.put, List.setIfInBounds_toArray, List.set_cons_zero, List.set_cons_succ])
                                                    refine wpAnyH_ready (rs := [3]) (by kernel_rfl) (by simp) ?_
                                                    refine AllReadyH.cons rfl (fun K hK => ?_) ?_
                                                    · exact (by
                                                        go_simp
                                                        go_wp2_with (go_at_call 23; (with_reducible refine (P1.out _).mono ?_); rintro e wa ⟨rfl, hwa⟩; have hwa : Below W.heap.size W wa := ⟨hwa.os, hwa.tape, hwa.output, hwa.size, hwa.block⟩; have DA : Below wr.heap.size wr wa := DW.out.trans (hwa.mono DW.out.size); have qa := Q13.out wa hwa)
                                                        refine hK.out _ _ ?_ (fun hHeld => ?_)
                                                        · (refine KQ.out _ ?_; first | assumption | exact DW.out | exact (show Below wr.heap.size wr W.drew from DW.out.drew))
                                                        clear hK K
                                                        (try simp only [Act.put, List.setIfInBounds_toArray, List.set_cons_zero, List.set_cons_succ])
                                                        refine wpAnyH_ready (rs := [10]) (by kernel_rfl) (by simp) ?_
                                                        refine AllReadyH.cons rfl (fun K hK => ?_) ?_
                                                        · exact (by
                                                            go_simp
                                                            go_wp2_with (go_at_call 29; (with_reducible refine (P2.out wa hwa).mono ?_); rintro e wb ⟨gd, rfl, hkd, hwb⟩; have KD := Lib.hid hkd; have DB : Below wr.heap.size wr wb := DW.out.trans (hwb.mono DW.out.size); have qb := Q13.out wb hwb; have OB := Lib.hid (own_below HO.out hwb); clear hkd)
                                                            refine hK.out _ _ ?_ (fun hHeld => ?_)
                                                            · (refine KQ.out _ ?_; first | assumption | exact DW.out | exact (show Below wr.heap.size wr W.drew from DW.out.drew))
                                                            clear hK K
                                                            (try simp only [Act.put, List.setIfInBounds_toArray, List.set_cons_zero, List.set_cons_succ])
                                                            refine wpAnyH_ready (rs := [11]) (by kernel_rfl) (by simp) ?_
                                                            refine AllReadyH.cons rfl (fun K hK => ?_) ?_
                                                            · exact (by
                                                                refine step_append_lies _ (by rfl) _ _ _ (by rfl) wS.heap.size 4 ib (.bool false) 1 1 Tryz.underlying62 hib hib0 hib1 hib2 rfl (by decide) (.slice Av 0 cv) 0 (bl (dvs pre)) (by rfl) OB.out ⟨gd, 0, none⟩ 1 1 [.bool (dv 0 x)] (by rfl) (by rfl) (World.news_of_block (cs := #[.bool (dv 0 x)]) (t := 4) (fr := (0, 0)) KD.out) (by simp [Value.oneCell']) (by omega) (by unfold maxLen; omega) (by omega) (by have := hwb.size; omega) wb.heap.size rfl ?_
                                                                intro g7 c7 w7 hown7 hgrow7 hat7 hlt7
                                                                obtain ⟨FF, q7, f7, D7⟩ := FIN.out wb w7 g7 c7 hwb hgrow7 hown7
                                                                refine hK.out _ _ ?_ (fun hHeld => ?_)
                                                                · (refine KQ.out _ ?_; first | assumption | exact DW.out | exact (show Below wr.heap.size wr W.drew from DW.out.drew))
                                                                clear hK K
                                                                (try simp only [Act.put, List.setIfInBounds_toArray, List.set_cons_zero, List.set_cons_succ])
                                                                refine wpAnyH_ready (rs := [12]) (by kernel_rfl) (by simp) ?_
                                                                refine AllReadyH.cons rfl (fun K hK => ?_) ?_
                                                                · exact (by
                                                                    go_simp
                                                                    refine hK.out _ _ ?_ (fun hHeld => ?_)
                                                                    · exact KQ.out _ (D7.setCell (p := ⟨wr.heap.size, 0, none⟩) (Nat.le_refl _) _)
                                                                    clear hK K
                                                                    (try simp only [Act.put, List.setIfInBounds_toArray, List.set_cons_zero, List.set_cons_succ])
                                                                    refine wpAnyH_done (by kernel_rfl) ?_ _
                                                                    exact FF)
                                                                exact AllReadyH.nil)
                                                            exact AllReadyH.nil)
                                                        exact AllReadyH.nil)
                                                    exact AllReadyH.nil)
                                                refine AllReadyH.cons rfl (fun K hK => ?_) ?_
                                                · exact (by
                                                    go_simp
                                                    go_wp2_with (go_at_call 23; (with_reducible refine (P1.out _).mono ?_); rintro e wa ⟨rfl, hwa⟩; have hwa : Below W.heap.size W wa := ⟨hwa.os, hwa.tape, hwa.output, hwa.size, hwa.block⟩; have DA : Below wr.heap.size wr wa := DW.out.trans (hwa.mono DW.out.size); have qa := Q13.out wa hwa)
                                                    refine hK.out _ _ ?_ (fun hHeld => ?_)
                                                    · (refine KQ.out _ ?_; first | assumption | exact DW.out | exact (show Below wr.heap.size wr W.drew from DW.out.drew))
                                                    clear hK K
                                                    (try simp only [Act.put, List.setIfInBounds_toArray, List.set_cons_zero, List.set_cons_succ])
                                                    refine wpAnyH_ready (rs := [0, 10]) (by kernel_rfl) (by simp) ?_
                                                    refine AllReadyH.cons rfl (fun K hK => ?_) ?_
                                                    · exact (by
                                                        go_simp
                                                        refine hK.out _ _ ?_ (fun hHeld => ?_)
                                                        · (refine KQ.out _ ?_; first | assumption | exact DW.out | exact (show Below wr.heap.size wr W.drew from DW.out.drew))
                                                        clear hK K
                                                        (try simp only [Act.put, List.setIfInBounds_toArray, List.set_cons_zero, List.set_cons_succ])
                                                        refine wpAnyH_ready (rs := [10]) (by kernel_rfl) (by simp) ?_
                                                        refine AllReadyH.cons rfl (fun K hK => ?_) ?_
                                                        · exact (by
                                                            go_simp
                                                            go_wp2_with (go_at_call 29; (with_reducible refine (P2.out wa hwa).mono ?_); rintro e wb ⟨gd, rfl, hkd, hwb⟩; have KD := Lib.hid hkd; have DB : Below wr.heap.size wr wb := DW.out.trans (hwb.mono DW.out.size); have qb := Q13.out wb hwb; have OB := Lib.hid (own_below HO.out hwb); clear hkd)
                                                            refine hK.out _ _ ?_ (fun hHeld => ?_)
                                                            · (refine KQ.out _ ?_; first | assumption | exact DW.out | exact (show Below wr.heap.size wr W.drew from DW.out.drew))
                                                            clear hK K
                                                            (try simp only [Act.put, List.setIfInBounds_toArray, List.set_cons_zero, List.set_cons_succ])
                                                            refine wpAnyH_ready (rs := [11]) (by kernel_rfl) (by simp) ?_
                                                            refine AllReadyH.cons rfl (fun K hK => ?_) ?_
                                                            · exact (by
                                                                refine step_append_lies _ (by rfl) _ _ _ (by rfl) wS.heap.size 4 ib (.bool false) 1 1 Tryz.underlying62 hib hib0 hib1 hib2 rfl (by decide) (.slice Av 0 cv) 0 (bl (dvs pre)) (by rfl) OB.out ⟨gd, 0, none⟩ 1 1 [.bool (dv 0 x)] (by rfl) (by rfl) (World.news_of_block (cs := #[.bool (dv 0 x)]) (t := 4) (fr := (0, 0)) KD.out) (by simp [Value.oneCell']) (by omega) (by unfold maxLen; omega) (by omega) (by have := hwb.size; omega) wb.heap.size rfl ?_
                                                                intro g7 c7 w7 hown7 hgrow7 hat7 hlt7
                                                                obtain ⟨FF, q7, f7, D7⟩ := FIN.out wb w7 g7 c7 hwb hgrow7 hown7
                                                                refine hK.out _ _ ?_ (fun hHeld => ?_)
                                                                · (refine KQ.out _ ?_; first | assumption | exact DW.out | exact (show Below wr.heap.size wr W.drew from DW.out.drew))
                                                                clear hK K
                                                                (try simp only [Act.put, List.setIfInBounds_toArray, List.set_cons_zero, List.set_cons_succ])
                                                                refine wpAnyH_ready (rs := [12]) (by kernel_rfl) (by simp) ?_
                                                                refine AllReadyH.cons rfl (fun K hK => ?_) ?_
                                                                · exact (by
                                                                    go_simp
                                                                    refine hK.out _ _ ?_ (fun hHeld => ?_)
                                                                    · exact KQ.out _ (D7.setCell (p := ⟨wr.heap.size, 0, none⟩) (Nat.le_refl _) _)
                                                                    clear hK K
                                                                    (try simp only [Act.put, List.setIfInBounds_toArray, List.set_cons_zero, List.set_cons_succ])
                                                                    refine wpAnyH_done (by kernel_rfl) ?_ _
                                                                    exact FF)
                                                                exact AllReadyH.nil)
                                                            exact AllReadyH.nil)
                                                        exact AllReadyH.nil)
                                                    refine AllReadyH.cons rfl (fun K hK => ?_) ?_
                                                    · exact (by
                                                        go_simp
                                                        go_wp2_with (go_at_call 29; (with_reducible refine (P2.out wa hwa).mono ?_); rintro e wb ⟨gd, rfl, hkd, hwb⟩; have KD := Lib.hid hkd; have DB : Below wr.heap.size wr wb := DW.out.trans (hwb.mono DW.out.size); have qb := Q13.out wb hwb; have OB := Lib.hid (own_below HO.out hwb); clear hkd)
                                                        refine hK.out _ _ ?_ (fun hHeld => ?_)
                                                        · (refine KQ.out _ ?_; first | assumption | exact DW.out | exact (show Below wr.heap.size wr W.drew from DW.out.drew))
                                                        clear hK K
                                                        (try simp only [Act.put, List.setIfInBounds_toArray, List.set_cons_zero, List.set_cons_succ])
                                                        refine wpAnyH_ready (rs := [0]) (by kernel_rfl) (by simp) ?_
                                                        refine AllReadyH.cons rfl (fun K hK => ?_) ?_
                                                        · exact (by
                                                            go_simp
                                                            refine hK.out _ _ ?_ (fun hHeld => ?_)
                                                            · (refine KQ.out _ ?_; first | assumption | exact DW.out | exact (show Below wr.heap.size wr W.drew from DW.out.drew))
                                                            clear hK K
                                                            (try simp only [Act.put, List.setIfInBounds_toArray, List.set_cons_zero, List.set_cons_succ])
                                                            refine wpAnyH_ready (rs := [11]) (by kernel_rfl) (by simp) ?_
                                                            refine AllReadyH.cons rfl (fun K hK => ?_) ?_
                                                            · exact (by
                                                                refine step_append_lies _ (by rfl) _ _ _ (by rfl) wS.heap.size 4 ib (.bool false) 1 1 Tryz.underlying62 hib hib0 hib1 hib2 rfl (by decide) (.slice Av 0 cv) 0 (bl (dvs pre)) (by rfl) OB.out ⟨gd, 0, none⟩ 1 1 [.bool (dv 0 x)] (by rfl) (by rfl) (World.news_of_block (cs := #[.bool (dv 0 x)]) (t := 4) (fr := (0, 0)) KD.out) (by simp [Value.oneCell']) (by omega) (by unfold maxLen; omega) (by omega) (by have := hwb.size; omega) wb.heap.size rfl ?_
                                                                intro g7 c7 w7 hown7 hgrow7 hat7 hlt7
                                                                obtain ⟨FF, q7, f7, D7⟩ := FIN.out wb w7 g7 c7 hwb hgrow7 hown7
                                                                refine hK.out _ _ ?_ (fun hHeld => ?_)
                                                                · (refine KQ.out _ ?_; first | assumption | exact DW.out | exact (show Below wr.heap.size wr W.drew from DW.out.drew))
                                                                clear hK K
                                                                (try simp only [Act.put, List.setIfInBounds_toArray, List.set_cons_zero, List.set_cons_succ])
                                                                refine wpAnyH_ready (rs := [12]) (by kernel_rfl) (by simp) ?_
                                                                refine AllReadyH.cons rfl (fun K hK => ?_) ?_
                                                                · exact (by
                                                                    go_simp
                                                                    refine hK.out _ _ ?_ (fun hHeld => ?_)
                                                                    · exact KQ.out _ (D7.setCell (p := ⟨wr.heap.size, 0, none⟩) (Nat.le_refl _) _)
                                                                    clear hK K
                                                                    (try simp only [Act.put, List.setIfInBounds_toArray, List.set_cons_zero, List.set_cons_succ])
                                                                    refine wpAnyH_done (by kernel_rfl) ?_ _
                                                                    exact FF)
                                                                exact AllReadyH.nil)
                                                            exact AllReadyH.nil)
                                                        exact AllReadyH.nil)
                                                    exact AllReadyH.nil)
                                                exact AllReadyH.nil)
                                            exact AllReadyH.nil)
                                        · exact (by
                                            rw [hn] at hk ho FIN
                                            simp only [Nat.zero_add, Nat.reduceAdd] at FIN
                                            have HO := Lib.hid ho
                                            have FIN := Lib.hid FIN
                                            have KQ := Lib.hid (fun W (hb : Below wr.heap.size wr W) => show W.cell? ⟨w.heap.size, 0, none⟩ = some (.int .i64 2) ∧ W.cell? ⟨w.heap.size, 1, none⟩ = some (.int .i64 0) ∧ W.cell? ⟨w.heap.size, 2, none⟩ = some (.slice AH 3 cH) ∧ W.cell? ⟨w.heap.size, 3, none⟩ = some (.slice none 0 0) ∧ W.cell? ⟨w.heap.size, 4, none⟩ = some (.slice (some ⟨gR, oR, none⟩) 2 cR) ∧ W.cell? ⟨w.heap.size + 1, 0, none⟩ = some (.int .i64 1) ∧ W.cell? ⟨wc.heap.size, 1, none⟩ = some (.slice A1 4 d1) from
                                              have q := (X8.out.below hb X8.out.lt).five
                                              have r := (V8.out.below hb V8.out.lt).one
                                              have g := (HG.out.below hb HG.out.lt).eight
                                              ⟨q.1, q.2.1, q.2.2.1, q.2.2.2.1, q.2.2.2.2.1, r.1, g.2.1⟩)
                                            have Q13 := Lib.hid (fun W' (hb' : Below W.heap.size W W') => show W'.cell? ⟨wr.heap.size, 0, none⟩ = some (.slice Av 1 cv) from (hk.below hb' hk.lt).one.1)
                                            have P2 := Lib.hid (show ∀ W', Below W.heap.size W W' → Calls Tryz.prog 29 #[.agg #[.int .i64 2, .int .i64 0, .slice AH 3 cH, .slice none 0 0, .slice (some ⟨gR, oR + 2 * x.val, none⟩) 1 1], .slice A1 4 d1] W' fun e W'' => ∃ gd, e = .returned (.slice (some ⟨gd, 0, none⟩) 1 1) ∧ Blk W'' gd 4 #[.bool (dv 1 x)] ∧ Below W.heap.size W W'' from fun W' hb' => by
                                              have hx2 : x.val < 2 := x.isLt
                                              have hbr := DW.out.trans (hb'.mono DW.out.size)
                                              have tr := alone_tr (i := x.val) (HTR.out.later (BR.out.trans (hbr.mono BR.out.size))) hx2
                                              rw [show oR + x.val * 2 = oR + 2 * x.val by omega] at tr
                                              exact (dec_one 2 AH cH none 0 (some ⟨gR, oR + 2 * x.val, none⟩) 1 (alone T0 x.val) A1 4 d1 [2, 3, 6, 7] W' (HM.out.below (BR.out.trans (hbr.mono BR.out.size)) HM.out.1) tr (alone_bd bd0 hx2) (alone_rt rt0 hx2) rfl rfl ((Reads.of_own HT.out.2.1).later hbr) (by omega) (by decide)).mono fun e W'' ⟨gd, he, hkd, _, hx⟩ => ⟨gd, he, hkd, hb'.trans (hx.mono hb'.size)⟩)
                                            have q0 := Q13.out W (Below.refl _ _)
                                            have f0 := hk.frozen 0
                                            have wr0 : IntKind.i64.wrap 0 = 0 := by decide
                                            have wr1 : IntKind.i64.wrap 1 = 1 := by decide
                                            clear hk ho
                                            refine wpIn_block ?_
                                            refine wpIn_region_round (fun W => W.cell? ⟨w.heap.size, 0, none⟩ = some (.int .i64 2) ∧ W.cell? ⟨w.heap.size, 1, none⟩ = some (.int .i64 0) ∧ W.cell? ⟨w.heap.size, 2, none⟩ = some (.slice AH 3 cH) ∧ W.cell? ⟨w.heap.size, 3, none⟩ = some (.slice none 0 0) ∧ W.cell? ⟨w.heap.size, 4, none⟩ = some (.slice (some ⟨gR, oR, none⟩) 2 cR) ∧ W.cell? ⟨w.heap.size + 1, 0, none⟩ = some (.int .i64 1) ∧ W.cell? ⟨wc.heap.size, 1, none⟩ = some (.slice A1 4 d1)) (by kernel_rfl) (fun _ _ h => h) (by kernel_rfl) (KQ.out _ DW.out.drew) (fun hHeld => ?_)
                                            refine wpAnyH_take (i := 1) (oi := _) (v := .agg #[.int .i64 2, .int .i64 0, .slice AH 3 cH, .slice none 0 0, .slice (some ⟨gR, oR, none⟩) 2 cR]) rfl (by kernel_rfl) (by kernel_rfl) (by kernel_rfl) (fun _ _ _ h => h) (Or.inl ⟨by rfl, ?_⟩) (by assumption) ?_
                                            · intro w hSw
                                              (try dsimp only at hSw)
                                              go_simp
                                              all_goals (with_reducible rfl)
                                            simp only [Act.put, List.setIfInBounds_toArray, List.set_cons_zero, List.set_cons_succ]
                                            refine wpAnyH_take (i := 2) (oi := _) (v := .slice (some ⟨gR, oR + 2 * x.val, none⟩) 1 1) rfl (by kernel_rfl) (by kernel_rfl) (by kernel_rfl) (fun _ _ _ h => h) (Or.inl ⟨by rfl, ?_⟩) (by assumption) ?_
                                            · intro w hSw
                                              (try dsimp only at hSw)
                                              go_simp
                                              all_goals (with_reducible rfl)
                                            simp only [Act.put, List.setIfInBounds_toArray, List.set_cons_zero, List.set_cons_succ]
                                            refine wpAnyH_take (i := 6) (oi := _) (v := .int .i64 1) rfl (by kernel_rfl) (by kernel_rfl) (by kernel_rfl) (fun _ _ _ h => h) (Or.inl ⟨by rfl, ?_⟩) (by assumption) ?_
                                            · intro w hSw
                                              (try dsimp only at hSw)
                                              go_simp
                                              all_goals (with_reducible rfl)
                                            simp only [Act.put, List.setIfInBounds_toArray, List.set_cons_zero, List.set_cons_succ]
                                            refine wpAnyH_ready (rs := [0, 3, 4]) (by kernel_rfl) (by simp) ?_
                                            refine AllReadyH.cons rfl (fun K hK => ?_) ?_
                                            · exact (by
                                                go_simp
                                                refine hK.out _ _ ?_ (fun hHeld => ?_)
                                                · (refine KQ.out _ ?_; first | assumption | exact DW.out | exact (show Below wr.heap.size wr W.drew from DW.out.drew))
                                                clear hK K
                                                (try simp only [Act.put, List.setIfInBounds_toArray, List.set_cons_zero, List.set_cons_succ])
                                                refine wpAnyH_ready (rs := [3, 4]) (by kernel_rfl) (by simp) ?_
                                                refine AllReadyH.cons rfl (fun K hK => ?_) ?_
                                                · exact (by
                                                    go_simp
                                                    go_wp2_with (go_at_call 23; (with_reducible refine (P1.out _).mono ?_); rintro e wa ⟨rfl, hwa⟩; have hwa : Below W.heap.size W wa := ⟨hwa.os, hwa.tape, hwa.output, hwa.size, hwa.block⟩; have DA : Below wr.heap.size wr wa := DW.out.trans (hwa.mono DW.out.size); have qa := Q13.out wa hwa)
                                                    refine hK.out _ _ ?_ (fun hHeld => ?_)
                                                    · (refine KQ.out _ ?_; first | assumption | exact DW.out | exact (show Below wr.heap.size wr W.drew from DW.out.drew))
                                                    clear hK K
                                                    (try simp only [Act.put, List.setIfInBounds_toArray, List.set_cons_zero, List.set_cons_succ])
                                                    refine wpAnyH_ready (rs := [4]) (by kernel_rfl) (by simp) ?_
                                                    refine AllReadyH.cons rfl (fun K hK => ?_) ?_
                                                    · exact (by
                                                        go_simp
                                                        refine hK.out _ _ ?_ (fun hHeld => ?_)
                                                        · (refine KQ.out _ ?_; first | assumption | exact DW.out | exact (show Below wr.heap.size wr W.drew from DW.out.drew))
                                                        clear hK K
                                                        (try simp only [Act.put, List.setIfInBounds_toArray, List.set_cons_zero, List.set_cons_succ])
                                                        refine wpAnyH_take (i := 5) (oi := _) (v := .int .i64 1) rfl (by kernel_rfl) (by kernel_rfl) (by kernel_rfl) (fun _ _ _ h => h) (Or.inl ⟨by rfl, ?_⟩) (by assumption) ?_
                                                        · intro w hSw
                                                          (try dsimp only at hSw)
                                                          go_simp
                                                          all_goals (with_reducible rfl)
                                                        simp only [Act.put, List.setIfInBounds_toArray, List.set_cons_zero, List.set_cons_succ]
                                                        refine wpAnyH_take (i := 7) (oi := _) (v := .int .i64 1) rfl (by kernel_rfl) (by kernel_rfl) (by kernel_rfl) (fun _ _ _ h => h) (Or.inl ⟨by rfl, ?_⟩) (by assumption) ?_
                                                        · intro w hSw
                                                          (try dsimp only at hSw)
                                                          go_simp
                                                          all_goals (with_reducible rfl)
                                                        simp only [Act.put, List.setIfInBounds_toArray, List.set_cons_zero, List.set_cons_succ]
                                                        refine wpAnyH_take (i := 8) (oi := _) (v := .pointer (some ⟨wc.heap.size, 1, none⟩)) rfl (by kernel_rfl) (by kernel_rfl) (by kernel_rfl) (fun _ _ _ h => h) (Or.inl ⟨by rfl, ?_⟩) (by assumption) ?_
                                                        · intro w hSw
                                                          (try dsimp only at hSw)
                                                          go_simp
                                                          all_goals (with_reducible rfl)
                                                        simp only [Act.put, List.setIfInBounds_toArray, List.set_cons_zero, List.set_cons_succ]
                                                        refine wpAnyH_take (i := 9) (oi := _) (v := .slice A1 4 d1) rfl (by kernel_rfl) (by kernel_rfl) (by kernel_rfl) (fun _ _ _ h => h) (Or.inl ⟨by rfl, ?_⟩) (by assumption) ?_
                                                        · intro w hSw
                                                          (try dsimp only at hSw)
                                                          go_simp
                                                          all_goals (with_reducible rfl)
                                                        simp only [Act.put, List.setIfInBounds_toArray, List.set_cons_zero, List.set_cons_succ]
                                                        refine wpAnyH_ready (rs := [10]) (by kernel_rfl) (by simp) ?_
                                                        refine AllReadyH.cons rfl (fun K hK => ?_) ?_
                                                        · exact (by
                                                            go_simp
                                                            go_wp2_with (go_at_call 29; (with_reducible refine (P2.out wa hwa).mono ?_); rintro e wb ⟨gd, rfl, hkd, hwb⟩; have KD := Lib.hid hkd; have DB : Below wr.heap.size wr wb := DW.out.trans (hwb.mono DW.out.size); have qb := Q13.out wb hwb; have OB := Lib.hid (own_below HO.out hwb); clear hkd)
                                                            refine hK.out _ _ ?_ (fun hHeld => ?_)
                                                            · (refine KQ.out _ ?_; first | assumption | exact DW.out | exact (show Below wr.heap.size wr W.drew from DW.out.drew))
                                                            clear hK K
                                                            (try simp only [Act.put, List.setIfInBounds_toArray, List.set_cons_zero, List.set_cons_succ])
                                                            refine wpAnyH_ready (rs := [11]) (by kernel_rfl) (by simp) ?_
                                                            refine AllReadyH.cons rfl (fun K hK => ?_) ?_
                                                            · exact (by
                                                                refine step_append_lies _ (by rfl) _ _ _ (by rfl) wS.heap.size 4 ib (.bool false) 1 1 Tryz.underlying62 hib hib0 hib1 hib2 rfl (by decide) (.slice Av 1 cv) 1 (bl (dvs pre)) (by rfl) OB.out ⟨gd, 0, none⟩ 1 1 [.bool (dv 1 x)] (by rfl) (by rfl) (World.news_of_block (cs := #[.bool (dv 1 x)]) (t := 4) (fr := (0, 0)) KD.out) (by simp [Value.oneCell']) (by omega) (by unfold maxLen; omega) (by omega) (by have := hwb.size; omega) wb.heap.size rfl ?_
                                                                intro g7 c7 w7 hown7 hgrow7 hat7 hlt7
                                                                obtain ⟨FF, q7, f7, D7⟩ := FIN.out wb w7 g7 c7 hwb hgrow7 hown7
                                                                refine hK.out _ _ ?_ (fun hHeld => ?_)
                                                                · (refine KQ.out _ ?_; first | assumption | exact DW.out | exact (show Below wr.heap.size wr W.drew from DW.out.drew))
                                                                clear hK K
                                                                (try simp only [Act.put, List.setIfInBounds_toArray, List.set_cons_zero, List.set_cons_succ])
                                                                refine wpAnyH_ready (rs := [12]) (by kernel_rfl) (by simp) ?_
                                                                refine AllReadyH.cons rfl (fun K hK => ?_) ?_
                                                                · exact (by
                                                                    go_simp
                                                                    refine hK.out _ _ ?_ (fun hHeld => ?_)
                                                                    · exact KQ.out _ (D7.setCell (p := ⟨wr.heap.size, 0, none⟩) (Nat.le_refl _) _)
                                                                    clear hK K
                                                                    (try simp only [Act.put, List.setIfInBounds_toArray, List.set_cons_zero, List.set_cons_succ])
                                                                    refine wpAnyH_done (by kernel_rfl) ?_ _
                                                                    exact FF)
                                                                exact AllReadyH.nil)
                                                            exact AllReadyH.nil)
                                                        exact AllReadyH.nil)
                                                    exact AllReadyH.nil)
                                                refine AllReadyH.cons rfl (fun K hK => ?_) ?_
                                                · exact (by
                                                    go_simp
                                                    refine hK.out _ _ ?_ (fun hHeld => ?_)
                                                    · (refine KQ.out _ ?_; first | assumption | exact DW.out | exact (show Below wr.heap.size wr W.drew from DW.out.drew))
                                                    clear hK K
                                                    (try simp only [Act.put, List.setIfInBounds_toArray, List.set_cons_zero, List.set_cons_succ])
                                                    refine wpAnyH_take (i := 5) (oi := _) (v := .int .i64 1) rfl (by kernel_rfl) (by kernel_rfl) (by kernel_rfl) (fun _ _ _ h => h) (Or.inl ⟨by rfl, ?_⟩) (by assumption) ?_
                                                    · intro w hSw
                                                      (try dsimp only at hSw)
                                                      go_simp
                                                      all_goals (with_reducible rfl)
                                                    simp only [Act.put, List.setIfInBounds_toArray, List.set_cons_zero, List.set_cons_succ]
                                                    refine wpAnyH_take (i := 7) (oi := _) (v := .int .i64 1) rfl (by kernel_rfl) (by kernel_rfl) (by kernel_rfl) (fun _ _ _ h => h) (Or.inl ⟨by rfl, ?_⟩) (by assumption) ?_
                                                    · intro w hSw
                                                      (try dsimp only at hSw)
                                                      go_simp
                                                      all_goals (with_reducible rfl)
                                                    simp only [Act.put, List.setIfInBounds_toArray, List.set_cons_zero, List.set_cons_succ]
                                                    refine wpAnyH_take (i := 8) (oi := _) (v := .pointer (some ⟨wc.heap.size, 1, none⟩)) rfl (by kernel_rfl) (by kernel_rfl) (by kernel_rfl) (fun _ _ _ h => h) (Or.inl ⟨by rfl, ?_⟩) (by assumption) ?_
                                                    · intro w hSw
                                                      (try dsimp only at hSw)
                                                      go_simp
                                                      all_goals (with_reducible rfl)
                                                    simp only [Act.put, List.setIfInBounds_toArray, List.set_cons_zero, List.set_cons_succ]
                                                    refine wpAnyH_take (i := 9) (oi := _) (v := .slice A1 4 d1) rfl (by kernel_rfl) (by kernel_rfl) (by kernel_rfl) (fun _ _ _ h => h) (Or.inl ⟨by rfl, ?_⟩) (by assumption) ?_
                                                    · intro w hSw
                                                      (try dsimp only at hSw)
                                                      go_simp
                                                      all_goals (with_reducible rfl)
                                                    simp only [Act.put, List.setIfInBounds_toArray, List.set_cons_zero, List.set_cons_succ]
                                                    refine wpAnyH_ready (rs := [3]) (by kernel_rfl) (by simp) ?_
                                                    refine AllReadyH.cons rfl (fun K hK => ?_) ?_
                                                    · exact (by
                                                        go_simp
                                                        go_wp2_with (go_at_call 23; (with_reducible refine (P1.out _).mono ?_); rintro e wa ⟨rfl, hwa⟩; have hwa : Below W.heap.size W wa := ⟨hwa.os, hwa.tape, hwa.output, hwa.size, hwa.block⟩; have DA : Below wr.heap.size wr wa := DW.out.trans (hwa.mono DW.out.size); have qa := Q13.out wa hwa)
                                                        refine hK.out _ _ ?_ (fun hHeld => ?_)
                                                        · (refine KQ.out _ ?_; first | assumption | exact DW.out | exact (show Below wr.heap.size wr W.drew from DW.out.drew))
                                                        clear hK K
                                                        (try simp only [Act.put, List.setIfInBounds_toArray, List.set_cons_zero, List.set_cons_succ])
                                                        refine wpAnyH_ready (rs := [10]) (by kernel_rfl) (by simp) ?_
                                                        refine AllReadyH.cons rfl (fun K hK => ?_) ?_
                                                        · exact (by
                                                            go_simp
                                                            go_wp2_with (go_at_call 29; (with_reducible refine (P2.out wa hwa).mono ?_); rintro e wb ⟨gd, rfl, hkd, hwb⟩; have KD := Lib.hid hkd; have DB : Below wr.heap.size wr wb := DW.out.trans (hwb.mono DW.out.size); have qb := Q13.out wb hwb; have OB := Lib.hid (own_below HO.out hwb); clear hkd)
                                                            refine hK.out _ _ ?_ (fun hHeld => ?_)
                                                            · (refine KQ.out _ ?_; first | assumption | exact DW.out | exact (show Below wr.heap.size wr W.drew from DW.out.drew))
                                                            clear hK K
                                                            (try simp only [Act.put, List.setIfInBounds_toArray, List.set_cons_zero, List.set_cons_succ])
                                                            refine wpAnyH_ready (rs := [11]) (by kernel_rfl) (by simp) ?_
                                                            refine AllReadyH.cons rfl (fun K hK => ?_) ?_
                                                            · exact (by
                                                                refine step_append_lies _ (by rfl) _ _ _ (by rfl) wS.heap.size 4 ib (.bool false) 1 1 Tryz.underlying62 hib hib0 hib1 hib2 rfl (by decide) (.slice Av 1 cv) 1 (bl (dvs pre)) (by rfl) OB.out ⟨gd, 0, none⟩ 1 1 [.bool (dv 1 x)] (by rfl) (by rfl) (World.news_of_block (cs := #[.bool (dv 1 x)]) (t := 4) (fr := (0, 0)) KD.out) (by simp [Value.oneCell']) (by omega) (by unfold maxLen; omega) (by omega) (by have := hwb.size; omega) wb.heap.size rfl ?_
                                                                intro g7 c7 w7 hown7 hgrow7 hat7 hlt7
                                                                obtain ⟨FF, q7, f7, D7⟩ := FIN.out wb w7 g7 c7 hwb hgrow7 hown7
                                                                refine hK.out _ _ ?_ (fun hHeld => ?_)
                                                                · (refine KQ.out _ ?_; first | assumption | exact DW.out | exact (show Below wr.heap.size wr W.drew from DW.out.drew))
                                                                clear hK K
                                                                (try simp only [Act.put, List.setIfInBounds_toArray, List.set_cons_zero, List.set_cons_succ])
                                                                refine wpAnyH_ready (rs := [12]) (by kernel_rfl) (by simp) ?_
                                                                refine AllReadyH.cons rfl (fun K hK => ?_) ?_
                                                                · exact (by
                                                                    go_simp
                                                                    refine hK.out _ _ ?_ (fun hHeld => ?_)
                                                                    · exact KQ.out _ (D7.setCell (p := ⟨wr.heap.size, 0, none⟩) (Nat.le_refl _) _)
                                                                    clear hK K
                                                                    (try simp only [Act.put, List.setIfInBounds_toArray, List.set_cons_zero, List.set_cons_succ])
                                                                    refine wpAnyH_done (by kernel_rfl) ?_ _
                                                                    exact FF)
                                                                exact AllReadyH.nil)
                                                            exact AllReadyH.nil)
                                                        exact AllReadyH.nil)
                                                    exact AllReadyH.nil)
                                                exact AllReadyH.nil)
                                            refine AllReadyH.cons rfl (fun K hK => ?_) ?_
                                            · exact (by
                                                go_simp
                                                go_wp2_with (go_at_call 23; (with_reducible refine (P1.out _).mono ?_); rintro e wa ⟨rfl, hwa⟩; have hwa : Below W.heap.size W wa := ⟨hwa.os, hwa.tape, hwa.output, hwa.size, hwa.block⟩; have DA : Below wr.heap.size wr wa := DW.out.trans (hwa.mono DW.out.size); have qa := Q13.out wa hwa)
                                                refine hK.out _ _ ?_ (fun hHeld => ?_)
                                                · (refine KQ.out _ ?_; first | assumption | exact DW.out | exact (show Below wr.heap.size wr W.drew from DW.out.drew))
                                                clear hK K
                                                (try simp only [Act.put, List.setIfInBounds_toArray, List.set_cons_zero, List.set_cons_succ])
                                                refine wpAnyH_ready (rs := [0, 4]) (by kernel_rfl) (by simp) ?_
                                                refine AllReadyH.cons rfl (fun K hK => ?_) ?_
                                                · exact (by
                                                    go_simp
                                                    refine hK.out _ _ ?_ (fun hHeld => ?_)
                                                    · (refine KQ.out _ ?_; first | assumption | exact DW.out | exact (show Below wr.heap.size wr W.drew from DW.out.drew))
                                                    clear hK K
                                                    (try simp only [Act.put, List.setIfInBounds_toArray, List.set_cons_zero, List.set_cons_succ])
                                                    refine wpAnyH_ready (rs := [4]) (by kernel_rfl) (by simp) ?_
                                                    refine AllReadyH.cons rfl (fun K hK => ?_) ?_
                                                    · exact (by
                                                        go_simp
                                                        refine hK.out _ _ ?_ (fun hHeld => ?_)
                                                        · (refine KQ.out _ ?_; first | assumption | exact DW.out | exact (show Below wr.heap.size wr W.drew from DW.out.drew))
                                                        clear hK K
                                                        (try simp only [Act.put, List.setIfInBounds_toArray, List.set_cons_zero, List.set_cons_succ])
                                                        refine wpAnyH_take (i := 5) (oi := _) (v := .int .i64 1) rfl (by kernel_rfl) (by kernel_rfl) (by kernel_rfl) (fun _ _ _ h => h) (Or.inl ⟨by rfl, ?_⟩) (by assumption) ?_
                                                        · intro w hSw
                                                          (try dsimp only at hSw)
                                                          go_simp
                                                          all_goals (with_reducible rfl)
                                                        simp only [Act.put, List.setIfInBounds_toArray, List.set_cons_zero, List.set_cons_succ]
                                                        refine wpAnyH_take (i := 7) (oi := _) (v := .int .i64 1) rfl (by kernel_rfl) (by kernel_rfl) (by kernel_rfl) (fun _ _ _ h => h) (Or.inl ⟨by rfl, ?_⟩) (by assumption) ?_
                                                        · intro w hSw
                                                          (try dsimp only at hSw)
                                                          go_simp
                                                          all_goals (with_reducible rfl)
                                                        simp only [Act.put, List.setIfInBounds_toArray, List.set_cons_zero, List.set_cons_succ]
                                                        refine wpAnyH_take (i := 8) (oi := _) (v := .pointer (some ⟨wc.heap.size, 1, none⟩)) rfl (by kernel_rfl) (by kernel_rfl) (by kernel_rfl) (fun _ _ _ h => h) (Or.inl ⟨by rfl, ?_⟩) (by assumption) ?_
                                                        · intro w hSw
                                                          (try dsimp only at hSw)
                                                          go_simp
                                                          all_goals (with_reducible rfl)
                                                        simp only [Act.put, List.setIfInBounds_toArray, List.set_cons_zero, List.set_cons_succ]
                                                        refine wpAnyH_take (i := 9) (oi := _) (v := .slice A1 4 d1) rfl (by kernel_rfl) (by kernel_rfl) (by kernel_rfl) (fun _ _ _ h => h) (Or.inl ⟨by rfl, ?_⟩) (by assumption) ?_
                                                        · intro w hSw
                                                          (try dsimp only at hSw)
                                                          go_simp
                                                          all_goals (with_reducible rfl)
                                                        simp only [Act.put, List.setIfInBounds_toArray, List.set_cons_zero, List.set_cons_succ]
                                                        refine wpAnyH_ready (rs := [10]) (by kernel_rfl) (by simp) ?_
                                                        refine AllReadyH.cons rfl (fun K hK => ?_) ?_
                                                        · exact (by
                                                            go_simp
                                                            go_wp2_with (go_at_call 29; (with_reducible refine (P2.out wa hwa).mono ?_); rintro e wb ⟨gd, rfl, hkd, hwb⟩; have KD := Lib.hid hkd; have DB : Below wr.heap.size wr wb := DW.out.trans (hwb.mono DW.out.size); have qb := Q13.out wb hwb; have OB := Lib.hid (own_below HO.out hwb); clear hkd)
                                                            refine hK.out _ _ ?_ (fun hHeld => ?_)
                                                            · (refine KQ.out _ ?_; first | assumption | exact DW.out | exact (show Below wr.heap.size wr W.drew from DW.out.drew))
                                                            clear hK K
                                                            (try simp only [Act.put, List.setIfInBounds_toArray, List.set_cons_zero, List.set_cons_succ])
                                                            refine wpAnyH_ready (rs := [11]) (by kernel_rfl) (by simp) ?_
                                                            refine AllReadyH.cons rfl (fun K hK => ?_) ?_
                                                            · exact (by
                                                                refine step_append_lies _ (by rfl) _ _ _ (by rfl) wS.heap.size 4 ib (.bool false) 1 1 Tryz.underlying62 hib hib0 hib1 hib2 rfl (by decide) (.slice Av 1 cv) 1 (bl (dvs pre)) (by rfl) OB.out ⟨gd, 0, none⟩ 1 1 [.bool (dv 1 x)] (by rfl) (by rfl) (World.news_of_block (cs := #[.bool (dv 1 x)]) (t := 4) (fr := (0, 0)) KD.out) (by simp [Value.oneCell']) (by omega) (by unfold maxLen; omega) (by omega) (by have := hwb.size; omega) wb.heap.size rfl ?_
                                                                intro g7 c7 w7 hown7 hgrow7 hat7 hlt7
                                                                obtain ⟨FF, q7, f7, D7⟩ := FIN.out wb w7 g7 c7 hwb hgrow7 hown7
                                                                refine hK.out _ _ ?_ (fun hHeld => ?_)
                                                                · (refine KQ.out _ ?_; first | assumption | exact DW.out | exact (show Below wr.heap.size wr W.drew from DW.out.drew))
                                                                clear hK K
                                                                (try simp only [Act.put, List.setIfInBounds_toArray, List.set_cons_zero, List.set_cons_succ])
                                                                refine wpAnyH_ready (rs := [12]) (by kernel_rfl) (by simp) ?_
                                                                refine AllReadyH.cons rfl (fun K hK => ?_) ?_
                                                                · exact (by
                                                                    go_simp
                                                                    refine hK.out _ _ ?_ (fun hHeld => ?_)
                                                                    · exact KQ.out _ (D7.setCell (p := ⟨wr.heap.size, 0, none⟩) (Nat.le_refl _) _)
                                                                    clear hK K
                                                                    (try simp only [Act.put, List.setIfInBounds_toArray, List.set_cons_zero, List.set_cons_succ])
                                                                    refine wpAnyH_done (by kernel_rfl) ?_ _
                                                                    exact FF)
                                                                exact AllReadyH.nil)
                                                            exact AllReadyH.nil)
                                                        exact AllReadyH.nil)
                                                    exact AllReadyH.nil)
                                                refine AllReadyH.cons rfl (fun K hK => ?_) ?_
                                                · exact (by
                                                    go_simp
                                                    refine hK.out _ _ ?_ (fun hHeld => ?_)
                                                    · (refine KQ.out _ ?_; first | assumption | exact DW.out | exact (show Below wr.heap.size wr W.drew from DW.out.drew))
                                                    clear hK K
                                                    (try simp only [Act.put, List.setIfInBounds_toArray, List.set_cons_zero, List.set_cons_succ])
                                                    refine wpAnyH_take (i := 5) (oi := _) (v := .int .i64 1) rfl (by kernel_rfl) (by kernel_rfl) (by kernel_rfl) (fun _ _ _ h => h) (Or.inl ⟨by rfl, ?_⟩) (by assumption) ?_
                                                    · intro w hSw
                                                      (try dsimp only at hSw)
                                                      go_simp
                                                      all_goals (with_reducible rfl)
                                                    simp only [Act.put, List.setIfInBounds_toArray, List.set_cons_zero, List.set_cons_succ]
                                                    refine wpAnyH_take (i := 7) (oi := _) (v := .int .i64 1) rfl (by kernel_rfl) (by kernel_rfl) (by kernel_rfl) (fun _ _ _ h => h) (Or.inl ⟨by rfl, ?_⟩) (by assumption) ?_
                                                    · intro w hSw
                                                      (try dsimp only at hSw)
                                                      go_simp
                                                      all_goals (with_reducible rfl)
                                                    simp only [Act.put, List.setIfInBounds_toArray, List.set_cons_zero, List.set_cons_succ]
                                                    refine wpAnyH_take (i := 8) (oi := _) (v := .pointer (some ⟨wc.heap.size, 1, none⟩)) rfl (by kernel_rfl) (by kernel_rfl) (by kernel_rfl) (fun _ _ _ h => h) (Or.inl ⟨by rfl, ?_⟩) (by assumption) ?_
                                                    · intro w hSw
                                                      (try dsimp only at hSw)
                                                      go_simp
                                                      all_goals (with_reducible rfl)
                                                    simp only [Act.put, List.setIfInBounds_toArray, List.set_cons_zero, List.set_cons_succ]
                                                    refine wpAnyH_take (i := 9) (oi := _) (v := .slice A1 4 d1) rfl (by kernel_rfl) (by kernel_rfl) (by kernel_rfl) (fun _ _ _ h => h) (Or.inl ⟨by rfl, ?_⟩) (by assumption) ?_
                                                    · intro w hSw
                                                      (try dsimp only at hSw)
                                                      go_simp
                                                      all_goals (with_reducible rfl)
                                                    simp only [Act.put, List.setIfInBounds_toArray, List.set_cons_zero, List.set_cons_succ]
                                                    refine wpAnyH_ready (rs := [0, 10]) (by kernel_rfl) (by simp) ?_
                                                    refine AllReadyH.cons rfl (fun K hK => ?_) ?_
                                                    · exact (by
                                                        go_simp
                                                        refine hK.out _ _ ?_ (fun hHeld => ?_)
                                                        · (refine KQ.out _ ?_; first | assumption | exact DW.out | exact (show Below wr.heap.size wr W.drew from DW.out.drew))
                                                        clear hK K
                                                        (try simp only [Act.put, List.setIfInBounds_toArray, List.set_cons_zero, List.set_cons_succ])
                                                        refine wpAnyH_ready (rs := [10]) (by kernel_rfl) (by simp) ?_
                                                        refine AllReadyH.cons rfl (fun K hK => ?_) ?_
                                                        · exact (by
                                                            go_simp
                                                            go_wp2_with (go_at_call 29; (with_reducible refine (P2.out wa hwa).mono ?_); rintro e wb ⟨gd, rfl, hkd, hwb⟩; have KD := Lib.hid hkd; have DB : Below wr.heap.size wr wb := DW.out.trans (hwb.mono DW.out.size); have qb := Q13.out wb hwb; have OB := Lib.hid (own_below HO.out hwb); clear hkd)
                                                            refine hK.out _ _ ?_ (fun hHeld => ?_)
                                                            · (refine KQ.out _ ?_; first | assumption | exact DW.out | exact (show Below wr.heap.size wr W.drew from DW.out.drew))
                                                            clear hK K
                                                            (try simp only [Act.put, List.setIfInBounds_toArray, List.set_cons_zero, List.set_cons_succ])
                                                            refine wpAnyH_ready (rs := [11]) (by kernel_rfl) (by simp) ?_
                                                            refine AllReadyH.cons rfl (fun K hK => ?_) ?_
                                                            · exact (by
                                                                refine step_append_lies _ (by rfl) _ _ _ (by rfl) wS.heap.size 4 ib (.bool false) 1 1 Tryz.underlying62 hib hib0 hib1 hib2 rfl (by decide) (.slice Av 1 cv) 1 (bl (dvs pre)) (by rfl) OB.out ⟨gd, 0, none⟩ 1 1 [.bool (dv 1 x)] (by rfl) (by rfl) (World.news_of_block (cs := #[.bool (dv 1 x)]) (t := 4) (fr := (0, 0)) KD.out) (by simp [Value.oneCell']) (by omega) (by unfold maxLen; omega) (by omega) (by have := hwb.size; omega) wb.heap.size rfl ?_
                                                                intro g7 c7 w7 hown7 hgrow7 hat7 hlt7
                                                                obtain ⟨FF, q7, f7, D7⟩ := FIN.out wb w7 g7 c7 hwb hgrow7 hown7
                                                                refine hK.out _ _ ?_ (fun hHeld => ?_)
                                                                · (refine KQ.out _ ?_; first | assumption | exact DW.out | exact (show Below wr.heap.size wr W.drew from DW.out.drew))
                                                                clear hK K
                                                                (try simp only [Act.put, List.setIfInBounds_toArray, List.set_cons_zero, List.set_cons_succ])
                                                                refine wpAnyH_ready (rs := [12]) (by kernel_rfl) (by simp) ?_
                                                                refine AllReadyH.cons rfl (fun K hK => ?_) ?_
                                                                · exact (by
                                                                    go_simp
                                                                    refine hK.out _ _ ?_ (fun hHeld => ?_)
                                                                    · exact KQ.out _ (D7.setCell (p := ⟨wr.heap.size, 0, none⟩) (Nat.le_refl _) _)
                                                                    clear hK K
                                                                    (try simp only [Act.put, List.setIfInBounds_toArray, List.set_cons_zero, List.set_cons_succ])
                                                                    refine wpAnyH_done (by kernel_rfl) ?_ _
                                                                    exact FF)
                                                                exact AllReadyH.nil)
                                                            exact AllReadyH.nil)
                                                        exact AllReadyH.nil)
                                                    refine AllReadyH.cons rfl (fun K hK => ?_) ?_
                                                    · exact (by
                                                        go_simp
                                                        go_wp2_with (go_at_call 29; (with_reducible refine (P2.out wa hwa).mono ?_); rintro e wb ⟨gd, rfl, hkd, hwb⟩; have KD := Lib.hid hkd; have DB : Below wr.heap.size wr wb := DW.out.trans (hwb.mono DW.out.size); have qb := Q13.out wb hwb; have OB := Lib.hid (own_below HO.out hwb); clear hkd)
                                                        refine hK.out _ _ ?_ (fun hHeld => ?_)
                                                        · (refine KQ.out _ ?_; first | assumption | exact DW.out | exact (show Below wr.heap.size wr W.drew from DW.out.drew))
                                                        clear hK K
                                                        (try simp only [Act.put, List.setIfInBounds_toArray, List.set_cons_zero, List.set_cons_succ])
                                                        refine wpAnyH_ready (rs := [0]) (by kernel_rfl) (by simp) ?_
                                                        refine AllReadyH.cons rfl (fun K hK => ?_) ?_
                                                        · exact (by
                                                            go_simp
                                                            refine hK.out _ _ ?_ (fun hHeld => ?_)
                                                            · (refine KQ.out _ ?_; first | assumption | exact DW.out | exact (show Below wr.heap.size wr W.drew from DW.out.drew))
                                                            clear hK K
                                                            (try simp only [Act.put, List.setIfInBounds_toArray, List.set_cons_zero, List.set_cons_succ])
                                                            refine wpAnyH_ready (rs := [11]) (by kernel_rfl) (by simp) ?_
                                                            refine AllReadyH.cons rfl (fun K hK => ?_) ?_
                                                            · exact (by
                                                                refine step_append_lies _ (by rfl) _ _ _ (by rfl) wS.heap.size 4 ib (.bool false) 1 1 Tryz.underlying62 hib hib0 hib1 hib2 rfl (by decide) (.slice Av 1 cv) 1 (bl (dvs pre)) (by rfl) OB.out ⟨gd, 0, none⟩ 1 1 [.bool (dv 1 x)] (by rfl) (by rfl) (World.news_of_block (cs := #[.bool (dv 1 x)]) (t := 4) (fr := (0, 0)) KD.out) (by simp [Value.oneCell']) (by omega) (by unfold maxLen; omega) (by omega) (by have := hwb.size; omega) wb.heap.size rfl ?_
                                                                intro g7 c7 w7 hown7 hgrow7 hat7 hlt7
                                                                obtain ⟨FF, q7, f7, D7⟩ := FIN.out wb w7 g7 c7 hwb hgrow7 hown7
                                                                refine hK.out _ _ ?_ (fun hHeld => ?_)
                                                                · (refine KQ.out _ ?_; first | assumption | exact DW.out | exact (show Below wr.heap.size wr W.drew from DW.out.drew))
                                                                clear hK K
                                                                (try simp only [Act.put, List.setIfInBounds_toArray, List.set_cons_zero, List.set_cons_succ])
                                                                refine wpAnyH_ready (rs := [12]) (by kernel_rfl) (by simp) ?_
                                                                refine AllReadyH.cons rfl (fun K hK => ?_) ?_
                                                                · exact (by
                                                                    go_simp
                                                                    refine hK.out _ _ ?_ (fun hHeld => ?_)
                                                                    · exact KQ.out _ (D7.setCell (p := ⟨wr.heap.size, 0, none⟩) (Nat.le_refl _) _)
                                                                    clear hK K
                                                                    (try simp only [Act.put, List.setIfInBounds_toArray, List.set_cons_zero, List.set_cons_succ])
                                                                    refine wpAnyH_done (by kernel_rfl) ?_ _
                                                                    exact FF)
                                                                exact AllReadyH.nil)
                                                            exact AllReadyH.nil)
                                                        exact AllReadyH.nil)
                                                    exact AllReadyH.nil)
                                                exact AllReadyH.nil)
                                            refine AllReadyH.cons rfl (fun K hK => ?_) ?_
                                            · exact (by
                                                go_simp
                                                refine hK.out _ _ ?_ (fun hHeld => ?_)
                                                · (refine KQ.out _ ?_; first | assumption | exact DW.out | exact (show Below wr.heap.size wr W.drew from DW.out.drew))
                                                clear hK K
                                                (try simp only [Act.put, List.setIfInBounds_toArray, List.set_cons_zero, List.set_cons_succ])
                                                refine wpAnyH_take (i := 5) (oi := _) (v := .int .i64 1) rfl (by kernel_rfl) (by kernel_rfl) (by kernel_rfl) (fun _ _ _ h => h) (Or.inl ⟨by rfl, ?_⟩) (by assumption) ?_
                                                · intro w hSw
                                                  (try dsimp only at hSw)
                                                  go_simp
                                                  all_goals (with_reducible rfl)
                                                simp only [Act.put, List.setIfInBounds_toArray, List.set_cons_zero, List.set_cons_succ]
                                                refine wpAnyH_take (i := 7) (oi := _) (v := .int .i64 1) rfl (by kernel_rfl) (by kernel_rfl) (by kernel_rfl) (fun _ _ _ h => h) (Or.inl ⟨by rfl, ?_⟩) (by assumption) ?_
                                                · intro w hSw
                                                  (try dsimp only at hSw)
                                                  go_simp
                                                  all_goals (with_reducible rfl)
                                                simp only [Act.put, List.setIfInBounds_toArray, List.set_cons_zero, List.set_cons_succ]
                                                refine wpAnyH_take (i := 8) (oi := _) (v := .pointer (some ⟨wc.heap.size, 1, none⟩)) rfl (by kernel_rfl) (by kernel_rfl) (by kernel_rfl) (fun _ _ _ h => h) (Or.inl ⟨by rfl, ?_⟩) (by assumption) ?_
                                                · intro w hSw
                                                  (try dsimp only at hSw)
                                                  go_simp
                                                  all_goals (with_reducible rfl)
                                                simp only [Act.put, List.setIfInBounds_toArray, List.set_cons_zero, List.set_cons_succ]
                                                refine wpAnyH_take (i := 9) (oi := _) (v := .slice A1 4 d1) rfl (by kernel_rfl) (by kernel_rfl) (by kernel_rfl) (fun _ _ _ h => h) (Or.inl ⟨by rfl, ?_⟩) (by assumption) ?_
                                                · intro w hSw
                                                  (try dsimp only at hSw)
                                                  go_simp
                                                  all_goals (with_reducible rfl)
                                                simp only [Act.put, List.setIfInBounds_toArray, List.set_cons_zero, List.set_cons_succ]
                                                refine wpAnyH_ready (rs := [0, 3]) (by kernel_rfl) (by simp) ?_
                                                refine AllReadyH.cons rfl (fun K hK => ?_) ?_
                                                · exact (by
                                                    go_simp
                                                    refine hK.out _ _ ?_ (fun hHeld => ?_)
                                                    · (refine KQ.out _ ?_; first | assumption | exact DW.out | exact (show Below wr.heap.size wr W.drew from DW.out.drew))
                                                    clear hK K
                                                    (try simp only [Act.put, List.setIfInBounds_toArray, List.set_cons_zero, List.set_cons_succ])
                                                    refine wpAnyH_ready (rs := [3]) (by kernel_rfl) (by simp) ?_
                                                    refine AllReadyH.cons rfl (fun K hK => ?_) ?_
                                                    · exact (by
                                                        go_simp
                                                        go_wp2_with (go_at_call 23; (with_reducible refine (P1.out _).mono ?_); rintro e wa ⟨rfl, hwa⟩; have hwa : Below W.heap.size W wa := ⟨hwa.os, hwa.tape, hwa.output, hwa.size, hwa.block⟩; have DA : Below wr.heap.size wr wa := DW.out.trans (hwa.mono DW.out.size); have qa := Q13.out wa hwa)
                                                        refine hK.out _ _ ?_ (fun hHeld => ?_)
                                                        · (refine KQ.out _ ?_; first | assumption | exact DW.out | exact (show Below wr.heap.size wr W.drew from DW.out.drew))
                                                        clear hK K
                                                        (try simp only [Act.put, List.setIfInBounds_toArray, List.set_cons_zero, List.set_cons_succ])
                                                        refine wpAnyH_ready (rs := [10]) (by kernel_rfl) (by simp) ?_
                                                        refine AllReadyH.cons rfl (fun K hK => ?_) ?_
                                                        · exact (by
                                                            go_simp
                                                            go_wp2_with (go_at_call 29; (with_reducible refine (P2.out wa hwa).mono ?_); rintro e wb ⟨gd, rfl, hkd, hwb⟩; have KD := Lib.hid hkd; have DB : Below wr.heap.size wr wb := DW.out.trans (hwb.mono DW.out.size); have qb := Q13.out wb hwb; have OB := Lib.hid (own_below HO.out hwb); clear hkd)
                                                            refine hK.out _ _ ?_ (fun hHeld => ?_)
                                                            · (refine KQ.out _ ?_; first | assumption | exact DW.out | exact (show Below wr.heap.size wr W.drew from DW.out.drew))
                                                            clear hK K
                                                            (try simp only [Act.put, List.setIfInBounds_toArray, List.set_cons_zero, List.set_cons_succ])
                                                            refine wpAnyH_ready (rs := [11]) (by kernel_rfl) (by simp) ?_
                                                            refine AllReadyH.cons rfl (fun K hK => ?_) ?_
                                                            · exact (by
                                                                refine step_append_lies _ (by rfl) _ _ _ (by rfl) wS.heap.size 4 ib (.bool false) 1 1 Tryz.underlying62 hib hib0 hib1 hib2 rfl (by decide) (.slice Av 1 cv) 1 (bl (dvs pre)) (by rfl) OB.out ⟨gd, 0, none⟩ 1 1 [.bool (dv 1 x)] (by rfl) (by rfl) (World.news_of_block (cs := #[.bool (dv 1 x)]) (t := 4) (fr := (0, 0)) KD.out) (by simp [Value.oneCell']) (by omega) (by unfold maxLen; omega) (by omega) (by have := hwb.size; omega) wb.heap.size rfl ?_
                                                                intro g7 c7 w7 hown7 hgrow7 hat7 hlt7
                                                                obtain ⟨FF, q7, f7, D7⟩ := FIN.out wb w7 g7 c7 hwb hgrow7 hown7
                                                                refine hK.out _ _ ?_ (fun hHeld => ?_)
                                                                · (refine KQ.out _ ?_; first | assumption | exact DW.out | exact (show Below wr.heap.size wr W.drew from DW.out.drew))
                                                                clear hK K
                                                                (try simp only [Act.put, List.setIfInBounds_toArray, List.set_cons_zero, List.set_cons_succ])
                                                                refine wpAnyH_ready (rs := [12]) (by kernel_rfl) (by simp) ?_
                                                                refine AllReadyH.cons rfl (fun K hK => ?_) ?_
                                                                · exact (by
                                                                    go_simp
                                                                    refine hK.out _ _ ?_ (fun hHeld => ?_)
                                                                    · exact KQ.out _ (D7.setCell (p := ⟨wr.heap.size, 0, none⟩) (Nat.le_refl _) _)
                                                                    clear hK K
                                                                    (try simp only [Act.put, List.setIfInBounds_toArray, List.set_cons_zero, List.set_cons_succ])
                                                                    refine wpAnyH_done (by kernel_rfl) ?_ _
                                                                    exact FF)
                                                                exact AllReadyH.nil)
                                                            exact AllReadyH.nil)
                                                        exact AllReadyH.nil)
                                                    exact AllReadyH.nil)
                                                refine AllReadyH.cons rfl (fun K hK => ?_) ?_
                                                · exact (by
                                                    go_simp
                                                    go_wp2_with (go_at_call 23; (with_reducible refine (P1.out _).mono ?_); rintro e wa ⟨rfl, hwa⟩; have hwa : Below W.heap.size W wa := ⟨hwa.os, hwa.tape, hwa.output, hwa.size, hwa.block⟩; have DA : Below wr.heap.size wr wa := DW.out.trans (hwa.mono DW.out.size); have qa := Q13.out wa hwa)
                                                    refine hK.out _ _ ?_ (fun hHeld => ?_)
                                                    · (refine KQ.out _ ?_; first | assumption | exact DW.out | exact (show Below wr.heap.size wr W.drew from DW.out.drew))
                                                    clear hK K
                                                    (try simp only [Act.put, List.setIfInBounds_toArray, List.set_cons_zero, List.set_cons_succ])
                                                    refine wpAnyH_ready (rs := [0, 10]) (by kernel_rfl) (by simp) ?_
                                                    refine AllReadyH.cons rfl (fun K hK => ?_) ?_
                                                    · exact (by
                                                        go_simp
                                                        refine hK.out _ _ ?_ (fun hHeld => ?_)
                                                        · (refine KQ.out _ ?_; first | assumption | exact DW.out | exact (show Below wr.heap.size wr W.drew from DW.out.drew))
                                                        clear hK K
                                                        (try simp only [Act.put, List.setIfInBounds_toArray, List.set_cons_zero, List.set_cons_succ])
                                                        refine wpAnyH_ready (rs := [10]) (by kernel_rfl) (by simp) ?_
                                                        refine AllReadyH.cons rfl (fun K hK => ?_) ?_
                                                        · exact (by
                                                            go_simp
                                                            go_wp2_with (go_at_call 29; (with_reducible refine (P2.out wa hwa).mono ?_); rintro e wb ⟨gd, rfl, hkd, hwb⟩; have KD := Lib.hid hkd; have DB : Below wr.heap.size wr wb := DW.out.trans (hwb.mono DW.out.size); have qb := Q13.out wb hwb; have OB := Lib.hid (own_below HO.out hwb); clear hkd)
                                                            refine hK.out _ _ ?_ (fun hHeld => ?_)
                                                            · (refine KQ.out _ ?_; first | assumption | exact DW.out | exact (show Below wr.heap.size wr W.drew from DW.out.drew))
                                                            clear hK K
                                                            (try simp only [Act.put, List.setIfInBounds_toArray, List.set_cons_zero, List.set_cons_succ])
                                                            refine wpAnyH_ready (rs := [11]) (by kernel_rfl) (by simp) ?_
                                                            refine AllReadyH.cons rfl (fun K hK => ?_) ?_
                                                            · exact (by
                                                                refine step_append_lies _ (by rfl) _ _ _ (by rfl) wS.heap.size 4 ib (.bool false) 1 1 Tryz.underlying62 hib hib0 hib1 hib2 rfl (by decide) (.slice Av 1 cv) 1 (bl (dvs pre)) (by rfl) OB.out ⟨gd, 0, none⟩ 1 1 [.bool (dv 1 x)] (by rfl) (by rfl) (World.news_of_block (cs := #[.bool (dv 1 x)]) (t := 4) (fr := (0, 0)) KD.out) (by simp [Value.oneCell']) (by omega) (by unfold maxLen; omega) (by omega) (by have := hwb.size; omega) wb.heap.size rfl ?_
                                                                intro g7 c7 w7 hown7 hgrow7 hat7 hlt7
                                                                obtain ⟨FF, q7, f7, D7⟩ := FIN.out wb w7 g7 c7 hwb hgrow7 hown7
                                                                refine hK.out _ _ ?_ (fun hHeld => ?_)
                                                                · (refine KQ.out _ ?_; first | assumption | exact DW.out | exact (show Below wr.heap.size wr W.drew from DW.out.drew))
                                                                clear hK K
                                                                (try simp only [Act.put, List.setIfInBounds_toArray, List.set_cons_zero, List.set_cons_succ])
                                                                refine wpAnyH_ready (rs := [12]) (by kernel_rfl) (by simp) ?_
                                                                refine AllReadyH.cons rfl (fun K hK => ?_) ?_
                                                                · exact (by
                                                                    go_simp
                                                                    refine hK.out _ _ ?_ (fun hHeld => ?_)
                                                                    · exact KQ.out _ (D7.setCell (p := ⟨wr.heap.size, 0, none⟩) (Nat.le_refl _) _)
                                                                    clear hK K
                                                                    (try simp only [Act.put, List.setIfInBounds_toArray, List.set_cons_zero, List.set_cons_succ])
                                                                    refine wpAnyH_done (by kernel_rfl) ?_ _
                                                                    exact FF)
                                                                exact AllReadyH.nil)
                                                            exact AllReadyH.nil)
                                                        exact AllReadyH.nil)
                                                    refine AllReadyH.cons rfl (fun K hK => ?_) ?_
                                                    · exact (by
                                                        go_simp
                                                        go_wp2_with (go_at_call 29; (with_reducible refine (P2.out wa hwa).mono ?_); rintro e wb ⟨gd, rfl, hkd, hwb⟩; have KD := Lib.hid hkd; have DB : Below wr.heap.size wr wb := DW.out.trans (hwb.mono DW.out.size); have qb := Q13.out wb hwb; have OB := Lib.hid (own_below HO.out hwb); clear hkd)
                                                        refine hK.out _ _ ?_ (fun hHeld => ?_)
                                                        · (refine KQ.out _ ?_; first | assumption | exact DW.out | exact (show Below wr.heap.size wr W.drew from DW.out.drew))
                                                        clear hK K
                                                        (try simp only [Act.put, List.setIfInBounds_toArray, List.set_cons_zero, List.set_cons_succ])
                                                        refine wpAnyH_ready (rs := [0]) (by kernel_rfl) (by simp) ?_
                                                        refine AllReadyH.cons rfl (fun K hK => ?_) ?_
                                                        · exact (by
                                                            go_simp
                                                            refine hK.out _ _ ?_ (fun hHeld => ?_)
                                                            · (refine KQ.out _ ?_; first | assumption | exact DW.out | exact (show Below wr.heap.size wr W.drew from DW.out.drew))
                                                            clear hK K
                                                            (try simp only [Act.put, List.setIfInBounds_toArray, List.set_cons_zero, List.set_cons_succ])
                                                            refine wpAnyH_ready (rs := [11]) (by kernel_rfl) (by simp) ?_
                                                            refine AllReadyH.cons rfl (fun K hK => ?_) ?_
                                                            · exact (by
                                                                refine step_append_lies _ (by rfl) _ _ _ (by rfl) wS.heap.size 4 ib (.bool false) 1 1 Tryz.underlying62 hib hib0 hib1 hib2 rfl (by decide) (.slice Av 1 cv) 1 (bl (dvs pre)) (by rfl) OB.out ⟨gd, 0, none⟩ 1 1 [.bool (dv 1 x)] (by rfl) (by rfl) (World.news_of_block (cs := #[.bool (dv 1 x)]) (t := 4) (fr := (0, 0)) KD.out) (by simp [Value.oneCell']) (by omega) (by unfold maxLen; omega) (by omega) (by have := hwb.size; omega) wb.heap.size rfl ?_
                                                                intro g7 c7 w7 hown7 hgrow7 hat7 hlt7
                                                                obtain ⟨FF, q7, f7, D7⟩ := FIN.out wb w7 g7 c7 hwb hgrow7 hown7
                                                                refine hK.out _ _ ?_ (fun hHeld => ?_)
                                                                · (refine KQ.out _ ?_; first | assumption | exact DW.out | exact (show Below wr.heap.size wr W.drew from DW.out.drew))
                                                                clear hK K
                                                                (try simp only [Act.put, List.setIfInBounds_toArray, List.set_cons_zero, List.set_cons_succ])
                                                                refine wpAnyH_ready (rs := [12]) (by kernel_rfl) (by simp) ?_
                                                                refine AllReadyH.cons rfl (fun K hK => ?_) ?_
                                                                · exact (by
                                                                    go_simp
                                                                    refine hK.out _ _ ?_ (fun hHeld => ?_)
                                                                    · exact KQ.out _ (D7.setCell (p := ⟨wr.heap.size, 0, none⟩) (Nat.le_refl _) _)
                                                                    clear hK K
                                                                    (try simp only [Act.put, List.setIfInBounds_toArray, List.set_cons_zero, List.set_cons_succ])
                                                                    refine wpAnyH_done (by kernel_rfl) ?_ _
                                                                    exact FF)
                                                                exact AllReadyH.nil)
                                                            exact AllReadyH.nil)
                                                        exact AllReadyH.nil)
                                                    exact AllReadyH.nil)
                                                exact AllReadyH.nil)
                                            exact AllReadyH.nil)
                                      case done =>
                                        rintro D ys W hD rfl ⟨⟨Av, cv, hk, ho⟩, hb, hBW⟩ hK
                                        have HP := Lib.hid (fun o' => HIO.putObj o' (s := [0, 1]) (W := W) ⟨⟨Av, cv, hk, ho⟩, hb, hBW⟩ hD hK rfl)
                                        obtain ⟨g, cap, hv, hBg, hgl⟩ := ho.form (by decide)
                                        injection hv with e1 _ e3
                                        subst e1 e3
                                        have k0 := ho.cellAt 0 (by decide)
                                        have k1 := ho.cellAt 1 (by decide)
                                        rw [dvs_all] at k0 k1
                                        have hgD : g ≠ D := fun e => by
                                          subst e
                                          rcases ho.2 with ⟨hv, _⟩ | ⟨g', cap', cur, hv, _, hgg, _⟩
                                          · cases hv
                                          · injection hv with e1
                                            injection e1 with e1
                                            injection e1 with e1
                                            subst e1
                                            rw [hK] at hgg
                                            cases hgg
                                        have q := hk.one.1
                                        have HK0 := Lib.hid k0
                                        have HK1 := Lib.hid k1
                                        clear hk ho k0 k1
                                        go_wp2
                                        refine ⟨by simp, .inl ⟨_, _, rfl, run_takeDeferred hK, ?_⟩⟩
                                        refine ⟨_, results_tmp rfl _ _ _, ?_⟩
                                        obtain ⟨_, hb2, _⟩ := HP.out (.deferred none)
                                        exact ⟨g, ⟨cv, rfl⟩, (World.cell?_of_block (World.putObj_heap_other (by first | exact fun e => hgD e | exact fun e => hgD e.symm))).trans HK0.out, (World.cell?_of_block (World.putObj_heap_other (by first | exact fun e => hgD e | exact fun e => hgD e.symm))).trans HK1.out, by simpa using hgl, BR.out.trans (hb2.mono BR.out.size)⟩
                                      case stop =>
                                        rintro D c pre W _ _ h _
                                        exact h.elim)))))))))))))))
end Go.Proofs.YtcgkkppidkkjiaaGreatDoor
