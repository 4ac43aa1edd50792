/- The walk of Next at the example. -/
/- The walk of tree.Quiet at the zero tree. -/
import Derived.Test.YtaicehkphokacaaMbh
import Derived.Test.YtaicehkphokacaaMaq
import Derived.BigQuiet
namespace Go.Proofs.Ytaicehkphokacaa
open Go.RowKit

theorem own_blk_ne2 {w : World} {base k g gc n c : Nat} {e t : TypeId} {xs : List Value} {cs : Array Value} (h : w.ownsRow base e k (.slice (some ⟨g, 0, none⟩) n c) n xs) (hb : Blk w gc t cs) (hne : e ≠ t) : g ≠ gc := by
  rcases h.2 with ⟨h1, _⟩ | ⟨g', cap, cur, h1, _, hg, _⟩
  · cases h1
  · injection h1 with h1
    injection h1 with h1
    injection h1 with h1
    subst h1
    rintro rfl
    rw [show w.heap[g]? = _ from hb] at hg
    injection hg with hg
    injection hg with _ ht
    exact hne ht.symm
theorem own_tree {w : World} {base g n c : Nat} {X : Option Addr} {xs : List Value} {a b d : Value} (h : w.ownsRow base 3 1 (.slice X n c) n xs) (hb : Blk w g 25 #[a, b, d]) (hk : ob X g) : False := by
  match X, h, hk with
  | none, _, hk => cases hk
  | some ⟨g', o, z⟩, h, hk =>
    have e : g' = g := by
      have := ob_own (n := n) (c := c).1 hk
      injection this
    subst e
    obtain ⟨g2, h2, _⟩ := own_some h
    injection h2 with h2 h3 h4
    subst h3 h4
    exact own_blk_ne2 h hb (by decide) rfl
theorem reads_own2 {w : World} {base d : Nat} {X : Option Addr} (h : w.ownsRow base 3 1 (.slice X 2 d) 2 [.int .i64 0, .int .i64 1]) : Reads w w.heap.size X 2 (il [0, 1]) := Reads.of_own h
set_option maxRecDepth 100000 in
set_option maxHeartbeats 8000000 in
theorem next_ex (AH AN A : Option Addr) (cH cN c : Nat) (w : World) (h : TS w AH AN parT) (hp : CReads w w.heap.size A 1 (fun k => ([(3, 0, 1)] : List C3).getD k (0, 0, 0))) :
    Calls Try.prog 26 #[.agg #[.int .i64 2, .slice AH 2 cH, .slice AN 3 cN], .slice A 1 c, .int .i64 2, .int .i64 0] w fun e w' => e = .returned (.tuple #[.int .i64 1, .int .i64 0]) ∧ Below w.heap.size w w' := by
  obtain ⟨ii, hii, hz0, hz1, hz2⟩ := info_parts Try.info_intL
  have EX := Lib.hid (fun W (hb : Below w.heap.size w W) => show Calls Try.prog 28 #[.agg #[.int .i64 2, .slice AH 2 cH, .slice AN 3 cN], .slice A 1 c] W fun e W' => e = .returned (.int .i64 0) ∧ Below W.heap.size W W' from
    dexamine_any AH AN A cH cN c 1 parT [(3, 0, 1)] W (h.later hb) par_rt par_q (hp.later hb) rfl (by decide) ok_p1)
  have VP := Lib.hid (fun W => show Calls Try.prog 44 #[.int .i64 2, .int .i64 0] W fun e W' => e = .returned (.bool true) ∧ W = W' from dvplace_any 2 0 W)
  have G2 := Lib.hid (fun W (hb : Below w.heap.size w W) => get_2 A c W (hp.later hb))
  have G3 := Lib.hid (fun W (hb : Below w.heap.size w W) => get_3 A c W (hp.later hb))
  have EV := Lib.hid (fun W X d (hb : Below w.heap.size w W) (hr : Reads W W.heap.size X 2 (il [0, 1])) => show Calls Try.prog 46 #[.agg #[.int .i64 2, .slice AH 2 cH, .slice AN 3 cN], .slice X 2 d] W fun e W' => e = .returned (.tuple #[.int .i64 1, .int .i64 0]) ∧ Below W.heap.size W W' from
    eval_any AH cH AN cN parT X d [0, 1] W 2 (h.later hb) par_rt hr (by decide))
  obtain ⟨gh, oh, hA, hgh, hcells⟩ := h.1 (by decide)
  subst hA
  have C0 := Lib.hid (hcells 0 (by decide))
  have C1 := Lib.hid (hcells 1 (by decide))
  clear h hp hcells
  have K1 := Blk.new w 25 #[.int .i64 2, .slice (some ⟨gh, oh, none⟩) 2 cH, .slice AN 3 cN]
  have B1 := Lib.hid ((Below.refl w.heap.size w).alloc (Nat.le_refl _) (.cells #[.int .i64 2, .slice (some ⟨gh, oh, none⟩) 2 cH, .slice AN 3 cN] 25))
  go_enter Try.func26, Try.ntmps26
  go_upto_region 1 with (fail)
  generalize w.alloc (.cells #[.int .i64 2, .slice (some ⟨gh, oh, none⟩) 2 cH, .slice AN 3 cN] 25) = w1 at *
  obtain ⟨t0, t1, t2, _, _, _, t3⟩ := K1.three6
  have K1 := Lib.hid K1
  go_upto_region 4 with (go_at_call 28; (with_reducible refine (EX.out _ B1.out).mono ?_); rintro e w2 ⟨rfl, hb⟩; have B2 := Lib.hid (B1.out.trans (hb.mono B1.out.size)); have K2 := Lib.hid (K1.out.below hb K1.out.lt); clear hb)
  clear t0 t1 t2 t3
  obtain ⟨t0, t1, t2, _, _, _, t3⟩ := K2.out.three6
  have hsz2 := B2.out.size
  exact (by
    go_upto_region 6 with (go_at_call 44; (with_reducible refine (VP.out _).mono ?_); rintro e w8 ⟨rfl, rfl⟩)
    go_upto_region 7 with (at_make; refine wpList_make_own _ rfl _ _ 38 rfl w.heap.size 3 ii (.int .i64 0) 1 Try.underlying38 hii hz0 hz1 .i64 .i64 _ 2 rfl rfl (by omega) (by rw [hz2]; omega) (by unfold maxLen; omega) hsz2 ?_; intro w4 hown hgrow; have OC := Lib.hid hown; have A4 := Lib.hid (show Below w2.heap.size w2 w4 from ⟨hgrow.os, hgrow.tape, hgrow.output, hgrow.size, fun k hk => hgrow.block k hk (by simp)⟩); clear hown hgrow)
    have B4 := Lib.hid (B2.out.trans (A4.out.mono B2.out.size))
    have K4 := Lib.hid (K2.out.below A4.out K2.out.lt)
    clear t0 t1 t2 t3 K1 K2 A4 B2 B1
    obtain ⟨t0, t1, t2, _, _, _, t3⟩ := K4.out.three6
    go_upto_region 8 with (fail)
    clear t0 t1 t2 t3
    go_loopw [11, 31] (fun sv iv wr => Hid (Blk wr w.heap.size 25 #[.int .i64 2, .slice (some ⟨gh, oh, none⟩) 2 cH, .slice AN 3 cN]) ∧ Hid (Below w.heap.size w wr) ∧ ∃ X d, ((iv = .int .i64 0 ∧ sv = .slice X 0 d ∧ Hid (wr.ownsRow w.heap.size 3 1 (.slice X 0 d) 0 [])) ∨ (iv = .int .i64 1 ∧ sv = .slice X 1 d ∧ Hid (wr.ownsRow w.heap.size 3 1 (.slice X 1 d) 1 [.int .i64 0])) ∨ (iv = .int .i64 2 ∧ sv = .slice X 2 d ∧ Hid (wr.ownsRow w.heap.size 3 1 (.slice X 2 d) 2 [.int .i64 0, .int .i64 1])))) (fun _ iv _ => 2 - (intOf iv).toNat)
    case atStart => exact ⟨K4, B4, _, _, .inl ⟨rfl, rfl, by simpa using OC⟩⟩
    case round =>
    clear K4 B4 OC
    obtain ⟨HK, HB, X, d, hrel⟩ := hrel
    rcases hrel with ⟨rfl, rfl, HO⟩ | ⟨rfl, rfl, HO⟩ | ⟨rfl, rfl, HO⟩
    · have c0 : wr.cell? ⟨gh, oh, none⟩ = some (.int .i64 0) := (HB.out.cell hgh).trans C0.out.1
      have c1 : wr.cell? ⟨gh, oh + 1, none⟩ = some (.int .i64 0) := (HB.out.cell hgh).trans C0.out.2
      have A5 := Lib.hid ((Below.refl wr.heap.size wr).alloc (Nat.le_refl _) (.cells #[.int .i64 0, .int .i64 0] 52))
      have P5 := Blk.new wr 52 #[.int .i64 0, .int .i64 0]
      have B5 := Lib.hid (HB.out.trans (A5.out.mono HB.out.size))
      have K5 := Lib.hid (HK.out.below A5.out HK.out.lt)
      have O5 := Lib.hid (own_belowk HO.out A5.out)
      exact (by
        go_upto_region 10 with (fail)
        generalize wr.alloc (.cells #[.int .i64 0, .int .i64 0] 52) = w5 at *
        obtain ⟨p0, p1, _, _, _⟩ := P5.two
        clear c0 c1
        have hsz5 := B5.out.size
        go_wp2_with (first
          | (go_at_call 45; (with_reducible refine (G2.out _ B5.out).mono ?_); rintro e w6 ⟨rfl, hb⟩; have B6 := Lib.hid (B5.out.trans (hb.mono B5.out.size)); have K6 := Lib.hid (K5.out.below hb K5.out.lt); have O6 := Lib.hid (own_belowk O5.out hb); have hsz6 := B6.out.size; clear hb)
          | (at_builtin; refine wpList_append1F rfl _ _ 38 rfl w.heap.size 3 ii (.int .i64 0) 8 Try.underlying38 hii hz0 hz1 hz2 rfl X 0 d _ rfl O6.out (.int .i64 0) rfl rfl (by unfold maxLen; omega) (by omega) hsz6 ?_; intro g' c2 w9 hown hfr; have O9 := Lib.hid hown; have B9 := Lib.hid (B6.out.trans (hfr.below (B := w.heap.size) (fun k hk => (ob_ge O6.out k hk).1) hsz6)); have K9 := Lib.hid (hfr.blk K6.out (fun hk => own_tree O6.out K6.out hk)); clear hown hfr))
        go_roundw
        case rel => exact ⟨K9, B9, some ⟨g', 0, none⟩, c2, .inr (.inl ⟨rfl, rfl, O9⟩)⟩
        case measure => simp [intOf])
    · have c0 : wr.cell? ⟨gh, oh + 2, none⟩ = some (.int .i64 1) := (HB.out.cell hgh).trans C1.out.1
      have c1 : wr.cell? ⟨gh, oh + 2 + 1, none⟩ = some (.int .i64 0) := (HB.out.cell hgh).trans C1.out.2
      have A5 := Lib.hid ((Below.refl wr.heap.size wr).alloc (Nat.le_refl _) (.cells #[.int .i64 1, .int .i64 0] 52))
      have P5 := Blk.new wr 52 #[.int .i64 1, .int .i64 0]
      have B5 := Lib.hid (HB.out.trans (A5.out.mono HB.out.size))
      have K5 := Lib.hid (HK.out.below A5.out HK.out.lt)
      have O5 := Lib.hid (own_belowk HO.out A5.out)
      exact (by
        go_upto_region 10 with (fail)
        generalize wr.alloc (.cells #[.int .i64 1, .int .i64 0] 52) = w5 at *
        obtain ⟨p0, p1, _, _, _⟩ := P5.two
        clear c0 c1
        have hsz5 := B5.out.size
        go_wp2_with (first
          | (go_at_call 45; (with_reducible refine (G3.out _ B5.out).mono ?_); rintro e w6 ⟨rfl, hb⟩; have B6 := Lib.hid (B5.out.trans (hb.mono B5.out.size)); have K6 := Lib.hid (K5.out.below hb K5.out.lt); have O6 := Lib.hid (own_belowk O5.out hb); have hsz6 := B6.out.size; clear hb)
          | (at_builtin; refine wpList_append1F rfl _ _ 38 rfl w.heap.size 3 ii (.int .i64 0) 8 Try.underlying38 hii hz0 hz1 hz2 rfl X 1 d _ rfl O6.out (.int .i64 1) rfl rfl (by unfold maxLen; omega) (by omega) hsz6 ?_; intro g' c2 w9 hown hfr; have O9 := Lib.hid hown; have B9 := Lib.hid (B6.out.trans (hfr.below (B := w.heap.size) (fun k hk => (ob_ge O6.out k hk).1) hsz6)); have K9 := Lib.hid (hfr.blk K6.out (fun hk => own_tree O6.out K6.out hk)); clear hown hfr))
        go_roundw
        case rel => exact ⟨K9, B9, some ⟨g', 0, none⟩, c2, .inr (.inr ⟨rfl, rfl, O9⟩)⟩
        case measure => simp [intOf])
    · have R2 := Lib.hid (show Reads wr wr.heap.size X 2 (il [0, 1]) from reads_own2 HO.out)
      have E2 := Lib.hid (EV.out wr X d HB.out R2.out)
      obtain ⟨t0, t1, t2, _, _, _, t3⟩ := HK.out.three6
      go_wp2_with (go_at_call 46; (with_reducible refine (E2.out).mono ?_); rintro e w3 ⟨rfl, hb⟩; have B3 := Lib.hid (HB.out.trans (hb.mono HB.out.size)); clear hb)
      (try go_ret2)
      exact ⟨rfl, B3.out⟩)
end Go.Proofs.Ytaicehkphokacaa
namespace Go.Proofs.Ytaicehkphokacaa
open Go.RowKit

theorem skip_if {c E T : Prop} [Decidable c] (h : ¬ c) (e : E) : (if c then T else E) := by rw [if_neg h]; exact e
theorem poss_z (w : World) : Calls Try.prog 77 #[.int .i64 0, .slice none 0 0] w fun e w' => e = .returned (.bool false) ∧ w = w' := by
  go_enter Try.func77, Try.ntmps77
  go_wp2
  go_ret
  exact ⟨rfl, rfl⟩
theorem tright_z (w : World) : Calls Try.prog 66 #[.agg #[.int .i64 0, .slice none 0 0, .slice none 0 0]] w fun e w' => e = .returned (.bool false) ∧ Below w.heap.size w w' := by
  have PO := Lib.hid (fun w' => poss_z w')
  have B1 := Lib.hid ((Below.refl w.heap.size w).alloc (Nat.le_refl _) (.cells #[.int .i64 0, .slice none 0 0, .slice none 0 0] 25))
  go_enter Try.func66, Try.ntmps66
  go_wp2_with (go_at_call 77; (with_reducible refine (PO.out _).mono ?_); rintro e w1 ⟨rfl, rfl⟩)
  go_ret
  exact ⟨rfl, B1.out⟩
set_option maxRecDepth 100000 in
set_option maxHeartbeats 4000000 in
theorem quiet_z (w : World) : Calls Try.prog 47 #[.agg #[.int .i64 0, .slice none 0 0, .slice none 0 0]] w fun e w' => e = .returned (.bool false) ∧ Below w.heap.size w w' := by
  have RI := Lib.hid (fun w' => tright_z w')
  have K1 := Blk.new w 25 #[.int .i64 0, .slice none 0 0, .slice none 0 0]
  have B1 := (Below.refl w.heap.size w).alloc (Nat.le_refl _) (.cells #[.int .i64 0, .slice none 0 0, .slice none 0 0] 25)
  go_enter Try.func47, Try.ntmps47
  go_wp2_with fail
  generalize w.alloc (.cells #[.int .i64 0, .slice none 0 0, .slice none 0 0] 25) = w0 at *
  obtain ⟨a0, a1, a2, _, _, _, a3⟩ := K1.three6
  have hlt := K1.lt
  have B1 := Lib.hid B1
  have q0 := fun p : LowW w0.heap.size w0 => LowW.cell (a := ⟨w.heap.size, 0, none⟩) hlt a0 p
  have q1 := fun p : LowW w0.heap.size w0 => LowW.cell (a := ⟨w.heap.size, 1, none⟩) hlt a1 p
  have q2 := fun p : LowW w0.heap.size w0 => LowW.cell (a := ⟨w.heap.size, 2, none⟩) hlt a2 p
  clear K1
  refine wp_region_low w0.heap.size w0 (by kernel_rfl) (by kernel_rfl) (Below.refl _ _) ?_
  iterate 3 quiet_step (first | (go_at_call 66; with_reducible exact LowW.of_call _ (Nat.le_refl _) (RI.out _)))
  iterate 7 refine BigFrame.wpQuiet_skip rfl ?_
  repeat (quiet_step (fail))
  refine wpQuiet_nil ?_
  rintro w2 ⟨p, rfl⟩
  have B2 := Lib.hid (B1.out.trans (p.below.mono B1.out.size))
  clear q0 q1 q2 a0 a1 a2 a3
  generalize p.w = w2 at B2 ⊢
  go_wp2
  go_ret
  exact ⟨rfl, B2.out⟩
end Go.Proofs.Ytaicehkphokacaa
