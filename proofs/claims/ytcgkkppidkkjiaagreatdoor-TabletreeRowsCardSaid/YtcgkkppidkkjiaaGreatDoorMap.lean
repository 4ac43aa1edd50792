/- The walk of view. -/
import Derived.Test.YtcgkkppidkkjiaaGreatDoorMaa
import Derived.Test.YtcgkkppidkkjiaaGreatDoorMaj
import Derived.Test.YtcgkkppidkkjiaaGreatDoorMad
import Derived.Test.YtcgkkppidkkjiaaGreatDoorMal
import Derived.Test.YtcgkkppidkkjiaaGreatDoorMab
import Derived.Test.YtcgkkppidkkjiaaGreatDoorMaf
import Derived.Test.YtcgkkppidkkjiaaGreatDoorMac
import Derived.Test.YtcgkkppidkkjiaaGreatDoorMak
import Derived.Test.YtcgkkppidkkjiaaGreatDoorMai
import Derived.Below
import Derived.BigQuiet
import Derived.Deep.AppendLies
import Derived.Deep.CutRange
import Derived.Deep.Draws
import Derived.Deep.QuietTactic
import Derived.Deep.RegionHeld3
import Derived.Deep.RegionLaw
import Derived.DeepKeys
import Derived.IntWalk
import Derived.Laws.BitsLemmas
import Derived.Laws.OwnMore
import Derived.Laws.Rows
import Derived.Lib.Hide
import Derived.Lib.SliceRun
import Derived.LoopN
import Derived.OwnWalk
import Derived.Shelf.SlLaysF0
import Derived.Sort.Grow
import Derived.Sort.Statements
import Derived.StillTail
import Derived.StillTailTactics
import Derived.Test.YtcgkkppidkkjiaaGreatDoorRows
import Derived.WalkKit
namespace Go.Proofs.YtcgkkppidkkjiaaGreatDoor
open Go.RowKit
/-- the index of the image of position i -/
def vi (f : Nat → P2) (n k i : Nat) : Nat := (px f n (tn k f i)).toNat
/-- the first j states of a view -/
def vw (f : Nat → P2) (n : Nat) (l : List Int) (k j : Nat) : List Int := (List.range j).map fun i => ig l (vi f n k i)
theorem vw_len (f : Nat → P2) (n : Nat) (l : List Int) (k j : Nat) : (vw f n l k j).length = j := by simp [vw]
theorem vw_succ (f : Nat → P2) (n : Nat) (l : List Int) (k j : Nat) : vw f n l k (j + 1) = vw f n l k j ++ [ig l (vi f n k j)] := by simp [vw, List.range_succ]
/-- a symmetry keeps the neighbourhood -/
def Keeps (f : Nat → P2) (n k : Nat) : Prop := ∀ i, i < n → ∃ j, j < n ∧ f j = tn k f i
theorem keeps_at {f : Nat → P2} {n k i : Nat} (h : Keeps f n k) (hi : i < n) : vi f n k i < n ∧ f (vi f n k i) = tn k f i := by
  obtain ⟨j, hj, e⟩ := h i hi
  rcases fx_cases (fun a => decide (f a = tn k f i)) n with ⟨a, ha, h1, h2, h3⟩ | ⟨h1, h2⟩
  · rw [vi, px, h1]
    exact ⟨ha, of_decide_eq_true h2⟩
  · exact absurd e (of_decide_eq_false (h2 j hj))

/-- a new list of numbers came back -/
def ViewOut (L : List Int) (w : World) (e : Ending) (w' : World) : Prop := ∃ A' c', e = .returned (.slice A' L.length c') ∧ Reads w' w'.heap.size A' L.length (il L) ∧ (0 < L.length → ∀ ad, A' = some ad → w.heap.size ≤ ad.block) ∧ Below w.heap.size w w'

set_option maxRecDepth 100000 in
set_option maxHeartbeats 4000000 in
theorem view_any (g : Nat) (T : Tab) (li : List Int) (ce : Int) (m : Nat) (vs : Nat → List Int) (k : Nat) (w : World)
    (h : QR w g T li ce m vs) (hM : Mat w) (hd : Hd T.f T.n) (hk : k < 8) (hkp : Keeps T.f T.n k) (hli : li.length = T.n) :
    Calls Tryz.prog 72 #[.pointer (some ⟨g, 0, none⟩), .int .i64 (k : Int)] w fun e' w' => ViewOut (vw T.f T.n li k T.n) w e' w' := by
  obtain ⟨i0, hi, hz0, hz1, hz2⟩ := info_parts Tryz.info_int
  obtain ⟨AH, cH, AV, cV, AR, cR, AQ, cQ, AW, cW, hkb, ht, hiq, hw⟩ := h
  obtain ⟨st, ky, n, f, nv, v, nr, ri, ro⟩ := T
  simp only at *
  have hn25 := hd.1.2
  have HH := Lib.hid ht.1
  have HQ := Lib.hid hiq.1
  have HLI := Lib.hid hli
  have K1 := Lib.hid hkb
  have HKP := Lib.hid (fun i (hi : i < n) => keeps_at hkp hi)
  have HIN := Lib.hid hd.2.1
  have HUP := Lib.hid hd.up
  have MH := Lib.hid hM
  have hz : 0 < w.heap.size := hM.1
  have hgw : g < w.heap.size := hkb.lt
  have VS := Lib.hid (vw_succ f n li k)
  have VL := Lib.hid (vw_len f n li k)
  obtain ⟨q0, q1, q2, q3, q4, q5, q6, q7, q8⟩ := hkb.eight
  rw [hli] at q5
  clear hd hkb ht hiq hw hli hkp hM
  go_enter Tryz.func72, Tryz.ntmps72
  go_wp2_with (at_make; refine wpList_make_own _ rfl _ _ 27 rfl w.heap.size 3 i0 (.int .i64 0) 1 Tryz.underlying27 hi hz0 hz1 .i64 .i64 _ n rfl rfl (by omega) (by rw [hz2]; omega) (by unfold maxLen; omega) (Nat.le_refl _) ?_; intro w2 hown2 hgrow2; have PB2 := Lib.hid ((Below.refl w.heap.size w).grown hgrow2 (Nat.le_refl _) (fun k hk => by cases hk)); obtain ⟨m0, m1, m2, m3, m4, m5, m6, m7, m8⟩ := (K1.out.below PB2.out hgw).eight)
  have HO2 := Lib.hid hown2
  rw [HLI.out] at m5
  clear hown2 hgrow2
  go_wp2
  go_loopw [5, 22] (fun lv jv wr => ∃ (j : Nat) (L : List Int) (A' : Option Addr) (c' : Nat), j ≤ n ∧ jv = .int .i64 (j : Int) ∧ L = vw f n li k j ∧ L.length = j ∧ lv = .slice A' L.length c' ∧ wr.ownsRow w.heap.size 3 1 (.slice A' L.length c') L.length (il L) ∧ Below w.heap.size w wr) (fun _ jv _ => n - (intOf jv).toNat)
  case atStart => exact ⟨0, [], _, n, Nat.zero_le _, rfl, rfl, rfl, rfl, HO2.out, PB2.out⟩
  case round =>
    obtain ⟨j, L, A', c', hj, rfl, hL, hLl, rfl, hown, hbel⟩ := hrel
    have HB := Lib.hid hbel
    have HW := Lib.hid hown
    have HL := Lib.hid hL
    have HLE := Lib.hid hLl
    have hsz := hbel.size
    have hLn : L.length ≤ 1000 := by omega
    clear hown hL hLl m0 m1 m2 m3 m4 m5 m6 m7 m8 q0 q1 q2 q3 q4 q5 q6 q7 q8
    by_cases hjn : j < n
    · obtain ⟨g1, o1, rfl, hb1, hc1⟩ := HH.out.below hbel (by omega)
      obtain ⟨c10, c11⟩ := hc1 j hjn
      have hx4 := HIN.out j hjn
      obtain ⟨hvn, hve⟩ := HKP.out j hjn
      have VSJ := VS.out j
      obtain ⟨aq, rfl, hbq, cq⟩ := il_at (HQ.out.below hbel) (show vi f n k j < li.length by rw [HLI.out]; exact hvn)
      obtain ⟨x, hx⟩ : ∃ x, x = ig li (vi f n k j) := ⟨_, rfl⟩
      rw [← hx] at cq VSJ
      have hve2 : f (vi f n k j) = (turnX k (f j).1 (f j).2, turnY k (f j).1 (f j).2) := hve
      clear hve hx hc1
      generalize vi f n k j = i at hvn hve2 cq
      generalize f j = p at c10 c11 hx4 hve2
      obtain ⟨x1, x2⟩ := p
      simp only at c10 c11 hx4 hve2
      have HVE := Lib.hid hve2
      have HVS := Lib.hid VSJ
      have B7 := HB.out.alloc HB.out.size (.cells #[.int .i64 x1, .int .i64 x2] 58)
      have BW := Lib.hid ((Below.refl wr.heap.size wr).alloc (Nat.le_refl _) (.cells #[.int .i64 x1, .int .i64 x2] 58))
      have K7 := Lib.hid (Blk.new wr 58 #[.int .i64 x1, .int .i64 x2])
      have W7 := Lib.hid (HW.out.alloc (.cells #[.int .i64 x1, .int .i64 x2] 58))
      have B7 := Lib.hid B7
      have S7 : wr.heap.size < (wr.alloc (.cells #[.int .i64 x1, .int .i64 x2] 58)).heap.size := by simp
      have KQ := (K1.out.below HB.out hgw).eight
      rw [HLI.out] at KQ
      obtain ⟨q0, q1, q2, q3, q4, q5, q6, q7, q8⟩ := KQ
      have CQ := Lib.hid cq
      have HBQ := Lib.hid hbq
      clear hve2 VSJ hbel cq hbq
      go_upto_region 5 with (fail)
      generalize wr.alloc (.cells #[.int .i64 x1, .int .i64 x2] 58) = w1 at K7 B7 BW S7 W7 ⊢
      clear c10 c11 q0 q1 q2 q3 q4 q5 q6 q7 q8
      have AP := Lib.hid (fun w' (hb : Below w1.heap.size w1 w') => by
        have := apply_any (k : Int) x1 x2 w' (MH.out.below (B7.out.trans (hb.mono B7.out.size)) hz) (by omega) (by omega) (by omega) (by omega)
        rwa [md_nat k hk] at this)
      have SE := Lib.hid (fun w' (hb : Below w1.heap.size w1 w') => search_any (some ⟨g1, o1, none⟩) n cH i f (turnX k x1 x2) (turnY k x1 x2) w' ((HH.out.below (B7.out.trans (hb.mono B7.out.size))).more (by have := (B7.out.trans (hb.mono B7.out.size)).size; exact this)) HUP.out (by omega) hvn HVE.out)
      have K8 := Lib.hid (K1.out.below B7.out hgw)
      have g7 := Nat.lt_of_lt_of_le hgw B7.out.size
      have q2 := fun p : LowW w1.heap.size w1 => (K8.out.below p.below K8.out.lt).eight.2.2.1
      have k0 := fun p : LowW w1.heap.size w1 => (K7.out.below p.below K7.out.lt).two.1
      have k1 := fun p : LowW w1.heap.size w1 => (K7.out.below p.below K7.out.lt).two.2.1
      refine wp_region_low w1.heap.size w1 (by kernel_rfl) (by kernel_rfl) (Below.refl _ _) ?_
      repeat (quiet_step (first | (go_at_call 96; with_reducible exact LowW.of_call _ (Nat.le_refl _) (AP.out _ (LowW.below _))) | (go_at_call 95; with_reducible exact LowW.of_call _ (Nat.le_refl _) (SE.out _ (LowW.below _)))))
      refine wpQuiet_nil ?_
      rintro w2 ⟨p, rfl⟩
      have B2 := Lib.hid (B7.out.trans (p.below.mono B7.out.size))
      have W2 := own_below W7.out p.below
      have hblk : (aq.add i).block < w.heap.size := by rw [block_of_add]; exact HBQ.out
      have CQ2 : p.w.cell? (aq.add i) = some (.int .i64 x) := (B2.out.cell hblk).trans ((HB.out.cell hblk).symm.trans CQ.out)
      clear q2 k0 k1
      generalize p.w = w2 at B2 W2 CQ2 ⊢
      have KQ := (K1.out.below B2.out hgw).eight
      rw [HLI.out] at KQ
      obtain ⟨q0, q1, q2, q3, q4, q5, q6, q7, q8⟩ := KQ
      have hs2 := B2.out.size
      have IL := Lib.hid (il_add L x)
      go_wp2_with (at_builtin; refine wpList_append1 rfl _ _ 27 rfl w.heap.size 3 i0 (.int .i64 0) 8 Tryz.underlying27 hi hz0 hz1 hz2 rfl A' L.length c' _ rfl W2 (.int .i64 x) rfl rfl (by unfold maxLen; omega) (by omega) hs2 ?_; intro g6 c6 w6 hown6 hbel6)
      go_roundw
      case rel => exact ⟨j + 1, L ++ [x], some ⟨g6, 0, none⟩, c6, by omega, by go_num, by rw [HVS.out, HL.out], by rw [List.length_append, HLE.out]; rfl, by simp, by rw [IL.out]; simpa using hown6, B2.out.trans hbel6⟩
      case measure => simp [intOf]; omega
    · obtain rfl : j = n := by omega
      have hl := HL.out
      go_wp2
      go_ret
      exact ⟨A', c', by rw [← hl]; rfl, by rw [← hl]; exact Reads.of_own HW.out, by
        rw [← hl]
        intro hpos ad hA
        obtain ⟨g', cap, hv, hbg, _⟩ := HW.out.form hpos
        injection hv with h1
        rw [hA] at h1
        injection h1 with h1
        rw [h1]
        exact hbg, HB.out⟩
end Go.Proofs.YtcgkkppidkkjiaaGreatDoor
namespace Go.Proofs.YtcgkkppidkkjiaaGreatDoor
open Go.RowKit
theorem Tryz.info_ints : (Tryz.prog.info? 27).map (fun i => (i.zero, i.size, i.bytes)) = some (some (.slice none 0 0), 1, 24) := by kernel_rfl
/-- a row of the call's own holds lists -/
def OL (w : World) (base : Nat) (A : Option Addr) (j c : Nat) (n : Nat) (vs : Nat → List Int) (g : Nat) : Prop :=
  ∃ xs, w.ownsRow base 27 1 (.slice A j c) j xs ∧ (Value.slice A j c).ownBlock ≠ some g ∧ ∀ k, k < j → ∃ A' c', xs[k]? = some (.slice A' n c') ∧ Reads w w.heap.size A' n (il (vs k)) ∧ ∀ ad, A' = some ad → ad.block ≠ g ∧ (Value.slice A j c).ownBlock ≠ some ad.block
theorem OL.vr {w : World} {base j c n g : Nat} {A : Option Addr} {vs : Nat → List Int} (h : OL w base A j c n vs g) (hl : ∀ k, k < j → (vs k).length = n) : VR w w.heap.size A j vs := fun hj => by
  obtain ⟨xs, ho, _, hx⟩ := h
  obtain ⟨g', cap, hv, _, hlt⟩ := ho.form hj
  injection hv with h1 h2 h3
  subst h1
  refine ⟨_, rfl, hlt, fun k hk => ?_⟩
  obtain ⟨A', c', e, hr, _⟩ := hx k hk
  refine ⟨A', c', ?_, by rw [hl k hk]; exact hr⟩
  rw [hl k hk]
  exact ho.cells (g := g') rfl k _ e
theorem Reads.block {w w' : World} {n : Nat} {A : Option Addr} {xs : List Value} (h : Reads w w.heap.size A n xs) (hs : w.heap.size ≤ w'.heap.size) (hb : ∀ ad, A = some ad → ad.block < w.heap.size → w'.heap[ad.block]? = w.heap[ad.block]?) : Reads w' w'.heap.size A n xs :=
  ⟨h.1, fun hn => by
    obtain ⟨ad, e, hlt, hc⟩ := h.2 hn
    exact ⟨ad, e, Nat.lt_of_lt_of_le hlt hs, fun j u hu => (World.cell?_of_block (by rw [block_of_add]; exact hb ad e hlt)).trans (hc j u hu)⟩⟩
theorem own_set1 {w : World} {base : Nat} {e : TypeId} {v : Value} {n : Nat} {xs : List Value} {p : Addr} (h : w.ownsRow base e 1 v n xs) (hp : v.ownBlock ≠ some p.block) (u : Value) : (w.setCell p u).ownsRow base e 1 v n xs := by
  refine ⟨h.1, ?_⟩
  rcases h.2 with hn | ⟨g, cap, cur, rfl, hb', hg, rest⟩
  · exact .inl hn
  · refine .inr ⟨g, cap, cur, rfl, hb', ?_, rest⟩
    have hne : g ≠ p.block := fun e => hp (by rw [e]; rfl)
    rw [Below.heap_setCell w p u g hne]; exact hg
theorem OL.step {wr wa w1 : World} {base j cW n g gg cap : Nat} {AW A' : Option Addr} {c' : Nat} {vs : Nat → List Int} {xs : List Value} {o : Obj} (u : Value) (i : Nat)
    (hown : wr.ownsRow base 27 1 (.slice AW j cW) j xs) (hob : (Value.slice AW j cW).ownBlock ≠ some g)
    (hxs : ∀ k, k < j → ∃ A' c', xs[k]? = some (.slice A' n c') ∧ Reads wr wr.heap.size A' n (il (vs k)) ∧ ∀ ad, A' = some ad → ad.block ≠ g ∧ (Value.slice AW j cW).ownBlock ≠ some ad.block)
    (ha : Below wr.heap.size wr wa) (h1 : Reads wa wa.heap.size A' n (il (vs j))) (hA : 0 < n → ∀ ad, A' = some ad → wr.heap.size ≤ ad.block) (hn : 0 < n)
    (hown1 : w1.ownsRow base 27 1 (.slice (some ⟨gg, 0, none⟩) (j + 1) cap) (j + 1) (xs ++ [.slice A' n c'])) (hgrow : (wa.alloc o).grownBy w1 (Value.slice AW j cW).ownBlock) (hat : (Value.slice AW j cW).ownBlock = some gg ∨ gg = wa.heap.size + 1)
    (hg : g < wr.heap.size) : OL (w1.setCell ⟨g, i, none⟩ u) base (some ⟨gg, 0, none⟩) (j + 1) cap n vs g := by
  have has := ha.size
  have hrow : ∀ b, (Value.slice AW j cW).ownBlock = some b → b < wr.heap.size := fun b hb => by
    rcases hown.2 with ⟨hv, _⟩ | ⟨g', cap', cur', hv, _, hg', _⟩
    · injection hv with h2 h3 h4
      subst h2
      simp [Value.ownBlock] at hb
    · have := (Array.getElem?_eq_some_iff.1 hg').1
      rw [hv] at hb
      simp [Value.ownBlock] at hb
      omega
  have hs1 : wa.heap.size + 1 ≤ w1.heap.size := by have := hgrow.size; simpa using this
  have hgn : gg ≠ g := by
    rintro rfl
    rcases hat with h | h
    · exact hob h
    · omega
  have keep : ∀ b, b < wa.heap.size → b ≠ g → (Value.slice AW j cW).ownBlock ≠ some b → (w1.setCell ⟨g, i, none⟩ u).heap[b]? = wa.heap[b]? := fun b hb hne hro =>
    (Below.heap_setCell w1 ⟨g, i, none⟩ u b hne).trans ((hgrow.block b (by simp; omega) (fun e => hro e.symm)).trans (Below.heap_alloc wa o b hb))
  refine ⟨_, own_set1 (p := ⟨g, i, none⟩) hown1 (by simp only [Value.ownBlock, ne_eq, Option.some.injEq]; exact hgn) u, by simp only [Value.ownBlock, ne_eq, Option.some.injEq]; exact hgn, fun k hk => ?_⟩
  have hlx : xs.length = j := by have := hown.1; omega
  by_cases e : k < j
  · obtain ⟨A2, c2, e2, hr, hne⟩ := hxs k e
    refine ⟨A2, c2, by rw [List.getElem?_append_left (by omega)]; exact e2, ?_, fun ad hA2 => ⟨(hne ad hA2).1, ?_⟩⟩
    · have hr2 := (hr.below ha).more has
      refine hr2.block (by simp; omega) fun ad hA2 hlt => keep _ hlt (hne ad hA2).1 (hne ad hA2).2
    · obtain ⟨ad2, e3, hlt2, _⟩ := hr.2 hn
      rw [hA2] at e3
      injection e3 with e3
      subst e3
      simp only [Value.ownBlock, ne_eq, Option.some.injEq]
      intro e4
      rcases hat with h | h
      · exact (hne ad hA2).2 (by rw [h, e4])
      · omega
  · obtain rfl : k = j := by omega
    refine ⟨A', c', by rw [List.getElem?_append_right (by omega), hlx]; simp, ?_, fun ad hA2 => ?_⟩
    · refine h1.block (by simp; omega) fun ad hA2 hlt => ?_
      have h5 := hA hn ad hA2
      exact keep _ hlt (by omega) (fun h => by have := hrow _ h; omega)
    · have h5 := hA hn ad hA2
      obtain ⟨ad2, e3, hlt2, _⟩ := h1.2 hn
      rw [hA2] at e3
      injection e3 with e3
      subst e3
      refine ⟨by omega, ?_⟩
      simp only [Value.ownBlock, ne_eq, Option.some.injEq]
      intro e4
      rcases hat with h | h
      · have := hrow _ h; omega
      · omega
/-- how many views a question has -/
def nwv (sy : Int) : Nat := if sy = 3 then 0 else ns sy
/-- the question of states came back -/
def AskOut (T : Tab) (l : List Int) (w : World) (e : Ending) (w' : World) : Prop := ∃ g, e = .returned (.pointer (some ⟨g, 0, none⟩)) ∧ QR w' g T l (px T.f T.n (0, 0)) (nwv T.sy) (fun k => vw T.f T.n l k T.n) ∧ Below w.heap.size w w'

set_option maxRecDepth 100000 in
set_option maxHeartbeats 4000000 in
theorem ask_any (AH : Option Addr) (cH : Nat) (AV : Option Addr) (cV : Nat) (AR : Option Addr) (cR : Nat) (T : Tab) (AI : Option Addr) (cI : Nat) (l : List Int) (w : World) (hM : Mat w) (h : TR w AH AV AR T) (hd : Hd T.f T.n) (hI : Reads w w.heap.size AI T.n (il l)) (hcI : T.n ≤ cI) (hkp : ∀ k, k < nwv T.sy → Keeps T.f T.n k) :
    Calls Tryz.prog 43 #[.agg #[.int .i64 T.st, .int .i64 T.sy, .slice AH T.n cH, .slice AV T.nv cV, .slice AR T.nr cR], .slice AI T.n cI] w fun e w' => AskOut T l w e w' := by
  obtain ⟨i0, hi, hz0, hz1, hz2⟩ := info_parts Tryz.info_ints
  have HL := Lib.hid (reads_len hI)
  have CE := Lib.hid (fun w' (hb : Below w.heap.size w w') => hcentre_any AH T.n cH T.f w' (h.1.later hb) hd)
  have K0 := Blk.new w 26 #[.int .i64 T.st, .int .i64 T.sy, .slice AH T.n cH, .slice AV T.nv cV, .slice AR T.nr cR]
  have B0 := (Below.refl w.heap.size w).alloc (Nat.le_refl _) (.cells #[.int .i64 T.st, .int .i64 T.sy, .slice AH T.n cH, .slice AV T.nv cV, .slice AR T.nr cR] 26)
  have QW := Lib.hid (fun w' (g : Nat) AW nw cW vs (hb : Below w.heap.size w w') (hk : Blk w' g 82 #[.int .i64 T.st, .int .i64 T.sy, .slice AH T.n cH, .slice AV T.nv cV, .slice AR T.nr cR, .slice AI T.n cI, .int .i64 (px T.f T.n (0, 0)), .slice AW nw cW]) (hv : VR w' w'.heap.size AW nw vs) =>
    show QR w' g T l (px T.f T.n (0, 0)) nw vs from ⟨AH, cH, AV, cV, AR, cR, AI, cI, AW, cW, by rw [reads_len hI]; exact hk, h.later hb, ⟨by rw [reads_len hI]; exact (hI.below hb).more hb.size, by rw [reads_len hI]; exact hcI⟩, hv⟩)
  have VA := Lib.hid (fun w' (g : Nat) nw vs (k : Nat) (hb : Below w.heap.size w w') (hq : QR w' g T l (px T.f T.n (0, 0)) nw vs) (hk : k < nwv T.sy) => view_any g T l _ nw vs k w' hq (hM.below hb hM.1) hd (by have : nwv T.sy ≤ 8 := (by unfold nwv ns; split; omega; split; omega; split <;> omega); omega) (hkp k hk) (reads_len hI))
  have HM := Lib.hid hM
  have VWL := Lib.hid (fun k => vw_len T.f T.n l k T.n)
  have AO := Lib.hid (fun e w' g (he : e = Ending.returned (.pointer (some ⟨g, 0, none⟩))) (hq : QR w' g T l (px T.f T.n (0, 0)) (nwv T.sy) (fun k => vw T.f T.n l k T.n)) (hb : Below w.heap.size w w') => show AskOut T l w e w' from ⟨g, he, hq, hb⟩)
  have hn := hd.1.2
  have hn1 : 0 < T.n := hd.1.1
  generalize hgQ : QR = QP at QW VA AO
  generalize AskOut T l w = AOut at AO ⊢
  have SN := Lib.hid (fun w => symmetries_any T.sy w)
  have NW := Lib.hid (show nwv T.sy = if T.sy = 3 then 0 else ns T.sy from rfl)
  have NB := Lib.hid (show nwv T.sy ≤ 8 by unfold nwv ns; split; omega; split; omega; split <;> omega)
  obtain ⟨st, ky, n, f, nv, v, nr, ri, ro⟩ := T
  simp only at *
  generalize px f n (0, 0) = ce at CE QW VA AO
  generalize nwv ky = m at VA AO NW NB
  clear h hI hd hkp hM
  go_enter Tryz.func43, Tryz.ntmps43
  go_wp2_with fail
  obtain ⟨tb, htb⟩ : ∃ tb, tb = w.heap.size := ⟨_, rfl⟩
  generalize w.alloc (.cells #[.int .i64 st, .int .i64 ky, .slice AH n cH, .slice AV nv cV, .slice AR nr cR] 26) = w0 at K0 B0 ⊢
  rw [← htb] at K0 ⊢
  have K0 := Lib.hid K0
  have B0 := Lib.hid B0
  have HTB := Lib.hid htb
  clear htb
  have q0 := fun p : LowW w0.heap.size w0 => (K0.out.below p.below K0.out.lt).five.1
  have q1 := fun p : LowW w0.heap.size w0 => (K0.out.below p.below K0.out.lt).five.2.1
  have q2 := fun p : LowW w0.heap.size w0 => (K0.out.below p.below K0.out.lt).five.2.2.1
  have q3 := fun p : LowW w0.heap.size w0 => (K0.out.below p.below K0.out.lt).five.2.2.2.1
  have q4 := fun p : LowW w0.heap.size w0 => (K0.out.below p.below K0.out.lt).five.2.2.2.2.1
  refine wp_region_low_tail w0.heap.size w0 5 (by kernel_rfl) (by kernel_rfl) (Below.refl _ _) ?_
  repeat (quiet_step (first | (go_at_call 71; with_reducible exact LowW.of_call _ (Nat.le_refl _) (CE.out _ (B0.out.trans ((LowW.below _).mono B0.out.size))))))
  refine wpQuiet_nil ?_
  rintro w2 ⟨p, rfl⟩
  have B2 := Lib.hid (B0.out.trans (p.below.mono B0.out.size))
  have K2 := Lib.hid (K0.out.below p.below K0.out.lt)
  clear q0 q1 q2 q3 q4
  generalize p.w = w2 at B2 K2 ⊢
  obtain ⟨gq, hgq⟩ : ∃ gq, gq = w2.heap.size := ⟨_, rfl⟩
  have N3 := Blk.new w2 82 #[.int .i64 st, .int .i64 ky, .slice AH n cH, .slice AV nv cV, .slice AR nr cR, .slice AI n cI, .int .i64 ce, .slice none 0 0]
  rw [← hgq] at N3
  have N3 := Lib.hid N3
  have K3 := Lib.hid (K2.out.alloc (.cells #[.int .i64 st, .int .i64 ky, .slice AH n cH, .slice AV nv cV, .slice AR nr cR, .slice AI n cI, .int .i64 ce, .slice none 0 0] 82))
  have B3 := Lib.hid (B2.out.alloc B2.out.size (.cells #[.int .i64 st, .int .i64 ky, .slice AH n cH, .slice AV nv cV, .slice AR nr cR, .slice AI n cI, .int .i64 ce, .slice none 0 0] 82))
  have hwq : w.heap.size ≤ gq := by rw [hgq]; exact B2.out.size
  go_upto_region 2 with (fail)
  rw [← hgq]
  clear hgq
  generalize w2.alloc (.cells #[.int .i64 st, .int .i64 ky, .slice AH n cH, .slice AV nv cV, .slice AR nr cR, .slice AI n cI, .int .i64 ce, .slice none 0 0] 82) = w3 at N3 K3 B3 ⊢
  obtain ⟨t0, t1, t2, t3, t4, t5⟩ := K3.out.five
  by_cases h3 : ky = 3
  · have hm := NW.out
    rw [if_pos h3] at hm
    subst h3
    subst hm
    go_wp2
    exact AO.out _ _ gq rfl (QW.out _ gq none 0 0 _ B3.out N3.out (fun h => absurd h (by omega))) B3.out
  · have hm := NW.out
    rw [if_neg h3] at hm
    have e3 : (ky == 3) = false := by rw [beq_eq_false_iff_ne]; exact h3
    have SN2 := SN.out
    rw [← hm] at SN2
    have SNH := Lib.hid SN2
    have NBB := NB.out
    clear SN2 hm h3
    go_wp2_with (go_at_call 67; (with_reducible refine (SNH.out _).mono ?_); rintro e w' ⟨rfl, rfl⟩)
    go_loopw [21] (fun jv wr => ∃ (j : Nat) (AW : Option Addr) (cW : Nat), j ≤ m ∧ jv = .int .i64 (j : Int) ∧ Blk wr gq 82 #[.int .i64 st, .int .i64 ky, .slice AH n cH, .slice AV nv cV, .slice AR nr cR, .slice AI n cI, .int .i64 ce, .slice AW j cW] ∧ OL wr w.heap.size AW j cW n (fun k => vw f n l k n) gq ∧ Below w.heap.size w wr) (fun jv _ => m - (intOf jv).toNat)
    case atStart => exact ⟨0, none, 0, Nat.zero_le _, rfl, N3.out, ⟨[], World.ownsRow_nil _ _ _ _, by simp [Value.ownBlock], fun k hk => absurd hk (by omega)⟩, B3.out⟩
    case round =>
      obtain ⟨j, AW, cW, hj, rfl, hk, hol, hbel⟩ := hrel
      have HB := Lib.hid hbel
      have HK := Lib.hid hk
      have HO := Lib.hid hol
      have hsz := hbel.size
      have HQ := Lib.hid (QW.out wr.drew gq AW j cW (fun k => vw f n l k n) hbel.drew hk (hol.vr (fun k _ => VWL.out k)))
      clear hk hol hbel t0 t1 t2 t3 t4 t5
      by_cases hjm : j < m
      · have P1 := Lib.hid (VA.out wr.drew gq j _ j HB.out.drew HQ.out hjm)
        obtain ⟨xs, hown, hob, hxs⟩ := HO.out
        obtain ⟨c0, c1, c2, c3, c4, c5, c6, c7, c8⟩ := HK.out.eight
        have c7f := HK.out.frozen 7
        have P1 := Lib.hid (show Calls Tryz.prog 72 #[.pointer (some ⟨gq, 0, none⟩), .int .i64 (j : Int)] wr.drew fun e w' => ∃ A' c', e = .returned (.slice A' n c') ∧ Reads w' w'.heap.size A' n (il (vw f n l j n)) ∧ (0 < n → ∀ ad, A' = some ad → wr.heap.size ≤ ad.block) ∧ Below wr.heap.size wr w' from
          P1.out.mono fun e w' ⟨A', c', he, h1, h3, h2⟩ => ⟨A', c', by rw [he, VWL.out], by rw [VWL.out] at h1; exact h1, by rw [VWL.out] at h3; exact h3, ⟨h2.os, h2.tape, h2.output, h2.size, h2.block⟩⟩)
        go_wp2_with fail
        go_region_law (first
          | (refine step_append_lies _ (by rfl) _ _ _ (by rfl) w.heap.size 27 i0 (.slice none 0 0) 1 24 Tryz.underlying23 hi hz0 hz1 hz2 rfl (by decide) (.slice AW j cW) j xs (by rfl) (ownA.alloc _) ⟨wa.heap.size, 0, none⟩ 1 1 [.slice A' n c'] (by rfl) (by rfl) (World.news_of_block (cs := #[.slice A' n c']) (t := 27) (fr := (0, 0)) (heap_alloc_new wa _)) (by simp [Value.oneCell']) (by omega) (by unfold maxLen; omega) (by omega) (by have := ha.size; simp; omega) (wa.heap.size + 1) (by simp) ?_; intro gg cap w1 hown1 hgrow hat hlt; have hke := (show Blk w1 gq _ _ from (hgrow.block gq (by have := ka.lt; simp; omega) (fun e => hob e.symm)).trans (ka.alloc _)); have e7 := hke.eight.2.2.2.2.2.2.2.1; have e7f := hke.frozen 7)
          | (go_simp; go_at_call 72; (with_reducible refine P1.out.mono ?_); rintro e wa ⟨A', c', rfl, h1, hAd, ha⟩; have ownA := own_below hown ha; have ka := HK.out.below ha HK.out.lt; have d7 := ka.eight.2.2.2.2.2.2.2.1; have d7f := ka.frozen 7; have dd7 := (ka.alloc (.cells #[.slice A' n c'] 27)).eight.2.2.2.2.2.2.2.1))
        all_goals
          go_wp2
          go_roundw
          case rel => exact ⟨j + 1, some ⟨gg, 0, none⟩, cap, by omega, by go_num, hke.set_ 7 _, OL.step (vs := fun k => vw f n l k n) _ 7 hown hob hxs ha h1 hAd hn1 hown1 hgrow hat HK.out.lt, ((HB.out.trans (ha.mono hsz)).trans ((Below.grown ((Below.refl w.heap.size wa).alloc (by have := ha.size; omega) _) hgrow (by have := ha.size; simp; omega) (fun k hk => (hown.lt k hk).1)))).setCell (p := ⟨gq, 7, none⟩) hwq _⟩
          case measure => simp [intOf]; omega
      · obtain rfl : j = m := by omega
        go_wp2
        exact AO.out _ _ gq rfl (QW.out _ gq AW j cW _ HB.out HK.out (HO.out.vr (fun k _ => VWL.out k))) HB.out
end Go.Proofs.YtcgkkppidkkjiaaGreatDoor
