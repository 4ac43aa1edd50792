/- The walk of Match at a valid table, and the two tables of the examples. -/
/- What a row answers, as plain mathematics; a table with one of its rows. -/
/- The walks of Tree and Row of tabletree. -/
import Derived.Test.YtcgkkppidkkjiaaGreatDoorMax
import Derived.Test.YtcgkkppidkkjiaaGreatDoorMad
import Derived.Test.YtcgkkppidkkjiaaGreatDoorMav
import Derived.Test.YtcgkkppidkkjiaaGreatDoorMaa
import Derived.Test.YtcgkkppidkkjiaaGreatDoorMak
import Derived.Test.YtcgkkppidkkjiaaGreatDoorMab
import Derived.Test.YtcgkkppidkkjiaaGreatDoorMac
import Derived.Test.YtcgkkppidkkjiaaGreatDoorMas
import Derived.Test.YtcgkkppidkkjiaaGreatDoorMaq
import Derived.Test.YtcgkkppidkkjiaaGreatDoorMag
import Derived.Test.YtcgkkppidkkjiaaGreatDoorMar
import Derived.Below
import Derived.BigQuiet
import Derived.Deep.AppendLies
import Derived.Deep.CutRange
import Derived.Deep.Draws
import Derived.Deep.QuietTactic
import Derived.Deep.RegionHeld3
import Derived.Deep.RegionHeldLaw
import Derived.Deep.RegionLaw
import Derived.DeepKeys
import Derived.IntWalk
import Derived.Laws.BitsLemmas
import Derived.Laws.OwnMore
import Derived.Laws.Rows
import Derived.Lib.Hide
import Derived.Lib.SliceRun
import Derived.LoopN
import Derived.OwnWalk
import Derived.Shelf.Abstract
import Derived.Shelf.SlLaysF0
import Derived.Sort.Grow
import Derived.Sort.Statements
import Derived.StillTail
import Derived.StillTailTactics
import Derived.Test.YtcgkkppidkkjiaaGreatDoorRows
import Derived.WalkKit
import Derived.Test.YtcgkkppidkkjiaaGreatDoorMan
import Derived.Test.YtcgkkppidkkjiaaGreatDoorMau
namespace Go.Proofs.YtcgkkppidkkjiaaGreatDoor
open Go.RowKit
set_option maxRecDepth 100000 in
set_option maxHeartbeats 4000000 in
theorem match_any (AH : Option Addr) (cH : Nat) (AV : Option Addr) (cV : Nat) (AR : Option Addr) (cR : Nat) (T : Tab) (AI : Option Addr) (cI k : Nat) (l : List Int) (w : World) (hM : Mat w) (h : TR w AH AV AR T) (hb : Bd T) (ht : Rt T) (hI : Reads w w.heap.size AI T.n (il l)) (hcI : T.n ≤ cI) (hst : als T.st l = true) (hk : k < T.nr) :
    Calls Tryz.prog 25 #[.agg #[.int .i64 T.st, .int .i64 T.sy, .slice AH T.n cH, .slice AV T.nv cV, .slice AR T.nr cR], .int .i64 (k : Int), .slice AI T.n cI] w fun e w' => AnsOut (av T l (T.ri k) (T.ro k)) w e w' := by
  have hli := reads_len hI
  have RT := Lib.hid (fun w' (hb' : Below w.heap.size w w') => rt_any AH cH AV cV AR cR T w' (hM.below hb' hM.1) (h.later hb') hb)
  rw [(rt_iff T).2 ht] at RT
  have AL := Lib.hid (fun w' (hb' : Below w.heap.size w w') => allStates_any AI T.n cI w'.heap.size l w' T.st ((hI.below hb').more hb'.size) (by have := hb.1; omega))
  rw [hst] at AL
  have AS := Lib.hid (fun w' (hb' : Below w.heap.size w w') => ask_any AH cH AV cV AR cR T AI cI l w' (hM.below hb' hM.1) (h.later hb') ht.hd ((hI.below hb').more hb'.size) hcI ht.keeps)
  have RW := rw_of (ht.rs k hk)
  obtain ⟨g1, o1, hAR, hg1, hc⟩ := h.2.2 (by omega)
  obtain ⟨A', c', hc1, hr1, hc2⟩ := hc k hk
  rw [RW.len] at hc1 hr1
  have AN := Lib.hid (fun w' g (hb' : Below w.heap.size w w') (hq : QR w' g T l (px T.f T.n (0, 0)) (nwv T.sy) (fun k => vw T.f T.n l k T.n)) => answer_any g T l A' c' (T.ri k) (T.ro k) w' hq ht ((hr1.below hb').more hb'.size) (ht.rs k hk) hli hst)
  subst hAR
  have HC1 := Lib.hid hc1
  have HC2 := Lib.hid hc2
  have hnr := hb.2.2.1
  have K0 := Blk.new w 26 #[.int .i64 T.st, .int .i64 T.sy, .slice AH T.n cH, .slice AV T.nv cV, .slice (some ⟨g1, o1, none⟩) T.nr cR]
  have B0 := (Below.refl w.heap.size w).alloc (Nat.le_refl _) (.cells #[.int .i64 T.st, .int .i64 T.sy, .slice AH T.n cH, .slice AV T.nv cV, .slice (some ⟨g1, o1, none⟩) T.nr cR] 26)
  generalize av T l (T.ri k) (T.ro k) = p at AN ⊢
  have hnn : ((T.n : Int) != (T.n : Int)) = false := by rw [bne_eq_false_iff_eq]
  have d1 : decide ((k : Int) < 0) = false := by rw [decide_eq_false_iff_not]; omega
  have d2 : decide (T.nr ≤ k) = false := by rw [decide_eq_false_iff_not]; omega
  generalize T.ro k = o at HC2 AN
  clear h hb ht hI hst hM hli hc hc1 hc2 hr1 RW
  go_enter Tryz.func25, Tryz.ntmps25
  go_upto_region 1 with (fail)
  generalize w.alloc (.cells #[.int .i64 T.st, .int .i64 T.sy, .slice AH T.n cH, .slice AV T.nv cV, .slice (some ⟨g1, o1, none⟩) T.nr cR] 26) = w0 at K0 B0 ⊢
  obtain ⟨t0, t1, t2, t3, t4, t5⟩ := K0.five
  have K0 := Lib.hid K0
  have B0 := Lib.hid B0
  go_wp2_with (first
    | (go_at_call 39; (with_reducible refine (AL.out _ B0.out).mono ?_); rintro e w2 ⟨rfl, rfl⟩)
    | (go_at_call 17; (with_reducible refine (RT.out _ B0.out).mono ?_); rintro e w1 ⟨rfl, hb⟩; have B1 := Lib.hid (B0.out.trans (hb.mono B0.out.size)); have K1 := Lib.hid (K0.out.below hb K0.out.lt); clear hb))
  clear t0 t1 t2 t3 t4 t5
  obtain ⟨t0, t1, t2, t3, t4, t5⟩ := K1.out.five
  have hs1 := B1.out.size
  have r1 : w1.cell? ⟨g1, o1 + k * 2, none⟩ = some (.slice A' T.n c') := (B1.out.cell hg1).trans HC1.out
  have r2 : w1.cell? ⟨g1, o1 + k * 2 + 1, none⟩ = some (.int .i64 o) := (B1.out.cell hg1).trans HC2.out
  have KP := Lib.hid (show ∀ w', Below w1.heap.size w1 w' → (w'.cell? ⟨w.heap.size, 0, none⟩ = some (.int .i64 T.st) ∧ w'.cell? ⟨w.heap.size, 1, none⟩ = some (.int .i64 T.sy) ∧ w'.cell? ⟨w.heap.size, 2, none⟩ = some (.slice AH T.n cH) ∧ w'.cell? ⟨w.heap.size, 3, none⟩ = some (.slice AV T.nv cV) ∧ w'.cell? ⟨w.heap.size, 4, none⟩ = some (.slice (some ⟨g1, o1, none⟩) T.nr cR)) ∧ w'.cell? ⟨g1, o1 + k * 2, none⟩ = some (.slice A' T.n c') ∧ w'.cell? ⟨g1, o1 + k * 2 + 1, none⟩ = some (.int .i64 o) from fun w' hb => by
    have hk := (K1.out.below hb K1.out.lt).five
    exact ⟨⟨hk.1, hk.2.1, hk.2.2.1, hk.2.2.2.1, hk.2.2.2.2.1⟩, (hb.cell (Nat.lt_of_lt_of_le hg1 hs1)).trans r1, (hb.cell (Nat.lt_of_lt_of_le hg1 hs1)).trans r2⟩)
  have AS2 := Lib.hid (fun w' (hb : Below w1.heap.size w1 w') => (AS.out w' (B1.out.trans (hb.mono hs1))).mono (R' := fun e w'' => ∃ g, e = .returned (.pointer (some ⟨g, 0, none⟩)) ∧ QR w'' g T l (px T.f T.n (0, 0)) (nwv T.sy) (fun k => vw T.f T.n l k T.n) ∧ Below w1.heap.size w1 w'') fun e w'' ⟨g, he, hq, hb2⟩ => ⟨g, he, hq, hb.trans (hb2.mono hb.size)⟩)
  have AN2 := Lib.hid (fun w' g (hb : Below w1.heap.size w1 w') hq => (AN.out w' g (B1.out.trans (hb.mono hs1)) hq).mono (R' := fun e w'' => e = .returned (.tuple #[.int .i64 p.1, .bool p.2]) ∧ Below w1.heap.size w1 w'') fun e w'' ⟨he, hb2⟩ => ⟨he, hb.trans (hb2.mono hb.size)⟩)
  have hk0 : (0 : Int) ≤ (k : Int) := Int.natCast_nonneg _
  have hk1 : (k : Int) < (T.nr : Int) := by omega
  go_region_held3 (fun w' => w'.cell? ⟨w.heap.size, 0, none⟩ = some (.int .i64 T.st) ∧ w'.cell? ⟨w.heap.size, 1, none⟩ = some (.int .i64 T.sy) ∧ w'.cell? ⟨w.heap.size, 2, none⟩ = some (.slice AH T.n cH) ∧ w'.cell? ⟨w.heap.size, 3, none⟩ = some (.slice AV T.nv cV) ∧ w'.cell? ⟨w.heap.size, 4, none⟩ = some (.slice (some ⟨g1, o1, none⟩) T.nr cR) ∧ w'.cell? ⟨g1, o1 + k * 2, none⟩ = some (.slice A' T.n c') ∧ w'.cell? ⟨g1, o1 + k * 2 + 1, none⟩ = some (.int .i64 o))
    (first | (refine (fun h => ⟨h.1.1, h.1.2.1, h.1.2.2.1, h.1.2.2.2.1, h.1.2.2.2.2, h.2.1, h.2.2⟩) (KP.out _ ?_); (with_reducible (repeat (first | assumption | exact Below.refl _ _ | refine Below.drew' ?_ | refine Below.alloc' ?_ _))); done) | go_keep)
    (first
      | (go_at_call 43; (with_reducible refine (AS2.out _ ?_).mono ?_); (with_reducible (repeat (first | assumption | exact Below.refl _ _ | refine Below.drew' ?_ | refine Below.alloc' ?_ _))); rintro e wa ⟨g, rfl, hq, ha⟩)
      | (go_at_call 44; (with_reducible refine (AN2.out _ g ha hq).mono ?_); rintro e wb ⟨rfl, hb2⟩))
  all_goals go_wp2
  all_goals go_ret2
  all_goals exact ⟨rfl, B1.out.trans (hb2.mono hs1)⟩
end Go.Proofs.YtcgkkppidkkjiaaGreatDoor
namespace Go.Proofs.YtcgkkppidkkjiaaGreatDoor
open Go.RowKit

theorem ch_out {v : Nat → List Int} {l : List Int} {o ce sc : Int} (h : 0 ≤ o) {k : Nat} (hk : k < (ch v l o ce sc).length) : ig (ch v l o ce sc) k = o := by
  have h0 : ch0 v o = [o] := by rw [ch0, if_neg (by omega)]
  have one : ∀ {x : Int} {k : Nat}, k < [x].length → ig [x] k = x := fun {x k} hk => by
    have : k = 0 := by simpa using hk
    subst this
    rfl
  unfold ch at hk ⊢
  rw [h0] at hk ⊢
  split at hk
  · rename_i hce
    rw [if_pos hce]
    exact one hk
  · rename_i hce
    rw [if_neg hce]
    split at hk
    · rename_i hl
      rw [if_pos hl]
      split at hk
      · rename_i hs
        rw [if_pos hs]
        have : sc = o := by simpa using hs
        rw [this] at hk ⊢
        exact one hk
      · simp at hk
    · rename_i hl
      rw [if_neg hl]
      exact one hk
theorem tl_out {st : Int} {v : Nat → List Int} {l : List Int} {o : Int} {vs : Nat → List Int} (h : 0 ≤ o) (m : Nat) : tl st v l o vs m = st ∨ tl st v l o vs m = o := by
  induction m with
  | zero => exact .inl rfl
  | succ m ih =>
    have hs : so l o (vs m) = o := by rw [so, if_neg (by omega)]
    rw [tl, hs]
    split
    · split
      · exact .inr rfl
      · exact ih
    · exact ih
/-- a row whose new state is a state leads to this state -/
theorem av_out {T : Tab} {l r : List Int} {o : Int} (h : 0 ≤ o) (h2 : (av T l r o).2 = true) : (av T l r o).1 = o := by
  by_cases h3 : T.sy = 3
  · unfold av at *
    rw [if_pos h3] at *
    unfold pm at *
    split at h2
    · cases h2
    · rename_i hne
      rw [if_neg hne]
      split at h2
      · rename_i h0
        rw [if_pos h0]
        rcases fx_cases (pg T.v r o (px T.f T.n (0, 0)) (ig l (px T.f T.n (0, 0)).toNat) (pf T.v r o (px T.f T.n (0, 0)) (ig l (px T.f T.n (0, 0)).toNat) (cl8 l T.n) r.length)) (ch T.v r o (px T.f T.n (0, 0)) (ig l (px T.f T.n (0, 0)).toNat)).length with ⟨j, hj, e, _⟩ | ⟨e, _⟩
        · rw [e, show ((j : Int)).toNat = j from rfl]
          exact ch_out h hj
        · rw [e] at h0
          omega
      · cases h2
  · unfold av at *
    rw [if_neg h3] at *
    unfold ta at *
    split at h2
    · cases h2
    · rename_i hne
      rw [if_neg hne]
      rcases tl_out (st := T.st) (v := T.v) (l := r) (vs := fun k => vw T.f T.n l k T.n) h (nwv T.sy) with e | e
      · exact absurd e hne
      · exact e
theorem av_eqv {T : Tab} (h3 : T.sy = 3) {l m : List Int} (hl : l.length = T.n) (h : Eqv T.n T.f l m) (r : List Int) (o : Int) : av T m r o = av T l r o := by
  have hm : m.length = T.n := h.1.length_eq.trans hl
  have h8 : cl8 m T.n = cl8 l T.n := by
    have e : ∀ k, cnt m k T.n = cnt l k T.n := fun k => by
      have h1 := cnt_count m k
      have h2 := cnt_count l k
      rw [hm] at h1
      rw [hl] at h2
      rw [h1, h2, h.1.count_eq]
    simp only [cl8, e]
  unfold av
  rw [if_pos h3, if_pos h3, h8]
  by_cases h0 : 0 ≤ px T.f T.n (0, 0)
  · rw [h.2 h0]
  · exact pm_neg _ _ _ _ _ _ _ (by omega)
/-- the table with one of its rows alone -/
def alone (T : Tab) (i : Nat) : Tab := { T with nr := 1, ri := fun _ => T.ri i, ro := fun _ => T.ro i }
theorem alone_rt {T : Tab} {i : Nat} (h : Rt T) (hi : i < T.nr) : Rt (alone T i) := ⟨h.s1, h.s2, h.hd, h.pm, h.v1, by show 1 ≤ 400; decide, h.vs, fun _ _ => h.rs i hi⟩
theorem alone_bd {T : Tab} {i : Nat} (h : Bd T) (hi : i < T.nr) : Bd (alone T i) := ⟨h.1, h.2.1, by show 1 ≤ 1000; decide, h.2.2.2.1, fun _ _ => h.2.2.2.2 i hi⟩
theorem alone_tr {w : World} {AH AV : Option Addr} {g o i : Nat} {T : Tab} (h : TR w AH AV (some ⟨g, o, none⟩) T) (hi : i < T.nr) : TR w AH AV (some ⟨g, o + i * 2, none⟩) (alone T i) :=
  ⟨h.1, h.2.1, fun _ => by
    obtain ⟨g', o', e, hg, hc⟩ := h.2.2 (by omega)
    injection e with e
    injection e with e1 e2
    subst e1 e2
    refine ⟨g, o + i * 2, rfl, hg, fun k hk => ?_⟩
    obtain rfl : k = 0 := by have : k < 1 := hk; omega
    obtain ⟨A', c', h1, h2, h3⟩ := hc i hi
    exact ⟨A', c', by rw [Nat.zero_mul, Nat.add_zero]; exact h1, h2, by rw [Nat.zero_mul, Nat.add_zero]; exact h3⟩⟩
end Go.Proofs.YtcgkkppidkkjiaaGreatDoor
namespace Go.Proofs.YtcgkkppidkkjiaaGreatDoor
open Go.RowKit

set_option maxRecDepth 100000 in
set_option maxHeartbeats 4000000 in
theorem tree_bad (AH : Option Addr) (cH : Nat) (AV : Option Addr) (cV : Nat) (AR : Option Addr) (cR : Nat) (T : Tab) (w : World) (hM : Mat w) (h : TR w AH AV AR T) (hb : Bd T) (ht : ¬ Rt T) :
    Calls Tryz.prog 6 #[.agg #[.int .i64 T.st, .int .i64 T.sy, .slice AH T.n cH, .slice AV T.nv cV, .slice AR T.nr cR]] w fun e w' => e = .returned (.tuple #[.agg #[.int .i64 0, .slice none 0 0, .slice none 0 0], .int .i64 2]) ∧ Below w.heap.size w w' := by
  have RT := Lib.hid (fun w' (hb' : Below w.heap.size w w') => rt_any AH cH AV cV AR cR T w' (hM.below hb' hM.1) (h.later hb') hb)
  rw [rt_no ht] at RT
  clear h hb ht hM
  obtain ⟨st, ky, n, f, nv, v, nr, ri, ro⟩ := T
  simp only at *
  have K0 := (Blk.new w 26 #[.int .i64 st, .int .i64 ky, .slice AH n cH, .slice AV nv cV, .slice AR nr cR]).alloc (.cells #[.int .i64 0, .slice none 0 0, .slice none 0 0] 32)
  have K1 := Blk.new (w.alloc (.cells #[.int .i64 st, .int .i64 ky, .slice AH n cH, .slice AV nv cV, .slice AR nr cR] 26)) 32 #[.int .i64 0, .slice none 0 0, .slice none 0 0]
  rw [World.size_alloc] at K1
  have B0 := ((Below.refl w.heap.size w).alloc (Nat.le_refl _) (.cells #[.int .i64 st, .int .i64 ky, .slice AH n cH, .slice AV nv cV, .slice AR nr cR] 26)).alloc (by simp) (.cells #[.int .i64 0, .slice none 0 0, .slice none 0 0] 32)
  go_enter Tryz.func6, Tryz.ntmps6
  go_upto_region 1 with (fail)
  generalize (w.alloc (.cells #[.int .i64 st, .int .i64 ky, .slice AH n cH, .slice AV nv cV, .slice AR nr cR] 26)).alloc (.cells #[.int .i64 0, .slice none 0 0, .slice none 0 0] 32) = w0 at K0 K1 B0 ⊢
  obtain ⟨t0, t1, t2, t3, t4, t5⟩ := K0.five
  have K1 := Lib.hid K1
  have B0 := Lib.hid B0
  have hwR : w.heap.size ≤ w.heap.size + 1 := by omega
  clear K0
  go_wp2_with (go_at_call 17; (with_reducible refine (RT.out _ B0.out).mono ?_); rintro e w1 ⟨rfl, hb⟩; have B1 := Lib.hid (B0.out.trans (hb.mono B0.out.size)); have K11 := Lib.hid (K1.out.below hb K1.out.lt); obtain ⟨r0, r1, r2, r3, r4, r5, r6⟩ := K11.out.three6; clear hb)
  have KZ : Blk (((w1.setCell ⟨w.heap.size + 1, 0, none⟩ (.int .i64 0)).setCell ⟨w.heap.size + 1, 1, none⟩ (.slice none 0 0)).setCell ⟨w.heap.size + 1, 2, none⟩ (.slice none 0 0)) (w.heap.size + 1) 32 #[.int .i64 0, .slice none 0 0, .slice none 0 0] := by simpa using ((K11.out.set_ 0 (.int .i64 0)).set_ 1 (.slice none 0 0)).set_ 2 (.slice none 0 0)
  have BZ := below_set3 B1.out hwR (.int .i64 0) (.slice none 0 0) (.slice none 0 0)
  obtain ⟨y0, y1, y2, y3⟩ := KZ.three
  exact bodyPost_ret (v := .tuple #[.agg #[.int .i64 0, .slice none 0 0, .slice none 0 0], .int .i64 2]) (by simp [results, Tryz.results6, go_sem, y0, y1, y2]) rfl ⟨rfl, BZ⟩
set_option maxRecDepth 100000 in
set_option maxHeartbeats 4000000 in
theorem tree_out (S : Nat) (AH : Option Addr) (cH : Nat) (AV : Option Addr) (cV : Nat) (AR : Option Addr) (cR : Nat) (T : Tab) (w : World) (hM : Mat w) (h : TR w AH AV AR T) (hb : Bd T) (ht : Rt T) (hS : T.st = (S : Int)) :
    Calls Tryz.prog 6 #[.agg #[.int .i64 T.st, .int .i64 T.sy, .slice AH T.n cH, .slice AV T.nv cV, .slice AR T.nr cR]] w (TreeOut S T.n T.f (fun m => (nx T m).toNat) w) := by
  have RT := Lib.hid (fun w' (hb' : Below w.heap.size w w') => rt_any AH cH AV cV AR cR T w' (hM.below hb' hM.1) (h.later hb') hb)
  rw [(rt_iff T).2 ht] at RT
  have hs1 : 2 ≤ S := by have := ht.s1; omega
  have hs2 : S ≤ 8 := by have := ht.s2; omega
  have hd := ht.hd
  have CO := Lib.hid (fun (w' : World) (hb' : Below w.heap.size w w') (hk : Blk w' w.heap.size 26 #[.int .i64 T.st, .int .i64 T.sy, .slice AH T.n cH, .slice AV T.nv cV, .slice AR T.nr cR]) =>
    show Calls Tryz.prog 18 #[.agg #[.int .i64 T.st, .int .i64 T.sy, .slice AH T.n cH, .slice AV T.nv cV, .slice AR T.nr cR], .func (.func 19) #[] #[.pointer (some ⟨w.heap.size, 0, none⟩)]] w' (TreeOut S T.n T.f (fun m => (nx T m).toNat) w') by
      rw [hS]
      rw [hS] at hk
      by_cases hsm : S ^ T.n ≤ 65536
      · refine collect_any S T.sy AH T.n cH T.f AV T.nv cV AR T.nr cR (fun m => (nx T m).toNat) 19 #[.pointer (some ⟨w.heap.size, 0, none⟩)] w' hs1 hs2 hd.1.1 hd.1.2 hsm (h.later hb').1 (enters_of Tryz.func19 (by kernel_rfl) rfl) (fun w'' A c m hb2 hr hc hst hl => ?_) (fun m hst hl => ?_) (fun l m hst hl h3 he => ?_)
        · have hst' : als T.st m = true := by rw [hS]; exact sts_als.1 hst
          have hk2 := hk.below hb2 hk.lt
          rw [← hS] at hk2
          exact tree1_any AH cH AV cV AR cR T A c w.heap.size m w'' (hM.below (hb'.trans (hb2.mono hb'.size)) hM.1) ((h.later hb').later hb2) hb ht hr hc hst' hk2
        · have hst' : als T.st m = true := by rw [hS]; exact sts_als.1 hst
          have := nx_st ht hl hst'
          show (nx T m).toNat < S
          omega
        · show (nx T m).toNat = (nx T l).toNat
          rw [nx_eqv h3 hl he]
      · exact collect_big S T.sy AH T.n cH T.f AV T.nv cV AR T.nr cR (fun m => (nx T m).toNat) 19 #[.pointer (some ⟨w.heap.size, 0, none⟩)] w' hs1 hs2 hd.1.2 hsm)
  clear h hb ht hM hd
  obtain ⟨st, ky, n, f, nv, v, nr, ri, ro⟩ := T
  simp only at *
  have K0 := (Blk.new w 26 #[.int .i64 st, .int .i64 ky, .slice AH n cH, .slice AV nv cV, .slice AR nr cR]).alloc (.cells #[.int .i64 0, .slice none 0 0, .slice none 0 0] 32)
  have K1 := Blk.new (w.alloc (.cells #[.int .i64 st, .int .i64 ky, .slice AH n cH, .slice AV nv cV, .slice AR nr cR] 26)) 32 #[.int .i64 0, .slice none 0 0, .slice none 0 0]
  rw [World.size_alloc] at K1
  have B0 := ((Below.refl w.heap.size w).alloc (Nat.le_refl _) (.cells #[.int .i64 st, .int .i64 ky, .slice AH n cH, .slice AV nv cV, .slice AR nr cR] 26)).alloc (by simp) (.cells #[.int .i64 0, .slice none 0 0, .slice none 0 0] 32)
  generalize hV : (fun m => (nx ⟨st, ky, n, f, nv, v, nr, ri, ro⟩ m).toNat) = V at CO ⊢
  clear hV hS
  go_enter Tryz.func6, Tryz.ntmps6
  go_upto_region 1 with (fail)
  generalize (w.alloc (.cells #[.int .i64 st, .int .i64 ky, .slice AH n cH, .slice AV nv cV, .slice AR nr cR] 26)).alloc (.cells #[.int .i64 0, .slice none 0 0, .slice none 0 0] 32) = w0 at K0 K1 B0 ⊢
  obtain ⟨t0, t1, t2, t3, t4, t5⟩ := K0.five
  have K0 := Lib.hid K0
  have K1 := Lib.hid K1
  have B0 := Lib.hid B0
  have hwR : w.heap.size ≤ w.heap.size + 1 := by omega
  go_upto_region 3 with (go_at_call 17; (with_reducible refine (RT.out _ B0.out).mono ?_); rintro e w1 ⟨rfl, hb⟩; have B1 := Lib.hid (B0.out.trans (hb.mono B0.out.size)); have K10 := Lib.hid (K0.out.below hb K0.out.lt); have K11 := Lib.hid (K1.out.below hb K1.out.lt); obtain ⟨u0, u1, u2, u3, u4, u5⟩ := K10.out.five; have CC := Lib.hid (CO.out _ B1.out K10.out); clear hb)
  have BS := B1.out.size
  have hRl := K11.out.lt
  go_wp2_with (go_at_call 18; (with_reducible refine (CC.out).mono ?_); rintro e w2 hto; obtain ⟨s, A1, n1, c1, A2, n2, c2, er, rfl, hb2⟩ := hto.form; have TO := Lib.hid hto; have K21 := Lib.hid (K11.out.below hb2 hRl); obtain ⟨r0, r1, r2, r3, r4, r5, r6⟩ := K21.out.three6; clear hto hb2)
  have KZ : Blk (((w2.setCell ⟨w.heap.size + 1, 0, none⟩ (.int .i64 s)).setCell ⟨w.heap.size + 1, 1, none⟩ (.slice A1 n1 c1)).setCell ⟨w.heap.size + 1, 2, none⟩ (.slice A2 n2 c2)) (w.heap.size + 1) 32 #[.int .i64 s, .slice A1 n1 c1, .slice A2 n2 c2] := by simpa using ((K21.out.set_ 0 (.int .i64 s)).set_ 1 (.slice A1 n1 c1)).set_ 2 (.slice A2 n2 c2)
  obtain ⟨y0, y1, y2, y3⟩ := KZ.three
  exact bodyPost_ret (v := .tuple #[.agg #[.int .i64 s, .slice A1 n1 c1, .slice A2 n2 c2], .int .i64 er]) (by simp [results, Tryz.results6, go_sem, y0, y1, y2]) rfl (TO.out.set B1.out hRl hwR _ _ _)
/-- what a row's tree leads to -/
def vr (T : Tab) (i : Nat) (m : List Int) : Nat := if (av T m (T.ri i) (T.ro i)).2 = true then 1 else 0
theorem row1_any (AH : Option Addr) (cH : Nat) (AV : Option Addr) (cV : Nat) (AR : Option Addr) (cR : Nat) (T : Tab) (A : Option Addr) (c tb : Nat) (m : List Int) (w : World) (hM : Mat w) (h : TR w AH AV AR T) (hb : Bd T) (ht : Rt T) (h1 : T.nr = 1) (hI : Reads w w.heap.size A T.n (il m)) (hc : T.n ≤ c) (hst : als T.st m = true)
    (hk : Blk w tb 26 #[.int .i64 T.st, .int .i64 T.sy, .slice AH T.n cH, .slice AV T.nv cV, .slice AR 1 cR]) :
    Calls Tryz.prog 24 #[.slice A T.n c, .pointer (some ⟨tb, 0, none⟩)] w fun e w' => e = .returned (.int .i64 ((vr T 0 m : Nat) : Int)) ∧ Below w.heap.size w w' := by
  have MA := match_any AH cH AV cV AR cR T A c 0 m w hM h hb ht hI hc hst (by omega)
  rw [h1, show ((0 : Nat) : Int) = 0 from rfl] at MA
  have MA := Lib.hid MA
  have HV := Lib.hid (show vr T 0 m = if (av T m (T.ri 0) (T.ro 0)).2 = true then 1 else 0 from rfl)
  generalize av T m (T.ri 0) (T.ro 0) = p at MA HV
  generalize vr T 0 m = y at HV ⊢
  obtain ⟨p1, p2⟩ := p
  obtain ⟨t0, t1, t2, t3, t4, t5⟩ := hk.five
  clear hM h hb ht hI hc hst hk h1
  cases p2 with
  | true =>
    go_enter Tryz.func24, Tryz.ntmps24
    go_wp2_with (go_at_call 25; (with_reducible refine MA.out.mono ?_); rintro e w1 ⟨rfl, hb⟩; have B1 := Lib.hid hb; clear hb)
    go_ret
    exact ⟨by rw [HV.out]; rfl, B1.out⟩
  | false =>
    go_enter Tryz.func24, Tryz.ntmps24
    go_wp2_with (go_at_call 25; (with_reducible refine MA.out.mono ?_); rintro e w1 ⟨rfl, hb⟩; have B1 := Lib.hid hb; clear hb)
    go_ret
    exact ⟨by rw [HV.out]; rfl, B1.out⟩
theorem Blk.all5 {w : World} {g : Nat} {t : TypeId} {x y z u v : Value} (h : Blk w g t #[x, y, z, u, v]) (a b c d e : Value) : Blk (((((w.setCell ⟨g, 0, none⟩ a).setCell ⟨g, 1, none⟩ b).setCell ⟨g, 2, none⟩ c).setCell ⟨g, 3, none⟩ d).setCell ⟨g, 4, none⟩ e) g t #[a, b, c, d, e] := by
  simpa using ((((h.set_ 0 a).set_ 1 b).set_ 2 c).set_ 3 d).set_ 4 e
theorem below_set5 {B g : Nat} {w0 w : World} (h : Below B w0 w) (hg : B ≤ g) (a b c d e : Value) : Below B w0 (((((w.setCell ⟨g, 0, none⟩ a).setCell ⟨g, 1, none⟩ b).setCell ⟨g, 2, none⟩ c).setCell ⟨g, 3, none⟩ d).setCell ⟨g, 4, none⟩ e) :=
  Below.set1 (Below.set1 (below_set3 h hg a b c) hg d) hg e
theorem withRows_any (st ky : Int) (AH AV AR AX : Option Addr) (n nv nr x cH cV cR cX : Nat) (w : World) :
    Calls Tryz.prog 23 #[.agg #[.int .i64 st, .int .i64 ky, .slice AH n cH, .slice AV nv cV, .slice AR nr cR], .slice AX x cX] w fun e w' => e = .returned (.agg #[.int .i64 st, .int .i64 ky, .slice AH n cH, .slice AV nv cV, .slice AX x cX]) ∧ Below w.heap.size w w' := by
  have K0 := (Blk.new w 26 #[.int .i64 st, .int .i64 ky, .slice AH n cH, .slice AV nv cV, .slice AR nr cR]).alloc (.cells #[.int .i64 0, .int .i64 0, .slice none 0 0, .slice none 0 0, .slice none 0 0] 26)
  have K1 := Blk.new (w.alloc (.cells #[.int .i64 st, .int .i64 ky, .slice AH n cH, .slice AV nv cV, .slice AR nr cR] 26)) 26 #[.int .i64 0, .int .i64 0, .slice none 0 0, .slice none 0 0, .slice none 0 0]
  rw [World.size_alloc] at K1
  have B0 := ((Below.refl w.heap.size w).alloc (Nat.le_refl _) (.cells #[.int .i64 st, .int .i64 ky, .slice AH n cH, .slice AV nv cV, .slice AR nr cR] 26)).alloc (by simp) (.cells #[.int .i64 0, .int .i64 0, .slice none 0 0, .slice none 0 0, .slice none 0 0] 26)
  go_enter Tryz.func23, Tryz.ntmps23
  go_upto_region 1 with (fail)
  generalize (w.alloc (.cells #[.int .i64 st, .int .i64 ky, .slice AH n cH, .slice AV nv cV, .slice AR nr cR] 26)).alloc (.cells #[.int .i64 0, .int .i64 0, .slice none 0 0, .slice none 0 0, .slice none 0 0] 26) = w0 at K0 K1 B0 ⊢
  obtain ⟨t0, t1, t2, t3, t4, t5⟩ := K0.five
  have f4 := K0.frozen 4
  go_upto_region 2 with (fail)
  have L0 : Blk (w0.setCell ⟨w.heap.size, 4, none⟩ (.slice AX x cX)) w.heap.size 26 #[.int .i64 st, .int .i64 ky, .slice AH n cH, .slice AV nv cV, .slice AX x cX] := by simpa using K0.set_ 4 (.slice AX x cX)
  have L1 := K1.far (p := ⟨w.heap.size, 4, none⟩) (by show w.heap.size + 1 ≠ w.heap.size; omega) (.slice AX x cX)
  have C1 := Below.set1 (i := 4) B0 (Nat.le_refl _) (.slice AX x cX)
  generalize w0.setCell ⟨w.heap.size, 4, none⟩ (.slice AX x cX) = w2 at *
  clear t0 t1 t2 t3 t4 t5 f4 K0 K1 B0
  obtain ⟨t0, t1, t2, t3, t4, t5⟩ := L0.five
  obtain ⟨u0, u1, u2, u3, u4, u5⟩ := L1.five
  have g0 := L1.frozen 0
  have g1 := L1.frozen 1
  have g2 := L1.frozen 2
  have g3 := L1.frozen 3
  have g4 := L1.frozen 4
  have L1 := Lib.hid L1
  have C1 := Lib.hid C1
  go_wp2
  obtain ⟨y0, y1, y2, y3, y4, y5⟩ := (L1.out.all5 (.int .i64 st) (.int .i64 ky) (.slice AH n cH) (.slice AV nv cV) (.slice AX x cX)).five
  exact bodyPost_ret (v := .agg #[.int .i64 st, .int .i64 ky, .slice AH n cH, .slice AV nv cV, .slice AX x cX]) (by simp [results, Tryz.results23, go_sem, y0, y1, y2, y3, y4]) rfl ⟨rfl, below_set5 C1.out (Nat.le_succ _) _ _ _ _ _⟩
end Go.Proofs.YtcgkkppidkkjiaaGreatDoor
