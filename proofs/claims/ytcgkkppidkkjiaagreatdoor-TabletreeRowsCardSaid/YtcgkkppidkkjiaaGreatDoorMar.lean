/- The walks of answer and Next. -/
/- Plain mathematics: what a symmetry does to views and tallies; the new state is a state. -/
/- The walk over a forest: what it reckons, and the blocks that it lies in. -/
import Derived.Test.YtcgkkppidkkjiaaGreatDoorMaa
import Derived.Test.YtcgkkppidkkjiaaGreatDoorMap
import Derived.Test.YtcgkkppidkkjiaaGreatDoorMal
import Derived.Test.YtcgkkppidkkjiaaGreatDoorMab
import Derived.Test.YtcgkkppidkkjiaaGreatDoorMaf
import Derived.Test.YtcgkkppidkkjiaaGreatDoorMan
import Derived.Test.YtcgkkppidkkjiaaGreatDoorMam
import Derived.Test.YtcgkkppidkkjiaaGreatDoorMaq
import Derived.Test.YtcgkkppidkkjiaaGreatDoorMad
import Derived.Test.YtcgkkppidkkjiaaGreatDoorMac
import Derived.Test.YtcgkkppidkkjiaaGreatDoorMak
import Derived.Test.YtcgkkppidkkjiaaGreatDoorMai
import Derived.Below
import Derived.BigQuiet
import Derived.Deep.AppendLies
import Derived.Deep.CutRange
import Derived.Deep.Draws
import Derived.Deep.QuietTactic
import Derived.Deep.RegionHeld3
import Derived.Deep.RegionHeldLaw
import Derived.Deep.RegionLaw
import Derived.DeepKeys
import Derived.IntWalk
import Derived.Laws.BitsLemmas
import Derived.Laws.OwnMore
import Derived.Laws.Rows
import Derived.Lib.Hide
import Derived.Lib.SliceRun
import Derived.LoopN
import Derived.OwnWalk
import Derived.Shelf.SlLaysF0
import Derived.Sort.Grow
import Derived.Sort.Statements
import Derived.StillTail
import Derived.StillTailTactics
import Derived.Test.YtcgkkppidkkjiaaGreatDoorRows
import Derived.WalkKit
import Derived.Test.YtcgkkppidkkjiaaGreatDoorMaj
import Derived.Test.YtcgkkppidkkjiaaGreatDoorMao
import Derived.DeepKeys4
import Derived.Maps.OwnOps
namespace Go.Proofs.YtcgkkppidkkjiaaGreatDoor
open Go.RowKit
/-- the answer of a row -/
def av (T : Tab) (l : List Int) (r : List Int) (o : Int) : Int × Bool :=
  if T.sy = 3 then pm T.v r o (px T.f T.n (0, 0)) (ig l (px T.f T.n (0, 0)).toNat) (cl8 l T.n) else ta T.st T.v r o (fun k => vw T.f T.n l k T.n) (nwv T.sy)
theorem Rt.bd {T : Tab} (h : Rt T) : (∀ k, k < T.nv → (T.v k).length ≤ 1000) ∧ Vd T.v T.nv T.st := by
  have := vd_of h.s2 h.vs
  exact ⟨fun k hk => by have := (this k hk).1; omega, this⟩
theorem Rt.nine {T : Tab} (h : Rt T) (h3 : T.sy = 3) : T.n ≤ 9 := by
  have := h.pm
  rw [h3] at this
  exact of_decide_eq_true this
theorem keeps0 (f : Nat → P2) (n : Nat) : Keeps f n 0 := fun i hi => ⟨i, hi, by simp [tn, turnX, turnY]⟩
theorem keeps_sy {f : Nat → P2} {n k : Nat} (h : k ∈ sy f n 8) : Keeps f n k := fun i hi => by
  have h1 := (List.mem_filter.1 h).2
  rw [sk, decide_eq_true_iff] at h1
  have h2 := h1.mem_iff.1 (lst_mem.2 ⟨i, hi, rfl⟩)
  exact lst_mem.1 h2
theorem Rt.keeps {T : Tab} (h : Rt T) : ∀ k, k < nwv T.sy → Keeps T.f T.n k := by
  intro k hk
  have hp := h.pm
  unfold pmt at hp
  unfold nwv ns at hk
  by_cases h0 : T.sy = 0
  · rw [h0] at hk
    have hk : k < 1 := hk
    obtain rfl : k = 0 := by omega
    exact keeps0 T.f T.n
  · rw [if_neg h0] at hp
    by_cases h3 : T.sy = 3
    · rw [if_pos h3] at hk; omega
    · rw [if_neg h3] at hp hk
      by_cases h12 : T.sy = 1 ∨ T.sy = 2
      · rw [if_pos h12, own_iff] at hp
        exact keeps_sy (hp k hk)
      · rw [if_neg h12] at hp; cases hp
theorem px_bd (f : Nat → P2) (n : Nat) (a : P2) : -1 ≤ px f n a ∧ (px f n a < n ∨ px f n a = -1) := by
  rcases fx_cases (fun i => decide (f i = a)) n with ⟨j, hj, e, _⟩ | ⟨e, _⟩ <;> rw [px, e] <;> omega

set_option maxRecDepth 100000 in
set_option maxHeartbeats 2000000 in
theorem answer_any (g : Nat) (T : Tab) (l : List Int) (AI : Option Addr) (cI : Nat) (r : List Int) (o : Int) (w : World)
    (h : QR w g T l (px T.f T.n (0, 0)) (nwv T.sy) (fun k => vw T.f T.n l k T.n)) (ht : Rt T) (hI : Reads w w.heap.size AI T.n (il r)) (hr : rr T.n T.st T.nv r o = true) (hli : l.length = T.n) (hst : als T.st l = true) :
    Calls Tryz.prog 44 #[.pointer (some ⟨g, 0, none⟩), .agg #[.slice AI T.n cI, .int .i64 o]] w fun e w' => AnsOut (av T l r o) w e w' := by
  have hb := px_bd T.f T.n (0, 0)
  have hn := ht.hd.1.2
  have hn0 := ht.hd.1.1
  have PE := Lib.hid (fun w' (hb' : Below w.heap.size w w') (h3 : T.sy = 3) => permuted_any g T l (px T.f T.n (0, 0)) _ _ AI cI r o w' (h.later hb') ((hI.below hb').more hb'.size) (rw_of hr) ht.bd.2 ht.s2 (ht.nine h3) (by omega) hb.1 hli (fun i hi => (als_iff _ _).1 hst i (by rw [hli]; exact hi)) (by have := ht.v1; omega))
  have TU := Lib.hid (fun w' (hb' : Below w.heap.size w w') => turned_any g T l (px T.f T.n (0, 0)) _ _ AI cI r o w' (h.later hb') ((hI.below hb').more hb'.size) (rw_of hr) (fun k _ => vw_len ..) (show nwv T.sy ≤ 8 by unfold nwv ns; split; omega; split; omega; split <;> omega) (by omega) (by have := ht.v1; omega) ht.bd.1)
  have AV := Lib.hid (show av T l r o = if T.sy = 3 then pm T.v r o (px T.f T.n (0, 0)) (ig l (px T.f T.n (0, 0)).toNat) (cl8 l T.n) else ta T.st T.v r o (fun k => vw T.f T.n l k T.n) (nwv T.sy) from rfl)
  generalize av T l r o = p at AV ⊢
  generalize pm T.v r o (px T.f T.n (0, 0)) (ig l (px T.f T.n (0, 0)).toNat) (cl8 l T.n) = p1 at PE AV
  generalize ta T.st T.v r o (fun k => vw T.f T.n l k T.n) (nwv T.sy) = p2 at TU AV
  obtain ⟨AH, cH, AV', cV, AR, cR, AQ, cQ, AW, cW, hk, -, -, -⟩ := h
  have K1 := Blk.new w 41 #[.slice AI T.n cI, .int .i64 o]
  have KA := hk.alloc (.cells #[.slice AI T.n cI, .int .i64 o] 41)
  have B1 := (Below.refl w.heap.size w).alloc (Nat.le_refl _) (.cells #[.slice AI T.n cI, .int .i64 o] 41)
  generalize px T.f T.n (0, 0) = ce at KA hk
  generalize T.n = n at PE TU K1 KA B1 ⊢
  generalize T.sy = ky at PE AV KA
  clear ht hI hr hst hk
  go_enter Tryz.func44, Tryz.ntmps44
  go_upto_region 1 with (fail)
  generalize w.alloc (.cells #[.slice AI n cI, .int .i64 o] 41) = w0 at K1 KA B1 ⊢
  obtain ⟨q0, q1, q2, q3, q4, q5, q6, q7, q8⟩ := KA.eight
  obtain ⟨k0, k1, k2, k3, k4⟩ := K1.two
  have B1 := Lib.hid B1
  by_cases h3 : ky = 3
  · have PE3 := Lib.hid (PE.out w0 B1.out h3)
    have hp := AV.out
    rw [if_pos h3] at hp
    have HP := Lib.hid hp
    have e3 : (ky == 3) = true := by rw [beq_iff_eq]; exact h3
    clear hp h3
    go_wp2_with (go_at_call 73; (with_reducible refine PE3.out.mono ?_); rintro e w1 ⟨rfl, hb⟩; have B2 := Lib.hid (B1.out.trans (hb.mono B1.out.size)); clear hb)
    go_ret2
    exact ⟨by rw [HP.out]; rfl, B2.out⟩
  · have TU3 := Lib.hid (TU.out w0 B1.out)
    have hp := AV.out
    rw [if_neg h3] at hp
    have HP := Lib.hid hp
    have e3 : (ky == 3) = false := by rw [beq_eq_false_iff_ne]; exact h3
    clear hp h3
    go_wp2_with (go_at_call 74; (with_reducible refine TU3.out.mono ?_); rintro e w1 ⟨rfl, hb⟩; have B2 := Lib.hid (B1.out.trans (hb.mono B1.out.size)); clear hb)
    go_ret2
    exact ⟨by rw [HP.out]; rfl, B2.out⟩

/-- the new state -/
def nx (T : Tab) (l : List Int) : Int :=
  if 0 ≤ fx (fun k => (av T l (T.ri k) (T.ro k)).2) T.nr then (av T l (T.ri (fx (fun k => (av T l (T.ri k) (T.ro k)).2) T.nr).toNat) (T.ro (fx (fun k => (av T l (T.ri k) (T.ro k)).2) T.nr).toNat)).1
  else if px T.f T.n (0, 0) < 0 then 0 else ig l (px T.f T.n (0, 0)).toNat
theorem nx_row {T : Tab} {l : List Int} {k : Nat} (hk : k < T.nr) (hb : ∀ i, i < k → (av T l (T.ri i) (T.ro i)).2 = false) (h : (av T l (T.ri k) (T.ro k)).2 = true) : nx T l = (av T l (T.ri k) (T.ro k)).1 := by
  rw [nx, fx_some hk hb h, if_pos (by omega)]
  rfl
theorem nx_none {T : Tab} {l : List Int} (hb : ∀ i, i < T.nr → (av T l (T.ri i) (T.ro i)).2 = false) : nx T l = if px T.f T.n (0, 0) < 0 then 0 else ig l (px T.f T.n (0, 0)).toNat := by
  rw [nx, fx_none hb]
  rfl
set_option maxRecDepth 100000 in
set_option maxHeartbeats 4000000 in
theorem next_ok (AH : Option Addr) (cH : Nat) (AV : Option Addr) (cV : Nat) (AR : Option Addr) (cR : Nat) (T : Tab) (AI : Option Addr) (cI : Nat) (l : List Int) (w : World) (hM : Mat w) (h : TR w AH AV AR T) (hb : Bd T) (ht : Rt T) (hI : Reads w w.heap.size AI T.n (il l)) (hcI : T.n ≤ cI) (hst : als T.st l = true) :
    Calls Tryz.prog 20 #[.agg #[.int .i64 T.st, .int .i64 T.sy, .slice AH T.n cH, .slice AV T.nv cV, .slice AR T.nr cR], .slice AI T.n cI] w fun e w' => e = .returned (.tuple #[.int .i64 (nx T l), .int .i64 0]) ∧ Below w.heap.size w w' := by
  have hli := reads_len hI
  have RT := Lib.hid (fun w' (hb' : Below w.heap.size w w') => rt_any AH cH AV cV AR cR T w' (hM.below hb' hM.1) (h.later hb') hb)
  rw [(rt_iff T).2 ht] at RT
  have AL := Lib.hid (fun w' (hb' : Below w.heap.size w w') => allStates_any AI T.n cI w'.heap.size l w' T.st ((hI.below hb').more hb'.size) (by have := hb.1; omega))
  rw [hst] at AL
  have AS := Lib.hid (fun w' (hb' : Below w.heap.size w w') => ask_any AH cH AV cV AR cR T AI cI l w' (hM.below hb' hM.1) (h.later hb') ht.hd ((hI.below hb').more hb'.size) hcI ht.keeps)
  have AN := Lib.hid (fun w' g A' c' k (hk : k < T.nr) (hq : QR w' g T l (px T.f T.n (0, 0)) (nwv T.sy) (fun k => vw T.f T.n l k T.n)) (hr : Reads w' w'.heap.size A' T.n (il (T.ri k))) => answer_any g T l A' c' (T.ri k) (T.ro k) w' hq ht hr (ht.rs k hk) hli hst)
  have RLEN := Lib.hid (fun k (hk : k < T.nr) => (rw_of (ht.rs k hk)).len)
  have HR := Lib.hid (fun w' (hb' : Below w.heap.size w w') => h.2.2.later hb')
  have HI := Lib.hid (fun w' (hb' : Below w.heap.size w w') => (show Reads w' w'.heap.size AI T.n (il l) from (hI.below hb').more hb'.size))
  have NR := Lib.hid (fun k hk hb h => nx_row (T := T) (l := l) (k := k) hk hb h)
  have NN := Lib.hid (fun hb => nx_none (T := T) (l := l) hb)
  have PB := px_bd T.f T.n (0, 0)
  have QL := Lib.hid (fun w' w'' g (hq : QR w' g T l (px T.f T.n (0, 0)) (nwv T.sy) (fun k => vw T.f T.n l k T.n)) (hb : Below w'.heap.size w' w'') => hq.later hb)
  have QC := Lib.hid (fun w' g (hq : QR w' g T l (px T.f T.n (0, 0)) (nwv T.sy) (fun k => vw T.f T.n l k T.n)) => show w'.cell? ⟨g, 6, none⟩ = some (.int .i64 (px T.f T.n (0, 0))) from by
    obtain ⟨AH, cH, AV', cV, AR, cR, AQ, cQ, AW, cW, hk, -, -, -⟩ := hq
    exact hk.eight.2.2.2.2.2.2.1)
  have hbd := hb.2.2.1
  have hbn := hb.1
  have K0 := Blk.new w 26 #[.int .i64 T.st, .int .i64 T.sy, .slice AH T.n cH, .slice AV T.nv cV, .slice AR T.nr cR]
  have B0 := (Below.refl w.heap.size w).alloc (Nat.le_refl _) (.cells #[.int .i64 T.st, .int .i64 T.sy, .slice AH T.n cH, .slice AV T.nv cV, .slice AR T.nr cR] 26)
  generalize nx T l = res at NR NN ⊢
  have hnn : ((T.n : Int) != (T.n : Int)) = false := by rw [bne_eq_false_iff_eq]
  have HLI := Lib.hid hli
  clear h hb ht hI hst hM hli
  go_enter Tryz.func20, Tryz.ntmps20
  go_wp2_with fail
  generalize w.alloc (.cells #[.int .i64 T.st, .int .i64 T.sy, .slice AH T.n cH, .slice AV T.nv cV, .slice AR T.nr cR] 26) = w0 at K0 B0 ⊢
  obtain ⟨t0, t1, t2, t3, t4, t5⟩ := K0.five
  have K0 := Lib.hid K0
  have B0 := Lib.hid B0
  go_wp2_with (first
    | (go_at_call 17; (with_reducible refine (RT.out _ B0.out).mono ?_); rintro e w1 ⟨rfl, hb⟩; have B1 := Lib.hid (B0.out.trans (hb.mono B0.out.size)); have K1 := Lib.hid (K0.out.below hb K0.out.lt); obtain ⟨u0, u1, u2, u3, u4, u5⟩ := K1.out.five; clear hb)
    | (go_at_call 39; (with_reducible refine (AL.out _ B1.out).mono ?_); rintro e w2 ⟨rfl, rfl⟩)
    | (go_at_call 43; (with_reducible refine (AS.out _ B1.out).mono ?_); rintro e w3 ⟨g, rfl, hq, hb⟩; have B3 := Lib.hid (B1.out.trans (hb.mono B1.out.size)); have Q3 := Lib.hid hq; obtain ⟨v0, v1, v2, v3, v4, v5⟩ := (K1.out.below hb K1.out.lt).five; clear hb hq))
  have hs3 := B3.out.size
  clear t0 t1 t2 t3 t4 t5 u0 u1 u2 u3 u4 u5 v0 v1 v2 v3 v4 v5
  go_loopw [35] (fun kv wr => ∃ k : Nat, k ≤ T.nr ∧ kv = .int .i64 (k : Int) ∧ (∀ i, i < k → (av T l (T.ri i) (T.ro i)).2 = false) ∧ Below w3.heap.size w3 wr) (fun kv _ => T.nr - (intOf kv).toNat)
  case atStart => exact ⟨0, Nat.zero_le _, rfl, fun i hi => absurd hi (by omega), Below.refl _ _⟩
  case round =>
    obtain ⟨k, hk, rfl, hno, hbel⟩ := hrel
    have HN := Lib.hid hno
    have HX := Lib.hid hbel
    have B4 := Lib.hid (B3.out.trans (hbel.mono hs3))
    have Q4 := Lib.hid (QL.out _ _ _ Q3.out hbel)
    clear hno hbel
    by_cases hkn : k < T.nr
    · obtain ⟨g1, o1, rfl, hb1, hc⟩ := HR.out _ B4.out (by omega)
      obtain ⟨A', c', hc, hr, hc2⟩ := hc k hkn
      rw [RLEN.out k hkn] at hc hr
      have K6 := Lib.hid (Blk.new wr 41 #[.slice A' T.n c', .int .i64 (T.ro k)])
      have B6 := Lib.hid ((Below.refl wr.heap.size wr).alloc (Nat.le_refl _) (.cells #[.slice A' T.n c', .int .i64 (T.ro k)] 41))
      have AN2 := fun w' (hb : Below wr.heap.size wr w') => AN.out w' g A' c' k hkn (QL.out _ _ _ Q4.out hb) ((hr.below hb).more hb.size)
      have NX := Lib.hid (fun (h : (av T l (T.ri k) (T.ro k)).2 = false) (i : Nat) (hi : i < k + 1) => show (av T l (T.ri i) (T.ro i)).2 = false from by
        by_cases e : i < k
        · exact HN.out i e
        · obtain rfl : i = k := by omega
          exact h)
      have NK := Lib.hid (fun h => NR.out k hkn HN.out h)
      generalize av T l (T.ri k) (T.ro k) = p at AN2 NX NK
      obtain ⟨p1, p2⟩ := p
      generalize T.ro k = o at hc2 K6 B6 AN2
      have AN2 := Lib.hid AN2
      clear hr
      cases p2 with
      | true =>
        have HF := Lib.hid (NK.out rfl)
        go_upto_region 9 with (fail)
        generalize wr.alloc (.cells #[.slice A' T.n c', .int .i64 o] 41) = w5 at K6 B6 ⊢
        obtain ⟨r0, r1, r2, r3, r4⟩ := K6.out.two
        go_wp2_with (go_at_call 44; (with_reducible refine (AN2.out _ B6.out).mono ?_); rintro e w6 ⟨rfl, hb⟩; have B7 := Lib.hid (B4.out.trans ((B6.out.trans (hb.mono B6.out.size)).mono B4.out.size)); clear hb)
        go_ret2
        exact ⟨by rw [HF.out]; rfl, B7.out⟩
      | false =>
        have HT := Lib.hid (NX.out rfl)
        go_upto_region 9 with (fail)
        generalize wr.alloc (.cells #[.slice A' T.n c', .int .i64 o] 41) = w5 at K6 B6 ⊢
        obtain ⟨r0, r1, r2, r3, r4⟩ := K6.out.two
        go_wp2_with (go_at_call 44; (with_reducible refine (AN2.out _ B6.out).mono ?_); rintro e w6 ⟨rfl, hb⟩; have B7 := Lib.hid (HX.out.trans ((B6.out.trans (hb.mono B6.out.size)).mono HX.out.size)); clear hb)
        go_roundw
        case rel => exact ⟨k + 1, by omega, by go_num, HT.out, B7.out⟩
        case measure => simp [intOf]; omega
    · obtain rfl : k = T.nr := by omega
      have q6 := QC.out _ _ Q4.out
      have HF := NN.out HN.out
      by_cases hce : px T.f T.n (0, 0) < 0
      · rw [if_pos hce] at HF
        have HFH := Lib.hid HF
        clear HF
        go_wp2
        go_ret2
        exact ⟨by rw [HFH.out]; rfl, B4.out⟩
      · rw [if_neg hce] at HF
        obtain ⟨c, hc⟩ : ∃ c : Nat, px T.f T.n (0, 0) = (c : Int) := ⟨(px T.f T.n (0, 0)).toNat, by omega⟩
        rw [hc] at HF q6
        rw [show ((c : Int)).toNat = c from rfl] at HF
        have hcn : c < T.n := by omega
        obtain ⟨ad, rfl, hb1, c1⟩ := il_at (HI.out _ B4.out) hcn
        rw [← HF] at c1
        have d0 : decide ((c : Int) < 0) = false := by rw [decide_eq_false_iff_not]; omega
        clear HF hc hce PB
        go_wp2
        go_ret2
        exact ⟨rfl, B4.out⟩
end Go.Proofs.YtcgkkppidkkjiaaGreatDoor
namespace Go.Proofs.YtcgkkppidkkjiaaGreatDoor
theorem le_tl {st : Int} {v : Nat → List Int} {l : List Int} {o : Int} {vs : Nat → List Int} {m : Nat} (a : Int) : a ≤ tl st v l o vs m ↔ a ≤ st ∧ ∀ k, k < m → mt v l (vs k) = true → a ≤ so l o (vs k) := by
  induction m with
  | zero => exact ⟨fun h => ⟨h, fun k hk => absurd hk (by omega)⟩, fun h => h.1⟩
  | succ m ih =>
    rw [tl]
    constructor
    · intro h
      split at h
      · have hx : a ≤ tl st v l o vs m ∧ a ≤ so l o (vs m) := by split at h <;> omega
        obtain ⟨h1, h2⟩ := ih.1 hx.1
        refine ⟨h1, fun k hk hmt => ?_⟩
        by_cases e : k < m
        · exact h2 k e hmt
        · obtain rfl : k = m := by omega
          exact hx.2
      · rename_i hn
        obtain ⟨h1, h2⟩ := ih.1 h
        refine ⟨h1, fun k hk hmt => ?_⟩
        by_cases e : k < m
        · exact h2 k e hmt
        · obtain rfl : k = m := by omega
          exact absurd hmt hn
    · rintro ⟨h1, h2⟩
      have h3 := ih.2 ⟨h1, fun k hk => h2 k (by omega)⟩
      split
      · rename_i hmt
        have h4 := h2 m (by omega) hmt
        split <;> omega
      · exact h3
theorem nx_congr {T : Tab} {l m : List Int} (ha : ∀ r o, av T m r o = av T l r o) (hc : 0 ≤ px T.f T.n (0, 0) → ig m (px T.f T.n (0, 0)).toNat = ig l (px T.f T.n (0, 0)).toNat) : nx T m = nx T l := by
  unfold nx
  rw [show (fun k => (av T m (T.ri k) (T.ro k)).2) = fun k => (av T l (T.ri k) (T.ro k)).2 from funext fun k => by rw [ha], ha]
  split
  · rfl
  · split
    · rfl
    · rw [hc (by omega)]
theorem pm_neg (v : Nat → List Int) (l : List Int) (o ce sc sc' : Int) (a : List Int) (h : ce < 0) : pm v l o ce sc a = pm v l o ce sc' a := by
  have hch : ∀ e, ch v l e ce sc = ch v l e ce sc' := fun e => by rw [ch, ch, if_pos h, if_pos h]
  have hps : ∀ r j, ps v l o ce sc r j = ps v l o ce sc' r j := fun r j => by rw [ps, ps, hch]
  have hpf : ∀ j, pf v l o ce sc a j = pf v l o ce sc' a j := fun j => by
    induction j with
    | zero => rfl
    | succ j ih => rw [pf, pf, ih, hps]
  have hpg : ∀ r, pg v l o ce sc r = pg v l o ce sc' r := fun r => funext fun k => by rw [pg, pg, hch]
  simp only [pm, hpf, hch, hpg]
end Go.Proofs.YtcgkkppidkkjiaaGreatDoor
namespace Go.Proofs.YtcgkkppidkkjiaaGreatDoor
open Go.RowKit
/-- what a walk has done so far -/
structure Wk (σ : Type) where
  s : σ
  fin : List (Int × Int)
  out : List (Int × List Int)
/-- one after another -/
def rowF {ι α τ : Type} (v : ι → τ → Option (α × τ)) : List ι → τ → Option (List α × τ)
  | [], t => some ([], t)
  | x :: xs, t => (v x t).bind fun (y, t1) => (rowF v xs t1).bind fun (ys, t2) => some (y :: ys, t2)
section
variable {ι α τ : Type}
theorem rowF_push (v : ι → τ → Option (α × τ)) (l : List ι) (x : ι) (t : τ) : rowF v (l ++ [x]) t = (rowF v l t).bind fun (ys, t1) => (v x t1).bind fun (y, t2) => some (ys ++ [y], t2) := by
  induction l generalizing t with
  | nil =>
    simp only [List.nil_append, rowF, Option.bind_some]
  | cons a l ih =>
    simp only [List.cons_append, rowF]
    cases v a t with
    | none => rfl
    | some p =>
      obtain ⟨y, t1⟩ := p
      simp only [Option.bind_some, ih]
      cases rowF v l t1 with
      | none => rfl
      | some q =>
        obtain ⟨ys, t2⟩ := q
        simp only [Option.bind_some]
        cases v x t2 with
        | none => rfl
        | some r => obtain ⟨z, t3⟩ := r; simp
/-- parts of a row -/
theorem rowF_cons {v : ι → τ → Option (α × τ)} {x : ι} {xs : List ι} {t t' : τ} {ys : List α} (h : rowF v (x :: xs) t = some (ys, t')) : ∃ y zs t1, v x t = some (y, t1) ∧ rowF v xs t1 = some (zs, t') ∧ ys = y :: zs := by
  simp only [rowF] at h
  cases hv : v x t with
  | none => rw [hv] at h; cases h
  | some p =>
    obtain ⟨y, t1⟩ := p
    rw [hv] at h
    simp only [Option.bind_some] at h
    cases hr : rowF v xs t1 with
    | none => rw [hr] at h; cases h
    | some q =>
      obtain ⟨ys', t2⟩ := q
      rw [hr] at h
      simp only [Option.bind_some, Option.some.injEq, Prod.mk.injEq] at h
      obtain ⟨rfl, rfl⟩ := h
      exact ⟨y, ys', t1, rfl, hr, rfl⟩
/-- what has come before -/
theorem rowF_at {v : ι → τ → Option (α × τ)} {l : List ι} {t t' : τ} {ys : List α} (h : rowF v l t = some (ys, t')) {j : Nat} {x : ι} (hx : l[j]? = some x) :
    ∃ y zs t1 t2, rowF v (l.take j) t = some (zs, t1) ∧ v x t1 = some (y, t2) ∧ rowF v (l.take (j + 1)) t = some (zs ++ [y], t2) := by
  have hj : j < l.length := by
    rcases Nat.lt_or_ge j l.length with q | q
    · exact q
    · rw [List.getElem?_eq_none q] at hx; cases hx
  have e : l.take (j + 1) = l.take j ++ [x] := by
    rw [List.take_succ_eq_append_getElem hj]
    rw [List.getElem?_eq_getElem hj] at hx
    injection hx with hx
    rw [hx]
  rw [e, rowF_push]
  have hpre : ∀ (a b : List ι) (t : τ) (r), rowF v (a ++ b) t = some r → ∃ q, rowF v a t = some q := by
    intro a
    induction a with
    | nil => intro b t r _; exact ⟨_, rfl⟩
    | cons x a ih =>
      intro b t r hr
      obtain ⟨r1, r2⟩ := r
      obtain ⟨y, zs, t1, h1, h2, _⟩ := rowF_cons hr
      obtain ⟨q2, hq2⟩ := ih b t1 _ h2
      simp only [rowF, h1, Option.bind_some, hq2]
      exact ⟨_, rfl⟩
  obtain ⟨⟨zs, t2⟩, h2⟩ := hpre (l.take (j + 1)) (l.drop (j + 1)) t (ys, t') (by rw [List.take_append_drop]; exact h)
  rw [e, rowF_push] at h2
  cases h3 : rowF v (l.take j) t with
  | none => rw [h3] at h2; cases h2
  | some q =>
    obtain ⟨zs', t1⟩ := q
    rw [h3] at h2
    simp only [Option.bind_some] at h2 ⊢
    cases h4 : v x t1 with
    | none => rw [h4] at h2; cases h2
    | some q =>
      obtain ⟨y, t3⟩ := q
      exact ⟨y, zs', t1, t3, rfl, h4, by simp⟩
end
theorem rowF_take {α τ : Type} {v : Int → τ → Option (α × τ)} {l : List Int} {t t' : τ} {ys : List α} (h : rowF v l t = some (ys, t')) {j : Nat} (hj : j < l.length) :
    ∃ y zs t1 t2, rowF v (l.take j) t = some (zs, t1) ∧ v (ig l j) t1 = some (y, t2) ∧ rowF v (l.take (j + 1)) t = some (zs ++ [y], t2) :=
  rowF_at h (by rw [List.getElem?_eq_getElem hj]; simp [ig, hj])

/-- the walk: what a number becomes -/
def visitF {σ : Type} (st : Nat) (el : σ → Int → Nat → Option (List Int × σ)) : Nat → Int → Wk σ → Option (Int × Wk σ)
  | 0, n, s => some (n, s)
  | l + 1, n, s => match s.fin.lookup n with
    | some i => some (i, s)
    | none => if 4096 < s.out.length then some (0, s) else
      (el s.s n (l + 1)).bind fun (own, e) => (rowF (visitF st el l) (own.take st) { s with s := e }).bind fun (next, s') =>
        some ((s'.out.length : Int), { s' with fin := (n, (s'.out.length : Int)) :: s'.fin, out := s'.out ++ [(((l + 1 : Nat) : Int), next)] })

/-- the walk's blocks -/
structure WB where
  xf : Nat
  xn : Nat
  xp : Nat
  xe : Nat
  xv : Nat
  mb : Nat
  fb : Nat
  ev : Value
  vv : Value
  bs : Nat
def WB.cst (b : WB) (k : Nat) : Prop := k = b.xf ∨ k = b.xp ∨ k = b.xe ∨ k = b.xv

/-- the memory of a walk: T holds what it turns, U what its nodes' elements don't lie in -/
structure WstR {σ : Type} (st : Int) (St : World → (Nat → Prop) → σ → Prop) (b : WB) (w : World) (T U : Nat → Prop) (S : Wk σ) : Prop where
  cf : Blk w b.xf 158 #[.map (some b.mb)]
  cp : Blk w b.xp 101 #[.pointer (some ⟨b.fb, 0, none⟩)]
  ce : Blk w b.xe 136 #[b.ev]
  cv : Blk w b.xv 159 #[b.vv]
  cT : ∀ k, b.cst k → ¬ T k
  tU : ∀ k, T k → U k
  uL : ∀ k, U k → k < w.heap.size
  bL : b.bs ≤ w.heap.size
  map : MapOf Tryz.prog w 21 b.mb (fun x => .int .i32 x) (fun x => .int .i64 x) (fun n => S.fin.lookup n)
  tm : T b.mb
  tn : T b.xn
  rest : ∃ G A c xs, St w G S.s ∧ (∀ k, G k → T k ∧ k ≠ b.mb ∧ k ≠ b.xn ∧ (Value.slice A S.out.length c).ownBlock ≠ some k) ∧
    Blk w b.xn 30 #[.slice A S.out.length c] ∧ w.ownsRow b.bs 66 2 (.slice A S.out.length c) S.out.length xs ∧
    (∀ g, (Value.slice A S.out.length c).ownBlock = some g → T g ∧ g ≠ b.xn ∧ g ≠ b.mb) ∧ Inn w U xs S.out.length (lvO S.out) (nxO S.out)

/-- a number in range -/
def I32 (n : Int) : Prop := -2147483648 ≤ n ∧ n < 2147483648
instance (n : Int) : Decidable (I32 n) := by unfold I32; exact inferInstance
/-- what the elements' function and its state must be good for -/
structure Els {σ : Type} (st : Nat) (St : World → (Nat → Prop) → σ → Prop) (el : σ → Int → Nat → Option (List Int × σ)) (b : WB) (lm : Nat) (gE : FuncId) (cb : Array Value) : Prop where
  keep : ∀ {w w' : World} {G H H' : Nat → Prop} {s : σ}, St w G s → Fr H w H' w' → (∀ k, G k → ¬ H k) → St w' G s
  lt : ∀ {w : World} {G : Nat → Prop} {s : σ}, St w G s → ∀ k, G k → k < w.heap.size
  sts : ∀ {w : World} {G : Nat → Prop} {s : σ}, St w G s → w.cell? ⟨b.fb, 0, none⟩ = some (.int .i64 st) ∧ b.fb < w.heap.size
  call : ∀ (w : World) (G : Nat → Prop) (s s' : σ) (n : Int) (l : Nat) (r : List Int), 1 ≤ l → l ≤ lm → I32 n → St w G s → el s n l = some (r, s') →
    R8 r ∧ Calls Tryz.prog gE (#[.int .i32 n, .int .i64 (l : Int)] ++ cb) w fun e w' => ∃ G', e = .returned (rowV r) ∧ St w' G' s' ∧ Fr G w G' w'

section
variable {σ : Type} {st : Int} {sn lm : Nat} {St : World → (Nat → Prop) → σ → Prop} {el : σ → Int → Nat → Option (List Int × σ)} {b : WB} {w w' : World} {T U H H' : Nat → Prop} {S : Wk σ} {gE : FuncId} {cb : Array Value}
theorem WstR.wide {U' : Nat → Prop} (h : WstR st St b w T U S) (h1 : ∀ k, T k → U' k) (h2 : ∀ k, U' k → U k) : WstR st St b w T U' S := by
  obtain ⟨G, A, c, xs, a1, a2, a3, a4, a5, a6⟩ := h.rest
  exact ⟨h.cf, h.cp, h.ce, h.cv, h.cT, h1, fun k hk => h.uL k (h2 k hk), h.bL, h.map, h.tm, h.tn, G, A, c, xs, a1, a2, a3, a4, a5, a6.sub fun k _ hk => h2 k hk⟩
/-- what turns other blocks, or makes some -/
theorem WstR.keep (E : Els sn St el b lm gE cb) (h : WstR st St b w T U S) (hf : Fr H w H' w') (h1 : ∀ k, T k → ¬ H k) (h2 : ∀ k, b.cst k → ¬ H k) (h3 : ∀ k, H k → U k) (U' : Nat → Prop) (h4 : ∀ k, U k → U' k) (h5 : ∀ k, U' k → U k ∨ w.heap.size ≤ k) (h6 : ∀ k, U' k → k < w'.heap.size) : WstR st St b w' T U' S := by
  obtain ⟨G, A, c, xs, a1, a2, a3, a4, a5, a6⟩ := h.rest
  refine ⟨hf.blk h.cf (h2 _ (.inl rfl)), hf.blk h.cp (h2 _ (.inr (.inl rfl))), hf.blk h.ce (h2 _ (.inr (.inr (.inl rfl)))), hf.blk h.cv (h2 _ (.inr (.inr (.inr rfl)))), h.cT, fun k hk => h4 k (h.tU k hk), h6, Nat.le_trans h.bL hf.size, hf.map h.map (h1 _ h.tm), h.tm, h.tn,
    G, A, c, xs, E.keep a1 hf (fun k hk => h1 k (a2 k hk).1), a2, hf.blk a3 (h1 _ h.tn), hf.row a4 (fun g hg => h1 g (a5 g hg).1), a5, ?_⟩
  refine (a6.far hf.size (fun k hk hU => hf.block k hk (fun hh => hU (h3 k hh))) (fun k hk hk' => ?_))
  rcases h5 k hk' with h | h
  · exact h
  · omega
theorem WstR.below (E : Els sn St el b lm gE cb) (h : WstR st St b w T U S) (hb : Below w.heap.size w w') : WstR st St b w' T U S :=
  h.keep E (Fr.of_below (G := fun _ => False) hb) (fun _ _ h => h) (fun _ _ h => h) (fun _ h => h.elim) U (fun _ h => h) (fun _ h => .inl h) (fun k hk => Nat.lt_of_lt_of_le (h.uL k hk) hb.size)
end
end Go.Proofs.YtcgkkppidkkjiaaGreatDoor
