/- The walks of pattern.Top, examine and Step at valid rules and patterns. -/
import Derived.Test.YtaicehkphokacaaMax
import Derived.Test.YtaicehkphokacaaMan
namespace Go.Proofs.Ytaicehkphokacaa
open Go.RowKit

theorem run_max2' (x y z : Int) (h : max x y = z) (w : World) (ts : Array TypeId) (t : TypeId) : (Builtin.max_ ts t #[.int .i64 x, .int .i64 y]).run Try.prog w = .ok (.int .i64 z) w := by rw [run_max2, h]
/-- the greatest state -/
def tpS (p : List C3) : Int := p.foldl (fun a c => max a c.2.2) 0
theorem tpS_take (p : List C3) (i : Nat) (h : i < p.length) : tpS (p.take (i + 1)) = max (tpS (p.take i)) (p.getD i (0, 0, 0)).2.2 := by
  unfold tpS
  rw [List.take_add_one, List.getElem?_eq_getElem h, Option.toList, List.foldl_append]
  simp [List.getD_eq_getElem?_getD, h]
theorem tpS_lt {st : Int} (hs : 0 < st) : ∀ (p : List C3) (a : Int), (p.foldl (fun a c => max a c.2.2) a < st ↔ a < st ∧ ∀ c ∈ p, c.2.2 < st)
  | [], a => by simp
  | x :: r, a => by
    rw [List.foldl_cons, tpS_lt hs r]
    constructor
    · rintro ⟨h1, h2⟩
      exact ⟨by omega, fun c hc => by
        rcases List.mem_cons.1 hc with rfl | hc
        · omega
        · exact h2 c hc⟩
    · rintro ⟨h1, h2⟩
      have := h2 x (by simp)
      exact ⟨by omega, fun c hc => h2 c (List.mem_cons_of_mem _ hc)⟩
set_option maxRecDepth 100000 in
set_option maxHeartbeats 4000000 in
theorem top_any (A : Option Addr) (n c : Nat) (p : List C3) (w : World) (h : CReads w w.heap.size A n (fun k => p.getD k (0, 0, 0))) (hn : p.length = n) (h5 : n ≤ 5000) :
    Calls Try.prog 49 #[.slice A n c] w fun e w' => e = .returned (.int .i64 (tpS p)) ∧ Below w.heap.size w w' := by
  have H := Lib.hid h
  have HL := Lib.hid hn
  clear h hn
  go_enter Try.func49, Try.ntmps49
  go_upto_region 3 with (fail)
  go_loopw [3, 8] (fun av iv wr => ∃ (i : Nat), i ≤ n ∧ av = .int .i64 (tpS (p.take i)) ∧ iv = .int .i64 (i : Int) ∧ Hid (Below w.heap.size w wr)) (fun _ iv _ => n - (intOf iv).toNat)
  case atStart => exact ⟨0, Nat.zero_le _, rfl, rfl, Lib.hid (Below.refl _ _)⟩
  case round =>
    obtain ⟨i, hi, rfl, rfl, HB⟩ := hrel
    by_cases hlt : i < n
    · have hiI : (i : Int) < (n : Int) := by omega
      obtain ⟨g, o, hA, hg, hcells⟩ := (H.out.below HB.out) (by omega)
      subst hA
      have hcl := hcells i hlt
      clear hcells
      simp only at hcl
      obtain ⟨y0, y1, y2⟩ := hcl
      have HT := tpS_take p i (by rw [HL.out]; exact hlt)
      obtain ⟨⟨x, y, s⟩, hc⟩ : ∃ c, p.getD i (0, 0, 0) = c := ⟨_, rfl⟩
      rw [hc] at y0 y1 y2 HT
      simp only at y0 y1 y2 HT
      obtain ⟨a, ha⟩ : ∃ a, tpS (p.take i) = a := ⟨_, rfl⟩
      rw [ha] at HT ⊢
      obtain ⟨z, hz⟩ : ∃ z, max a s = z := ⟨_, rfl⟩
      rw [hz] at HT
      have HTT := Lib.hid HT
      have m1 := run_max2' a s z hz
      have A4 := Lib.hid ((Below.refl wr.heap.size wr).alloc (Nat.le_refl _) (.cells #[.int .i64 x, .int .i64 y, .int .i64 s] 47))
      have K5 := Blk.new wr 47 #[.int .i64 x, .int .i64 y, .int .i64 s]
      have HB4 := Lib.hid (HB.out.trans (A4.out.mono HB.out.size))
      clear HT hz ha hc
      exact (by
        go_upto_region 5 with (fail)
        generalize wr.alloc (.cells #[.int .i64 x, .int .i64 y, .int .i64 s] 47) = w4 at *
        obtain ⟨k0, k1, k2, _, _, _, k6⟩ := K5.three6
        clear y0 y1 y2
        go_wp2_with fail
        go_roundw
        case rel => exact ⟨i + 1, by omega, by rw [HTT.out], by go_num, HB4⟩
        case measure => simp [intOf]; omega)
    · obtain rfl : i = n := by omega
      have hot : p.take i = p := by rw [← HL.out]; exact List.take_length
      rw [hot]
      go_wp2
      go_ret
      exact ⟨rfl, HB.out⟩
/-- a valid pattern as the walk of Right says it -/
theorem okl_pat {p : List C3} : OkL (fun k => p.getD k (0, 0, 0)) p.length ↔ PatOK p ∧ p.length ≤ 5000 := by
  have cpb : ∀ a b : C3, cp a b < 0 ↔ bef a b := fun a b => by
    have := pc_lt (a.1, a.2.1) (b.1, b.2.1)
    unfold bef
    exact this
  have exz : ∀ a : C3, (ex a = 0 ∧ a.2.2 ≠ 0) ↔ (okc a.1 ∧ okc a.2.1 ∧ 1 ≤ a.2.2 ∧ a.2.2 < 8) := fun a => by
    unfold ex OkP okc
    split
    · rename_i h; constructor
      · rintro ⟨h1, _⟩; exact absurd h1 (by decide)
      · intro h'; exact absurd ⟨h'.1.1, h'.1.2, h'.2.1.1, h'.2.1.2⟩ h
    · rename_i h
      split
      · constructor
        · rintro ⟨h1, _⟩; exact absurd h1 (by decide)
        · intro h'; omega
      · constructor
        · rintro ⟨_, h2⟩
          have h := Decidable.not_not.1 h
          omega
        · intro h'; exact ⟨rfl, by omega⟩
  have gd : ∀ i (hi : i < p.length), p.getD i (0, 0, 0) = p[i] := fun i hi => by simp [List.getD_eq_getElem?_getD, hi]
  constructor
  · rintro ⟨h1, h2⟩
    refine ⟨⟨fun c hc => ?_, ?_⟩, h1⟩
    · obtain ⟨i, hi, rfl⟩ := List.getElem_of_mem hc
      obtain ⟨a1, a2, _⟩ := h2 i hi
      simp only [gd i hi] at a1 a2
      exact (exz _).1 ⟨a1, a2⟩
    · rw [List.pairwise_iff_getElem]
      intro i j hi hj hij
      have key : ∀ d (hd : i + 1 + d < p.length), bef p[i] p[i + 1 + d] := fun d => by
        induction d with
        | zero =>
          intro hd
          obtain ⟨_, _, a3⟩ := h2 (i + 1) hd
          have a3 := a3 (by omega)
          simp only [gd (i + 1) hd, Nat.add_sub_cancel, gd i hi] at a3
          exact (cpb _ _).1 a3
        | succ d ih =>
          intro hd
          obtain ⟨_, _, a3⟩ := h2 (i + 1 + (d + 1)) hd
          have a3 := a3 (by omega)
          have e : i + 1 + (d + 1) - 1 = i + 1 + d := by omega
          simp only [e, gd (i + 1 + (d + 1)) hd, gd (i + 1 + d) (by omega)] at a3
          exact bef_tr (ih (by omega)) ((cpb _ _).1 a3)
      have := key (j - (i + 1)) (by omega)
      have e : i + 1 + (j - (i + 1)) = j := by omega
      simp only [e] at this
      exact this
  · rintro ⟨h1, h2⟩
    refine ⟨h2, fun i hi => ?_⟩
    have hm := h1.ok _ (List.getElem_mem hi)
    obtain ⟨a1, a2⟩ := (exz _).2 hm
    refine ⟨by simp only [gd i hi]; exact a1, by simp only [gd i hi]; exact a2, fun h0 => ?_⟩
    have hp := h1.asc
    rw [List.pairwise_iff_getElem] at hp
    have := hp (i - 1) i (by omega) hi (by omega)
    simp only [gd i hi, gd (i - 1) (by omega)]
    exact (cpb _ _).2 this
/-- the error of a rule and a pattern -/
def exE (st : Int) (p : List C3) : Int := if tpS p < st then 0 else 10
section
variable (AH AN AP : Option Addr) (cH cN cP q : Nat) (T : Tr) (p : List C3) (w : World)
set_option maxRecDepth 100000 in
set_option maxHeartbeats 4000000 in
theorem dexamine_any (h : TS w AH AN T) (ht : Rt T) (hqt : gT T (List.replicate T.n 0) = 0) (hp : CReads w w.heap.size AP q (fun k => p.getD k (0, 0, 0))) (hpl : p.length = q) (hq : q ≤ 5000) (hP : PatOK p) :
    Calls Try.prog 28 #[.agg #[.int .i64 T.st, .slice AH T.n cH, .slice AN T.m cN], .slice AP q cP] w fun e w' => e = .returned (.int .i64 (exE T.st p)) ∧ Below w.heap.size w w' := by
  have QU := Lib.hid (fun w' (hb : Below w.heap.size w w') => quiet_any AH AN cH cN T w' (h.later hb) ht)
  have PR := Lib.hid (fun w' (hb : Below w.heap.size w w') => pright_any AP q cP (fun k => p.getD k (0, 0, 0)) w' (hp.later hb) (by omega))
  have TO := Lib.hid (fun w' (hb : Below w.heap.size w w') => top_any AP q cP p w' (hp.later hb) hpl hq)
  have hok : decide (OkL (fun k => p.getD k (0, 0, 0)) q) = true := decide_eq_true (by rw [← hpl]; exact okl_pat.2 ⟨hP, by omega⟩)
  rw [hok] at PR
  rw [hqt] at QU
  have QU := Lib.hid (fun w' (hb : Below w.heap.size w w') => (show Calls Try.prog 47 #[.agg #[.int .i64 T.st, .slice AH T.n cH, .slice AN T.m cN]] w' fun e w'' => e = .returned (.bool true) ∧ Below w'.heap.size w' w'' from QU.out w' hb))
  unfold exE
  generalize tpS p = tp at *
  generalize her : (if tp < T.st then (0 : Int) else 10) = er
  clear h ht hqt hp hpl hP hok
  obtain ⟨st, n, f, m, lv, nx⟩ := T
  simp only at *
  have K1 := Blk.new w 25 #[.int .i64 st, .slice AH n cH, .slice AN m cN]
  have B1 := Lib.hid ((Below.refl w.heap.size w).alloc (Nat.le_refl _) (.cells #[.int .i64 st, .slice AH n cH, .slice AN m cN] 25))
  go_enter Try.func28, Try.ntmps28
  go_upto_region 1 with (fail)
  generalize w.alloc (.cells #[.int .i64 st, .slice AH n cH, .slice AN m cN] 25) = w1 at *
  obtain ⟨t0, t1, t2, _, _, _, t3⟩ := K1.three6
  have K1 := Lib.hid K1
  go_upto_region 3 with (go_at_call 47; (with_reducible refine (QU.out _ B1.out).mono ?_); rintro e w2 ⟨rfl, hb⟩; have B2 := Lib.hid (B1.out.trans (hb.mono B1.out.size)); have K2 := Lib.hid (K1.out.below hb K1.out.lt); clear hb)
  go_upto_region 5 with (go_at_call 48; (with_reducible refine (PR.out _ B2.out).mono ?_); rintro e w3 ⟨rfl, hb⟩; have B3 := Lib.hid (B2.out.trans (hb.mono B2.out.size)); have K3 := Lib.hid (K2.out.below hb K2.out.lt); clear hb)
  clear t0 t1 t2 t3
  obtain ⟨t0, t1, t2, _, _, _, t3⟩ := K3.out.three6
  by_cases hlt : tp < st
  · have hI : ¬ st ≤ tp := by omega
    rw [if_pos hlt] at her
    subst her
    exact (by
      go_region_held_law (fun W => W.cell? ⟨w.heap.size, 0, none⟩ = some (.int .i64 st))
        (first | exact t0 | exact (K3.out.below (Below.refl _ _).drew K3.out.lt).three6.1 | exact K4.out.three6.1 | go_keep)
        (first | (go_at_call 49; (with_reducible refine (TO.out _ (by first | exact B3.out.drew | exact B3.out)).mono ?_); rintro e w4 ⟨rfl, hb⟩; have Z4 := Lib.hid (show Below w3.heap.size w3 w4 from by first | exact (Below.refl _ w3).drew.trans hb | exact hb); have B4 := Lib.hid (B3.out.trans (Z4.out.mono B3.out.size)); have K4 := Lib.hid (K3.out.below Z4.out K3.out.lt); clear hb))
      all_goals
        go_wp2_with fail
        (try go_ret)
        exact ⟨rfl, B4.out⟩)
  · have hI : st ≤ tp := by omega
    rw [if_neg hlt] at her
    subst her
    exact (by
      go_region_held_law (fun W => W.cell? ⟨w.heap.size, 0, none⟩ = some (.int .i64 st))
        (first | exact t0 | exact (K3.out.below (Below.refl _ _).drew K3.out.lt).three6.1 | exact K4.out.three6.1 | go_keep)
        (first | (go_at_call 49; (with_reducible refine (TO.out _ (by first | exact B3.out.drew | exact B3.out)).mono ?_); rintro e w4 ⟨rfl, hb⟩; have Z4 := Lib.hid (show Below w3.heap.size w3 w4 from by first | exact (Below.refl _ w3).drew.trans hb | exact hb); have B4 := Lib.hid (B3.out.trans (Z4.out.mono B3.out.size)); have K4 := Lib.hid (K3.out.below Z4.out K3.out.lt); clear hb))
      all_goals
        go_wp2_with fail
        (try go_ret)
        exact ⟨rfl, B4.out⟩)
/-- what Step answers -/
def StepOut (T : Tr) (p : List C3) (w : World) (e : Ending) (w' : World) : Prop :=
  (¬ tpS p < T.st ∧ e = .returned (.tuple #[.slice none 0 0, .int .i64 10]) ∧ Below w.heap.size w w') ∨ (tpS p < T.st ∧ AdvOut (nxt (gT T) (offL T) p) w e w')
theorem AdvOut.base {l : List (Nat × Int)} {w w1 : World} {e : Ending} {w' : World} (hb : Below w.heap.size w w1) (h : AdvOut l w1 e w') : AdvOut l w e w' := by
  have key : ∀ {w2 : World}, Below w1.heap.size w1 w2 → Below w.heap.size w w2 := fun h => hb.trans (h.mono hb.size)
  rcases h with ⟨h1, h2, h3⟩ | ⟨h1, h2, h3, h4⟩ | ⟨h1, h2, A, c, h3, h4, h5⟩
  · exact .inl ⟨h1, h2, key h3⟩
  · exact .inr (.inl ⟨h1, h2, h3, key h4⟩)
  · exact .inr (.inr ⟨h1, h2, A, c, h3, h4, key h5⟩)
theorem AdvOut.tup {l : List (Nat × Int)} {w : World} {e : Ending} {w' : World} (h : AdvOut l w e w') : ∃ u v, e = .returned (.tuple #[u, v]) := by
  rcases h with ⟨_, h, _⟩ | ⟨_, _, h, _⟩ | ⟨_, _, A, c, h, _⟩
  · exact ⟨_, _, h⟩
  · exact ⟨_, _, h⟩
  · exact ⟨_, _, h⟩
set_option maxRecDepth 100000 in
set_option maxHeartbeats 4000000 in
theorem step_any (h : TS w AH AN T) (ht : Rt T) (hqt : gT T (List.replicate T.n 0) = 0) (hp : CReads w w.heap.size AP q (fun k => p.getD k (0, 0, 0))) (hpl : p.length = q) (hq : q ≤ 5000) (hP : PatOK p) :
    Calls Try.prog 11 #[.agg #[.int .i64 T.st, .slice AH T.n cH, .slice AN T.m cN], .slice AP q cP] w fun e w' => StepOut T p w e w' := by
  have EX := Lib.hid (fun w' (hb : Below w.heap.size w w') => dexamine_any AH AN AP cH cN cP q T p w' (h.later hb) ht hqt (hp.later hb) hpl hq hP)
  have AD := Lib.hid (fun w' (hb : Below w.heap.size w w') (hst : ∀ c ∈ p, c.2.2 < T.st) => advance_any AH AN AP cH cN cP q T p w' (h.later hb) ht hqt (hp.later hb) hpl hq hP hst)
  have s1 := ht.s1
  have HT := Lib.hid (tpS_lt (st := T.st) (by omega) p 0)
  obtain ⟨Q, hQ⟩ : ∃ Q, StepOut T p w = Q := ⟨_, rfl⟩
  have HQ := Lib.hid (show ∀ e w', (¬ tpS p < T.st ∧ e = .returned (.tuple #[.slice none 0 0, .int .i64 10]) ∧ Below w.heap.size w w') ∨ (tpS p < T.st ∧ AdvOut (nxt (gT T) (offL T) p) w e w') → Q e w' from fun e w' h => by rw [← hQ]; exact h)
  rw [hQ]
  unfold exE at EX
  generalize nxt (gT T) (offL T) p = l at *
  clear h ht hqt hp hpl hP hQ
  obtain ⟨st, n, f, m, lv, nx⟩ := T
  simp only at *
  have K1 := Blk.new w 25 #[.int .i64 st, .slice AH n cH, .slice AN m cN]
  have B1 := Lib.hid ((Below.refl w.heap.size w).alloc (Nat.le_refl _) (.cells #[.int .i64 st, .slice AH n cH, .slice AN m cN] 25))
  by_cases hlt : tpS p < st
  · rw [if_pos hlt] at EX
    have HLT := Lib.hid hlt
    clear hlt
    go_enter Try.func11, Try.ntmps11
    go_upto_region 1 with (fail)
    generalize w.alloc (.cells #[.int .i64 st, .slice AH n cH, .slice AN m cN] 25) = w1 at *
    obtain ⟨t0, t1, t2, _, _, _, t3⟩ := K1.three6
    have K1 := Lib.hid K1
    go_upto_region 4 with (go_at_call 28; (with_reducible refine (EX.out _ B1.out).mono ?_); rintro e w2 ⟨rfl, hb⟩; have B2 := Lib.hid (B1.out.trans (hb.mono B1.out.size)); have K2 := Lib.hid (K1.out.below hb K1.out.lt); clear hb)
    clear t0 t1 t2 t3
    obtain ⟨t0, t1, t2, _, _, _, t3⟩ := K2.out.three6
    have A2 := Lib.hid (AD.out w2 B2.out ((HT.out.1 HLT.out).2))
    exact (by
      go_wp2_with (go_at_call 29; (with_reducible refine (A2.out).mono ?_); intro e w3 hadv; obtain ⟨u, v, hu⟩ := hadv.tup; subst hu; have H3 := Lib.hid hadv; clear hadv)
      (try go_ret2)
      exact HQ.out _ _ (.inr ⟨HLT.out, H3.out.base B2.out⟩))
  · rw [if_neg hlt] at EX
    have HLT := Lib.hid hlt
    clear hlt
    go_enter Try.func11, Try.ntmps11
    go_upto_region 1 with (fail)
    generalize w.alloc (.cells #[.int .i64 st, .slice AH n cH, .slice AN m cN] 25) = w1 at *
    obtain ⟨t0, t1, t2, _, _, _, t3⟩ := K1.three6
    go_wp2_with (go_at_call 28; (with_reducible refine (EX.out _ B1.out).mono ?_); rintro e w2 ⟨rfl, hb⟩; have B2 := Lib.hid (B1.out.trans (hb.mono B1.out.size)); clear hb)
    (try go_ret2)
    exact HQ.out _ _ (.inl ⟨HLT.out, rfl, B2.out⟩)
end
end Go.Proofs.Ytaicehkphokacaa
