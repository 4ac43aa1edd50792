/- The walk of the reference's Same, at equal trees. -/
/- The walk of the law. -/
/- Turn, Turn back and Reduce, at any valid tree. -/
/- Plain mathematics: the states at the turned offsets. -/
import Derived.Test.YthgnjjpkmikokaaDoorBap
import Derived.Test.YthgnjjpkmikokaaDoorBae
import Derived.Test.YthgnjjpkmikokaaDoorRr
namespace Go.Proofs.YthgnjjpkmikokaaDoor
open Go.RowKit

set_option maxRecDepth 100000 in
set_option maxHeartbeats 8000000 in
theorem rsame_yes (AH AH2 AN AN2 : Option Addr) (cH cH2 cN cN2 : Nat) (T : Tr) (w : World) (h : TS w AH AN T) (h2 : TS w AH2 AN2 T) (hn : T.n ≤ 1000) (hm : T.m ≤ 5000) (hl : ∀ k, k < T.m → (T.nx k).length ≤ 1000) :
    Calls Tryd.prog 10 #[.agg #[.int .i64 T.st, .slice AH T.n cH, .slice AN T.m cN], .agg #[.int .i64 T.st, .slice AH2 T.n cH2, .slice AN2 T.m cN2]] w fun e w' => e = .returned (.bool true) ∧ Below w.heap.size w w' := by
  obtain ⟨st, n, f, m, lv, nx⟩ := T
  obtain ⟨hq, hN⟩ := h
  obtain ⟨hq2, hN2⟩ := h2
  simp only at *
  have HQ := Lib.hid hq
  have HQ2 := Lib.hid hq2
  have HN := Lib.hid hN
  have HN2 := Lib.hid hN2
  have HL := Lib.hid hl
  obtain ⟨k1, k2, b2⟩ := two_blk w #[.int .i64 st, .slice AH n cH, .slice AN m cN] #[.int .i64 st, .slice AH2 n cH2, .slice AN2 m cN2] 25 25
  have K1 := Lib.hid k1
  have K2 := Lib.hid k2
  have B2 := Lib.hid b2
  obtain ⟨a0, a1, a2, a3⟩ := k1.three
  obtain ⟨b0, b1, b2', b3⟩ := k2.three
  clear hq hq2 hN hN2 hl k1 k2 b2
  go_enter Tryd.func10, Tryd.ntmps10
  go_wp2
  go_loopw [5] (fun iv wr => ∃ (i : Nat), i ≤ n ∧ iv = .int .i64 (i : Int) ∧ Blk wr w.heap.size 25 #[.int .i64 st, .slice AH n cH, .slice AN m cN] ∧ Blk wr (w.heap.size + 1) 25 #[.int .i64 st, .slice AH2 n cH2, .slice AN2 m cN2] ∧ Below w.heap.size w wr) (fun iv _ => n - (intOf iv).toNat)
  case atStart => exact ⟨0, Nat.zero_le _, rfl, K1.out, K2.out, B2.out⟩
  case round =>
    obtain ⟨i, hi, rfl, q1, q2, hb⟩ := hrel
    have Q1 := Lib.hid q1
    have Q2 := Lib.hid q2
    have HB := Lib.hid hb
    obtain ⟨c0, c1, c2, c3⟩ := q1.three
    obtain ⟨d0, d1, d2, d3⟩ := q2.three
    clear q1 q2 hb a0 a1 a2 a3 b0 b1 b2' b3 K1 K2 B2
    by_cases hin : i < n
    · have e1 : decide ((i : Int) < (n : Int)) = true := by rw [decide_eq_true_iff]; omega
      obtain ⟨g, o, rfl, hg, hc⟩ := HQ.out.below HB.out (by omega)
      obtain ⟨g2, o2, rfl, hg2, hc2⟩ := HQ2.out.below HB.out (by omega)
      obtain ⟨x0, x1⟩ := hc i hin
      obtain ⟨y0, y1⟩ := hc2 i hin
      generalize f i = p at x0 x1 y0 y1
      obtain ⟨x, y⟩ := p
      simp only at x0 x1 y0 y1
      have i0 : (0 : Int) ≤ (i : Int) := by omega
      have i1 : (i : Int) < (n : Int) := by omega
      clear hc hc2
      go_wp2
      go_region
      go_wp2
      go_roundw
      case rel => exact ⟨i + 1, by omega, by go_num, Q1.out.drew, Q2.out.drew, HB.out.drew⟩
      case measure => simp [intOf]; omega
    · obtain rfl : i = n := by omega
      have e1 : decide ((i : Int) < (i : Int)) = false := by rw [decide_eq_false_iff_not]; omega
      go_wp2
      go_loopw [6] (fun iv wr => ∃ (j : Nat), j ≤ m ∧ iv = .int .i64 (j : Int) ∧ Blk wr w.heap.size 25 #[.int .i64 st, .slice AH i cH, .slice AN m cN] ∧ Blk wr (w.heap.size + 1) 25 #[.int .i64 st, .slice AH2 i cH2, .slice AN2 m cN2] ∧ Below w.heap.size w wr) (fun iv _ => m - (intOf iv).toNat)
      case atStart => exact ⟨0, Nat.zero_le _, rfl, Q1.out, Q2.out, HB.out⟩
      case round =>
        obtain ⟨j, hj, rfl, q1, q2, hb⟩ := hrel
        obtain ⟨wo, rfl⟩ : ∃ wo, wo = wr := ⟨wr, rfl⟩
        have QA := Lib.hid q1
        have QB := Lib.hid q2
        have HC := Lib.hid hb
        clear q1 q2 hb c0 c1 c2 c3 d0 d1 d2 d3 Q1 Q2 HB
        obtain ⟨c0, c1, c2, c3⟩ := QA.out.three
        obtain ⟨d0, d1, d2, d3⟩ := QB.out.three
        by_cases hjm : j < m
        · have e2 : decide ((j : Int) < (m : Int)) = true := by rw [decide_eq_true_iff]; omega
          obtain ⟨g, o, rfl, hg, hc⟩ := HN.out.below HC.out (by omega)
          obtain ⟨g2, o2, rfl, hg2, hc2⟩ := HN2.out.below HC.out (by omega)
          obtain ⟨A', c', x0, x1, xr⟩ := hc j hjm
          obtain ⟨A2', c2', y0, y1, yr⟩ := hc2 j hjm
          have XR := Lib.hid xr
          have YR := Lib.hid yr
          have hll := HL.out j hjm
          have l0 : w.heap.size < wo.heap.size := c3
          have lg : g < wo.heap.size := by omega
          have lg2 : g2 < wo.heap.size := by omega
          generalize lv j = l at x0 y0
          generalize nx j = X at x1 y1 XR YR hll
          have i0 : (0 : Int) ≤ (j : Int) := by omega
          have i1 : (j : Int) < (m : Int) := by omega
          have S0 : wo.drew.cell? ⟨w.heap.size, 2, none⟩ = some (.slice (some ⟨g, o, none⟩) m cN) ∧ wo.drew.cell? ⟨w.heap.size + 1, 2, none⟩ = some (.slice (some ⟨g2, o2, none⟩) m cN2) ∧ wo.drew.cell? ⟨g, o + j * 2, none⟩ = some (.int .i64 l) ∧ wo.drew.cell? ⟨g, o + j * 2 + 1, none⟩ = some (.slice A' X.length c') ∧ wo.drew.cell? ⟨g2, o2 + j * 2, none⟩ = some (.int .i64 l) ∧ wo.drew.cell? ⟨g2, o2 + j * 2 + 1, none⟩ = some (.slice A2' X.length c2') := ⟨c2, d2, x0, x1, y0, y1⟩
          have KEEP := Lib.hid (fun w' (hb : Below wo.heap.size wo w') => (show w'.cell? ⟨w.heap.size, 2, none⟩ = some (.slice (some ⟨g, o, none⟩) m cN) ∧ w'.cell? ⟨w.heap.size + 1, 2, none⟩ = some (.slice (some ⟨g2, o2, none⟩) m cN2) ∧ w'.cell? ⟨g, o + j * 2, none⟩ = some (.int .i64 l) ∧ w'.cell? ⟨g, o + j * 2 + 1, none⟩ = some (.slice A' X.length c') ∧ w'.cell? ⟨g2, o2 + j * 2, none⟩ = some (.int .i64 l) ∧ w'.cell? ⟨g2, o2 + j * 2 + 1, none⟩ = some (.slice A2' X.length c2') from
            ⟨(hb.cell (p := ⟨_, _, none⟩) c3).trans c2, (hb.cell (p := ⟨_, _, none⟩) d3).trans d2, (hb.cell (p := ⟨_, _, none⟩) lg).trans x0, (hb.cell (p := ⟨_, _, none⟩) lg).trans x1, (hb.cell (p := ⟨_, _, none⟩) lg2).trans y0, (hb.cell (p := ⟨_, _, none⟩) lg2).trans y1⟩))
          clear hc hc2 xr yr
          go_wp2
          go_region_held_law (fun w' => w'.cell? ⟨w.heap.size, 2, none⟩ = some (.slice (some ⟨g, o, none⟩) m cN) ∧ w'.cell? ⟨w.heap.size + 1, 2, none⟩ = some (.slice (some ⟨g2, o2, none⟩) m cN2) ∧ w'.cell? ⟨g, o + j * 2, none⟩ = some (.int .i64 l) ∧ w'.cell? ⟨g, o + j * 2 + 1, none⟩ = some (.slice A' X.length c') ∧ w'.cell? ⟨g2, o2 + j * 2, none⟩ = some (.int .i64 l) ∧ w'.cell? ⟨g2, o2 + j * 2 + 1, none⟩ = some (.slice A2' X.length c2'))
            (first | assumption | (refine KEEP.out _ ?_; (with_reducible (repeat (first | assumption | exact Below.refl _ _ | refine Below.drew' ?_ | refine Below.alloc' ?_ _ | (refine Below.setCell ?_ (by simp) _)))); done) | go_keep) (fail)
          · obtain ⟨k7, k8, bz⟩ := two_blk wo #[.int .i64 l, .slice A' X.length c'] #[.int .i64 l, .slice A2' X.length c2'] 44 44
            have K7 := Lib.hid k7.drew
            have K8 := Lib.hid k8.drew
            have BZ := Lib.hid bz.drew
            obtain ⟨p0, p1, p2, p3, p4⟩ := K7.out.two
            obtain ⟨r0, r1, r2, r3, r4⟩ := K8.out.two
            clear k7 k8 bz S0 KEEP
            generalize ((wo.alloc (.cells #[.int .i64 l, .slice A' X.length c'] 44)).alloc (.cells #[.int .i64 l, .slice A2' X.length c2'] 44)).drew = wz at K7 K8 BZ p0 p1 p2 p3 p4 r0 r1 r2 r3 r4 ⊢
            go_wp2
            go_loopw [9] (fun sv wr => ∃ (s : Nat), s ≤ X.length ∧ sv = .int .i64 (s : Int) ∧ Blk wr wo.heap.size 44 #[.int .i64 l, .slice A' X.length c'] ∧ Blk wr (wo.heap.size + 1) 44 #[.int .i64 l, .slice A2' X.length c2'] ∧ Below wo.heap.size wo wr) (fun sv _ => X.length - (intOf sv).toNat)
            case atStart => exact ⟨0, Nat.zero_le _, rfl, K7.out, K8.out, BZ.out⟩
            case round =>
              obtain ⟨s, hs, rfl, u7, u8, ub⟩ := hrel
              have U7 := Lib.hid u7
              have U8 := Lib.hid u8
              have UB := Lib.hid ub
              obtain ⟨t0, t1, t2, t3, t4⟩ := u7.two
              obtain ⟨v0, v1, v2, v3, v4⟩ := u8.two
              clear u7 u8 ub p0 p1 p2 p3 p4 r0 r1 r2 r3 r4
              by_cases hsx : s < X.length
              · have e3 : decide ((s : Int) < (X.length : Int)) = true := by rw [decide_eq_true_iff]; omega
                obtain ⟨ad, rfl, hal, hcel⟩ := il_at ((XR.out.more HC.out.size).below UB.out) hsx
                obtain ⟨ad2, rfl, hal2, hcel2⟩ := il_at ((YR.out.more HC.out.size).below UB.out) hsx
                generalize ig X s = x at hcel hcel2
                have s0 : (0 : Int) ≤ (s : Int) := by omega
                have s1 : (s : Int) < (X.length : Int) := by omega
                go_wp2
                go_region
                go_wp2
                go_roundw
                case rel => exact ⟨s + 1, by omega, by go_num, U7.out.drew, U8.out.drew, UB.out.drew⟩
                case measure => simp [intOf]; omega
              · obtain rfl : s = X.length := by omega
                have e3 : decide (((X.length : Nat) : Int) < (X.length : Int)) = false := by rw [decide_eq_false_iff_not]; omega
                go_wp2
                go_roundw
                case rel => exact ⟨j + 1, by omega, by go_num, QA.out.below (UB.out) (by omega), QB.out.below UB.out (by omega), HC.out.trans (UB.out.mono HC.out.size)⟩
                case measure => simp [intOf]; omega
          · obtain ⟨k8, k7, bz⟩ := two_blk wo #[.int .i64 l, .slice A2' X.length c2'] #[.int .i64 l, .slice A' X.length c'] 44 44
            have K7 := Lib.hid k7.drew
            have K8 := Lib.hid k8.drew
            have BZ := Lib.hid bz.drew
            obtain ⟨p0, p1, p2, p3, p4⟩ := K7.out.two
            obtain ⟨r0, r1, r2, r3, r4⟩ := K8.out.two
            clear k7 k8 bz S0 KEEP
            generalize ((wo.alloc (.cells #[.int .i64 l, .slice A2' X.length c2'] 44)).alloc (.cells #[.int .i64 l, .slice A' X.length c'] 44)).drew = wz at K7 K8 BZ p0 p1 p2 p3 p4 r0 r1 r2 r3 r4 ⊢
            go_wp2
            go_loopw [9] (fun sv wr => ∃ (s : Nat), s ≤ X.length ∧ sv = .int .i64 (s : Int) ∧ Blk wr (wo.heap.size + 1) 44 #[.int .i64 l, .slice A' X.length c'] ∧ Blk wr wo.heap.size 44 #[.int .i64 l, .slice A2' X.length c2'] ∧ Below wo.heap.size wo wr) (fun sv _ => X.length - (intOf sv).toNat)
            case atStart => exact ⟨0, Nat.zero_le _, rfl, K7.out, K8.out, BZ.out⟩
            case round =>
              obtain ⟨s, hs, rfl, u7, u8, ub⟩ := hrel
              have U7 := Lib.hid u7
              have U8 := Lib.hid u8
              have UB := Lib.hid ub
              obtain ⟨t0, t1, t2, t3, t4⟩ := u7.two
              obtain ⟨v0, v1, v2, v3, v4⟩ := u8.two
              clear u7 u8 ub p0 p1 p2 p3 p4 r0 r1 r2 r3 r4
              by_cases hsx : s < X.length
              · have e3 : decide ((s : Int) < (X.length : Int)) = true := by rw [decide_eq_true_iff]; omega
                obtain ⟨ad, rfl, hal, hcel⟩ := il_at ((XR.out.more HC.out.size).below UB.out) hsx
                obtain ⟨ad2, rfl, hal2, hcel2⟩ := il_at ((YR.out.more HC.out.size).below UB.out) hsx
                generalize ig X s = x at hcel hcel2
                have s0 : (0 : Int) ≤ (s : Int) := by omega
                have s1 : (s : Int) < (X.length : Int) := by omega
                go_wp2
                go_region
                go_wp2
                go_roundw
                case rel => exact ⟨s + 1, by omega, by go_num, U7.out.drew, U8.out.drew, UB.out.drew⟩
                case measure => simp [intOf]; omega
              · obtain rfl : s = X.length := by omega
                have e3 : decide (((X.length : Nat) : Int) < (X.length : Int)) = false := by rw [decide_eq_false_iff_not]; omega
                go_wp2
                go_roundw
                case rel => exact ⟨j + 1, by omega, by go_num, QA.out.below (UB.out) (by omega), QB.out.below UB.out (by omega), HC.out.trans (UB.out.mono HC.out.size)⟩
                case measure => simp [intOf]; omega
        · obtain rfl : j = m := by omega
          have e2 : decide ((j : Int) < (j : Int)) = false := by rw [decide_eq_false_iff_not]; omega
          go_wp2
          go_ret
          exact ⟨rfl, HC.out⟩
end Go.Proofs.YthgnjjpkmikokaaDoor
namespace Go.Proofs.YthgnjjpkmikokaaDoor
open Go.RowKit

/-- small, with at most c nodes -/
def Sm2 (T : Tr) (c : Nat) : Prop := Sm T ∧ T.m ≤ c
set_option maxRecDepth 100000 in
theorem small_any (AH : Option Addr) (cH : Nat) (AN : Option Addr) (cN : Nat) (T : Tr) (c : Nat) (w : World) (hc : c ≤ 1000) (h : TS w AH AN T) (h1 : T.n < 9223372036854775808) (h2 : T.m < 9223372036854775808) (h4 : ∀ k, k < T.m → (T.nx k).length < 9223372036854775808) :
    Calls Tryd.prog 4 #[.agg #[.int .i64 T.st, .slice AH T.n cH, .slice AN T.m cN], .int .i64 (c : Int)] w fun e w' => BoolThat (Sm2 T c) w e w' := by
  have FW := Lib.hid (fun w' (hb : Below w.heap.size w w') => few_any AH cH AN cN T w' (h.later hb) h1 h2 h4)
  have SM := Lib.hid (show Sm T → T.m ≤ c → Sm2 T c from fun a b => ⟨a, b⟩)
  clear h h4
  generalize Sm2 T c = S2 at SM ⊢
  generalize Sm T = S1 at SM FW
  obtain ⟨st, n, f, m, lv, nx⟩ := T
  simp only at *
  have K0 := Lib.hid (Blk.new w 25 #[.int .i64 st, .slice AH n cH, .slice AN m cN])
  have B0 := Lib.hid ((Below.refl w.heap.size w).alloc (Nat.le_refl _) (.cells #[.int .i64 st, .slice AH n cH, .slice AN m cN] 25))
  go_enter Tryd.func4, Tryd.ntmps4
  go_upto_region 1 with (fail)
  generalize w.alloc (.cells #[.int .i64 st, .slice AH n cH, .slice AN m cN] 25) = w0 at *
  obtain ⟨t0, t1, t2, t3⟩ := K0.out.three
  go_wp2_with fail
  go_at_call 14
  refine (FW.out _ B0.out).mono ?_
  rintro e w1 ⟨b, rfl, hq1, hb⟩
  have B1 := Lib.hid (B0.out.trans (hb.mono B0.out.size))
  have K1 := Lib.hid (K0.out.below hb K0.out.lt)
  clear hb t0 t1 t2 t3
  obtain ⟨t0, t1, t2, t3⟩ := K1.out.three
  cases b with
  | false =>
    clear hq1
    go_wp2
    go_ret
    exact ⟨false, rfl, (fun h => by cases h), B1.out⟩
  | true =>
    have HS := Lib.hid (hq1 rfl)
    clear hq1
    by_cases hm : m ≤ c
    · have d1 : decide ((m : Int) ≤ (c : Int)) = true := by rw [decide_eq_true_iff]; omega
      go_wp2
      go_ret
      exact ⟨true, rfl, fun _ => SM.out HS.out hm, B1.out⟩
    · have d1 : decide ((m : Int) ≤ (c : Int)) = false := by rw [decide_eq_false_iff_not]; omega
      go_wp2
      go_ret
      exact ⟨false, rfl, (fun h => by cases h), B1.out⟩

/-- no length is too great for an int -/
def Fits (T : Tr) : Prop := T.n < 9223372036854775808 ∧ T.m < 9223372036854775808 ∧ ∀ k, k < T.m → (T.nx k).length < 9223372036854775808
/-- awake answers true -/
def Aw (w : World) : Prop := ∀ w', Below w.heap.size w w' → Calls Tryd.prog 6 #[] w' fun e w'' => e = .returned (.bool true) ∧ Below w'.heap.size w' w''
end Go.Proofs.YthgnjjpkmikokaaDoor
namespace Go.Proofs.YthgnjjpkmikokaaDoor
open Go.RowKit

theorem root_I32 {sn : Nat} {T : Tr} {nums : List Int} {L : List Ndv} (hT : Rt T) (hst : T.st = (sn : Int)) (h : plantF (sn : Int) T.lv T.nx T.m [] = some (nums, L)) : I32 (ig nums (T.m - 1)) := by
  have s1 := hT.s1
  have s2 := hT.s2
  have m1 := hT.m1
  have h1 := (plantF_rng (by omega) (by simp; omega) h).1
  have h2 := (plantF_at h).1
  have := h1 _ (ig_mem (l := nums) (j := T.m - 1) (by omega))
  exact ⟨by omega, by omega⟩
/-- Turn, at a valid tree -/
theorem turn_ok {sn : Nat} {T : Tr} (k : Int) (hT : Rt T) (h9 : T.n ≤ 9) (hst : T.st = (sn : Int)) : ∃ out : List (Int × List Int), 1 ≤ out.length ∧ out.length ≤ 5000 ∧
    (∀ (w : World) (AH AN : Option Addr) (cH cN : Nat), Mat w → TS w AH AN T → Calls Tryd.prog 7 #[.int .i64 k, .agg #[.int .i64 (sn : Int), .slice AH T.n cH, .slice AN T.m cN]] w fun e w' => TurnOut sn T.n (imgs T.f T.n (md k)) out w e w') ∧
    (out.length ≤ 4096 → Rt (trO sn T.n (lf (imgs T.f T.n (md k))) out) ∧ ∀ e : Env sn, Phi (trO sn T.n (lf (imgs T.f T.n (md k))) out) e = Phi T (eT (rhoOf T.n (orgs T.f T.n (md k))) e)) := by
  obtain ⟨nums, L, p1, p2, p3, p4⟩ := plant_all hT hst
  have hm8 := md_lt k
  have hd := hT.hd
  have s1 := hT.s1
  have s2 := hT.s2
  have ho := (ord_of (orgs_len hd hm8) (orgs_nodup hd hm8) (orgs_bd hd hm8)).1
  obtain ⟨r, S', w1, w2, w3, w4⟩ := turn_walk (nums := nums) ho h9 hT hst p2 p4 p3
  have hlen : S'.out.length ≤ 5000 := by
    have h := (visit_len _ _ _ _ _ w1).2
    simp only [List.length_nil] at h
    omega
  refine ⟨S'.out, w2, hlen, fun w AH AN cH cN hM h => turn_any k hst hM h hT p1 (root_I32 hT hst p1) w1 hlen, fun h4 => ?_⟩
  obtain ⟨n1, n2, n3⟩ := w4 h4
  refine ⟨rt_out (by omega) (by omega) (imgs_hd hd hm8) n1 w2 h4 w3 n2, fun e => ?_⟩
  have := n3 e
  rw [w3] at this
  exact this
/-- Reduce, at a valid tree, and Turn back -/
theorem red_ok {sn : Nat} {T : Tr} (hT : Rt T) (hst : T.st = (sn : Int)) : ∃ out : List (Int × List Int), 1 ≤ out.length ∧ out.length ≤ T.m ∧
    (∀ (w : World) (AH AN : Option Addr) (cH cN : Nat), TS w AH AN T → Calls Tryd.prog 11 #[.agg #[.int .i64 (sn : Int), .slice AH T.n cH, .slice AN T.m cN]] w fun e w' => ∃ AI cI AN' cN', e = .returned (.agg #[.int .i64 (sn : Int), .slice AI T.n cI, .slice AN' out.length cN']) ∧ TS w' AI AN' (trO sn T.n T.f out) ∧ Below w.heap.size w w') ∧ Rt (trO sn T.n T.f out) ∧
    ∀ (k k2 : Int) (U : Tr), T.n ≤ 9 → md k2 = iv (md k) → Rt U → U.st = (sn : Int) → U.n = T.n → U.f = lf (imgs T.f T.n (md k)) → (∀ e : Env sn, Phi U e = Phi T (eT (rhoOf T.n (orgs T.f T.n (md k))) e)) →
      ∀ (w : World) (AH AN : Option Addr) (cH cN : Nat), Mat w → TS w AH AN U → Calls Tryd.prog 7 #[.int .i64 k2, .agg #[.int .i64 (sn : Int), .slice AH T.n cH, .slice AN U.m cN]] w fun e w' => TurnOut sn T.n (lst T.f T.n) out w e w' := by
  obtain ⟨nums, L, p1, p2, p3, p4⟩ := plant_all hT hst
  have hd := hT.hd
  have m2 := hT.m2
  obtain ⟨r, S1, w1, w2, w3, w4, w5, w6, w7⟩ := reduce_walk (nums := nums) hT hst p2 p4 p3
  refine ⟨S1.out, w3, by omega, fun w AH AN cH cN h => reduce_any hst h hT p1 (root_I32 hT hst p1) w1, rt_out (by have := hT.s1; omega) (by have := hT.s2; omega) hd w4 (by omega) (by omega) w5 w6, ?_⟩
  intro k k2 U h9 hk hU hsU hnU hfU hphi w AH AN cH cN hM h
  have hm8 := md_lt k
  obtain ⟨numsU, LU, u1, u2, u3, u4⟩ := plant_all hU hsU
  have ho := (ord_of (orgs_len (imgs_hd hd hm8) (iv_lt _ hm8)) (orgs_nodup (imgs_hd hd hm8) (iv_lt _ hm8)) (orgs_bd (imgs_hd hd hm8) (iv_lt _ hm8))).1
  rw [hnU] at u4
  obtain ⟨S2, b1, b2⟩ := back_walk (numsT := nums) (numsU := numsU) hnU ho h9 hT hU hst p2 u2 p4 u4 u3 hphi (fun x h1 h2 => rho_back hd hm8 x h1 h2) w1
  have hv : visitF sn (elR sn (orgs U.f U.n (md k2))) U.n (ig numsU (U.m - 1)) ⟨(LU, []), [], []⟩ = some (r, S2) := by rw [hnU, hfU, hk]; exact b1
  have := turn_any k2 (cH := cH) (cN := cN) hsU hM h hU u1 (root_I32 hU hsU u1) hv (by rw [b2]; omega)
  rw [hnU, hfU, hk, imgs_back hd hm8, b2] at this
  exact this
end Go.Proofs.YthgnjjpkmikokaaDoor
namespace Go.Proofs.YthgnjjpkmikokaaDoor
open Go.RowKit

/-- the states that are set so far -/
def stF (os l : List Int) (n i j : Nat) : List Int := (List.range n).map fun x => if ig os x < (i : Int) ∨ (ig os x = (i : Int) ∧ x < j) then ig l (ig os x).toNat else 0
theorem stF_len (os l : List Int) (n i j : Nat) : (stF os l n i j).length = n := by simp [stF]
theorem stF_get (os l : List Int) {n i j x : Nat} (h : x < n) : ig (stF os l n i j) x = if ig os x < (i : Int) ∨ (ig os x = (i : Int) ∧ x < j) then ig l (ig os x).toNat else 0 := by
  simp [stF, ig, h]
theorem stF_next (os l : List Int) (n i : Nat) : stF os l n i n = stF os l n (i + 1) 0 := by
  unfold stF
  refine List.map_congr_left fun x hx => ?_
  have hx := List.mem_range.1 hx
  by_cases h : ig os x < ((i + 1 : Nat) : Int)
  · rw [if_pos (by omega), if_pos (by omega)]
  · rw [if_neg (by omega), if_neg (by omega)]
theorem stF_zero {os l : List Int} {n : Nat} (h : ∀ x, x < n → 0 ≤ ig os x) : stF os l n 0 0 = List.replicate n 0 := by
  apply List.ext_getElem
  · simp [stF]
  · intro x h1 h2
    have hx : x < n := by simpa [stF] using h1
    have := h x hx
    simp only [stF, List.getElem_map, List.getElem_range, List.getElem_replicate]
    rw [if_neg (by omega)]
theorem stF_skip {os l : List Int} {n i j : Nat} (h : ig os j ≠ (i : Int)) : stF os l n i (j + 1) = stF os l n i j := by
  unfold stF
  refine List.map_congr_left fun x hx => ?_
  by_cases e : x = j
  · subst e
    by_cases h2 : ig os x < (i : Int)
    · rw [if_pos (.inl h2), if_pos (.inl h2)]
    · rw [if_neg (by omega), if_neg (by omega)]
  · by_cases h2 : ig os x < (i : Int) ∨ (ig os x = (i : Int) ∧ x < j)
    · rw [if_pos (by omega), if_pos h2]
    · rw [if_neg (by omega), if_neg h2]
theorem stF_set {os l : List Int} {n i j : Nat} (hj : j < n) (h : ig os j = (i : Int)) : (il (stF os l n i j)).toArray.setIfInBounds j (.int .i64 (ig l i)) = (il (stF os l n i (j + 1))).toArray := by
  apply Array.ext
  · simp [il, stF_len]
  · intro x h1 h2
    have hx : x < n := by simpa [il, stF_len] using h2
    rw [Array.getElem_setIfInBounds]
    · simp only [il, List.getElem_toArray, List.getElem_map, stF, List.getElem_range]
      split
      · next e =>
        subst e
        rw [if_pos (.inr ⟨h, by omega⟩), h, Int.toNat_natCast]
      · next e =>
        by_cases h3 : ig os x < (i : Int) ∨ (ig os x = (i : Int) ∧ x < j)
        · rw [if_pos h3, if_pos (by omega)]
        · rw [if_neg h3, if_neg (by omega)]
    · simpa [il, stF_len] using hx
/-- in the end, each position has the state of its origin -/
theorem stF_end {os l : List Int} {n x : Nat} (hx : x < n) (h : ig os x < (n : Int)) : ig (stF os l n n 0) x = ig l (ig os x).toNat := by
  rw [stF_get _ _ hx, if_pos (.inl h)]
/-- an environment from a list of states -/
def envL {sn : Nat} (hs : 0 < sn) (n : Nat) (l : List Int) : Env sn := fun x => if h : (ig l (n - x)).toNat < sn then ⟨(ig l (n - x)).toNat, h⟩ else ⟨0, hs⟩
theorem envL_val {sn : Nat} (hs : 0 < sn) {n : Nat} {l : List Int} {x : Nat} (h1 : 0 ≤ ig l (n - x)) (h2 : ig l (n - x) < (sn : Int)) : ((envL hs n l x).val : Int) = ig l (n - x) := by
  unfold envL
  rw [dif_pos (by omega)]
  simp only
  omega
/-- what Eval answers -/
theorem fo_phi {sn : Nat} (hs : 0 < sn) {T : Tr} {l : List Int} (hl : l.length = T.n) (ha : ∀ i, i < l.length → 0 ≤ ig l i ∧ ig l i < (sn : Int)) : fo T.nx ((T.m - 1 : Nat) : Int) l = Phi T (envL hs T.n l) := by
  have := fo_tvx T.nx l (envL hs T.n l) (fun i hi => by
    have h1 := ha i hi
    have h2 : T.n - (l.length - i) = i := by omega
    rw [envL_val hs (by rw [h2]; exact h1.1) (by rw [h2]; exact h1.2), h2]) l.length (Nat.le_refl _) ((T.m - 1 : Nat) : Int)
  rw [Nat.sub_self, List.drop_zero, hl] at this
  exact this
/-- the turned tree, at the turned states -/
theorem fo_turned {sn : Nat} (hs : 0 < sn) {T U : Tr} {l : List Int} {m : Nat} (hm : m < 8) (hd : Hd T.f T.n) (hUn : U.n = T.n) (hl : l.length = T.n) (ha : ∀ i, i < l.length → 0 ≤ ig l i ∧ ig l i < (sn : Int))
    (hphi : ∀ e : Env sn, Phi U e = Phi T (eT (rhoOf T.n (orgs T.f T.n m)) e)) : fo U.nx ((U.m - 1 : Nat) : Int) (stF (orgs T.f T.n m) l T.n T.n 0) = fo T.nx ((T.m - 1 : Nat) : Int) l ∧ ∀ i, i < T.n → 0 ≤ ig (stF (orgs T.f T.n m) l T.n T.n 0) i ∧ ig (stF (orgs T.f T.n m) l T.n T.n 0) i < (sn : Int) := by
  have hol := orgs_len hd hm
  have hb := orgs_bd hd hm
  have hnd := orgs_nodup hd hm
  have hin : ∀ x, x < T.n → 0 ≤ ig (orgs T.f T.n m) x ∧ ig (orgs T.f T.n m) x < (T.n : Int) := fun x hx => hb _ (ig_mem (by omega))
  have hst : ∀ i, i < T.n → 0 ≤ ig (stF (orgs T.f T.n m) l T.n T.n 0) i ∧ ig (stF (orgs T.f T.n m) l T.n T.n 0) i < (sn : Int) := fun i hi => by
    have := hin i hi
    rw [stF_end hi this.2]
    exact ha _ (by omega)
  refine ⟨?_, hst⟩
  rw [fo_phi hs (T := U) (by rw [stF_len, hUn]) (fun i hi => hst i (by rwa [stF_len] at hi)), hphi, fo_phi hs hl ha, hUn]
  unfold Phi
  refine tvx_congr _ _ _ _ _ fun x h1 h2 => ?_
  obtain ⟨o, hall⟩ := ord_of hol hnd hb
  have hmem := hall ((T.n : Int) - (x : Int)) (by omega) (by omega)
  have hlt := List.idxOf_lt_length_of_mem hmem
  have hidx : ig (orgs T.f T.n m) ((orgs T.f T.n m).idxOf ((T.n : Int) - (x : Int))) = (T.n : Int) - (x : Int) := by simp [ig, hlt]
  generalize hj : (orgs T.f T.n m).idxOf ((T.n : Int) - (x : Int)) = j at hlt hidx
  rw [hol] at hlt
  have hr : rhoOf T.n (orgs T.f T.n m) (x : Int) = T.n - j := by unfold rhoOf; rw [hj]
  have hjj : T.n - (T.n - j) = j := by omega
  have hv : ig (stF (orgs T.f T.n m) l T.n T.n 0) j = ig l (T.n - x) := by
    rw [stF_end hlt (by omega), hidx]
    congr 1
    omega
  apply Fin.ext
  have e1 : ((eT (rhoOf T.n (orgs T.f T.n m)) (envL hs T.n (stF (orgs T.f T.n m) l T.n T.n 0)) x : Fin sn).val : Int) = ig l (T.n - x) := by
    unfold eT
    rw [hr, envL_val hs (by rw [hjj]; exact (hst j hlt).1) (by rw [hjj]; exact (hst j hlt).2), hjj, hv]
  have e2 : ((envL hs T.n l x : Fin sn).val : Int) = ig l (T.n - x) := envL_val hs (ha _ (by omega)).1 (ha _ (by omega)).2
  omega
/-- where the comparison holds -/
theorem img_iff {f : Nat → P2} {n m : Nat} (h : Hd f n) (hm : m < 8) {i j : Nat} (hi : i < n) (hj : j < n) : lf (imgs f n m) j = tn m (f i) ↔ ig (orgs f n m) j = (i : Int) := by
  obtain ⟨a, ha, e1, e2, e3⟩ := orgs_at h hm hj
  rw [e1, ← e3]
  constructor
  · intro e
    have := congrArg (tn (iv m)) e
    rw [(tn_iv hm _).1, (tn_iv hm _).1] at this
    rw [h.inj ha hi this]
  · intro e
    have : a = i := by omega
    rw [this]
end Go.Proofs.YthgnjjpkmikokaaDoor
