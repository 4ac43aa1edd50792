/- The walk of circuitOf. -/
import Derived.Test.YtnhkgkpjkgifoaaMaq
import Derived.Test.YtnhkgkpjkgifoaaMau
namespace Go.Proofs.Ytnhkgkpjkgifoaa
open Go.RowKit

theorem info_ints3 : (Try.prog.info? 26).map (fun i => (i.zero, i.size, i.bytes)) = some (some (.slice none 0 0), 1, 24) := by kernel_rfl
/-- a call of circuitOf answers these gates and outputs -/
def CofOut (w : World) (N b : Nat) (gs : List C3) (os : List Int) (e : Ending) (w' : World) : Prop :=
  ∃ A c gO, e = .returned (.agg #[.int .i64 (N : Int), .slice A gs.length c, .slice (some ⟨gO, 0, none⟩) b b]) ∧ CReads w' w'.heap.size A gs.length (fun k => gs.getD k (0, 0, 0)) ∧ Blk w' gO 3 (il os).toArray ∧ Below w.heap.size w w' ∧ (∀ ad, A = some ad → w.heap.size ≤ ad.block) ∧ w.heap.size ≤ gO
set_option maxRecDepth 100000 in
set_option maxHeartbeats 8000000 in
theorem circuitOf_q (st n m b N : Nat) (AH : Option Addr) (gN oN cH cN : Nat) (w : World) (lv : Nat → Nat) (nx : Nat → List Nat) (TSl RSl : List (List Int)) (g0 gs : List C3) (hs1 : 2 ≤ st) (hs2 : st ≤ 8) (hn0 : 1 ≤ n) (hn : n ≤ 40) (hm0 : 1 ≤ m) (hm : m ≤ 400) (hbs : bs st = b) (hN : n * b = N)
    (hgN : gN < w.heap.size) (hNR : ∀ i, i < m → ∃ A' c', w.cell? ⟨gN, oN + i * 2, none⟩ = some (.int .i64 (lv i : Int)) ∧ w.cell? ⟨gN, oN + i * 2 + 1, none⟩ = some (.slice A' st c') ∧ Reads w w.heap.size A' st (il (nl (nx i))))
    (hlv : ∀ i, i < m → (nx i).length = st ∧ 1 ≤ lv i ∧ lv i ≤ n ∧ (lv i = 1 → ∀ j, (nx i).getD j 0 < 8) ∧ (1 < lv i → ∀ j, j < st → (nx i).getD j 0 < i))
    (hT : tsF (N : Int) (n1L N N) b st n (g1L N) = (TSl, g0)) (hR : rsF (N : Int) TSl b n lv nx m g0 = (RSl, gs)) :
    Calls Try.prog 32 #[.agg #[.int .i64 (st : Int), .slice AH n cH, .slice (some ⟨gN, oN, none⟩) m cN]] w fun e w' => CofOut w N b gs (RSl.getD (m - 1) []) e w' := by
  have BI := Lib.hid (fun w' => bits_any st w' hs1 hs2)
  have hb3 : bs st ≤ 3 := by unfold bs; split <;> (try split) <;> omega
  have hb1 : 1 ≤ bs st := by unfold bs; split <;> (try split) <;> omega
  rw [hbs] at BI hb3 hb1
  have hN1 : N ≤ 120 := by have := Nat.mul_le_mul hn hb3; omega
  have e1 : IntKind.i64.wrap ((n : Int) * (b : Int)) = (N : Int) := by
    rw [← Int.natCast_mul, hN]
    exact IntWalk.i64_in _ ⟨by omega, by omega⟩
  have HNN := Lib.hid hN
  have HT := Lib.hid hT
  have HR := Lib.hid hR
  have HNR := Lib.hid hNR
  have HLV := Lib.hid hlv
  have hg0 : g0.length ≤ 760 := by
    have q1 := tsF_len (N : Int) (n1L N N) b st (g1L N) n
    rw [hT, g1L_len] at q1
    have q2 : st * (b - 1) ≤ 8 * 2 := Nat.mul_le_mul hs2 (by omega)
    have q3 : n * (st * (b - 1)) ≤ 40 * 16 := Nat.mul_le_mul (by omega) q2
    simp only at q1
    omega
  have hTSl : ∀ p, p < n → (TSl.getD p []).length = st := fun p hp => by
    have := tsF_row (N : Int) (n1L N N) b st (g1L N) n p hp
    rwa [hT] at this
  have HTL := Lib.hid hTSl
  have HG0 := Lib.hid hg0
  have HGN := Lib.hid hgN
  obtain ⟨q, hq⟩ : ∃ q, m = q + 1 := ⟨m - 1, by omega⟩
  have HQ := Lib.hid hq
  have eq1 : IntKind.i64.wrap ((m : Int) - 1) = (q : Int) := by rw [hq, show ((q + 1 : Nat) : Int) - 1 = (q : Int) by omega]; exact IntWalk.i64_in _ ⟨by omega, by omega⟩
  have bq : (q : Int) < (m : Int) := by omega
  have HPO := Lib.hid (fun (e : Ending) (w' : World) (h : CofOut w N b gs (RSl.getD (m - 1) []) e w') => h)
  generalize hOS : RSl.getD (m - 1) [] = os at HPO ⊢
  have HOS := Lib.hid hOS
  clear hbs hN hT hR hNR hlv hg0 hTSl hgN hq hOS
  obtain ⟨AN, hAN⟩ : ∃ AN, AN = some (⟨gN, oN, none⟩ : Addr) := ⟨_, rfl⟩
  rw [← hAN]
  have HAN := Lib.hid hAN
  clear hAN
  have K0 := (Blk.new w 25 #[.int .i64 (st : Int), .slice AH n cH, .slice AN m cN]).alloc (.cells #[.int .i64 0, .slice none 0 0, .slice none 0 0] 34)
  have K1 := Blk.new (w.alloc (.cells #[.int .i64 (st : Int), .slice AH n cH, .slice AN m cN] 25)) 34 #[.int .i64 0, .slice none 0 0, .slice none 0 0]
  have B2 : Below w.heap.size w ((w.alloc (.cells #[.int .i64 (st : Int), .slice AH n cH, .slice AN m cN] 25)).alloc (.cells #[.int .i64 0, .slice none 0 0, .slice none 0 0] 34)) := ((Below.refl _ w).alloc (Nat.le_refl _) _).alloc (by simp) _
  have z2 : ((w.alloc (.cells #[.int .i64 (st : Int), .slice AH n cH, .slice AN m cN] 25)).alloc (.cells #[.int .i64 0, .slice none 0 0, .slice none 0 0] 34)).heap.size = w.heap.size + 2 := by simp
  rw [World.size_alloc] at K1
  go_enter Try.func32, Try.ntmps32
  go_upto_region 1 with (fail)
  generalize (w.alloc (.cells #[.int .i64 (st : Int), .slice AH n cH, .slice AN m cN] 25)).alloc (.cells #[.int .i64 0, .slice none 0 0, .slice none 0 0] 34) = w2 at K0 K1 B2 z2 ⊢
  have k0 : w2.cell? ⟨w.heap.size, 0, none⟩ = some (.int .i64 (st : Int)) := (K0.cell 0).trans rfl
  have k1 : w2.cell? ⟨w.heap.size, 1, none⟩ = some (.slice AH n cH) := (K0.cell 1).trans rfl
  have k2 : w2.cell? ⟨w.heap.size, 2, none⟩ = some (.slice AN m cN) := (K0.cell 2).trans rfl
  have KT := Lib.hid K0
  have KC := Lib.hid K1
  have BB := Lib.hid B2
  have Z2 := Lib.hid z2
  have zl := K0.lt
  clear K0 K1 B2 z2
  exact (by
    go_cut [3] from 8 to 12 (fun s3 wx => s3 = .pointer (some ⟨w2.heap.size, 0, none⟩) ∧ Blk wx w2.heap.size 97 #[.int .i64 0, .slice none 0 0, .slice none 0 0, .int .i64 (st : Int), .slice AH n cH, .slice AN m cN, .int .i64 (b : Int), .slice none 0 0, .slice none 0 0, .slice none 0 0] ∧ Below w2.heap.size w2 wx)
    case first =>
      go_region_law (go_simp; go_at_call 33; (with_reducible refine (BI.out _).mono ?_); rintro e w1 ⟨rfl, rfl⟩)
      all_goals
        go_wp2_with fail
        go_meet
        first
          | exact ⟨rfl, Blk.new _ _ _, (Below.refl _ _).alloc (Nat.le_refl _) _⟩
          | exact ⟨rfl, Blk.drew (Blk.new _ _ _), ((Below.refl _ _).alloc (Nat.le_refl _) _).drew⟩
          | exact ⟨rfl, Blk.new _ _ _, ((Below.refl _ _).drew).alloc (Nat.le_refl _) _⟩
    case rest =>
      obtain ⟨rfl, hX, hBx⟩ := hcut
      obtain ⟨lb, hlb⟩ : ∃ lb, w2.heap.size = lb := ⟨_, rfl⟩
      have KW := Lib.hid (KT.out.below hBx KT.out.lt)
      have HBX := Lib.hid hBx
      rw [hlb] at hX zl ⊢
      have HLB := Lib.hid hlb
      have c0 : wc.cell? ⟨lb, 2, none⟩ = some (.slice none 0 0) := (hX.cell 2).trans rfl
      have c6 : wc.cell? ⟨lb, 6, none⟩ = some (.int .i64 (b : Int)) := (hX.cell 6).trans rfl
      have c0' : wc.cell? ⟨lb, 0, none⟩ = some (.int .i64 0) := (hX.cell 0).trans rfl
      have f0 := hX.frozen 0
      have t0 : wc.cell? ⟨w.heap.size, 0, none⟩ = some (.int .i64 (st : Int)) := (KW.out.cell 0).trans rfl
      have t1 : wc.cell? ⟨w.heap.size, 1, none⟩ = some (.slice AH n cH) := (KW.out.cell 1).trans rfl
      have t2 : wc.cell? ⟨w.heap.size, 2, none⟩ = some (.slice AN m cN) := (KW.out.cell 2).trans rfl
      have HX := Lib.hid hX
      clear hX hBx hlb k0 k1 k2
      exact (by
        go_wp2_with fail
        have LT := HX.out.lt
        have HW1 := Lib.hid (show GSt lb (lb + 1) (N : Int) ⟨.slice none 0 0, .int .i64 (st : Int), .slice AH n cH, .slice AN m cN, .int .i64 (b : Int), .slice none 0 0, .slice none 0 0, .slice none 0 0⟩ (wc.setCell ⟨lb, 0, none⟩ (.int .i64 (N : Int))) none [] from
          ⟨0, by have := HX.out.set_ 0 (.int .i64 (N : Int)); simpa [lwc] using this, World.ownsRow_nil _ _ _ _⟩)
        have HB1 := Lib.hid (show Below lb w2 (wc.setCell ⟨lb, 0, none⟩ (.int .i64 (N : Int))) from by
          have := HBX.out
          rw [HLB.out] at this
          exact this.trans ((Below.refl _ _).setCell (p := ⟨lb, 0, none⟩) (Nat.le_refl _) _))
        have LW1 : lb < (wc.setCell ⟨lb, 0, none⟩ (.int .i64 (N : Int))).heap.size := by simp [World.setCell]; exact LT
        clear HX HBX c0 c6 c0' f0 t0 t1 t2 LT KW
        generalize wc.setCell ⟨lb, 0, none⟩ (.int .i64 (N : Int)) = w3 at HW1 HB1 LW1 ⊢
        exact (by
          go_loopw [26] (fun iv wr => ∃ (j : Nat) (AO : Option Addr) (cO : Nat) (A1 : Option Addr), j ≤ N ∧ iv = .int .i64 (j : Int) ∧ Hid (GSt lb (lb + 1) (N : Int) ⟨.slice none 0 0, .int .i64 (st : Int), .slice AH n cH, .slice AN m cN, .int .i64 (b : Int), .slice AO j cO, .slice none 0 0, .slice none 0 0⟩ wr A1 (g1L j)) ∧ Hid (wr.ownsRow (lb + 1) 3 1 (.slice AO j cO) j (il (n1L N j))) ∧ Hid (Below lb w2 wr) ∧ lb + 1 ≤ wr.heap.size) (fun iv _ => N - (intOf iv).toNat)
          case atStart => exact ⟨0, none, 0, none, Nat.zero_le _, rfl, HW1, Lib.hid (World.ownsRow_nil _ _ _ _), HB1, LW1⟩
          case round =>
            obtain ⟨j, AO, cO, A1, hj, rfl, HS, HO, HB, hsz⟩ := hrel
            by_cases hlt : j < N
            · have hjI : (j : Int) < (N : Int) := by omega
              obtain ⟨c5, hk5, _⟩ := id HS.out
              obtain ⟨_, _, _, _, _, l7, _, _⟩ := lwc_at hk5
              simp only at l7
              have f7 := hk5.frozen 7
              have GA := Lib.hid (fun W (hbl : Below wr.heap.size wr W) => (gate_any lb (lb + 1) (N : Int) ⟨.slice none 0 0, .int .i64 (st : Int), .slice AH n cH, .slice AN m cN, .int .i64 (b : Int), .slice AO j cO, .slice none 0 0, .slice none 0 0⟩ 2 (j : Int) 0 W A1 (g1L j) (HS.out.keep (G := fun _ => False) (G' := fun _ => False) (Fr.of_below hbl) (fun h => h) (fun _ _ h => h)) (Nat.lt_succ_self _) (by have := hbl.size; omega) (by rw [g1L_len]; omega) (by omega) (by omega)).mono fun e w' ⟨A', he, hs, hf⟩ => (show ∃ A', e = Ending.returned (.int .i64 ((N : Int) + (j : Int))) ∧ GSt lb (lb + 1) (N : Int) ⟨.slice none 0 0, .int .i64 (st : Int), .slice AH n cH, .slice AN m cN, .int .i64 (b : Int), .slice AO j cO, .slice none 0 0, .slice none 0 0⟩ w' A' (g1L (j + 1)) ∧ Fr (gb lb A1) wr (gb lb A') w' from ⟨A', by rw [he, g1L_len], by rw [g1L_add]; exact hs, (Fr.of_below hbl).trans hf⟩))
              have HAW := Lib.hid (show ∀ g, ob AO g → ¬ gb lb A1 g from fun g hb hg => by
                rcases hg with hg | hg
                · have := (ob_ge HO.out g hb).1
                  omega
                · obtain ⟨c, _, ho⟩ := HS.out
                  exact own_ne2 ho HO.out (by decide) (ob_own.1 hg) (ob_own.1 hb))
              have hl1 : j + 1 ≤ maxLen ∧ (j + 1) * 8 ≤ 140737488355328 := by unfold maxLen; omega
              have HL1 := Lib.hid hl1
              clear hl1 hk5
              exact (by
                obtain ⟨ii, hii, hz0, hz1, hz2⟩ := info_parts Try.info_intL
                go_wp2_with fail
                go_region_law (first
                  | (go_simp; go_at_call 58; (with_reducible refine (GA.out _ (by first | exact Below.refl _ _ | exact (Below.refl _ _).drew)).mono ?_); rintro e wa ⟨A2, rfl, hs, hf⟩; have S2 := Lib.hid hs; have F2 := Lib.hid hf; have OA := Lib.hid (hf.row HO.out (fun g hg => HAW.out g (ob_own.2 hg))); have d7 := (lwc_at hs.choose_spec.1).2.2.2.2.2.1; have d7f := hs.choose_spec.1.frozen 7; have e7 := (lwc_at (hs.choose_spec.1.alloc (.cells #[.int .i64 ((N : Int) + (j : Int))] 3))).2.2.2.2.2.1; simp only at d7 e7; clear hs hf)
                  | (refine step_append_lies _ (by rfl) _ _ _ (by rfl) (lb + 1) 3 ii (.int .i64 0) 1 8 Try.underlying26 hii hz0 hz1 hz2 rfl (by decide) (.slice AO j cO) j (il (n1L N j)) (by rfl) (OA.out.alloc _) ⟨wa.heap.size, 0, none⟩ 1 1 [.int .i64 ((N : Int) + (j : Int))] (by rfl) (by rfl) (World.news_of_block (cs := #[.int .i64 ((N : Int) + (j : Int))]) (t := 3) (fr := (0, 0)) (heap_alloc_new wa _)) (by simp [Value.oneCell']) (by omega) HL1.out.1 HL1.out.2 (by have := F2.out.size; simp; omega) (wa.heap.size + 1) (by simp) ?_; intro g' c' w5 hown hgrow hat hltg; have F8 := Lib.hid (fr_app1 hgrow hat); have S3 := Lib.hid (S2.out.keep F8.out (fun e => HAW.out _ e (.inl rfl)) (fun b hA e => by
                obtain ⟨c, _, ho⟩ := S2.out
                exact own_ne2 ho OA.out (by decide) (ob_own.1 hA) (ob_own.1 e))); have q7 := (lwc_at S3.out.choose_spec.1).2.2.2.2.2.1; have q7f := S3.out.choose_spec.1.frozen 7; simp only at q7))
                all_goals
                  have S4 := Lib.hid (S3.out.setf (Nat.lt_succ_self _) (.slice (some ⟨g', 0, none⟩) (j + 1) c'))
                  have O4 := Lib.hid (S3.out.rowSet (Nat.lt_succ_self _) hown 7 (.slice (some ⟨g', 0, none⟩) (j + 1) c'))
                  have B4 := Lib.hid (HB.out.trans (((F2.out.below (B := lb) (fun k hk => by
                    rcases hk with hk | hk
                    · omega
                    · obtain ⟨c, _, ho⟩ := HS.out
                      exact Nat.le_of_succ_le (ob_ge ho k hk).1) (by omega)).trans (F8.out.below (B := lb) (fun k hk => Nat.le_of_succ_le (ob_ge OA.out k hk).1) (by have := F2.out.size; omega))).setCell (p := ⟨lb, 7, none⟩) (Nat.le_refl _) (.slice (some ⟨g', 0, none⟩) (j + 1) c')))
                  have L4 : lb + 1 ≤ (w5.setCell ⟨lb, 7, none⟩ (.slice (some ⟨g', 0, none⟩) (j + 1) c')).heap.size := by
                    have := F2.out.size
                    have := F8.out.size
                    simp [World.setCell]
                    omega
                  clear hown hgrow hat hltg d7 d7f e7 q7 q7f S3 F8 S2 F2 OA
                  exact (by
                    go_wp2_with fail
                    go_roundw
                    case rel => exact ⟨j + 1, some ⟨g', 0, none⟩, c', A2, by omega, by go_num, S4, Lib.hid (by rw [n1L_add]; exact O4.out), B4, L4⟩
                    case measure => simp [intOf]; omega))
            · obtain rfl : N = j := by omega
              have t0 : wr.cell? ⟨w.heap.size, 0, none⟩ = some (.int .i64 (st : Int)) := ((KT.out.below (show Below w2.heap.size w2 wr from by rw [HLB.out]; exact HB.out) KT.out.lt).cell 0).trans rfl
              have t1 : wr.cell? ⟨w.heap.size, 1, none⟩ = some (.slice AH n cH) := ((KT.out.below (show Below w2.heap.size w2 wr from by rw [HLB.out]; exact HB.out) KT.out.lt).cell 1).trans rfl
              have HRB := Lib.hid (show tsB lb w2 N n b st cH cN AH AN AO cO wr.heap.size 0 none 0 A1 [] m (g1L N) wr from ⟨rfl, HS.out, HO.out, World.ownsRow_nil _ _ _ _, fun p hp => absurd hp (by omega), HB.out, Nat.le_refl _⟩)
              obtain ⟨W0, hW0⟩ : ∃ W0, wr.heap.size = W0 := ⟨_, rfl⟩
              rw [hW0] at HRB hsz
              clear HW1 HB1 LW1 hW0 HS HO HB
              exact (by
                go_wp2_with fail
                go_loopw [41] (fun iv wx => ∃ (i : Nat) (AG : Option Addr) (cG : Nat) (A2 : Option Addr) (bl : List Nat) (g2 : List C3), i ≤ n ∧ iv = .int .i64 (i : Int) ∧ Hid (tsB lb w2 N n b st cH cN AH AN AO cO W0 i AG cG A2 bl m g2 wx)) (fun iv _ => n - (intOf iv).toNat)
                case atStart => exact ⟨0, none, 0, A1, [], _, Nat.zero_le _, rfl, HRB⟩
                case round =>
                  obtain ⟨i, AG, cG, A2, bl, g2, hi, rfl, HTB⟩ := hrel
                  by_cases hlt : i < n
                  · have hiI : (i : Int) < (n : Int) := by omega
                    have hbw : Below w2.heap.size w2 wr := by rw [HLB.out]; exact HTB.out.low
                    have t0 : (wr.alloc (.cells #[.int .i64 (i : Int)] 3)).cell? ⟨w.heap.size, 0, none⟩ = some (.int .i64 (st : Int)) := (((KT.out.below hbw KT.out.lt).alloc _).cell 0).trans rfl
                    have PO := Lib.hid (pos_any HTB.out hlt HNN.out hN1 hn hb1 hb3 hs2 (Nat.le_trans hsz HTB.out.size))
                    have l8 : (wr.alloc (.cells #[.int .i64 (i : Int)] 3)).cell? ⟨lb, 8, none⟩ = some (.slice AG i cG) := (lwc_at (HTB.out.st_.choose_spec.1.alloc _)).2.2.2.2.2.2.1
                    have hTA := Lib.hid (show ∀ k, ob AG k → ¬ gb lb A2 k from fun k hb hg => by
                      rcases hg with hg | hg
                      · have := (ob_ge HTB.out.tests k hb).1
                        omega
                      · obtain ⟨c, _, ho⟩ := HTB.out.st_
                        exact own_ne2 ho HTB.out.tests (by decide) (ob_own.1 hg) (ob_own.1 hb))
                    have hl1 : i + 1 ≤ maxLen ∧ (i + 1) * 24 ≤ 140737488355328 := by unfold maxLen; omega
                    have HL1 := Lib.hid hl1
                    have wrs := HTB.out.size
                    clear hl1 hbw
                    exact (by
                      obtain ⟨ii, hii, hz0, hz1, hz2⟩ := info_parts info_ints3
                      go_wp2_with fail
                      go_region_law (first
                        | (go_simp; go_at_call 59; (with_reducible refine (PO.out _ (by first | exact Below.refl _ _ | exact (Below.refl _ _).drew)).mono ?_); rintro e wa ⟨g, A3, rfl, hk, hg, hs, hf⟩; have KA := Lib.hid hk; have GA := Lib.hid hg; have S2 := Lib.hid hs; have F2 := Lib.hid hf; have OA := Lib.hid (hf.row HTB.out.tests (fun g hg => hTA.out g (ob_own.2 hg))); have d8 := (lwc_at hs.choose_spec.1).2.2.2.2.2.2.1; have d8f := hs.choose_spec.1.frozen 8; have e8 := (lwc_at (hs.choose_spec.1.alloc (.cells #[.slice (some ⟨g, 0, none⟩) st st] 26))).2.2.2.2.2.2.1; simp only at d8 e8; clear hs hf hk hg)
                        | (refine step_append_lies _ (by rfl) _ _ _ (by rfl) (lb + 1) 26 ii (.slice none 0 0) 1 24 Try.underlying95 hii hz0 hz1 hz2 rfl (by decide) (.slice AG i cG) i (rv st bl) (by rfl) (OA.out.alloc _) ⟨wa.heap.size, 0, none⟩ 1 1 [.slice (some ⟨g, 0, none⟩) st st] (by rfl) (by rfl) (World.news_of_block (cs := #[.slice (some ⟨g, 0, none⟩) st st]) (t := 26) (fr := (0, 0)) (heap_alloc_new wa _)) (by simp [Value.oneCell']) (by omega) HL1.out.1 HL1.out.2 (by have := F2.out.size; simp; omega) (wa.heap.size + 1) (by simp) ?_; intro g' c' w5 hown hgrow hat hltg; have F8 := Lib.hid (fr_app1 hgrow hat); have S3 := Lib.hid (S2.out.keep F8.out (fun e => hTA.out _ e (.inl rfl)) (fun b hA e => by
                      obtain ⟨c, _, ho⟩ := S2.out
                      exact own_ne2 ho OA.out (by decide) (ob_own.1 hA) (ob_own.1 e))); have q8 := (lwc_at S3.out.choose_spec.1).2.2.2.2.2.2.1; have q8f := S3.out.choose_spec.1.frozen 8; simp only at q8))
                      all_goals
                        have TB := Lib.hid (pos_step HTB.out hsz KA.out GA.out S2.out F2.out hown F8.out)
                        clear hown hgrow hat hltg d8 d8f e8 q8 q8f S3 F8 S2 F2 OA KA GA
                        exact (by
                          go_wp2_with fail
                          go_roundw
                          case rel => exact ⟨i + 1, some ⟨g', 0, none⟩, c', A3, bl ++ [g], _, by omega, by go_num, TB⟩
                          case measure => simp [intOf]; omega))
                  · obtain rfl : n = i := by omega
                    have u2 : wr.cell? ⟨w.heap.size, 2, none⟩ = some (.slice (some ⟨gN, oN, none⟩) m cN) := by rw [← HAN.out]; exact ((KT.out.below (show Below w2.heap.size w2 wr from by rw [HLB.out]; exact HTB.out.low) KT.out.lt).cell 2).trans rfl
                    have hg2 : g0 = g2 := by have := HTB.out.gates; rw [HT.out] at this; exact this
                    subst hg2
                    have HRB3 := Lib.hid (show rsB lb w2 N n b st cH cN AH AN AO cO wr.heap.size AG cG bl m TSl lv nx g0 0 none 0 [] A2 g0 wr from
                      ⟨rfl, HTB.out.st_, ⟨HTB.out.tests, fun p hp => ⟨by have := (HTB.out.rows p hp).1; rwa [HT.out] at this, by have := (HTB.out.rows p hp).2; omega⟩, World.ownsRow_nil _ _ _ _, fun p hp => absurd hp (Nat.not_lt_zero _)⟩, fun k hk => (ob_ge HTB.out.tests k hk).2, HTB.out.low, Nat.le_refl _⟩)
                    have hW1s : lb + 1 ≤ wr.heap.size := Nat.le_trans hsz HTB.out.size
                    obtain ⟨W1, hW1⟩ : ∃ W1, wr.heap.size = W1 := ⟨_, rfl⟩
                    rw [hW1] at HRB3 hW1s
                    clear hW1 HTB HRB
                    exact (by
                      go_wp2_with fail
                      go_loopw [57] (fun iv wx => ∃ (i : Nat) (AR : Option Addr) (cR : Nat) (br : List Nat) (A3 : Option Addr) (g3 : List C3), i ≤ m ∧ iv = .int .i64 (i : Int) ∧ Hid (rsB lb w2 N n b st cH cN AH AN AO cO W1 AG cG bl m TSl lv nx g0 i AR cR br A3 g3 wx)) (fun iv _ => m - (intOf iv).toNat)
                      case atStart => exact ⟨0, none, 0, [], A2, _, Nat.zero_le _, rfl, HRB3⟩
                      case round =>
                        obtain ⟨i, AR, cR, br, A3, g3, hi, rfl, HRB⟩ := hrel
                        by_cases hlt : i < m
                        · have hiI : (i : Int) < (m : Int) := by omega
                          have hbw : Below w.heap.size w wr := BB.out.trans (HRB.out.low.mono (Nat.le_of_lt zl))
                          obtain ⟨AX, cX, x1, x2, x3⟩ := HNR.out i hlt
                          obtain ⟨v1, v2, v3, v4, v5⟩ := HLV.out i hlt
                          have y1 : wr.cell? ⟨gN, oN + i * 2, none⟩ = some (.int .i64 (lv i : Int)) := (hbw.cell HGN.out).trans x1
                          have y2 : wr.cell? ⟨gN, oN + i * 2 + 1, none⟩ = some (.slice AX st cX) := (hbw.cell HGN.out).trans x2
                          have PO := Lib.hid (node_any HRB.out hlt hm hN1 hn hb3 hs2 hs1 hW1s HG0.out (Nat.le_of_eq HLB.out.symm) HTL.out (fun j hj => (HLV.out j hj).1) ⟨v2, v3⟩ v4 v5 AX cX ((x3.below BB.out).more (Nat.le_of_lt zl)))
                          have l9 : (wr.alloc (.cells #[.int .i64 (lv i : Int), .slice AX st cX] 54)).cell? ⟨lb, 9, none⟩ = some (.slice AR i cR) := (lwc_at (HRB.out.st_.choose_spec.1.alloc _)).2.2.2.2.2.2.2
                          have l6 : (wr.alloc (.cells #[.int .i64 (lv i : Int), .slice AX st cX] 54)).cell? ⟨lb, 6, none⟩ = some (.int .i64 (b : Int)) := (lwc_at (HRB.out.st_.choose_spec.1.alloc _)).2.2.2.2.1
                          have HRA := Lib.hid (gb_row HRB.out.st_ HRB.out.rows.res (by omega) (by decide))
                          have hl1 : i + 1 ≤ maxLen ∧ (i + 1) * 24 ≤ 140737488355328 := by unfold maxLen; omega
                          have HL1 := Lib.hid hl1
                          have wrs := HRB.out.size
                          clear hl1 hbw x1 x2 x3 v1 v2 v3 v4 v5
                          exact (by
                            obtain ⟨ii, hii, hz0, hz1, hz2⟩ := info_parts info_ints3
                            go_wp2_with fail
                            go_region_law (first
                              | (go_simp; go_at_call 59; (with_reducible refine (PO.out _ (by first | exact Below.refl _ _ | exact (Below.refl _ _).drew)).mono ?_); rintro e wa ⟨g, A4, rfl, hk, hg, hs, hf⟩; have KA := Lib.hid hk; have GA := Lib.hid hg; have S2 := Lib.hid hs; have F2 := Lib.hid hf; have OA := Lib.hid (hf.row HRB.out.rows.res (fun g hg => HRA.out g (ob_own.2 hg))); have d9 := (lwc_at hs.choose_spec.1).2.2.2.2.2.2.2; have d9f := hs.choose_spec.1.frozen 9; have e9 := (lwc_at (hs.choose_spec.1.alloc (.cells #[.slice (some ⟨g, 0, none⟩) b b] 26))).2.2.2.2.2.2.2; simp only at d9 e9; clear hs hf hk hg)
                              | (refine step_append_lies _ (by rfl) _ _ _ (by rfl) W1 26 ii (.slice none 0 0) 1 24 Try.underlying95 hii hz0 hz1 hz2 rfl (by decide) (.slice AR i cR) i (rv b br) (by rfl) (OA.out.alloc _) ⟨wa.heap.size, 0, none⟩ 1 1 [.slice (some ⟨g, 0, none⟩) b b] (by rfl) (by rfl) (World.news_of_block (cs := #[.slice (some ⟨g, 0, none⟩) b b]) (t := 26) (fr := (0, 0)) (heap_alloc_new wa _)) (by simp [Value.oneCell']) (by omega) HL1.out.1 HL1.out.2 (by have := F2.out.size; simp; omega) (wa.heap.size + 1) (by simp) ?_; intro g' c' w5 hown hgrow hat hltg; have F8 := Lib.hid (fr_app1 hgrow hat); have S3 := Lib.hid (S2.out.keep F8.out (fun e => HRA.out _ e (.inl rfl)) (fun b hA e => by
                            obtain ⟨c, _, ho⟩ := S2.out
                            exact own_ne2 ho OA.out (by decide) (ob_own.1 hA) (ob_own.1 e))); have q9 := (lwc_at S3.out.choose_spec.1).2.2.2.2.2.2.2; have q9f := S3.out.choose_spec.1.frozen 9; simp only at q9))
                            all_goals
                              have TB := Lib.hid (node_step HRB.out hW1s KA.out GA.out S2.out F2.out hown F8.out)
                              clear hown hgrow hat hltg d9 d9f e9 q9 q9f S3 F8 S2 F2 OA KA GA
                              exact (by
                                go_wp2_with fail
                                go_roundw
                                case rel => exact ⟨i + 1, some ⟨g', 0, none⟩, c', br ++ [g], A4, _, by omega, by go_num, TB⟩
                                case measure => simp [intOf]; omega))
                        · obtain rfl : m = i := by omega
                          have hg3 : gs = g3 := by have := HRB.out.gates; rw [HR.out] at this; exact this
                          subst hg3
                          obtain ⟨adR, hAR, cq⟩ := rv_at HRB.out.rows.res (show q < m by have := HQ.out; omega)
                          subst hAR
                          have rb := (HRB.out.rows.rrows q (by have := HQ.out; omega)).1
                          have rge := (HRB.out.rows.rrows q (by have := HQ.out; omega)).2
                          rw [HR.out] at rb
                          simp only at rb
                          rw [show q = m - 1 by have := HQ.out; omega, HOS.out, ← show q = m - 1 by have := HQ.out; omega] at rb
                          obtain ⟨gO, hgO⟩ : ∃ gO, br.getD q 0 = gO := ⟨_, rfl⟩
                          rw [hgO] at cq rb rge
                          have RB := Lib.hid rb
                          have l9 := (lwc_at HRB.out.st_.choose_spec.1).2.2.2.2.2.2.2
                          have l2 := (lwc_at HRB.out.st_.choose_spec.1).1
                          simp only at l9 l2
                          have f2 := HRB.out.st_.choose_spec.1.frozen 2
                          have KR := Lib.hid (KC.out.below (show Below lb w2 wr from HRB.out.low) (by have := Z2.out; have := HLB.out; omega))
                          have SA := Lib.hid (HRB.out.st_.seta (Nat.lt_succ_self _) (.slice (some ⟨gO, 0, none⟩) b b))
                          have KR3 := Lib.hid (KR.out.far (show w.heap.size + 1 ≠ (⟨lb, 2, none⟩ : Addr).block by show w.heap.size + 1 ≠ lb; have := Z2.out; have := HLB.out; omega) (.slice (some ⟨gO, 0, none⟩) b b))
                          have RB3 := Lib.hid (RB.out.far (show gO ≠ (⟨lb, 2, none⟩ : Addr).block by show gO ≠ lb; omega) (.slice (some ⟨gO, 0, none⟩) b b))
                          have B3 := Lib.hid (BB.out.trans ((HRB.out.low.mono (Nat.le_of_lt zl)).setCell (p := ⟨lb, 2, none⟩) (Nat.le_of_lt zl) (.slice (some ⟨gO, 0, none⟩) b b)))
                          have hgo2 := Lib.hid (show gO ≠ w.heap.size + 1 from by have := Z2.out; have := HLB.out; omega)
                          have hlb2 := Lib.hid (show lb ≠ w.heap.size + 1 ∧ w.heap.size + 1 < lb + 1 from by have := Z2.out; have := HLB.out; omega)
                          have HG5 := Lib.hid (show w.heap.size ≤ gO by omega)
                          clear rb rge hgO KR RB HRB HTL HLV HNR
                          exact (by
                            go_upto_region 19 with (fail)
                            generalize wr.setCell ⟨lb, 2, none⟩ (.slice (some ⟨gO, 0, none⟩) b b) = w9 at SA KR3 RB3 B3 ⊢
                            obtain ⟨cg3, hk3, ho3⟩ := id SA.out
                            have z0 : w9.cell? ⟨lb, 0, none⟩ = some (.int .i64 (N : Int)) := (hk3.cell 0).trans rfl
                            have z1 : w9.cell? ⟨lb, 1, none⟩ = some (.slice A3 gs.length cg3) := (hk3.cell 1).trans rfl
                            have z2 : w9.cell? ⟨lb, 2, none⟩ = some (.slice (some ⟨gO, 0, none⟩) b b) := (hk3.cell 2).trans rfl
                            have HO3 := Lib.hid ho3
                            obtain ⟨r0, r1, r2, r3, r4, r5, r6⟩ := KR3.out.three6
                            obtain ⟨M, hM⟩ : ∃ M, gs.length = M := ⟨_, rfl⟩
                            rw [hM] at z1
                            have HM := Lib.hid hM
                            clear hk3 ho3 l9 l2 f2 hM
                            exact (by
                              go_wp2_with fail
                              have K9 := KR3.out.tri (.int .i64 (N : Int)) (.slice A3 M cg3) (.slice (some ⟨gO, 0, none⟩) b b)
                              obtain ⟨e0, e1', e2, _, _, _, _⟩ := K9.three6
                              have O9 : (((w9.setCell ⟨w.heap.size + 1, 0, none⟩ (.int .i64 (N : Int))).setCell ⟨w.heap.size + 1, 1, none⟩ (.slice A3 M cg3)).setCell ⟨w.heap.size + 1, 2, none⟩ (.slice (some ⟨gO, 0, none⟩) b b)).ownsRow (lb + 1) 57 3 (.slice A3 gs.length cg3) gs.length (cg gs) :=
                                own_set (own_set (own_set HO3.out (fun e => by have := (HO3.out.lt _ e).1; have := hlb2.out.2; simp at *; omega) _) (fun e => by have := (HO3.out.lt _ e).1; have := hlb2.out.2; simp at *; omega) _) (fun e => by have := (HO3.out.lt _ e).1; have := hlb2.out.2; simp at *; omega) _
                              have R9 := ((RB3.out.far (p := ⟨w.heap.size + 1, 0, none⟩) hgo2.out (.int .i64 (N : Int))).far (p := ⟨w.heap.size + 1, 1, none⟩) hgo2.out (.slice A3 M cg3)).far (p := ⟨w.heap.size + 1, 2, none⟩) hgo2.out (.slice (some ⟨gO, 0, none⟩) b b)
                              exact bodyPost_ret (v := .agg #[.int .i64 (N : Int), .slice A3 M cg3, .slice (some ⟨gO, 0, none⟩) b b]) (by simp [results, Try.results32, go_sem, e0, e1', e2]) rfl ⟨A3, cg3, gO, by rw [HM.out], creads_cg O9, R9, ((B3.out.setCell (p := ⟨w.heap.size + 1, 0, none⟩) (Nat.le_succ _) _).setCell (p := ⟨w.heap.size + 1, 1, none⟩) (Nat.le_succ _) _).setCell (p := ⟨w.heap.size + 1, 2, none⟩) (Nat.le_succ _) _, fun ad e => by have q := (ob_ge O9 ad.block (by rw [e]; rfl)).1; exact Nat.le_trans (Nat.le_of_lt zl) (Nat.le_of_succ_le q), HG5.out⟩)))))))
end Go.Proofs.Ytnhkgkpjkgifoaa
