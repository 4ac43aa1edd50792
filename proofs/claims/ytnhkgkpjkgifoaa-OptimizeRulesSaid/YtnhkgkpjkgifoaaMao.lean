/- The walk of result at the positions ahead of the last one. -/
/- The walk of circuitOf's second closure: it calls result. -/
/- The lowering's other cells: what a store into one of them leaves. -/
import Derived.Test.YtnhkgkpjkgifoaaMan
namespace Go.Proofs.Ytnhkgkpjkgifoaa
open Go.RowKit

/-- the terms of a node of a level above 1, and the gates behind them -/
def thi (I : Int) (TP : List Int) (RW : Nat → Int) : Nat → List C3 → List Int × List C3
  | 0, gs => ([], gs)
  | j + 1, gs => ((thi I TP RW j gs).1 ++ [I + ((thi I TP RW j gs).2.length : Int)], (thi I TP RW j gs).2 ++ [(3, ig TP j, RW j)])
theorem thi_len (I : Int) (TP : List Int) (RW : Nat → Int) (gs : List C3) : ∀ j, (thi I TP RW j gs).1.length = j ∧ (thi I TP RW j gs).2.length = gs.length + j
  | 0 => ⟨rfl, rfl⟩
  | j + 1 => by
    obtain ⟨h1, h2⟩ := thi_len I TP RW gs j
    refine ⟨?_, ?_⟩
    · rw [thi, List.length_append, h1]; rfl
    · rw [thi, List.length_append, h2]; rfl
/-- the wire of a node's bit -/
def rw0 (RS : List (List Int)) (nx : List Nat) (k : Nat) (j : Nat) : Int := ig (RS.getD (nx.getD j 0) []) k
theorem ig_cell {l : List Int} {k : Nat} (h : k < l.length) : (il l).toArray[k]? = some (.int .i64 (ig l k)) := by
  simp [il, ig, List.getElem?_eq_getElem h, List.getD_eq_getElem?_getD]
/-- behind a value laid and an append onto a row -/
theorem fr_app1 {wa w7 : World} {V : Option Addr} {j v gg : Nat} {o : Obj} (hg : (wa.alloc o).grownBy w7 (Value.slice V j v).ownBlock) (hat : (Value.slice V j v).ownBlock = some gg ∨ gg = wa.heap.size + 1) : Fr (ob V) wa (ob (some ⟨gg, 0, none⟩)) w7 := by
  have h2 := hg.size
  rw [World.size_alloc] at h2
  refine ⟨hg.os, hg.tape, hg.output, by omega, fun k hk hn => ?_, fun k hk => ?_⟩
  · rw [hg.block k (by rw [World.size_alloc]; omega) (fun e => hn (ob_own.2 e.symm)), Below.heap_alloc _ _ k (by omega)]
  · have e : gg = k := by simpa [ob, Value.ownBlock] using hk
    subst e
    rcases hat with h | h
    · exact .inl (ob_own.2 h)
    · right; omega
/-- two frames side by side -/
theorem Fr.side {G G' V V' : Nat → Prop} {w w' : World} (h : Fr V w V' w') (hG : ∀ k, G' k → G k ∨ V k ∨ w.heap.size ≤ k) : Fr (fun k => G k ∨ V k) w (fun k => G' k ∨ V' k) w' :=
  ⟨h.os, h.tape, h.output, h.size, fun k hk hn => h.block k hk (fun e => hn (.inr e)), fun k hk => by
    rcases hk with hk | hk
    · rcases hG k hk with q | q | q
      · exact .inl (.inl q)
      · exact .inl (.inr q)
      · exact .inr q
    · exact (h.new k hk).imp .inr id⟩
set_option maxRecDepth 100000 in
set_option maxHeartbeats 8000000 in
theorem res_hi (lb base : Nat) (I : Int) (O : Oc) (AH : Option Addr) (nh cH : Nat) (adT : Addr) (nT cT p gt lev : Nat) (TP : List Int) (k : Nat) (adN : Addr) (cN : Nat) (nx : List Nat) (adR : Addr) (nR cR : Nat) (gR : Nat → Nat) (RS : List (List Int)) (w : World) (A : Option Addr) (gs : List C3)
    (h : GSt lb base I O w A gs) (hlb : lb < base) (hb : base ≤ w.heap.size) (hn : gs.length ≤ 900000) (hI : 0 ≤ I) (hI2 : I ≤ 1000000)
    (hOc : O.c = .slice AH nh cH) (hOg : O.g = .slice (some adT) nT cT) (hOh : O.h = .slice (some adR) nR cR) (hlev : 2 ≤ lev) (hp : nh = p + lev) (hpT : p < nT) (hnh : nh ≤ 1000)
    (hT : ∀ w' G', Fr (gb lb A) w G' w' → w'.cell? (adT.add p) = some (.slice (some ⟨gt, 0, none⟩) TP.length TP.length) ∧ Blk w' gt 3 (il TP).toArray)
    (hR : ∀ w' G', Fr (gb lb A) w G' w' → ∀ x < nR, w'.cell? (adR.add x) = some (.slice (some ⟨gR x, 0, none⟩) (RS.getD x []).length (RS.getD x []).length) ∧ Blk w' (gR x) 3 (il (RS.getD x [])).toArray)
    (hN : ∀ w' G', Fr (gb lb A) w G' w' → Reads w' w'.heap.size (some adN) nx.length (il (nl nx)))
    (hlt : nx.length ≤ TP.length) (hn8 : nx.length ≤ 8) (hx : ∀ j < nx.length, nx.getD j 0 < nR ∧ k < (RS.getD (nx.getD j 0) []).length) :
    Calls Try.prog 63 #[.pointer (some ⟨lb, 0, none⟩), .agg #[.int .i64 (lev : Int), .slice (some adN) nx.length cN], .int .i64 (k : Int)] w fun e w' => ∃ A', e = .returned (.int .i64 (eiF I (thi I TP (rw0 RS nx k) nx.length gs).1 (thi I TP (rw0 RS nx k) nx.length gs).2).1) ∧ GSt lb base I O w' A' (eiF I (thi I TP (rw0 RS nx k) nx.length gs).1 (thi I TP (rw0 RS nx k) nx.length gs).2).2 ∧ Fr (gb lb A) w (gb lb A') w' := by
  obtain ⟨ii, hii, hz0, hz1, hz2⟩ := info_parts Try.info_intL
  have K0 := Blk.new w 54 #[.int .i64 (lev : Int), .slice (some adN) nx.length cN]
  have F0 : Fr (gb lb A) w (gb lb A) (w.alloc (.cells #[.int .i64 (lev : Int), .slice (some adN) nx.length cN] 54)) := Fr.alloc _ _ _
  have HS0 := Lib.hid (show GSt lb base I O (w.alloc (.cells #[.int .i64 (lev : Int), .slice (some adN) nx.length cN] 54)) A gs from by
    obtain ⟨c, hk, ho⟩ := h
    exact ⟨c, hk.alloc _, ho.alloc _⟩)
  have z0 : (w.alloc (.cells #[.int .i64 (lev : Int), .slice (some adN) nx.length cN] 54)).heap.size = w.heap.size + 1 := by simp
  have HT := Lib.hid hT
  have HR := Lib.hid hR
  have HN := Lib.hid hN
  have HX := Lib.hid hx
  have HL := Lib.hid hlt
  obtain ⟨m, hm⟩ : ∃ m, nx.length = m := ⟨_, rfl⟩
  have HM := Lib.hid hm
  rw [hm] at K0 F0 HS0 z0 hn8 ⊢
  have e1 : IntKind.i64.wrap ((nh : Int) - (lev : Int)) = (p : Int) := by rw [hp, show ((p + lev : Nat) : Int) - (lev : Int) = (p : Int) by omega]; exact IntWalk.i64_in _ ⟨by omega, by omega⟩
  have b1 : (p : Int) < (nT : Int) := by omega
  have b0 : (1 : Int) < (lev : Int) := by omega
  clear h hT hN hR hx hm hlt
  go_enter Try.func63, Try.ntmps63
  go_upto_region 1 with (fail)
  generalize w.alloc (.cells #[.int .i64 (lev : Int), .slice (some adN) m cN] 54) = w0 at K0 F0 HS0 z0 ⊢
  have k0 : w0.cell? ⟨w.heap.size, 0, none⟩ = some (.int .i64 (lev : Int)) := (K0.cell 0).trans rfl
  have k1 : w0.cell? ⟨w.heap.size, 1, none⟩ = some (.slice (some adN) m cN) := (K0.cell 1).trans rfl
  obtain ⟨c3, hk3, _⟩ := id HS0.out
  obtain ⟨_, _, l4, _, _, _, l8, _⟩ := lwc_at hk3
  rw [hOc] at l4
  rw [hOg] at l8
  obtain ⟨t0, KT⟩ := HT.out w0 _ F0
  have KN := Lib.hid K0
  have FN := Lib.hid F0
  have HP := Lib.hid hp
  clear K0 F0 KT hk3 hp
  exact (by
    go_wp2_with fail
    go_region
    go_wp2_with fail
    have HS1 := Lib.hid (show GSt lb base I O w0.drew A gs from HS0.out)
    have F1 := Lib.hid (Fr.drew FN.out)
    have N1 := Lib.hid (Blk.drew KN.out)
    have z1 : w0.drew.heap.size = w.heap.size + 1 := z0
    clear HS0 FN KN z0
    generalize w0.drew = w1 at HS1 F1 N1 z1 ⊢
    have HF1 := Lib.hid (show Fr (gb lb A) w (fun b => gb lb A b ∨ ob none b) w1 from F1.out.weak (fun _ h => h) (fun b hb => by
      rcases hb with hb | hb
      · exact .inl hb
      · cases hb))
    clear F1
    exact (by
      go_loopw [8, 29] (fun tv iv wr => ∃ (j : Nat) (ts : List Int) (AW : Option Addr) (cW : Nat) (A1 : Option Addr) (g1 : List C3), j ≤ m ∧ tv = .slice AW j cW ∧ iv = .int .i64 (j : Int) ∧ Hid (thi I TP (rw0 RS nx k) j gs = (ts, g1)) ∧ Hid (wr.ownsRow w1.heap.size 3 1 (.slice AW j cW) j (il ts)) ∧ Hid (GSt lb base I O wr A1 g1) ∧ Hid (Fr (gb lb A) w (fun b => gb lb A1 b ∨ ob AW b) wr) ∧ Hid (Blk wr w.heap.size 54 #[.int .i64 (lev : Int), .slice (some adN) m cN]) ∧ w1.heap.size ≤ wr.heap.size) (fun _ iv _ => m - (intOf iv).toNat)
      case atStart => exact ⟨0, [], none, 0, A, gs, Nat.zero_le _, rfl, rfl, Lib.hid rfl, Lib.hid (World.ownsRow_nil _ _ _ _), HS1, HF1, N1, Nat.le_refl _⟩
      case round =>
        obtain ⟨j, ts, AW, cW, A1, g1, hj, rfl, rfl, HC, HW, HS, HF, HND, hsz⟩ := hrel
        have htl := thi_len I TP (rw0 RS nx k) gs j
        rw [HC.out] at htl
        simp only at htl
        obtain ⟨hts, hg1⟩ := htl
        by_cases hlt : j < m
        · have hjI : (j : Int) < (m : Int) := by omega
          have k0 : wr.cell? ⟨w.heap.size, 0, none⟩ = some (.int .i64 (lev : Int)) := (HND.out.cell 0).trans rfl
          obtain ⟨ad, e0, _, hcj⟩ := il_at (HN.out wr _ HF.out) (show j < nx.length by rw [HM.out]; exact hlt)
          injection e0 with e0
          subst e0
          rw [nl_ig] at hcj
          obtain ⟨hxR, hxk⟩ := HX.out j (by rw [HM.out]; exact hlt)
          have bt1 : j < TP.length := by have := HL.out; rw [HM.out] at this; omega
          have ct : wr.cell? ⟨gt, j, none⟩ = some (.int .i64 (ig TP j)) := ((HT.out wr _ HF.out).2.cell j).trans (ig_cell bt1)
          obtain ⟨cr, kr⟩ := HR.out wr _ HF.out _ hxR
          have cz : wr.cell? ⟨gR (nx.getD j 0), k, none⟩ = some (.int .i64 (rw0 RS nx k j)) := (kr.cell k).trans (ig_cell hxk)
          obtain ⟨c5, hk5, _⟩ := id HS.out
          obtain ⟨_, _, _, _, _, _, _, l9⟩ := lwc_at hk5
          rw [hOh] at l9
          have HB := Lib.hid (show thi I TP (rw0 RS nx k) (j + 1) gs = (ts ++ [I + (g1.length : Int)], g1 ++ [(3, ig TP j, rw0 RS nx k j)]) from by rw [thi, HC.out])
          have bt2 : (j : Int) < (TP.length : Int) := by omega
          have bt3 : ((nx.getD j 0 : Nat) : Int) < (nR : Int) := by omega
          have bt4 : (k : Int) < ((RS.getD (nx.getD j 0) []).length : Int) := by omega
          have GA := Lib.hid (fun W (hbl : Below wr.heap.size wr W) => (gate_any lb base I O 3 (ig TP j) (rw0 RS nx k j) W A1 g1 (HS.out.keep (G := fun _ => False) (G' := fun _ => False) (Fr.of_below hbl) (fun h => h) (fun _ _ h => h)) hlb (by have := hbl.size; omega) (by omega) hI hI2).mono fun e w' ⟨A', he, hs, hf⟩ => (show ∃ A', e = Ending.returned (.int .i64 (I + (g1.length : Int))) ∧ GSt lb base I O w' A' (g1 ++ [(3, ig TP j, rw0 RS nx k j)]) ∧ Fr (gb lb A1) wr (gb lb A') w' from ⟨A', he, hs, (Fr.of_below hbl).trans hf⟩))
          have hAW : ∀ b, ob AW b → ¬ gb lb A1 b := fun b hb hg => by
            rcases hg with hg | hg
            · have := (ob_ge HW.out b hb).1
              omega
            · obtain ⟨c, _, ho⟩ := HS.out
              exact own_ne2 ho HW.out (by decide) (ob_own.1 hg) (ob_own.1 hb)
          have HAW := Lib.hid hAW
          have HNB := Lib.hid (show ¬ (gb lb A1 w.heap.size ∨ ob AW w.heap.size) from fun e => by
            rcases e with (e | e) | e
            · omega
            · obtain ⟨c, _, ho⟩ := HS.out
              exact own_ob_ne ho HND.out (by decide) e
            · have := (ob_ge HW.out _ e).1
              omega)
          generalize I + (g1.length : Int) = q at GA HB
          generalize rw0 RS nx k j = z at cz GA HB
          generalize ig TP j = y at ct GA HB
          generalize (RS.getD (nx.getD j 0) []).length = rl at cr bt4
          generalize gR (nx.getD j 0) = gr at cr cz
          generalize nx.getD j 0 = x at hcj cr bt3
          have hl1 : j + 1 ≤ maxLen ∧ (j + 1) * 8 ≤ 140737488355328 := by unfold maxLen; omega
          have HL1 := Lib.hid hl1
          clear hl1 kr hk5 hxR hxk hAW bt1
          exact (by
            go_wp2_with fail
            go_region_law (first
              | (go_simp; go_at_call 58; (with_reducible refine (GA.out _ (by first | exact Below.refl _ _ | exact (Below.refl _ _).drew)).mono ?_); rintro e wa ⟨A2, rfl, hs, hf⟩; have S2 := Lib.hid hs; have F2 := Lib.hid hf; have OA := Lib.hid (hf.row HW.out (fun g hg => HAW.out g (ob_own.2 hg))); clear hs hf)
              | (refine step_append_lies _ (by rfl) _ _ _ (by rfl) w1.heap.size 3 ii (.int .i64 0) 1 8 Try.underlying26 hii hz0 hz1 hz2 rfl (by decide) (.slice AW j cW) j (il ts) (by rfl) (OA.out.alloc _) ⟨wa.heap.size, 0, none⟩ 1 1 [.int .i64 q] (by rfl) (by rfl) (World.news_of_block (cs := #[.int .i64 q]) (t := 3) (fr := (0, 0)) (heap_alloc_new wa _)) (by simp [Value.oneCell']) (by omega) HL1.out.1 HL1.out.2 (by have := F2.out.size; simp; omega) (wa.heap.size + 1) (by simp) ?_; intro g' c' w3 hown hgrow hat hltg))
            all_goals
              have F8 := fr_app1 hgrow hat
              have F7 := Lib.hid ((F2.out.weak' (ob AW)).trans (F8.side (fun _ h => .inl h)))
              have S3 := Lib.hid (S2.out.keep F8 (fun e => HAW.out _ e (.inl rfl)) (fun b hA e => by
                obtain ⟨c, _, ho⟩ := S2.out
                exact own_ne2 ho OA.out (by decide) (ob_own.1 hA) (ob_own.1 e)))
              have OW := Lib.hid hown
              have ND := Lib.hid (F7.out.blk HND.out HNB.out)
              have hs3 : wr.heap.size ≤ w3.heap.size := F7.out.size
              clear F8 hown hgrow hat hltg
              exact (by
                go_wp2_with fail
                go_roundw
                case rel =>
                  refine ⟨j + 1, ts ++ [q], some ⟨g', 0, none⟩, c', A2, _, by omega, rfl, by go_num, HB, Lib.hid ?_, S3, Lib.hid (HF.out.trans F7.out), ND, Nat.le_trans hsz hs3⟩
                  rw [show il (ts ++ [q]) = il ts ++ [.int .i64 q] by simp [il]]
                  exact OW.out
                case measure => simp [intOf]; omega))
        · obtain rfl : j = m := by omega
          have EA := either_any lb base I O AW cW ts wr A1 g1 HS.out hlb (by omega) (by omega) hI hI2 (by rw [hts]; exact own_lower HW.out (by omega))
          rw [hts] at EA
          have EA := Lib.hid EA
          exact (by
            go_wp2_with (go_at_call 99; (with_reducible refine (EA.out).mono ?_); rintro e w2 ⟨A2, rfl, hs, hf⟩; have S2 := Lib.hid hs; have F2 := Lib.hid hf; clear hs hf)
            go_ret
            rw [HC.out]
            have F3 := HF.out.trans (F2.out.weak' (ob AW))
            exact ⟨A2, rfl, S2.out, ⟨F3.os, F3.tape, F3.output, F3.size, F3.block, fun b hb => F3.new b (.inl hb)⟩⟩)))
end Go.Proofs.Ytnhkgkpjkgifoaa
namespace Go.Proofs.Ytnhkgkpjkgifoaa
open Go.RowKit

set_option maxRecDepth 100000 in
set_option maxHeartbeats 4000000 in
theorem ci2_any (lb gn k : Nat) (lev : Int) (V : Value) (z : Int) (R : World → Prop) (w : World) (hn : Blk w gn 54 #[.int .i64 lev, V])
    (hr : Calls Try.prog 63 #[.pointer (some ⟨lb, 0, none⟩), .agg #[.int .i64 lev, V], .int .i64 (k : Int)] w fun e w' => e = .returned (.int .i64 z) ∧ R w') :
    Calls Try.prog 62 #[.int .i64 (k : Int), .pointer (some ⟨lb, 0, none⟩), .pointer (some ⟨gn, 0, none⟩)] w fun e w' => e = .returned (.int .i64 z) ∧ R w' := by
  have n0 : w.cell? ⟨gn, 0, none⟩ = some (.int .i64 lev) := (hn.cell 0).trans rfl
  have n1 : w.cell? ⟨gn, 1, none⟩ = some V := (hn.cell 1).trans rfl
  have HR := Lib.hid hr
  clear hr hn
  go_enter Try.func62, Try.ntmps62
  go_wp2_with (with_reducible refine (HR.out).mono ?_; rintro e w5 ⟨rfl, hs⟩; have S5 := Lib.hid hs; clear hs)
  go_ret
  exact ⟨rfl, S5.out⟩
end Go.Proofs.Ytnhkgkpjkgifoaa
namespace Go.Proofs.Ytnhkgkpjkgifoaa
open Go.RowKit

section
variable {lb base : Nat} {I : Int} {O : Oc} {w : World} {A : Option Addr} {gs : List C3}
theorem GSt.rowSet (h : GSt lb base I O w A gs) (hlb : lb < base) {t : TypeId} {k n : Nat} {v : Value} {xs : List Value} (hr : w.ownsRow base t k v n xs) (i : Nat) (u : Value) : (w.setCell ⟨lb, i, none⟩ u).ownsRow base t k v n xs :=
  own_set hr (fun e => by have := (hr.lt _ e).1; simp at this; omega) u
theorem GSt.setf (h : GSt lb base I O w A gs) (hlb : lb < base) (v : Value) : GSt lb base I { O with f := v } (w.setCell ⟨lb, 7, none⟩ v) A gs := by
  obtain ⟨c, hk, ho⟩ := h
  exact ⟨c, by have := hk.set_ 7 v; simpa [lwc] using this, own_set ho (fun e => by have := (ho.lt _ e).1; simp at this; omega) v⟩
theorem GSt.setg (h : GSt lb base I O w A gs) (hlb : lb < base) (v : Value) : GSt lb base I { O with g := v } (w.setCell ⟨lb, 8, none⟩ v) A gs := by
  obtain ⟨c, hk, ho⟩ := h
  exact ⟨c, by have := hk.set_ 8 v; simpa [lwc] using this, own_set ho (fun e => by have := (ho.lt _ e).1; simp at this; omega) v⟩
theorem GSt.seth (h : GSt lb base I O w A gs) (hlb : lb < base) (v : Value) : GSt lb base I { O with h := v } (w.setCell ⟨lb, 9, none⟩ v) A gs := by
  obtain ⟨c, hk, ho⟩ := h
  exact ⟨c, by have := hk.set_ 9 v; simpa [lwc] using this, own_set ho (fun e => by have := (ho.lt _ e).1; simp at this; omega) v⟩
theorem GSt.seta (h : GSt lb base I O w A gs) (hlb : lb < base) (v : Value) : GSt lb base I { O with a := v } (w.setCell ⟨lb, 2, none⟩ v) A gs := by
  obtain ⟨c, hk, ho⟩ := h
  exact ⟨c, by have := hk.set_ 2 v; simpa [lwc] using this, own_set ho (fun e => by have := (ho.lt _ e).1; simp at this; omega) v⟩
end
/-- the gates of the first loop, and their wires -/
def g1L (j : Nat) : List C3 := (List.range j).map fun (i : Nat) => ((2 : Int), (i : Int), (0 : Int))
def n1L (N j : Nat) : List Int := (List.range j).map fun (i : Nat) => (N : Int) + (i : Int)
theorem g1L_len (j : Nat) : (g1L j).length = j := by simp [g1L]
theorem g1L_add (j : Nat) : g1L (j + 1) = g1L j ++ [(2, (j : Int), 0)] := by simp [g1L, List.range_succ]
theorem n1L_add (N j : Nat) : il (n1L N (j + 1)) = il (n1L N j) ++ [.int .i64 ((N : Int) + (j : Int))] := by simp [n1L, il, List.range_succ]
/-- the wires and the gates of the tests of i positions -/
def tsF (I : Int) (nots : List Int) (b st : Nat) : Nat → List C3 → List (List Int) × List C3
  | 0, gs => ([], gs)
  | i + 1, gs => ((tsF I nots b st i gs).1 ++ [(coF (fun s g => teF I nots b i s g) st (tsF I nots b st i gs).2).1], (coF (fun s g => teF I nots b i s g) st (tsF I nots b st i gs).2).2)
/-- rows of wires as values -/
def rv (st : Nat) (bl : List Nat) : List Value := bl.map fun g => .slice (some ⟨g, 0, none⟩) st st
/-- the second loop's state -/
structure tsB (lb : Nat) (w2 : World) (N n b st cH cN : Nat) (AH AN : Option Addr) (AO : Option Addr) (cO W0 i : Nat) (AG : Option Addr) (cG : Nat) (A : Option Addr) (bl : List Nat) (m : Nat) (gs : List C3) (w : World) : Prop where
  gates : (tsF (N : Int) (n1L N N) b st i (g1L N)).2 = gs
  st_ : GSt lb (lb + 1) (N : Int) ⟨.slice none 0 0, .int .i64 (st : Int), .slice AH n cH, .slice AN m cN, .int .i64 (b : Int), .slice AO N cO, .slice AG i cG, .slice none 0 0⟩ w A gs
  nots : w.ownsRow (lb + 1) 3 1 (.slice AO N cO) N (il (n1L N N))
  tests : w.ownsRow (lb + 1) 26 1 (.slice AG i cG) i (rv st bl)
  rows : ∀ p, p < i → Blk w (bl.getD p 0) 3 (il ((tsF (N : Int) (n1L N N) b st i (g1L N)).1.getD p [])).toArray ∧ W0 ≤ bl.getD p 0
  low : Below lb w2 w
  size : W0 ≤ w.heap.size
end Go.Proofs.Ytnhkgkpjkgifoaa
