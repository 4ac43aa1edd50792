/- circuitOf and Lower at every valid tree of few nodes. -/
import Derived.Test.YtnhkgkpjkgifoaaMav
import Derived.Test.YtnhkgkpjkgifoaaMac
import Derived.Test.YtnhkgkpjkgifoaaMai
namespace Go.Proofs.Ytnhkgkpjkgifoaa
open Go.RowKit

/-- the tests' wires and gates of a rule -/
def crTS (T : Tr) (st : Nat) : List (List Int) × List C3 := tsF ((T.n * bs st : Nat) : Int) (n1L (T.n * bs st) (T.n * bs st)) (bs st) st T.n (g1L (T.n * bs st))
/-- the nodes' wires and all gates -/
def crRS (T : Tr) (st : Nat) : List (List Int) × List C3 := rsF ((T.n * bs st : Nat) : Int) (crTS T st).1 (bs st) T.n (lvN T) (nxN T) T.m (crTS T st).2
/-- the circuit of a rule -/
def crO (T : Tr) (st : Nat) : Cr := ⟨((T.n * bs st : Nat) : Int), (crRS T st).2.length, fun k => (crRS T st).2.getD k (0, 0, 0), (crRS T st).1.getD (T.m - 1) []⟩
theorem crO_outs {T : Tr} (ht : Rt T) (st : Nat) : (crO T st).o.length = bs st := rsF_row _ _ _ _ _ _ _ T.m (T.m - 1) (by have := ht.m1; omega)
/-- the number of gates -/
theorem crO_n {T : Tr} (ht : Rt T) {st : Nat} (hst : T.st = (st : Int)) (hn : T.n ≤ 40) (hm : T.m ≤ 60) : (crO T st).n ≤ 5000 := by
  have s2 := ht.s2
  have hb3 : bs st ≤ 3 := by unfold bs; split <;> (try split) <;> omega
  have h1 := tsF_len ((T.n * bs st : Nat) : Int) (n1L (T.n * bs st) (T.n * bs st)) (bs st) st (g1L (T.n * bs st)) T.n
  rw [g1L_len] at h1
  have h2 := rsF_len ((T.n * bs st : Nat) : Int) (crTS T st).1 (bs st) T.n (lvN T) (nxN T) (crTS T st).2 8 T.m (fun j hj => by
    obtain ⟨_, _, h3, _⟩ := ht.nd j hj
    rw [nxN_len]
    omega)
  have q1 : T.n * bs st ≤ 40 * 3 := Nat.mul_le_mul hn hb3
  have q2 : st * (bs st - 1) ≤ 8 * 2 := Nat.mul_le_mul (by omega) (by omega)
  have q3 : T.n * (st * (bs st - 1)) ≤ 40 * 16 := Nat.mul_le_mul hn q2
  have q4 : bs st * (2 * 8 + 1) ≤ 3 * 17 := Nat.mul_le_mul hb3 (Nat.le_refl _)
  have q5 : T.m * (bs st * (2 * 8 + 1)) ≤ 60 * 51 := Nat.mul_le_mul hm q4
  have e : (crTS T st).2 = (tsF ((T.n * bs st : Nat) : Int) (n1L (T.n * bs st) (T.n * bs st)) (bs st) st T.n (g1L (T.n * bs st))).2 := rfl
  show (crRS T st).2.length ≤ 5000
  unfold crRS
  rw [← e] at h1
  omega
theorem circuitOf_any (AH AN : Option Addr) (cH cN : Nat) (T : Tr) (st : Nat) (w : World) (h : TS w AH AN T) (ht : Rt T) (hst : T.st = (st : Int)) (hn : T.n ≤ 40) (hm : T.m ≤ 400) :
    Calls Try.prog 32 #[.agg #[.int .i64 T.st, .slice AH T.n cH, .slice AN T.m cN]] w fun e w' => ∃ A AO c cO, e = .returned (.agg #[.int .i64 (crO T st).ins, .slice A (crO T st).n c, .slice AO (crO T st).o.length cO]) ∧ CS w' A AO (crO T st) ∧ Below w.heap.size w w' ∧ (∀ ad, A = some ad → w.heap.size ≤ ad.block) ∧ (∀ ad, AO = some ad → w.heap.size ≤ ad.block) := by
  have s1 := ht.s1
  have s2 := ht.s2
  have m1 := ht.m1
  obtain ⟨gN, oN, hA, hg, hc⟩ := h.2 (by omega)
  subst hA
  have hlen : ∀ i, i < T.m → (T.nx i).length = st := fun i hi => by
    obtain ⟨_, _, h3, _⟩ := ht.nd i hi
    omega
  have n1 : 1 ≤ T.n := by
    obtain ⟨q1, q2, _, _⟩ := ht.nd 0 (by omega)
    omega
  rw [hst]
  refine (circuitOf_q st T.n T.m (bs st) (T.n * bs st) AH gN oN cH cN w (lvN T) (nxN T) (crTS T st).1 (crRS T st).1 (crTS T st).2 (crRS T st).2 (by omega) (by omega) n1 hn m1 hm rfl rfl hg (fun i hi => ?_) (fun i hi => ?_) rfl rfl).mono fun e w' ⟨A, c, gO, he, hG, hB, hb, hA1, hA2⟩ => ?_
  · obtain ⟨A', c', x1, x2, x3⟩ := hc i hi
    obtain ⟨q1, q2, _, _⟩ := ht.nd i hi
    refine ⟨A', c', ?_, ?_, ?_⟩
    · rw [x1, lvN, Int.toNat_of_nonneg (by omega)]
    · rw [x2, hlen i hi]
    · rw [nl_nxN ht hi, ← hlen i hi]; exact x3
  · obtain ⟨q1, q2, _, q4⟩ := ht.nd i hi
    refine ⟨by rw [nxN_len]; exact hlen i hi, by unfold lvN; omega, by unfold lvN; omega, fun h1 j => ?_, fun h1 j hj => ?_⟩
    · rw [nxN_at]
      by_cases hj : j < (T.nx i).length
      · obtain ⟨e1, e2, _⟩ := q4 j hj
        have := e2 (by unfold lvN at h1; omega)
        omega
      · rw [show ig (T.nx i) j = 0 by simp [ig, List.getD_eq_getElem?_getD, hj]]
        decide
    · rw [nxN_at]
      obtain ⟨e1, _, e3⟩ := q4 j (by rw [hlen i hi]; exact hj)
      have := (e3 (by unfold lvN at h1; omega)).1
      omega
  · have ho := crO_outs ht st
    refine ⟨A, some ⟨gO, 0, none⟩, c, bs st, ?_, ⟨hG, ?_⟩, hb, hA1, fun ad e => by injection e with e; subst e; exact hA2⟩
    · rw [he, ho]; rfl
    · have q := Reads.of_blk hB
      have e : (il (crO T st).o).length = (crO T st).o.length := by simp [il]
      rw [← e]
      exact q
theorem CS.far {w : World} {A AO : Option Addr} {C : Cr} {g : Nat} (h : CS w A AO C) (hA : ∀ ad, A = some ad → ad.block ≠ g) (hO : ∀ ad, AO = some ad → ad.block ≠ g) (i : Nat) (u : Value) : CS (w.setCell ⟨g, i, none⟩ u) A AO C := by
  have e : (w.setCell ⟨g, i, none⟩ u).heap.size = w.heap.size := by simp [World.setCell]
  refine ⟨fun hn => ?_, ?_⟩
  · obtain ⟨b, o, hA', hb, hc⟩ := h.1 hn
    have hne : b ≠ g := hA _ hA'
    refine ⟨b, o, hA', by rw [e]; exact hb, fun k hk => ?_⟩
    have q := hc k hk
    have e2 : ∀ j, (w.setCell ⟨g, i, none⟩ u).cell? ⟨b, j, none⟩ = w.cell? ⟨b, j, none⟩ := fun j => World.cell?_of_block (Below.heap_setCell w ⟨g, i, none⟩ u b hne)
    rw [e2, e2, e2]
    exact q
  · have q := h.2.far (p := ⟨g, i, none⟩) (fun ad _ e => hO ad e) u
    rw [e]
    exact q
/-- Lower at few nodes -/
def LowOut (C : Cr) (w : World) (e : Ending) (w' : World) : Prop := ∃ A AO c cO, e = .returned (.tuple #[.agg #[.int .i64 C.ins, .slice A C.n c, .slice AO C.o.length cO], .int .i64 0]) ∧ CS w' A AO C ∧ Below w.heap.size w w'
set_option maxRecDepth 100000 in
set_option maxHeartbeats 4000000 in
theorem lower_ok (AH AN : Option Addr) (cH cN : Nat) (T : Tr) (st : Nat) (w : World) (h : TS w AH AN T) (ht : Rt T) (hst : T.st = (st : Int)) (hn : T.n ≤ 40) (hm : T.m ≤ 60) :
    Calls Try.prog 9 #[.agg #[.int .i64 T.st, .slice AH T.n cH, .slice AN T.m cN]] w fun e w' => LowOut (crO T st) w e w' := by
  have RI := Lib.hid (fun w' (hb : Below w.heap.size w w') => tright_yes AH cH AN cN T w' (h.later hb) ht)
  have CO := Lib.hid (fun w' (hb : Below w.heap.size w w') => circuitOf_any AH AN cH cN T st w' (h.later hb) ht hst hn (by omega))
  have hg := crO_n ht hst hn hm
  generalize crO T st = C at *
  obtain ⟨I, N, g, o⟩ := C
  simp only at *
  generalize T.st = st' at *
  generalize T.n = n at *
  generalize T.m = m at *
  have K0 := (Blk.new w 25 #[.int .i64 st', .slice AH n cH, .slice AN m cN]).alloc (.cells #[.int .i64 0, .slice none 0 0, .slice none 0 0] 34)
  have K1 := Blk.new (w.alloc (.cells #[.int .i64 st', .slice AH n cH, .slice AN m cN] 25)) 34 #[.int .i64 0, .slice none 0 0, .slice none 0 0]
  have B2 : Below w.heap.size w ((w.alloc (.cells #[.int .i64 st', .slice AH n cH, .slice AN m cN] 25)).alloc (.cells #[.int .i64 0, .slice none 0 0, .slice none 0 0] 34)) := ((Below.refl _ w).alloc (Nat.le_refl _) _).alloc (by simp) _
  rw [World.size_alloc] at K1
  have ng : ¬ (20000 : Int) < (N : Int) := by omega
  clear h ht hst hn hm hg
  obtain ⟨Lo, hLo⟩ : ∃ Lo, LowOut ⟨I, N, g, o⟩ w = Lo := ⟨_, rfl⟩
  have HLo := Lib.hid hLo
  rw [hLo]
  clear hLo
  go_enter Try.func9, Try.ntmps9
  go_upto_region 1 with (fail)
  generalize (w.alloc (.cells #[.int .i64 st', .slice AH n cH, .slice AN m cN] 25)).alloc (.cells #[.int .i64 0, .slice none 0 0, .slice none 0 0] 34) = w2 at K0 K1 B2 ⊢
  obtain ⟨k0, k1, k2, _, _, _, k6⟩ := K0.three6
  have KT := Lib.hid K0
  have KC := Lib.hid K1
  have BB := Lib.hid B2
  clear K0 K1 B2
  go_upto_region 3 with (go_at_call 27; (with_reducible refine (RI.out _ BB.out).mono ?_); rintro e w3 ⟨rfl, hb⟩; have B3 := Lib.hid hb; have K3 := Lib.hid (KT.out.below hb k6); clear hb)
  have B03 := Lib.hid (BB.out.trans (B3.out.mono BB.out.size))
  have KC3 := Lib.hid (KC.out.below B3.out KC.out.lt)
  obtain ⟨b0, b1, b2, _, _, _, b6⟩ := K3.out.three6
  clear k0 k1 k2
  obtain ⟨Q, hQ⟩ : ∃ Q, o.length = Q := ⟨_, rfl⟩
  rw [hQ] at CO
  have HQ := Lib.hid hQ
  clear hQ
  go_upto_region 4 with (go_at_call 32; (with_reducible refine (CO.out _ B03.out).mono ?_); rintro e w4 ⟨A, AO, c, cO, rfl, hcs, hb, hA1, hA2⟩; have HA := Lib.hid (And.intro hA1 hA2); clear hA1 hA2; have B4 := Lib.hid hb; have CS4 := Lib.hid hcs; have KC4 := Lib.hid (KC3.out.below hb KC3.out.lt); clear hb hcs)
  have B5 := Lib.hid ((Below.refl w4.heap.size w4).alloc (Nat.le_refl _) (.cells #[.int .i64 I, .slice A N c, .slice AO Q cO] 34))
  have K5 := Blk.new w4 34 #[.int .i64 I, .slice A N c, .slice AO Q cO]
  have KC5 := Lib.hid (KC4.out.alloc (.cells #[.int .i64 I, .slice A N c, .slice AO Q cO] 34))
  have hw4 : w.heap.size + 1 < w4.heap.size := KC4.out.lt
  generalize w4.alloc (.cells #[.int .i64 I, .slice A N c, .slice AO Q cO] 34) = w5 at *
  obtain ⟨d0, d1, d2, _, _, _, d6⟩ := K5.three6
  obtain ⟨r0, r1, r2, r3, r4, r5, r6⟩ := KC5.out.three6
  clear K5 b0 b1 b2
  have B05 := Lib.hid ((B03.out.trans (B4.out.mono B03.out.size)).trans (B5.out.mono (B03.out.trans (B4.out.mono B03.out.size)).size))
  have CS5 := Lib.hid (CS4.out.later B5.out)
  go_wp2
  have KZ := KC5.out.tri (.int .i64 I) (.slice A N c) (.slice AO Q cO)
  obtain ⟨z0', z1', z2', _, _, _, _⟩ := KZ.three6
  have BZ := ((B05.out.setCell (p := ⟨w.heap.size + 1, 0, none⟩) (Nat.le_succ _) (.int .i64 I)).setCell (p := ⟨w.heap.size + 1, 1, none⟩) (Nat.le_succ _) (.slice A N c)).setCell (p := ⟨w.heap.size + 1, 2, none⟩) (Nat.le_succ _) (.slice AO Q cO)
  refine bodyPost_ret (v := .tuple #[.agg #[.int .i64 I, .slice A N c, .slice AO Q cO], .int .i64 0]) (by simp [results, Try.results9, go_sem, z0', z1', z2']) rfl ?_
  rw [← HLo.out]
  have s3 := (BB.out.trans (B3.out.mono BB.out.size)).size
  have hfar : ∀ ad : Addr, w3.heap.size ≤ ad.block → ad.block ≠ w.heap.size + 1 := fun ad h => by have := KC3.out.lt; omega
  exact ⟨A, AO, c, cO, by rw [HQ.out], (((CS5.out.far (fun ad e => hfar ad (HA.out.1 ad e)) (fun ad e => hfar ad (HA.out.2 ad e)) 0 _).far (fun ad e => hfar ad (HA.out.1 ad e)) (fun ad e => hfar ad (HA.out.2 ad e)) 1 _).far (fun ad e => hfar ad (HA.out.1 ad e)) (fun ad e => hfar ad (HA.out.2 ad e)) 2 _), BZ⟩
end Go.Proofs.Ytnhkgkpjkgifoaa
