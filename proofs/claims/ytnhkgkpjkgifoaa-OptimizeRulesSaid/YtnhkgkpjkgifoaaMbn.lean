/- The walks of slices.Clone on gates and of copyOf. -/
/- The walk of workOn at a valid circuit. -/
import Derived.Test.YtnhkgkpjkgifoaaMbm
import Derived.Test.YtnhkgkpjkgifoaaMaj
import Derived.Deep.RegionHeldLaw
import Derived.Test.YtnhkgkpjkgifoaaMai
namespace Go.Proofs.Ytnhkgkpjkgifoaa
open Go.RowKit

theorem addo (g o k : Nat) : ((⟨g, o, none⟩ : Addr).add k) = ⟨g, o + k, none⟩ := by
  unfold Addr.add
  split
  · next e => subst e; rfl
  · simp
set_option maxRecDepth 100000 in
set_option maxHeartbeats 1000000 in
theorem gclone_some (ad : Addr) (c : Nat) (gs : List C3) (w : World) (h : CReads w w.heap.size (some ad) gs.length (fun k => gs.getD k (0, 0, 0))) (hn : gs.length ≤ 20000) :
    Calls Try.prog 104 #[.slice (some ad) gs.length c] w fun e w' => ∃ A' c', e = .returned (.slice A' gs.length c') ∧ w'.ownsRow w.heap.size 57 3 (.slice A' gs.length c') gs.length (cg gs) ∧ Below w.heap.size w w' := by
  obtain ⟨i0, hi, hz0, hz1, hz2⟩ := info_parts info_gate
  have L0 := cg_len gs
  have hnews : ∀ (j : Nat) (u : Value), (cg gs)[j]? = some u → (w.alloc (.cells #[] 57)).cell? (ad.add j) = some u := by
    intro j u hj
    have hlt : j < gs.length * 3 := by
      rcases Nat.lt_or_ge j (gs.length * 3) with h' | h'
      · exact h'
      · rw [List.getElem?_eq_none (by rw [L0]; exact h')] at hj; cases hj
    obtain ⟨g, o, ha, hg, hc⟩ := h (by omega)
    injection ha with ha
    subst ha
    refine (World.cell?_alloc_lt w _ _ (by rw [block_of_add]; exact hg)).trans ?_
    rw [addo]
    obtain ⟨k, r, rfl, hr⟩ : ∃ k r, j = k * 3 + r ∧ r < 3 := ⟨j / 3, j % 3, by omega, by omega⟩
    obtain ⟨q1, q2, q3⟩ := hc k (by omega)
    obtain ⟨p1, p2, p3⟩ := cg_at gs k (by omega)
    rcases (by omega : r = 0 ∨ r = 1 ∨ r = 2) with rfl | rfl | rfl
    · rw [Nat.add_zero] at hj ⊢
      rw [q1, ← p1, hj]
    · rw [← Nat.add_assoc, q2, ← p2, hj]
    · rw [← Nat.add_assoc, q3, ← p3, hj]
  have HN := Lib.hid hnews
  have B1 := Lib.hid ((Below.refl w.heap.size w).alloc (Nat.le_refl _) (.cells #[] 57))
  have HO := Lib.hid (World.ownsRow_made (base := w.heap.size) (e := 57) (size := 3) w #[] 0 (Nat.le_refl _) (by unfold maxLen; omega) (by rfl))
  have s1 := B1.out.size
  have O : ∀ u ∈ cg gs, u.oneCell' = true := fun u hu => by
    simp only [cg, List.mem_flatMap] at hu
    obtain ⟨x, _, hu⟩ := hu
    simp at hu
    rcases hu with rfl | rfl | rfl <;> rfl
  generalize cg gs = xs at HN L0 O ⊢
  generalize gs.length = n at *
  clear h hnews
  have q22 : ∀ (w : World) (a : Option Addr) (n c n' c' : Nat), (binOp .eql 32 (.slice a n c) (.slice none n' c')).run Try.prog w = .ok (.bool a.isNone) w := fun w a n c n' c' => Lib.run_eql_slice_nil w _ _ a n c n' c' Try.underlying32
  go_enter Try.func104, Try.ntmps104
  go_wp2_with (at_builtin; refine wpList_append_own _ rfl _ _ 32 rfl w.heap.size 57 i0 (.agg #[.int .i64 0, .int .i64 0, .int .i64 0]) 3 24 Try.underlying32 hi hz0 hz1 hz2 rfl (by decide) _ 0 [] rfl HO.out ad n c xs rfl L0 HN.out O (by unfold maxLen; omega) (by omega) s1 ?_; intro v' w2 hown2 hg2 hiff; have B2 := Lib.hid (B1.out.grown hg2 s1 (fun k hk => (HO.out.lt k hk).1)); have HO2 := Lib.hid hown2; clear hown2 hg2 hiff)
  have e : ∃ A' c', v' = .slice A' n c' := by
    have h := HO2.out
    rw [Nat.zero_add] at h
    rcases h.2 with ⟨h1, h2⟩ | ⟨g, cap, cur, h1, _⟩
    · subst h2; exact ⟨_, _, h1⟩
    · exact ⟨_, _, h1⟩
  obtain ⟨A', c', rfl⟩ := e
  go_ret
  have h := HO2.out
  rw [Nat.zero_add, List.nil_append] at h
  exact ⟨A', c', rfl, h, B2.out⟩
set_option maxRecDepth 100000 in
theorem gclone_none (c : Nat) (w : World) :
    Calls Try.prog 104 #[.slice none 0 c] w fun e w' => e = .returned (.slice none 0 0) ∧ w = w' := by
  have q22 : ∀ (w : World) (a : Option Addr) (n c n' c' : Nat), (binOp .eql 32 (.slice a n c) (.slice none n' c')).run Try.prog w = .ok (.bool a.isNone) w := fun w a n c n' c' => Lib.run_eql_slice_nil w _ _ a n c n' c' Try.underlying32
  go_enter Try.func104, Try.ntmps104
  go_wp2
  go_ret
  exact ⟨rfl, rfl⟩
theorem gclone_any (A : Option Addr) (c : Nat) (gs : List C3) (w : World) (h : CReads w w.heap.size A gs.length (fun k => gs.getD k (0, 0, 0))) (hn : gs.length ≤ 20000) :
    Calls Try.prog 104 #[.slice A gs.length c] w fun e w' => ∃ A' c', e = .returned (.slice A' gs.length c') ∧ w'.ownsRow w.heap.size 57 3 (.slice A' gs.length c') gs.length (cg gs) ∧ Below w.heap.size w w' := by
  cases A with
  | some ad => exact gclone_some ad c gs w h hn
  | none =>
    cases gs with
    | nil => exact (gclone_none c w).mono fun e w' ⟨he, hw⟩ => ⟨none, 0, he, hw ▸ World.ownsRow_nil _ _ _ _, hw ▸ Below.refl _ _⟩
    | cons x r => obtain ⟨g, o, ha, _⟩ := h (by simp); cases ha
/-- what copyOf answers -/
def CpyOut (I : Int) (gs : List C3) (os : List Int) (w : World) (e : Ending) (w' : World) : Prop :=
  ∃ A cA O cO, e = .returned (.agg #[.int .i64 I, .slice A gs.length cA, .slice O os.length cO]) ∧ w'.ownsRow w.heap.size 57 3 (.slice A gs.length cA) gs.length (cg gs) ∧ w'.ownsRow w.heap.size 3 1 (.slice O os.length cO) os.length (il os) ∧ Below w.heap.size w w'
set_option maxRecDepth 100000 in
set_option maxHeartbeats 4000000 in
theorem copyOf_any (I : Int) (A O : Option Addr) (cA cO : Nat) (gs : List C3) (os : List Int) (w : World) (hg : CReads w w.heap.size A gs.length (fun k => gs.getD k (0, 0, 0))) (ho : Reads w w.heap.size O os.length (il os)) (hn : gs.length ≤ 20000) (hq : os.length ≤ 1000) :
    Calls Try.prog 67 #[.agg #[.int .i64 I, .slice A gs.length cA, .slice O os.length cO]] w fun e w' => CpyOut I gs os w e w' := by
  obtain ⟨w2, hw⟩ : ∃ w2, w2 = (w.alloc (.cells #[.int .i64 I, .slice A gs.length cA, .slice O os.length cO] 34)).alloc (.cells #[.int .i64 0, .slice none 0 0, .slice none 0 0] 34) := ⟨_, rfl⟩
  have K1 : Blk w2 w.heap.size 34 #[.int .i64 I, .slice A gs.length cA, .slice O os.length cO] := by rw [hw]; exact (Blk.new w _ _).alloc _
  have K2 : Blk w2 (w.heap.size + 1) 34 #[.int .i64 0, .slice none 0 0, .slice none 0 0] := by
    have := Blk.new (w.alloc (.cells #[.int .i64 I, .slice A gs.length cA, .slice O os.length cO] 34)) 34 #[.int .i64 0, .slice none 0 0, .slice none 0 0]
    rw [World.size_alloc] at this
    rw [hw]; exact this
  have B2 : Below w.heap.size w w2 := by rw [hw]; exact ((Below.refl _ w).alloc (Nat.le_refl _) _).alloc (by simp) _
  have P1 := Lib.hid (fun W (hb : Below w2.heap.size w2 W) => (gclone_any A cA gs W ((hg.later B2).later hb) hn).mono fun e W' ⟨A', c', he, ho, h⟩ => (show ∃ A' c', e = Ending.returned (.slice A' gs.length c') ∧ W'.ownsRow w2.heap.size 57 3 (.slice A' gs.length c') gs.length (cg gs) ∧ Below w2.heap.size w2 W' ∧ Below W.heap.size W W' from ⟨A', c', he, own_lower ho hb.size, hb.trans (h.mono hb.size), h⟩))
  have P2 := Lib.hid (fun W (hb : Below w2.heap.size w2 W) => (iclone_any O os.length cO os W ((ho.later B2).later hb) (by omega)).mono fun e W' ⟨A', c', he, ho, h⟩ => (show ∃ A' c', e = Ending.returned (.slice A' os.length c') ∧ W'.ownsRow w2.heap.size 3 1 (.slice A' os.length c') os.length (il os) ∧ Below w2.heap.size w2 W' ∧ Below W.heap.size W W' from ⟨A', c', he, own_lower ho hb.size, hb.trans (h.mono hb.size), h⟩))
  have HC := Lib.hid (show ∀ (W : World) A cA O cO, W.ownsRow w2.heap.size 57 3 (.slice A gs.length cA) gs.length (cg gs) → W.ownsRow w2.heap.size 3 1 (.slice O os.length cO) os.length (il os) → Below w.heap.size w W → CpyOut I gs os w (.returned (.agg #[.int .i64 I, .slice A gs.length cA, .slice O os.length cO])) W from fun W A cA O cO h1 h2 h3 => ⟨A, cA, O, cO, rfl, own_lower h1 B2.size, own_lower h2 B2.size, h3⟩)
  generalize cg gs = xs at P1 HC
  generalize il os = ys at P2 HC
  generalize gs.length = n at *
  generalize os.length = q at *
  have K1 := Lib.hid K1
  have K2 := Lib.hid K2
  have B2 := Lib.hid B2
  have KP := Lib.hid (fun W (hb : Below w2.heap.size w2 W) => show W.cell? ⟨w.heap.size, 0, none⟩ = some (.int .i64 I) ∧ W.cell? ⟨w.heap.size, 1, none⟩ = some (.slice A n cA) ∧ W.cell? ⟨w.heap.size, 2, none⟩ = some (.slice O q cO) from by
    obtain ⟨k0, k1, k2, _, _, _, _⟩ := (K1.out.below hb K1.out.lt).three6
    exact ⟨k0, k1, k2⟩)
  have S0 := KP.out w2 (Below.refl _ _)
  have hl2 := K2.out.lt
  clear hg ho
  go_enter Try.func67, Try.ntmps67
  go_upto_region 1 with (fail)
  rw [← hw]
  clear hw
  obtain ⟨u0, u1, u2, _, _, _, u6⟩ := K2.out.three6
  go_region_held_law (fun W => W.cell? ⟨w.heap.size, 0, none⟩ = some (.int .i64 I) ∧ W.cell? ⟨w.heap.size, 1, none⟩ = some (.slice A n cA) ∧ W.cell? ⟨w.heap.size, 2, none⟩ = some (.slice O q cO))
    (first | exact S0 | exact KP.out _ (Below.refl _ _).drew | exact KP.out _ Z3.out | exact KP.out _ Z4.out | exact KP.out _ Z3.out.drew | exact KP.out _ Z4.out.drew | assumption | go_keep)
    (first
    | (go_at_call 105; (with_reducible refine (P2.out _ Z3.out).mono ?_); rintro e w4 ⟨A4, c4, rfl, ho, hb, hb'⟩; have Z4 := Lib.hid hb; have O4 := Lib.hid ho; have G4 := Lib.hid (own_belowk G3.out hb'); have K4 := Lib.hid (K2.out.below hb hl2); obtain ⟨k0, k1, k2, _, _, _, k6⟩ := K4.out.three6; clear ho hb hb')
    | (go_at_call 104; (with_reducible refine (P1.out _ (by first | exact (Below.refl _ _).drew | exact Below.refl _ _)).mono ?_); rintro e w3 ⟨A3, c3, rfl, ho, hb, hb'⟩; have Z3 := Lib.hid hb; have G3 := Lib.hid ho; clear ho hb hb'))
  all_goals
    go_wp2_with fail
    have K5 := K4.out.tri (.int .i64 I) (.slice A3 n c3) (.slice A4 q c4)
    have B4 := B2.out.trans (Z4.out.mono B2.out.size)
    have B5 := ((B4.setCell (p := ⟨w.heap.size + 1, 0, none⟩) (Nat.le_succ _) (.int .i64 I)).setCell (p := ⟨w.heap.size + 1, 1, none⟩) (Nat.le_succ _) (.slice A3 n c3)).setCell (p := ⟨w.heap.size + 1, 2, none⟩) (Nat.le_succ _) (.slice A4 q c4)
    have ng : (Value.slice A3 n c3).ownBlock ≠ some (w.heap.size + 1) := fun e => by have := (G4.out.lt _ e).1; omega
    have no : (Value.slice A4 q c4).ownBlock ≠ some (w.heap.size + 1) := fun e => by have := (O4.out.lt _ e).1; omega
    have G5 := own_set (p := ⟨w.heap.size + 1, 2, none⟩) (own_set (p := ⟨w.heap.size + 1, 1, none⟩) (own_set (p := ⟨w.heap.size + 1, 0, none⟩) G4.out ng (.int .i64 I)) ng (.slice A3 n c3)) ng (.slice A4 q c4)
    have O5 := own_set (p := ⟨w.heap.size + 1, 2, none⟩) (own_set (p := ⟨w.heap.size + 1, 1, none⟩) (own_set (p := ⟨w.heap.size + 1, 0, none⟩) O4.out no (.int .i64 I)) no (.slice A3 n c3)) no (.slice A4 q c4)
    generalize ((w4.setCell ⟨w.heap.size + 1, 0, none⟩ (.int .i64 I)).setCell ⟨w.heap.size + 1, 1, none⟩ (.slice A3 n c3)).setCell ⟨w.heap.size + 1, 2, none⟩ (.slice A4 q c4) = w5 at K5 B5 G5 O5 ⊢
    obtain ⟨j0, j1, j2, _, _, _, _⟩ := K5.three6
    exact bodyPost_ret (v := .agg #[.int .i64 I, .slice A3 n c3, .slice A4 q c4]) (by simp [results, Try.results67, go_sem, j0, j1, j2]) rfl (HC.out w5 A3 c3 A4 c4 G5 O5 B5)
end Go.Proofs.Ytnhkgkpjkgifoaa
namespace Go.Proofs.Ytnhkgkpjkgifoaa
open Go.RowKit

/-- lists as a circuit -/
def crL (N : Nat) (gs : List C3) (os : List Int) : Cr := ⟨(N : Int), gs.length, fun k => gs.getD k (0, 0, 0), os⟩
theorem crL_rt {N : Nat} {gs : List C3} {os : List Int} (hc : COk N gs os) (hol : os.length ≤ 1000) : rt (crL N gs os) = true := by
  have h1 := hc.n
  rw [rt_iff]
  refine ⟨⟨by show (0 : Int) ≤ (N : Int); omega, by show (N : Int) ≤ 1000; omega, hc.g, hol⟩, fun k hk => hc.gd k hk, fun k hk => ?_⟩
  obtain ⟨q1, q2⟩ := hc.os k hk
  show isw (ig os k) ((N : Int) + (gs.length : Int)) = true
  simp [isw]
  omega
/-- what workOn answers -/
def WonOut (N : Nat) (gs : List C3) (os : List Int) (w : World) (e : Ending) (w' : World) : Prop :=
  ∃ wk mb A O cA cO, e = .returned (.pointer (some ⟨wk, 0, none⟩)) ∧ WK wk (wk + 1) N gs os [] A O none cA cO 0 mb w' ∧ GM w' mb (fun _ => none) ∧ w.heap.size ≤ wk ∧ w.heap.size ≤ mb ∧ Below w.heap.size w w'
set_option maxRecDepth 100000 in
set_option maxHeartbeats 4000000 in
theorem workOn_any (N : Nat) (gs : List C3) (os : List Int) (A O : Option Addr) (cA cO : Nat) (w : World) (h : CS w A O (crL N gs os)) (hc : COk N gs os) (hol : os.length ≤ 1000) :
    Calls Try.prog 37 #[.agg #[.int .i64 (N : Int), .slice A gs.length cA, .slice O os.length cO]] w fun e w' => WonOut N gs os w e w' := by
  have RG := Lib.hid (fun W (hb : Below w.heap.size w W) => (show Calls Try.prog 65 #[.agg #[.int .i64 (N : Int), .slice A gs.length cA, .slice O os.length cO]] W fun e w' => e = .returned (.bool true) ∧ Below W.heap.size W w' from by
    have q := right_any A O cA cO (crL N gs os) W (h.later hb) (by show gs.length ≤ 1000000; have := hc.g; omega) (by show os.length ≤ 1000000; omega)
    rw [crL_rt hc hol] at q
    exact q))
  have CP := Lib.hid (fun W (hb : Below w.heap.size w W) => copyOf_any (N : Int) A O cA cO gs os W (h.later hb).1 (h.later hb).2 hc.g hol)
  obtain ⟨w3, hw⟩ : ∃ w3, w3 = ((w.alloc (.cells #[.int .i64 (N : Int), .slice A gs.length cA, .slice O os.length cO] 34)).alloc (.map #[] 0)).alloc (.cells #[.int .i64 0, .slice none 0 0, .slice none 0 0, .slice none 0 0, .map (some (w.heap.size + 1))] 73) := ⟨_, rfl⟩
  have hmm := @run_makeMap Try.prog
  have K1 : Blk w3 w.heap.size 34 #[.int .i64 (N : Int), .slice A gs.length cA, .slice O os.length cO] := by rw [hw]; exact ((Blk.new w _ _).alloc _).alloc _
  have B3 : Below w.heap.size w w3 := by rw [hw]; exact (((Below.refl _ w).alloc (Nat.le_refl _) _).alloc (by simp) _).alloc (by simp; omega) _
  have KW : Blk w3 (w.heap.size + 1 + 1) 73 #[.int .i64 0, .slice none 0 0, .slice none 0 0, .slice none 0 0, .map (some (w.heap.size + 1))] := by
    rw [hw]
    have := Blk.new ((w.alloc (.cells #[.int .i64 (N : Int), .slice A gs.length cA, .slice O os.length cO] 34)).alloc (.map #[] 0)) 73 #[.int .i64 0, .slice none 0 0, .slice none 0 0, .slice none 0 0, .map (some (w.heap.size + 1))]
    rw [World.size_alloc, World.size_alloc] at this
    exact this
  have M3 : GM w3 (w.heap.size + 1) (fun _ => none) := by
    rw [hw]
    have := MapOf.new Try.prog (w.alloc (.cells #[.int .i64 (N : Int), .slice A gs.length cA, .slice O os.length cO] 34)) 57 gV iV
    rw [World.size_alloc] at this
    exact GM.of_fr this (G := fun _ => False) (G' := fun _ => False) (Fr.alloc _ _ _) (fun h => h)
  have K1 := Lib.hid K1
  have B3 := Lib.hid B3
  have KW := Lib.hid KW
  have M3 := Lib.hid M3
  obtain ⟨Q, hQ⟩ : ∃ Q, WonOut N gs os w = Q := ⟨_, rfl⟩
  have HQ := Lib.hid hQ
  rw [hQ]
  have HNV := Lib.hid (show WK (w.heap.size + 1 + 1) (w.heap.size + 1 + 1 + 1) N [] [] [] none none none 0 0 0 (w.heap.size + 1) w3 → True from fun _ => trivial)
  have RR := Lib.hid (RG.out w3 B3.out)
  obtain ⟨a0, a1, a2, _, _, _, a6⟩ := K1.out.three6
  clear h hc hQ HNV
  generalize hn : gs.length = n at *
  generalize hq : os.length = q at *
  have HN := Lib.hid hn
  have HQL := Lib.hid hq
  clear hn hq
  go_enter Try.func37, Try.ntmps37
  go_upto_region 2 with (fail)
  rw [← hw]
  clear hw hmm
  go_upto_region 3 with (go_at_call 65; (with_reducible refine (RR.out).mono ?_); rintro e w4 ⟨rfl, hb⟩; have B4 := Lib.hid hb; clear hb)
  have K4 := Lib.hid (K1.out.below B4.out K1.out.lt)
  have W4 := Lib.hid (KW.out.below B4.out KW.out.lt)
  have Z4 := Lib.hid (B3.out.trans (B4.out.mono B3.out.size))
  have CC := Lib.hid (CP.out w4 Z4.out)
  clear a0 a1 a2 a6
  obtain ⟨a0, a1, a2, _, _, _, a6⟩ := K4.out.three6
  exact (by
    go_upto_region 4 with (go_at_call 67; (with_reducible refine (CC.out).mono ?_); rintro e w5 ⟨A5, c5, O5, d5, rfl, hg, ho, hb⟩; have G5 := Lib.hid hg; have O5' := Lib.hid ho; have B5 := Lib.hid hb; clear hg ho hb; have W5 := Lib.hid (W4.out.below B5.out W4.out.lt); obtain ⟨d0, d1, d2, d3, d4, d5'⟩ := W5.out.five; have e0 := W5.out.frozen 0; have e1 := W5.out.frozen 1; have e2 := W5.out.frozen 2)
    have l4 := W4.out.lt
    have ng : (Value.slice A5 gs.length c5).ownBlock ≠ some (w.heap.size + 1 + 1) := fun e => by have := (G5.out.lt _ e).1; omega
    have no : (Value.slice O5 os.length d5).ownBlock ≠ some (w.heap.size + 1 + 1) := fun e => by have := (O5'.out.lt _ e).1; omega
    have W6 : WK (w.heap.size + 1 + 1) (w.heap.size + 1 + 1 + 1) N gs os [] A5 O5 none c5 d5 0 (w.heap.size + 1) (((w5.setCell ⟨w.heap.size + 1 + 1, 0, none⟩ (.int .i64 (N : Int))).setCell ⟨w.heap.size + 1 + 1, 1, none⟩ (.slice A5 gs.length c5)).setCell ⟨w.heap.size + 1 + 1, 2, none⟩ (.slice O5 os.length d5)) := by
      refine ⟨?_, ?_, ?_, World.ownsRow_nil _ _ _ _, (fun k _ h => by cases h), rfl⟩
      · have := ((W5.out.set_ 0 (.int .i64 (N : Int))).set_ 1 (.slice A5 gs.length c5)).set_ 2 (.slice O5 os.length d5)
        simpa using this
      · exact own_lower (own_set (p := ⟨w.heap.size + 1 + 1, 2, none⟩) (own_set (p := ⟨w.heap.size + 1 + 1, 1, none⟩) (own_set (p := ⟨w.heap.size + 1 + 1, 0, none⟩) G5.out ng _) ng _) ng _) l4
      · exact own_lower (own_set (p := ⟨w.heap.size + 1 + 1, 2, none⟩) (own_set (p := ⟨w.heap.size + 1 + 1, 1, none⟩) (own_set (p := ⟨w.heap.size + 1 + 1, 0, none⟩) O5'.out no _) no _) no _) l4
    have F6 : Fr (fun k => k = w.heap.size + 1 + 1) w5 (fun k => k = w.heap.size + 1 + 1) (((w5.setCell ⟨w.heap.size + 1 + 1, 0, none⟩ (.int .i64 (N : Int))).setCell ⟨w.heap.size + 1 + 1, 1, none⟩ (.slice A5 gs.length c5)).setCell ⟨w.heap.size + 1 + 1, 2, none⟩ (.slice O5 os.length d5)) :=
      ((Fr.set_ (G := fun k => k = w.heap.size + 1 + 1) w5 (p := ⟨w.heap.size + 1 + 1, 0, none⟩) _ rfl).trans (Fr.set_ (G := fun k => k = w.heap.size + 1 + 1) _ (p := ⟨w.heap.size + 1 + 1, 1, none⟩) _ rfl)).trans (Fr.set_ (G := fun k => k = w.heap.size + 1 + 1) _ (p := ⟨w.heap.size + 1 + 1, 2, none⟩) _ rfl)
    have M5 := (M3.out.of_fr (G := fun _ => False) (G' := fun _ => False) (Fr.of_below B4.out) (fun h => h)).of_fr (G := fun _ => False) (G' := fun _ => False) (Fr.of_below B5.out) (fun h => h)
    have M6 := M5.of_fr F6 (by omega)
    have B6 := (Z4.out.trans (B5.out.mono Z4.out.size)).trans (F6.below (B := w.heap.size) (fun k hk => by omega) (by have := Z4.out.size; have := B5.out.size; omega))
    have W6 := Lib.hid W6
    have M6 := Lib.hid M6
    have B6 := Lib.hid B6
    clear F6 M5 ng no
    generalize ((w5.setCell ⟨w.heap.size + 1 + 1, 0, none⟩ (.int .i64 (N : Int))).setCell ⟨w.heap.size + 1 + 1, 1, none⟩ (.slice A5 gs.length c5)).setCell ⟨w.heap.size + 1 + 1, 2, none⟩ (.slice O5 os.length d5) = w6 at *
    go_wp2_with fail
    (try go_ret)
    rw [← HQ.out]
    exact ⟨w.heap.size + 1 + 1, w.heap.size + 1, A5, O5, c5, d5, rfl, W6.out, M6.out, by omega, by omega, B6.out⟩)
end Go.Proofs.Ytnhkgkpjkgifoaa
