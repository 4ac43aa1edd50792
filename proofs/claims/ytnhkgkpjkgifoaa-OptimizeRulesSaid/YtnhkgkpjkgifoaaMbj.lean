/- The walk of the closure that shares a gate, and of share. -/
/- The walk of share. -/
import Derived.Test.YtnhkgkpjkgifoaaMbi
namespace Go.Proofs.Ytnhkgkpjkgifoaa
open Go.RowKit

section
variable {wk b0 N : Nat} {gs : List C3} {os ws : List Int} {A O V : Option Addr} {cA cO cV mb : Nat} {w : World}
set_option maxRecDepth 100000 in
set_option maxHeartbeats 4000000 in
theorem sh_found {s : C3 → Option Int} {gl : Nat} (h : WK wk b0 N gs os ws A O V cA cO cV mb w) (hm : GM w mb s) (hk : Blk w gl 69 #[.pointer (some ⟨wk, 0, none⟩)]) (op a b x y z v : Int) {n : Int} (hg : rg (op, a, b) n = true) (hord : ordF (op, a, b) = (x, y, z)) (r1 : i64r x) (r2 : i64r y) (r3 : i64r z) (hs : s (x, y, z) = some v) :
    Calls Try.prog 93 #[.agg #[.int .i64 op, .int .i64 a, .int .i64 b], .pointer (some ⟨gl, 0, none⟩)] w fun e w' => e = .returned (.tuple #[.agg #[.int .i64 x, .int .i64 y, .int .i64 z], .int .i64 v]) ∧ Below w.heap.size w w' := by
  obtain ⟨_, _, _, c3, c4, c5⟩ := h.blk.five
  have pg := hk.cell 0
  have K5 := (Blk.new w 57 #[.int .i64 op, .int .i64 a, .int .i64 b]).alloc (.cells #[.int .i64 0, .int .i64 0, .int .i64 0] 57)
  have K8 := Blk.new (w.alloc (.cells #[.int .i64 op, .int .i64 a, .int .i64 b] 57)) 57 #[.int .i64 0, .int .i64 0, .int .i64 0]
  rw [World.size_alloc] at K8
  have B0 : Below w.heap.size w ((w.alloc (.cells #[.int .i64 op, .int .i64 a, .int .i64 b] 57)).alloc (.cells #[.int .i64 0, .int .i64 0, .int .i64 0] 57)) := ((Below.refl _ w).alloc (Nat.le_refl _) _).alloc (by simp) _
  have Z3 := Lib.hid (fun w' (hb : Below w.heap.size w w') => (hb.cell (p := ⟨wk, 3, none⟩) c5).trans c3)
  have Z4 := Lib.hid (fun w' (hb : Below w.heap.size w w') => (hb.cell (p := ⟨wk, 4, none⟩) c5).trans c4)
  have ZP := Lib.hid (fun w' (hb : Below w.heap.size w w') => ((hb.cell (p := ⟨gl, 0, none⟩) hk.lt).trans pg).trans (show (#[_] : Array Value)[0]? = some (.pointer (some ⟨wk, 0, none⟩)) from rfl))
  have OR := Lib.hid (fun w' => show Calls Try.prog 94 #[.agg #[.int .i64 op, .int .i64 a, .int .i64 b]] w' fun e w'' => e = .returned (.agg #[.int .i64 x, .int .i64 y, .int .i64 z]) ∧ Below w'.heap.size w' w'' from by
    have q := ordered_any (op, a, b) hg w'
    rw [hord] at q
    exact q)
  clear h hk c3 c4 c5 pg hg hord Z3
  go_enter Try.func93, Try.ntmps93
  go_upto_region 1 with (fail)
  generalize (w.alloc (.cells #[.int .i64 op, .int .i64 a, .int .i64 b] 57)).alloc (.cells #[.int .i64 0, .int .i64 0, .int .i64 0] 57) = w1 at *
  obtain ⟨a0, a1, a2, a3, a4, a5, a6⟩ := K5.three6
  have K5 := Lib.hid K5
  have K8 := Lib.hid K8
  have B0 := Lib.hid B0
  go_upto_region 2 with (go_at_call 94; (with_reducible refine (OR.out _).mono ?_); rintro e w2 ⟨rfl, hb⟩; have B2 := Lib.hid (B0.out.trans (hb.mono B0.out.size)); have K52 := Lib.hid (K5.out.below hb K5.out.lt); have K82 := Lib.hid (K8.out.below hb K8.out.lt); clear a0 a1 a2 a3 a4 a5 a6; obtain ⟨a0, a1, a2, a3, a4, a5, a6⟩ := K52.out.three6; clear hb)
  have K53 := K52.out.tri (.int .i64 x) (.int .i64 y) (.int .i64 z)
  have hne : w.heap.size + 1 ≠ w.heap.size := by omega
  have K83 := ((K82.out.far (p := ⟨w.heap.size, 0, none⟩) hne (.int .i64 x)).far (p := ⟨w.heap.size, 1, none⟩) hne (.int .i64 y)).far (p := ⟨w.heap.size, 2, none⟩) hne (.int .i64 z)
  have B3 := ((B2.out.setCell (p := ⟨w.heap.size, 0, none⟩) (Nat.le_refl _) (.int .i64 x)).setCell (p := ⟨w.heap.size, 1, none⟩) (Nat.le_refl _) (.int .i64 y)).setCell (p := ⟨w.heap.size, 2, none⟩) (Nat.le_refl _) (.int .i64 z)
  clear a0 a1 a2 a3 a4 a5 a6 K5 K8 B0
  generalize ((w2.setCell ⟨w.heap.size, 0, none⟩ (.int .i64 x)).setCell ⟨w.heap.size, 1, none⟩ (.int .i64 y)).setCell ⟨w.heap.size, 2, none⟩ (.int .i64 z) = v0 at *
  have p0 := ZP.out v0 B3
  have z4 := Z4.out v0 B3
  obtain ⟨a0, a1, a2, _, _, _, _⟩ := K53.three6
  have hm0 := hm.of_fr (G := fun _ => False) (G' := fun _ => False) (Fr.of_below B3) (fun h => h)
  have lk : ∀ k, (Instr.lookup 71 (.map (some mb)) (.agg #[.int .i64 x, .int .i64 y, .int .i64 z]) true).run Try.prog (v0.drewN k) = .ok (.tuple #[.int .i64 v, .bool true]) (v0.drewN k) := fun k => by
    have q := GM.look (w := v0.drewN k) (g := (x, y, z)) hm0 r1 r2 r3
    rw [hs] at q
    exact q
  clear hm hm0 hs r1 r2 r3
  go_quiet (fail)
  have B4 := below_drewN B3 nq
  have K54 := K53.drewN nq
  have K84 := K83.drewN nq
  clear lk p0 z4 a0 a1 a2 B3 K53 K83
  generalize v0.drewN nq = v1 at *
  obtain ⟨a0, a1, a2, _, _, _, _⟩ := K54.three6
  obtain ⟨q0, q1, q2, q3, q4, q5, q6⟩ := K84.three6
  go_wp2
  have KZ := K84.tri (.int .i64 x) (.int .i64 y) (.int .i64 z)
  obtain ⟨e0, e1', e2, _, _, _, _⟩ := KZ.three6
  exact bodyPost_ret (v := .tuple #[.agg #[.int .i64 x, .int .i64 y, .int .i64 z], .int .i64 v]) (by simp [results, Try.results93, go_sem, e0, e1', e2]) rfl ⟨rfl, ((B4.setCell (p := ⟨w.heap.size + 1, 0, none⟩) (Nat.le_succ _) _).setCell (p := ⟨w.heap.size + 1, 1, none⟩) (Nat.le_succ _) _).setCell (p := ⟨w.heap.size + 1, 2, none⟩) (Nat.le_succ _) _⟩
set_option maxRecDepth 100000 in
set_option maxHeartbeats 4000000 in
theorem sh_new {s : C3 → Option Int} {gl : Nat} (h : WK wk b0 N gs os ws A O V cA cO cV mb w) (hm : GM w mb s) (hk : Blk w gl 69 #[.pointer (some ⟨wk, 0, none⟩)]) (op a b x y z : Int) {n : Int} (hg : rg (op, a, b) n = true) (hord : ordF (op, a, b) = (x, y, z)) (r1 : i64r x) (r2 : i64r y) (r3 : i64r z) (hs : s (x, y, z) = none) :
    Calls Try.prog 93 #[.agg #[.int .i64 op, .int .i64 a, .int .i64 b], .pointer (some ⟨gl, 0, none⟩)] w fun e w' => e = .returned (.tuple #[.agg #[.int .i64 x, .int .i64 y, .int .i64 z], .int .i64 (ws.length : Int)]) ∧ GM w' mb (fun k => if k = (x, y, z) then some (ws.length : Int) else s k) ∧ Fr (fun k => k = mb) w (fun k => k = mb) w' := by
  obtain ⟨_, _, _, c3, c4, c5⟩ := h.blk.five
  have pg := hk.cell 0
  have K5 := (Blk.new w 57 #[.int .i64 op, .int .i64 a, .int .i64 b]).alloc (.cells #[.int .i64 0, .int .i64 0, .int .i64 0] 57)
  have K8 := Blk.new (w.alloc (.cells #[.int .i64 op, .int .i64 a, .int .i64 b] 57)) 57 #[.int .i64 0, .int .i64 0, .int .i64 0]
  rw [World.size_alloc] at K8
  have B0 : Below w.heap.size w ((w.alloc (.cells #[.int .i64 op, .int .i64 a, .int .i64 b] 57)).alloc (.cells #[.int .i64 0, .int .i64 0, .int .i64 0] 57)) := ((Below.refl _ w).alloc (Nat.le_refl _) _).alloc (by simp) _
  have Z3 := Lib.hid (fun w' (hb : Below w.heap.size w w') => (hb.cell (p := ⟨wk, 3, none⟩) c5).trans c3)
  have Z4 := Lib.hid (fun w' (hb : Below w.heap.size w w') => (hb.cell (p := ⟨wk, 4, none⟩) c5).trans c4)
  have ZP := Lib.hid (fun w' (hb : Below w.heap.size w w') => ((hb.cell (p := ⟨gl, 0, none⟩) hk.lt).trans pg).trans (show (#[_] : Array Value)[0]? = some (.pointer (some ⟨wk, 0, none⟩)) from rfl))
  have OR := Lib.hid (fun w' => show Calls Try.prog 94 #[.agg #[.int .i64 op, .int .i64 a, .int .i64 b]] w' fun e w'' => e = .returned (.agg #[.int .i64 x, .int .i64 y, .int .i64 z]) ∧ Below w'.heap.size w' w'' from by
    have q := ordered_any (op, a, b) hg w'
    rw [hord] at q
    exact q)
  have HW := Lib.hid h
  have HK := Lib.hid hk
  obtain ⟨nv, hnv⟩ : ∃ nv, ws.length = nv := ⟨_, rfl⟩
  rw [hnv] at Z3 ⊢
  have HNV := Lib.hid hnv
  clear h hk c3 c4 c5 pg hg hord hnv
  go_enter Try.func93, Try.ntmps93
  go_upto_region 1 with (fail)
  generalize (w.alloc (.cells #[.int .i64 op, .int .i64 a, .int .i64 b] 57)).alloc (.cells #[.int .i64 0, .int .i64 0, .int .i64 0] 57) = w1 at *
  obtain ⟨a0, a1, a2, a3, a4, a5, a6⟩ := K5.three6
  have K5 := Lib.hid K5
  have K8 := Lib.hid K8
  have B0 := Lib.hid B0
  go_upto_region 2 with (go_at_call 94; (with_reducible refine (OR.out _).mono ?_); rintro e w2 ⟨rfl, hb⟩; have B2 := Lib.hid (B0.out.trans (hb.mono B0.out.size)); have K52 := Lib.hid (K5.out.below hb K5.out.lt); have K82 := Lib.hid (K8.out.below hb K8.out.lt); clear a0 a1 a2 a3 a4 a5 a6; obtain ⟨a0, a1, a2, a3, a4, a5, a6⟩ := K52.out.three6; clear hb)
  have K53 := K52.out.tri (.int .i64 x) (.int .i64 y) (.int .i64 z)
  have hne : w.heap.size + 1 ≠ w.heap.size := by omega
  have K83 := ((K82.out.far (p := ⟨w.heap.size, 0, none⟩) hne (.int .i64 x)).far (p := ⟨w.heap.size, 1, none⟩) hne (.int .i64 y)).far (p := ⟨w.heap.size, 2, none⟩) hne (.int .i64 z)
  have B3 := ((B2.out.setCell (p := ⟨w.heap.size, 0, none⟩) (Nat.le_refl _) (.int .i64 x)).setCell (p := ⟨w.heap.size, 1, none⟩) (Nat.le_refl _) (.int .i64 y)).setCell (p := ⟨w.heap.size, 2, none⟩) (Nat.le_refl _) (.int .i64 z)
  clear a0 a1 a2 a3 a4 a5 a6 K5 K8 B0
  generalize ((w2.setCell ⟨w.heap.size, 0, none⟩ (.int .i64 x)).setCell ⟨w.heap.size, 1, none⟩ (.int .i64 y)).setCell ⟨w.heap.size, 2, none⟩ (.int .i64 z) = v0 at *
  have p0 := ZP.out v0 B3
  have z4 := Z4.out v0 B3
  obtain ⟨a0, a1, a2, _, _, _, _⟩ := K53.three6
  have hm0 := hm.of_fr (G := fun _ => False) (G' := fun _ => False) (Fr.of_below B3) (fun h => h)
  have lk : ∀ k, (Instr.lookup 71 (.map (some mb)) (.agg #[.int .i64 x, .int .i64 y, .int .i64 z]) true).run Try.prog (v0.drewN k) = .ok (.tuple #[.int .i64 0, .bool false]) (v0.drewN k) := fun k => by
    have q := GM.look (w := v0.drewN k) (g := (x, y, z)) hm0 r1 r2 r3
    rw [hs] at q
    exact q
  have HS := Lib.hid hs
  clear hs hm
  go_quiet (fail)
  have B4 := below_drewN B3 nq
  have K54 := K53.drewN nq
  have K84 := K83.drewN nq
  have hm4 : GM (v0.drewN nq) mb s := hm0
  clear lk p0 z4 a0 a1 a2 B3 K53 K83 hm0
  generalize v0.drewN nq = v1 at *
  obtain ⟨a0, a1, a2, _, _, _, _⟩ := K54.three6
  have p0 := ZP.out v1 B4
  have z4 := Z4.out v1 B4
  have z3 := Z3.out v1 B4
  obtain ⟨v2, hrun, hgm, _, hfr⟩ := GM.store (w := v1.drew) (g := (x, y, z)) hm4 (nv : Int) r1 r2 r3
  simp only [gV, iV] at hrun
  have HGM := Lib.hid hgm
  have HFR := Lib.hid hfr
  have HM4 := Lib.hid hm4
  have K54 := Lib.hid K54
  have K84 := Lib.hid K84
  have B4 := Lib.hid B4
  clear hgm hfr hm4 r1 r2 r3
  go_upto_region 5 with (fail)
  go_region
  all_goals
    have F2 := Lib.hid (show Fr (fun k => k = mb) v1 (fun k => k = mb) v2 from ⟨HFR.out.os, HFR.out.tape, HFR.out.output, HFR.out.size, HFR.out.block, HFR.out.new⟩)
    have K55 := Lib.hid (F2.out.blk K54.out (HM4.out.ne_blk K54.out))
    have K85 := Lib.hid (F2.out.blk K84.out (HM4.out.ne_blk K84.out))
    clear hrun a0 a1 a2 p0 z4 z3
    have HW4 := HW.out.keep (Fr.of_below (G := fun _ => False) B4.out) (fun _ _ h => h)
    have HW5 := HW4.keep F2.out (fun k hk e => by subst e; exact HM4.out.ne HW4 hk)
    have HP := F2.out.blk (HK.out.below B4.out HK.out.lt) (HM4.out.ne_blk (HK.out.below B4.out HK.out.lt))
    have p0 := (HP.cell 0).trans (show (#[_] : Array Value)[0]? = some _ from rfl)
    have KE := Lib.hid (kept_any HW5.rk x y z)
    rw [HNV.out] at KE
    obtain ⟨a0, a1, a2, _, _, _, _⟩ := K55.out.three6
    clear HW4 HW5 HP
    go_wp2_with (go_at_call 88; (with_reducible refine (KE.out).mono ?_); rintro e v3 ⟨rfl, hb⟩; have B6 := Lib.hid hb; have K86 := Lib.hid (K85.out.below hb K85.out.lt); obtain ⟨q0, q1, q2, q3, q4, q5, q6⟩ := K86.out.three6; clear hb)
    have KZ := K86.out.tri (.int .i64 x) (.int .i64 y) (.int .i64 z)
    obtain ⟨e0, e1', e2, _, _, _, _⟩ := KZ.three6
    have hmne : mb ≠ w.heap.size + 1 := fun e => HM4.out.ne_blk K84.out e.symm
    have hfar : ∀ (W : World) (j : Nat) (u : Value), Fr (fun k => k = w.heap.size + 1) W (fun k => k = w.heap.size + 1) (W.setCell ⟨w.heap.size + 1, j, none⟩ u) := fun W j u => Fr.set_ W (p := ⟨w.heap.size + 1, j, none⟩) u rfl
    have F9 := ((hfar v3 0 (.int .i64 x)).trans (hfar _ 1 (.int .i64 y))).trans (hfar _ 2 (.int .i64 z))
    refine bodyPost_ret (v := .tuple #[.agg #[.int .i64 x, .int .i64 y, .int .i64 z], .int .i64 (nv : Int)]) (by simp [results, Try.results93, go_sem, e0, e1', e2]) rfl ⟨rfl, ?_, ?_⟩
    · exact ((HGM.out.of_fr (G := fun _ => False) (G' := fun _ => False) (Fr.of_below B6.out) (fun h => h)).of_fr F9 hmne)
    · have F0 : Fr (fun k => k = mb) w (fun k => k = mb) v3 := ((Fr.of_below B4.out).trans F2.out).trans (Fr.of_below B6.out)
      have s0 := F0.size
      refine ⟨F9.os.trans F0.os, F9.tape.trans F0.tape, F9.output.trans F0.output, Nat.le_trans F0.size F9.size, fun k hk hn => (F9.block k (by omega) (fun e => by subst e; omega)).trans (F0.block k hk hn), fun k hk => .inl hk⟩
end
end Go.Proofs.Ytnhkgkpjkgifoaa
namespace Go.Proofs.Ytnhkgkpjkgifoaa
open Go.RowKit

theorem rg_r {x y z n : Int} (h : rg (x, y, z) n = true) (hn : n ≤ 100000) : i64r x ∧ i64r y ∧ i64r z := by
  unfold i64r
  rcases rg_cases h with ⟨ho, rfl, rfl⟩ | ⟨rfl, h0, ha, rfl⟩ | ⟨ho, h0, ha, h1, hb⟩ <;> omega
section
variable {wk b0 N : Nat} {gs : List C3} {os ws : List Int} {A O V : Option Addr} {cA cO cV mb : Nat} {w : World}
theorem share1_any {s : C3 → Option Int} {gl : Nat} {ds rest : List C3} (h : WK wk b0 N (ds ++ rest) os ws A O V cA cO cV mb w) (hi : IWs gl wk mb s w) (m : C3) (hl : ws.length = N + ds.length) (hN : N ≤ 1000) (hlen : (ds ++ rest).length ≤ 20000) (hg : rg m ((N : Int) + (ds.length : Int)) = true) :
    Calls Try.prog 93 #[gV m, .pointer (some ⟨gl, 0, none⟩)] w fun e w2 => e = .returned (aV (shareR N s ds m).1) ∧ IWs gl wk mb (shareR N s ds m).2 w2 ∧ WK wk b0 N (ds ++ rest) os ws A O V cA cO cV mb w2 ∧ Fr (fun k => k = mb) w (fun k => k = mb) w2 := by
  obtain ⟨hk, hm⟩ := hi
  have ho := (ord_ok (ds := ds) hg).1
  have hdl : ds.length ≤ 20000 := by simp at hlen; omega
  have hown : ((ws.length : Nat) : Int) = (N : Int) + (ds.length : Int) := by rw [hl]; push_cast; rfl
  obtain ⟨op, a, b⟩ := m
  obtain ⟨⟨x, y, z⟩, hx⟩ : ∃ r, ordF (op, a, b) = r := ⟨_, rfl⟩
  rw [hx] at ho
  obtain ⟨r1, r2, r3⟩ := rg_r ho (by omega)
  have keepW : ∀ {w2 : World}, Fr (fun k => k = mb) w (fun k => k = mb) w2 → WK wk b0 N (ds ++ rest) os ws A O V cA cO cV mb w2 := fun hf => h.keep hf (fun k hk e => by subst e; exact hm.ne h hk)
  unfold shareR
  rw [hx]
  cases hs : s (x, y, z) with
  | some v =>
    refine (sh_found h hm hk op a b x y z v hg hx r1 r2 r3 hs).mono fun e w2 ⟨he, hb⟩ => ?_
    exact ⟨he, ⟨hk.below hb hk.lt, hm.of_fr (G := fun _ => False) (G' := fun _ => False) (Fr.of_below hb) (fun h => h)⟩, keepW (Fr.of_below hb), Fr.of_below hb⟩
  | none =>
    refine (sh_new h hm hk op a b x y z hg hx r1 r2 r3 hs).mono fun e w2 ⟨he, h1, hf⟩ => ?_
    rw [hown] at he h1
    exact ⟨he, ⟨hf.blk hk (hm.ne_blk hk), h1⟩, keepW hf, hf⟩
set_option maxRecDepth 100000 in
set_option maxHeartbeats 4000000 in
theorem share_any {S : C3 → Option Int} (h : WK wk b0 N gs os ws A O V cA cO cV mb w) (hm : GM w mb S) (hc : COk N gs os) (hol : os.length ≤ 1000) :
    Calls Try.prog 54 #[.pointer (some ⟨wk, 0, none⟩)] w fun e w' => OpOut wk b0 N (shareC N gs os).1 (shareC N gs os).2 A O V cA cO mb w e w' := by
  have K1 := Blk.new w 69 #[.pointer (some ⟨wk, 0, none⟩)]
  have B1 := (Below.refl w.heap.size w).alloc (Nat.le_refl _) (.cells #[.pointer (some ⟨wk, 0, none⟩)] 69)
  have hm1 := hm.of_fr (G := fun _ => False) (G' := fun _ => False) (Fr.of_below B1) (fun h => h)
  have h1 := h.later B1
  have c4 := h1.blk.five.2.2.2.2.1
  have p0 := (K1.cell 0).trans (show (#[_] : Array Value)[0]? = some _ from rfl)
  obtain ⟨w2, hrun, hm2, hf2⟩ := GM.clear hm1
  have h2 := h1.keep hf2 (fun k hk e => by subst e; exact hm1.ne h1 hk)
  have K2 := hf2.blk K1 (hm1.ne_blk K1)
  have PC := Lib.hid (process_any 93 #[.pointer (some ⟨w.heap.size, 0, none⟩)] (enters_of Try.func93 (by kernel_rfl) rfl) (shareR N) (shInv N) (share_step N) (IWs w.heap.size wk mb) (fun _ => none) (fun g w h => by cases h) h2 hc hol ⟨K2, hm2⟩
    (fun s gs' os' ws' V' cV' w1 w2 G' hw ⟨q1, q2⟩ hf => ⟨hf.blk q1 (hw.ne_ptr q1), q2.of_fr hf (q2.ne hw)⟩)
    (fun s ds rest ws' V' cV' w1 m hw hi hl hlen hg => share1_any hw hi m hl hc.n hlen hg))
  have p2 := (K2.cell 0).trans (show (#[_] : Array Value)[0]? = some _ from rfl)
  have HB := Lib.hid B1
  have HF := Lib.hid hf2
  obtain ⟨Q, hQ⟩ : ∃ Q, OpOut wk b0 N (shareC N gs os).1 (shareC N gs os).2 A O V cA cO mb w = Q := ⟨_, rfl⟩
  have HQ := Lib.hid hQ
  rw [hQ]
  clear h hm hc B1 hQ K1 hm1 h1 h2 hm2 hf2 K2
  go_enter Try.func54, Try.ntmps54
  go_wp2_with (go_at_call 83; (with_reducible refine (PC.out).mono ?_); rintro e w3 ⟨rfl, V1, cV1, hw1, hi1, hf1⟩; have W1 := Lib.hid hw1; have I1 := Lib.hid hi1; have F1 := Lib.hid hf1; clear hw1 hi1 hf1)
  go_end0
  rw [← HQ.out]
  exact ⟨rfl, _, V1, cV1, W1.out, ⟨_, I1.out.2⟩, ((fr5b HB.out).trans (fr5m HF.out)).trans F1.out⟩
end
end Go.Proofs.Ytnhkgkpjkgifoaa
