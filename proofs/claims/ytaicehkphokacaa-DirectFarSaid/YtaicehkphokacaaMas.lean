/- The walks of first and visit. -/
import Derived.Test.YtaicehkphokacaaMar
import Derived.Test.YtaicehkphokacaaMaj
import Derived.Test.YtaicehkphokacaaMaq
namespace Go.Proofs.Ytaicehkphokacaa
open Go.RowKit

/-- the sweep in memory -/
structure SW (w : World) (sb b0 : Nat) (AN AP : Option Addr) (m cN q cP gq cQ gr cR n : Nat) (N : List Int) (rs : List C3) : Prop where
  blk : Blk w sb 79 #[.slice AN m cN, .slice AP q cP, .slice (some ⟨gq, 0, none⟩) (q + 1) cQ, .slice (some ⟨gr, 0, none⟩) n cR]
  nm : w.ownsRow b0 3 1 (.slice (some ⟨gq, 0, none⟩) (q + 1) cQ) (q + 1) (il (N ++ [BY]))
  rd : w.ownsRow b0 97 3 (.slice (some ⟨gr, 0, none⟩) n cR) n (cg rs)
/-- the reader of an offset at a position -/
def rdr (N : List Int) (y o : Int) : C3 := (o, (cnt N (y + o) : Int), gN N (cnt N (y + o)) - o)
/-- the next position over the first readers -/
def fmn (os : List Int) (f : Int → Int) : Int := os.foldl (fun a o => min a (f o)) BY
theorem fmn_take (os : List Int) (f : Int → Int) (i : Nat) (h : i < os.length) : fmn (os.take (i + 1)) f = min (fmn (os.take i) f) (f (ig os i)) := by
  unfold fmn
  rw [List.take_add_one, List.getElem?_eq_getElem h, Option.toList, List.foldl_append]
  simp [ig, List.getD_eq_getElem?_getD, h]
theorem run_min2' (x y z : Int) (h : min x y = z) (w : World) (ts : Array TypeId) (t : TypeId) : (Builtin.min_ ts t #[.int .i64 x, .int .i64 y]).run Try.prog w = .ok (.int .i64 z) w := by rw [run_min2, h]
section
variable {w : World} {sb b0 : Nat} {AN AP : Option Addr} {m cN q cP gq cQ gr cR n : Nat} {N : List Int}
theorem SW.keep {w' : World} {rs : List C3} (h : SW w sb b0 AN AP m cN q cP gq cQ gr cR n N rs) (hb : Below w.heap.size w w') : SW w' sb b0 AN AP m cN q cP gq cQ gr cR n N rs := ⟨h.blk.below hb h.blk.lt, own_belowk h.nm hb, own_belowk h.rd hb⟩
/-- a reader's cells -/
theorem SW.at_ {rs : List C3} (h : SW w sb b0 AN AP m cN q cP gq cQ gr cR n N rs) {i : Nat} (hl : rs.length = n) (hi : i < n) : w.cell? ⟨gr, i * 3, none⟩ = some (.int .i64 (rs.getD i (0, 0, 0)).1) ∧ w.cell? ⟨gr, i * 3 + 1, none⟩ = some (.int .i64 (rs.getD i (0, 0, 0)).2.1) ∧ w.cell? ⟨gr, i * 3 + 2, none⟩ = some (.int .i64 (rs.getD i (0, 0, 0)).2.2) := by
  have hr := h.rd
  subst hl
  obtain ⟨g, o, e, _, hc⟩ := creads_cg hr (by omega)
  injection e with e
  injection e with e1 e2
  subst e1 e2
  have := hc i hi
  simpa using this
theorem SW.num {rs : List C3} (h : SW w sb b0 AN AP m cN q cP gq cQ gr cR n N rs) (hl : N.length = q) {i : Nat} (hi : i ≤ q) : w.cell? ⟨gq, i, none⟩ = some (.int .i64 (gN N i)) := by
  obtain ⟨ad0, e0, _, x0⟩ := il_at (Reads.of_own h.nm) (k := i) (by omega)
  injection e0 with e0
  subst e0
  rwa [gN_app N i (by omega), addz] at x0
set_option maxRecDepth 100000 in
set_option maxHeartbeats 4000000 in
theorem first_any {os : List Int} {y : Int} (h : SW w sb b0 AN AP m cN q cP gq cQ gr cR n N (os.map (rdr N y))) (hn : os.length = n) (hn25 : n ≤ 25) :
    Calls Try.prog 51 #[.pointer (some ⟨sb, 0, none⟩)] w fun e w' => e = .returned (.int .i64 (nxp N os y)) ∧ Below w.heap.size w w' := by
  have HS := Lib.hid h
  have HL := Lib.hid hn
  have HF := Lib.hid (show nxp N os y = fmn os (fun o => gN N (cnt N (y + o)) - o) from rfl)
  obtain ⟨_, _, _, q3, _⟩ := h.blk.four
  generalize nxp N os y = V at *
  clear h hn
  go_enter Try.func51, Try.ntmps51
  go_upto_region 3 with (fail)
  clear q3
  go_loopw [3, 11] (fun av iv wr => ∃ (i : Nat), i ≤ n ∧ av = .int .i64 (fmn (os.take i) (fun o => gN N (cnt N (y + o)) - o)) ∧ iv = .int .i64 (i : Int) ∧ Hid (Below w.heap.size w wr)) (fun _ iv _ => n - (intOf iv).toNat)
  case atStart => exact ⟨0, Nat.zero_le _, rfl, rfl, Lib.hid (Below.refl _ _)⟩
  case round =>
    obtain ⟨i, hi, rfl, rfl, HB⟩ := hrel
    by_cases hlt : i < n
    · have hiI : (i : Int) < (n : Int) := by omega
      have HS' := HS.out.keep HB.out
      obtain ⟨y0, y1, y2⟩ := HS'.at_ (i := i) (by simp [HL.out]) hlt
      have hg : (os.map (rdr N y)).getD i (0, 0, 0) = rdr N y (ig os i) := by simp [List.getD_eq_getElem?_getD, ig, show i < os.length by rw [HL.out]; exact hlt]
      rw [hg] at y0 y1 y2
      simp only [rdr] at y0 y1 y2
      have HT := fmn_take os (fun o => gN N (cnt N (y + o)) - o) i (by rw [HL.out]; exact hlt)
      (try simp only at HT)
      generalize ig os i = o at *
      generalize (cnt N (y + o) : Int) = ci at *
      generalize gN N (cnt N (y + o)) - o = v at *
      obtain ⟨a, ha⟩ : ∃ a, fmn (os.take i) (fun o => gN N (cnt N (y + o)) - o) = a := ⟨_, rfl⟩
      rw [ha] at HT ⊢
      obtain ⟨z, hz⟩ : ∃ z, min a v = z := ⟨_, rfl⟩
      rw [hz] at HT
      have HTT := Lib.hid HT
      have m1 := run_min2' a v z hz
      have A4 := Lib.hid ((Below.refl wr.heap.size wr).alloc (Nat.le_refl _) (.cells #[.int .i64 o, .int .i64 ci, .int .i64 v] 97))
      have K5 := Blk.new wr 97 #[.int .i64 o, .int .i64 ci, .int .i64 v]
      have HB4 := Lib.hid (HB.out.trans (A4.out.mono HB.out.size))
      clear HT hz ha hg HS'
      exact (by
        go_upto_region 5 with (fail)
        generalize wr.alloc (.cells #[.int .i64 o, .int .i64 ci, .int .i64 v] 97) = w4 at *
        obtain ⟨k0, k1, k2, _, _, _, k6⟩ := K5.three6
        clear y0 y1 y2
        go_wp2_with fail
        go_roundw
        case rel => exact ⟨i + 1, by omega, by rw [HTT.out], by go_num, HB4⟩
        case measure => simp [intOf]; omega)
    · obtain rfl : i = n := by omega
      have hot : os.take i = os := by rw [← HL.out]; exact List.take_length
      rw [hot, ← HF.out]
      go_wp2
      go_ret
      exact ⟨rfl, HB.out⟩
/-- some readers moved on -/
def rsk (N os : List Int) (z : Int) (i : Nat) : List C3 := (os.take i).map (rdr N (z + 1)) ++ (os.drop i).map (rdr N z)
theorem rsk_len (N os : List Int) (z : Int) (i : Nat) : (rsk N os z i).length = os.length := by
  unfold rsk
  rw [List.length_append, List.length_map, List.length_map, List.length_take, List.length_drop]
  omega
theorem rsk_at (N os : List Int) (z : Int) (i : Nat) (h : i < os.length) : (rsk N os z i).getD i (0, 0, 0) = rdr N z (ig os i) := by
  have h1 : ((os.take i).map (rdr N (z + 1))).length = i := by rw [List.length_map, List.length_take]; omega
  unfold rsk
  rw [List.getD_eq_getElem?_getD, List.getElem?_append_right (by omega), h1, Nat.sub_self, List.drop_eq_getElem_cons h]
  simp [ig, List.getD_eq_getElem?_getD, h]
theorem rsk_set (N os : List Int) (z : Int) (i : Nat) (h : i < os.length) : (rsk N os z i).set i (rdr N (z + 1) (ig os i)) = rsk N os z (i + 1) := by
  have h1 : ((os.take i).map (rdr N (z + 1))).length = i := by rw [List.length_map, List.length_take]; omega
  unfold rsk
  rw [List.set_append_right _ _ (by omega), h1, Nat.sub_self, List.drop_eq_getElem_cons h, List.map_cons, List.set_cons_zero, List.take_add_one, List.getElem?_eq_getElem h, List.map_append]
  simp [ig, List.getD_eq_getElem?_getD, h]
theorem cg_set1 : ∀ (gs : List C3) (i : Nat) (a : Int), i < gs.length → (cg gs).set (i * 3 + 1) (.int .i64 a) = cg (gs.set i ((gs.getD i (0, 0, 0)).1, a, (gs.getD i (0, 0, 0)).2.2))
  | [], _, _, h => absurd h (Nat.not_lt_zero _)
  | x :: r, 0, a, _ => by simp [cg]
  | x :: r, i + 1, a, h => by
    have h1 := cg_set1 r i a (by simpa using h)
    have e : ∀ (y : C3) (l : List C3), cg (y :: l) = .int .i64 y.1 :: .int .i64 y.2.1 :: .int .i64 y.2.2 :: cg l := fun y l => by simp [cg]
    rw [List.set_cons_succ, e, e, show (i + 1) * 3 + 1 = i * 3 + 1 + 1 + 1 + 1 by omega]
    simp only [List.set_cons_succ, List.getD_cons_succ]
    rw [h1]
theorem cg_set2 : ∀ (gs : List C3) (i : Nat) (a : Int), i < gs.length → (cg gs).set (i * 3 + 2) (.int .i64 a) = cg (gs.set i ((gs.getD i (0, 0, 0)).1, (gs.getD i (0, 0, 0)).2.1, a))
  | [], _, _, h => absurd h (Nat.not_lt_zero _)
  | x :: r, 0, a, _ => by simp [cg]
  | x :: r, i + 1, a, h => by
    have h1 := cg_set2 r i a (by simpa using h)
    have e : ∀ (y : C3) (l : List C3), cg (y :: l) = .int .i64 y.1 :: .int .i64 y.2.1 :: .int .i64 y.2.2 :: cg l := fun y l => by simp [cg]
    rw [List.set_cons_succ, e, e, show (i + 1) * 3 + 2 = i * 3 + 2 + 1 + 1 + 1 by omega]
    simp only [List.set_cons_succ, List.getD_cons_succ]
    rw [h1]
/-- a reader's field stored -/
theorem SW.st1 {rs : List C3} (h : SW w sb b0 AN AP m cN q cP gq cQ gr cR n N rs) (hl : rs.length = n) {i : Nat} (hi : i < n) (a : Int) :
    SW (w.setCell ⟨gr, i * 3 + 1, none⟩ (.int .i64 a)) sb b0 AN AP m cN q cP gq cQ gr cR n N (rs.set i ((rs.getD i (0, 0, 0)).1, a, (rs.getD i (0, 0, 0)).2.2)) ∧ Fr (fun k => k = gr) w (fun k => k = gr) (w.setCell ⟨gr, i * 3 + 1, none⟩ (.int .i64 a)) := by
  refine ⟨⟨h.blk.far (p := ⟨gr, i * 3 + 1, none⟩) (fun e => own_ob_ne h.rd h.blk (by decide) (by rw [e]; rfl)) _, own_set (p := ⟨gr, i * 3 + 1, none⟩) h.nm (fun e => own_ne2 h.nm h.rd (by decide) e rfl) _, ?_⟩, Fr.set_ (G := fun k => k = gr) w (p := ⟨gr, i * 3 + 1, none⟩) _ rfl⟩
  have := (h.rd.stored (i * 3 + 1) (.int .i64 a)).1
  rw [cg_set1 rs i a (by omega)] at this
  exact this
theorem SW.st2 {rs : List C3} (h : SW w sb b0 AN AP m cN q cP gq cQ gr cR n N rs) (hl : rs.length = n) {i : Nat} (hi : i < n) (a : Int) :
    SW (w.setCell ⟨gr, i * 3 + 2, none⟩ (.int .i64 a)) sb b0 AN AP m cN q cP gq cQ gr cR n N (rs.set i ((rs.getD i (0, 0, 0)).1, (rs.getD i (0, 0, 0)).2.1, a)) ∧ Fr (fun k => k = gr) w (fun k => k = gr) (w.setCell ⟨gr, i * 3 + 2, none⟩ (.int .i64 a)) := by
  refine ⟨⟨h.blk.far (p := ⟨gr, i * 3 + 2, none⟩) (fun e => own_ob_ne h.rd h.blk (by decide) (by rw [e]; rfl)) _, own_set (p := ⟨gr, i * 3 + 2, none⟩) h.nm (fun e => own_ne2 h.nm h.rd (by decide) e rfl) _, ?_⟩, Fr.set_ (G := fun k => k = gr) w (p := ⟨gr, i * 3 + 2, none⟩) _ rfl⟩
  have := (h.rd.stored (i * 3 + 2) (.int .i64 a)).1
  rw [cg_set2 rs i a (by omega)] at this
  exact this
theorem SW.drew {rs : List C3} (h : SW w sb b0 AN AP m cN q cP gq cQ gr cR n N rs) : SW w.drew sb b0 AN AP m cN q cP gq cQ gr cR n N rs := ⟨h.blk.drew, h.nm, h.rd⟩
end
end Go.Proofs.Ytaicehkphokacaa
