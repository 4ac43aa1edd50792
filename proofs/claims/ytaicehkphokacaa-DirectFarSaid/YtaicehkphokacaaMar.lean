/- The walk of newSweep. -/
import Derived.Test.YtaicehkphokacaaMaq
import Derived.Test.YtaicehkphokacaaMah
namespace Go.Proofs.Ytaicehkphokacaa
open Go.RowKit

theorem Below.alloc' {w0 w : World} (h : Below w0.heap.size w0 w) (o : Obj) : Below w0.heap.size w0 (w.alloc o) := h.alloc h.size o
theorem Below.drew' {B : Nat} {w0 w : World} (h : Below B w0 w) : Below B w0 w.drew := h.drew
section
variable (w : World) (c : Array Value) (t : TypeId) (o o' : Obj)
theorem b_at0 : Blk ((((w.alloc (.cells c t)).alloc o).alloc o').drew) w.heap.size t c := (((Blk.new w t c).alloc o).alloc o').drew
theorem b_at1 : Blk ((((w.alloc o).alloc (.cells c t)).alloc o').drew) (w.heap.size + 1) t c := by
  have := Blk.new (w.alloc o) t c
  rw [World.size_alloc] at this
  exact (this.alloc o').drew
theorem b_at2 : Blk ((((w.alloc o).alloc o').alloc (.cells c t)).drew) (w.heap.size + 1 + 1) t c := by
  have := Blk.new ((w.alloc o).alloc o') t c
  rw [World.size_alloc, World.size_alloc] at this
  exact this.drew
variable (size cap : Nat)
theorem o_at0 (hm : cap ≤ maxLen) (hs : c.size = cap * size) : ((((w.alloc (.cells c t)).alloc o).alloc o').drew).ownsRow w.heap.size t size (.slice (some ⟨w.heap.size, 0, none⟩) 0 cap) 0 [] :=
  own_belowk (World.ownsRow_made w c cap (Nat.le_refl _) hm hs) (Below.drew' (Below.alloc' (Below.alloc' (Below.refl _ _) _) _))
theorem o_at1 (hm : cap ≤ maxLen) (hs : c.size = cap * size) : ((((w.alloc o).alloc (.cells c t)).alloc o').drew).ownsRow w.heap.size t size (.slice (some ⟨w.heap.size + 1, 0, none⟩) 0 cap) 0 [] := by
  have h := World.ownsRow_made (base := w.heap.size) (e := t) (size := size) (w.alloc o) c cap (by simp) hm hs
  rw [World.size_alloc] at h
  exact own_belowk h (Below.drew' (Below.alloc' (Below.refl _ _) _))
theorem o_at2 (hm : cap ≤ maxLen) (hs : c.size = cap * size) : ((((w.alloc o).alloc o').alloc (.cells c t)).drew).ownsRow w.heap.size t size (.slice (some ⟨w.heap.size + 1 + 1, 0, none⟩) 0 cap) 0 [] := by
  have h := World.ownsRow_made (base := w.heap.size) (e := t) (size := size) ((w.alloc o).alloc o') c cap (by simp; omega) hm hs
  rw [World.size_alloc, World.size_alloc] at h
  exact own_belowk h (Below.drew' (Below.refl _ _))
end
theorem info_reader : (Try.prog.info? 97).map (fun i => (i.zero, i.size, i.bytes)) = some (some (.agg #[.int .i64 0, .int .i64 0, .int .i64 0]), 3, 24) := by kernel_rfl
/-- a make of capacity c as one fact -/
theorem mk_cap (t e : TypeId) (i : TypeInfo) (z : Value) (size : Nat) (ht : Try.prog.underlying t = some (.slice e)) (hi : Try.prog.info? e = some i) (hz : i.zero = some z) (hs : i.size = size) (c : Nat) (hb : i.bytes * c ≤ 281474976710656) (hc : c ≤ maxLen) :
    ∃ Z : Array Value, Z.size = c * size ∧ ∀ w : World, (Instr.makeSlice t (.int .i64 0) (.int .i64 (c : Int))).run Try.prog w = .ok (.slice (some ⟨w.heap.size, 0, none⟩) 0 c) (w.alloc (.cells Z e)) := by
  have h63 : (c : Int) ≤ 9223372036854775807 := by
    have h := hc
    simp [maxLen] at h
    omega
  have hb' : (i.bytes : Int) * (c : Int) ≤ 281474976710656 := by
    have h : ((i.bytes * c : Nat) : Int) ≤ 281474976710656 := by omega
    rwa [Int.natCast_mul] at h
  refine ⟨madeCells z.cells (c * i.size), by rw [size_madeCells, hs], fun w => ?_⟩
  have hr := run_make (P := Try.prog) w t e i z ht hi hz .i64 .i64 0 c (Int.le_refl _) (by omega) hb' h63
  simp only [Int.toNat_zero, Int.toNat_natCast] at hr
  exact hr
/-- the offset of a position of the neighbourhood -/
def offN (d : P2) : Int := d.2 * 2097157 + d.1
def offL (T : Tr) : List Int := (List.range T.n).map fun k => offN (T.f k)
theorem offL_len (T : Tr) : (offL T).length = T.n := by simp [offL]
/-- the readers at the first position -/
def rd0 (N : List Int) (os : List Int) : List C3 := os.map fun o => (o, 0, gN N 0 - o)
theorem nums_take (p : List C3) (i : Nat) (h : i < p.length) : nums (p.take (i + 1)) = nums (p.take i) ++ [nmb (p.getD i (0, 0, 0)).1 (p.getD i (0, 0, 0)).2.1] := by
  unfold nums
  rw [List.take_add_one, List.map_append, List.getElem?_eq_getElem h]
  simp [List.getD_eq_getElem?_getD, h]
theorem il_add (l : List Int) (x : Int) : il (l ++ [x]) = il l ++ [.int .i64 x] := by simp [il]
theorem gN0_bd {p : List C3} (h : ∀ c ∈ p, okc c.1 ∧ okc c.2.1) : 0 ≤ gN (nums p) 0 ∧ gN (nums p) 0 ≤ BY := by
  cases p with
  | nil => exact ⟨by decide, by decide⟩
  | cons c r =>
    have e : gN (nums (c :: r)) 0 = nmb c.1 c.2.1 := by simp [gN, nums]
    obtain ⟨h1, h2⟩ := h c (by simp)
    have := nmb_lt h1 h2
    rw [e]
    unfold BY
    omega
theorem gN_app (N : List Int) (i : Nat) (h : i ≤ N.length) : ig (N ++ [BY]) i = gN N i := by
  unfold ig gN
  rw [List.getD_eq_getElem?_getD, List.getD_eq_getElem?_getD]
  rcases Nat.lt_or_ge i N.length with h' | h'
  · rw [List.getElem?_append_left h', List.getElem?_eq_getElem h']; rfl
  · obtain rfl : i = N.length := by omega
    simp
/-- a reader more -/
theorem nw_rd {w4 w5 : World} {B gs gq g' i q1 cQ c2 gr cR : Nat} {a b : Value} {xs ys : List Value} {x y z : Value} (hgs : B ≤ gs) (hB : B ≤ w4.heap.size) (K : Blk w4 gs 79 #[a, b, .slice (some ⟨gq, 0, none⟩) q1 cQ, .slice (some ⟨gr, 0, none⟩) i cR])
    (OQ : w4.ownsRow B 3 1 (.slice (some ⟨gq, 0, none⟩) q1 cQ) q1 xs) (OR : w4.ownsRow B 97 3 (.slice (some ⟨gr, 0, none⟩) i cR) i ys) (hown : w5.ownsRow B 97 3 (.slice (some ⟨g', 0, none⟩) (i + 1) c2) (i + 1) (ys ++ [x, y, z])) (hf : Fr (ob (some ⟨gr, 0, none⟩)) w4 (ob (some ⟨g', 0, none⟩)) w5) :
    Blk (w5.setCell ⟨gs, 3, none⟩ (.slice (some ⟨g', 0, none⟩) (i + 1) c2)) gs 79 #[a, b, .slice (some ⟨gq, 0, none⟩) q1 cQ, .slice (some ⟨g', 0, none⟩) (i + 1) c2] ∧ (w5.setCell ⟨gs, 3, none⟩ (.slice (some ⟨g', 0, none⟩) (i + 1) c2)).ownsRow B 97 3 (.slice (some ⟨g', 0, none⟩) (i + 1) c2) (i + 1) (ys ++ [x, y, z]) ∧
      (w5.setCell ⟨gs, 3, none⟩ (.slice (some ⟨g', 0, none⟩) (i + 1) c2)).ownsRow B 3 1 (.slice (some ⟨gq, 0, none⟩) q1 cQ) q1 xs ∧ Below B w4 (w5.setCell ⟨gs, 3, none⟩ (.slice (some ⟨g', 0, none⟩) (i + 1) c2)) := by
  have K5 := hf.blk K (own_ob_ne OR K (by decide))
  have R5 := hf.row OQ (fun g hg e => own_ne2 OQ OR (by decide) hg (ob_own.1 e))
  refine ⟨?_, ?_, ?_, ?_⟩
  · have := K5.set_ 3 (.slice (some ⟨g', 0, none⟩) (i + 1) c2)
    simpa using this
  · exact own_set hown (fun e => own_ob_ne hown K5 (by decide) (ob_own.2 e)) _
  · exact own_set R5 (fun e => own_ob_ne R5 K5 (by decide) (ob_own.2 e)) _
  · exact (hf.below (B := B) (fun k hk => (ob_ge OR k hk).1) hB).setCell (p := ⟨gs, 3, none⟩) hgs _
theorem rd0_take (N : List Int) (os : List Int) (i : Nat) (h : i < os.length) : cg (rd0 N (os.take (i + 1))) = cg (rd0 N (os.take i)) ++ [.int .i64 (ig os i), .int .i64 0, .int .i64 (gN N 0 - ig os i)] := by
  unfold rd0
  rw [List.take_add_one, List.map_append, List.getElem?_eq_getElem h]
  simp [cg, ig, List.getD_eq_getElem?_getD, h]
/-- a number more -/
theorem nw_num {w4 w5 : World} {B gs gq g' i cQ c2 gr n0 cR : Nat} {a b d : Value} {l : List Int} {v : Int} {xs : List Value} (hgs : B ≤ gs) (hB : B ≤ w4.heap.size) (K : Blk w4 gs 79 #[a, b, .slice (some ⟨gq, 0, none⟩) i cQ, d])
    (OQ : w4.ownsRow B 3 1 (.slice (some ⟨gq, 0, none⟩) i cQ) i (il l)) (OR : w4.ownsRow B 97 3 (.slice (some ⟨gr, 0, none⟩) n0 cR) n0 xs) (hown : w5.ownsRow B 3 1 (.slice (some ⟨g', 0, none⟩) (i + 1) c2) (i + 1) (il l ++ [.int .i64 v])) (hf : Fr (ob (some ⟨gq, 0, none⟩)) w4 (ob (some ⟨g', 0, none⟩)) w5) :
    Blk (w5.setCell ⟨gs, 2, none⟩ (.slice (some ⟨g', 0, none⟩) (i + 1) c2)) gs 79 #[a, b, .slice (some ⟨g', 0, none⟩) (i + 1) c2, d] ∧ (w5.setCell ⟨gs, 2, none⟩ (.slice (some ⟨g', 0, none⟩) (i + 1) c2)).ownsRow B 3 1 (.slice (some ⟨g', 0, none⟩) (i + 1) c2) (i + 1) (il (l ++ [v])) ∧
      (w5.setCell ⟨gs, 2, none⟩ (.slice (some ⟨g', 0, none⟩) (i + 1) c2)).ownsRow B 97 3 (.slice (some ⟨gr, 0, none⟩) n0 cR) n0 xs ∧ Below B w4 (w5.setCell ⟨gs, 2, none⟩ (.slice (some ⟨g', 0, none⟩) (i + 1) c2)) := by
  have K5 := hf.blk K (own_ob_ne OQ K (by decide))
  have R5 := hf.row OR (fun g hg e => own_ne2 OR OQ (by decide) hg (ob_own.1 e))
  refine ⟨?_, ?_, ?_, ?_⟩
  · have := K5.set_ 2 (.slice (some ⟨g', 0, none⟩) (i + 1) c2)
    simpa using this
  · rw [il_add]
    exact own_set hown (fun e => own_ob_ne hown K5 (by decide) (ob_own.2 e)) _
  · exact own_set R5 (fun e => own_ob_ne R5 K5 (by decide) (ob_own.2 e)) _
  · exact (hf.below (B := B) (fun k hk => (ob_ge OQ k hk).1) hB).setCell (p := ⟨gs, 2, none⟩) hgs _
set_option maxRecDepth 100000 in
set_option maxHeartbeats 8000000 in
theorem newSweep_any (AH AN AP : Option Addr) (cH cN cP q : Nat) (T : Tr) (p : List C3) (w : World) (h : TS w AH AN T) (hd : ∀ i, i < T.n → -2 ≤ (T.f i).1 ∧ (T.f i).1 ≤ 2 ∧ -2 ≤ (T.f i).2 ∧ (T.f i).2 ≤ 2) (hn : T.n ≤ 25)
    (hp : CReads w w.heap.size AP q (fun k => p.getD k (0, 0, 0))) (hpl : p.length = q) (hok : ∀ c ∈ p, okc c.1 ∧ okc c.2.1) (hq : q ≤ 5000) :
    Calls Try.prog 50 #[.agg #[.int .i64 T.st, .slice AH T.n cH, .slice AN T.m cN], .slice AP q cP] w fun e w' => ∃ gq cQ gr cR, e = .returned (.agg #[.slice AN T.m cN, .slice AP q cP, .slice (some ⟨gq, 0, none⟩) (q + 1) cQ, .slice (some ⟨gr, 0, none⟩) T.n cR]) ∧
      w'.ownsRow w.heap.size 3 1 (.slice (some ⟨gq, 0, none⟩) (q + 1) cQ) (q + 1) (il (nums p ++ [BY])) ∧ w'.ownsRow w.heap.size 97 3 (.slice (some ⟨gr, 0, none⟩) T.n cR) T.n (cg (rd0 (nums p) (offL T))) ∧ Below w.heap.size w w' := by
  obtain ⟨ii, hii, hz0, hz1, hz2⟩ := info_parts Try.info_intL
  obtain ⟨ir, hir, hy0, hy1, hy2⟩ := info_parts info_reader
  have HP := Lib.hid hp
  have HPL := Lib.hid hpl
  have HOK := Lib.hid hok
  have HD := Lib.hid hd
  have HH := Lib.hid h.1
  have OL := Lib.hid (offL_len T)
  have OI := Lib.hid (show ∀ k, k < T.n → ig (offL T) k = offN (T.f k) from fun k hk => by simp [ig, offL, List.getD_eq_getElem?_getD, hk])
  generalize offL T = os at *
  clear h hp hpl hok hd
  obtain ⟨st, n, f, m, lv, nx⟩ := T
  simp only at *
  obtain ⟨ZQ, hZQ, mkQ⟩ := mk_cap 38 3 ii _ 1 Try.underlying38 hii hz0 hz1 (q + 1) (by rw [hz2]; omega) (by unfold maxLen; omega)
  obtain ⟨ZR, hZR, mkR⟩ := mk_cap 77 97 ir _ 3 Try.underlying77 hir hy0 hy1 n (by rw [hy2]; omega) (by unfold maxLen; omega)
  have hlq : q + 1 ≤ maxLen := by unfold maxLen; omega
  have hln : n ≤ maxLen := by unfold maxLen; omega
  have eq1 : IntKind.i64.wrap ((q : Int) + 1) = ((q + 1 : Nat) : Int) := by rw [show (q : Int) + 1 = ((q + 1 : Nat) : Int) by push_cast; rfl]; exact IntWalk.i64_in _ ⟨by omega, by omega⟩
  have mkQ' : ∀ w : World, (Instr.makeSlice 38 (.int .i64 0) (.int .i64 ((q : Int) + 1))).run Try.prog w = .ok (.slice (some ⟨w.heap.size, 0, none⟩) 0 (q + 1)) (w.alloc (.cells ZQ 3)) := fun w => by rw [show (q : Int) + 1 = ((q + 1 : Nat) : Int) by push_cast; rfl]; exact mkQ w
  obtain ⟨w2, hw⟩ : ∃ w2, w2 = (w.alloc (.cells #[.int .i64 st, .slice AH n cH, .slice AN m cN] 25)).alloc (.cells #[.slice none 0 0, .slice none 0 0, .slice none 0 0, .slice none 0 0] 79) := ⟨_, rfl⟩
  have K1 : Blk w2 w.heap.size 25 #[.int .i64 st, .slice AH n cH, .slice AN m cN] := by rw [hw]; exact (Blk.new w _ _).alloc _
  have K2 : Blk w2 (w.heap.size + 1) 79 #[.slice none 0 0, .slice none 0 0, .slice none 0 0, .slice none 0 0] := by
    have := Blk.new (w.alloc (.cells #[.int .i64 st, .slice AH n cH, .slice AN m cN] 25)) 79 #[.slice none 0 0, .slice none 0 0, .slice none 0 0, .slice none 0 0]
    rw [World.size_alloc] at this
    rw [hw]; exact this
  have B2 : Below w.heap.size w w2 := by rw [hw]; exact ((Below.refl _ w).alloc (Nat.le_refl _) _).alloc (by simp) _
  go_enter Try.func50, Try.ntmps50
  go_upto_region 1 with (fail)
  rw [← hw]
  clear hw
  obtain ⟨t0, t1, t2, _, _, _, t3⟩ := K1.three6
  go_cut [5] from 11 to 22 (fun s5 wx => ∃ gs gq gr, s5 = .pointer (some ⟨gs, 0, none⟩) ∧ Blk wx gs 79 #[.slice AN m cN, .slice AP q cP, .slice (some ⟨gq, 0, none⟩) 0 (q + 1), .slice (some ⟨gr, 0, none⟩) 0 n] ∧ wx.ownsRow w2.heap.size 3 1 (.slice (some ⟨gq, 0, none⟩) 0 (q + 1)) 0 [] ∧ wx.ownsRow w2.heap.size 97 3 (.slice (some ⟨gr, 0, none⟩) 0 n) 0 [] ∧ w2.heap.size ≤ gs ∧ Below w2.heap.size w2 wx)
  case first =>
    have K1 := Lib.hid K1
    have KP := Lib.hid (fun W (hb : Below w2.heap.size w2 W) => show W.cell? ⟨w.heap.size, 1, none⟩ = some (.slice AH n cH) ∧ W.cell? ⟨w.heap.size, 2, none⟩ = some (.slice AN m cN) from ⟨(K1.out.below hb K1.out.lt).three6.2.1, (K1.out.below hb K1.out.lt).three6.2.2.1⟩)
    clear t0 t3
    go_region_held_law (fun W => W.cell? ⟨w.heap.size, 1, none⟩ = some (.slice AH n cH) ∧ W.cell? ⟨w.heap.size, 2, none⟩ = some (.slice AN m cN))
      (first | assumption | (refine KP.out _ ?_; (with_reducible (repeat (first | assumption | exact Below.refl _ _ | refine Below.drew' ?_ | refine Below.alloc' ?_ _))); done) | go_keep)
      (fail)
    all_goals
      go_wp2_with fail
      go_meet
      exact ⟨_, _, _, rfl, (by first | exact b_at2 _ _ _ _ _ | exact b_at1 _ _ _ _ _ | exact b_at0 _ _ _ _ _),
        (by first | exact o_at0 _ _ _ _ _ 1 _ hlq hZQ | exact o_at1 _ _ _ _ _ 1 _ hlq hZQ | exact o_at2 _ _ _ _ _ 1 _ hlq hZQ),
        (by first | exact o_at0 _ _ _ _ _ 3 _ hln hZR | exact o_at1 _ _ _ _ _ 3 _ hln hZR | exact o_at2 _ _ _ _ _ 3 _ hln hZR),
        (by omega), Below.drew' (Below.alloc' (Below.alloc' (Below.alloc' (Below.refl _ _) _) _) _)⟩
  case rest =>
    obtain ⟨gs, gq, gr, rfl, hX, hQ, hR, hgs, hB⟩ := hcut
    have l22 := K2.lt
    have KS := Lib.hid hX
    have OQ := Lib.hid hQ
    have OR := Lib.hid hR
    have B3 := Lib.hid (B2.trans (hB.mono B2.size))
    have K1 := Lib.hid (K1.below hB K1.lt)
    have K2 := Lib.hid (K2.below hB K2.lt)
    have l2 := K2.out.lt
    have sB := hB.size
    have s2 := B2.size
    clear t0 t1 t2 t3 hX hQ hR hB mkQ mkQ' mkR hZQ hZR eq1
    exact (by
      go_upto_region 3 with (fail)
      clear s2
      go_loopw [25] (fun iv wr => ∃ (i gq' cQ : Nat), i ≤ q ∧ iv = .int .i64 (i : Int) ∧ Hid (Blk wr gs 79 #[.slice AN m cN, .slice AP q cP, .slice (some ⟨gq', 0, none⟩) i cQ, .slice (some ⟨gr, 0, none⟩) 0 n]) ∧ Hid (wr.ownsRow w2.heap.size 3 1 (.slice (some ⟨gq', 0, none⟩) i cQ) i (il (nums (p.take i)))) ∧ Hid (wr.ownsRow w2.heap.size 97 3 (.slice (some ⟨gr, 0, none⟩) 0 n) 0 []) ∧ Hid (Below w2.heap.size wc wr)) (fun iv _ => q - (intOf iv).toNat)
      case atStart => exact ⟨0, gq, q + 1, Nat.zero_le _, rfl, KS, by simpa [nums, il] using OQ, OR, Lib.hid (Below.refl _ _)⟩
      case round =>
        obtain ⟨i, gq', cQ, hi, rfl, KS', OQ', OR', HB⟩ := hrel
        have sr := HB.out.size
        by_cases hlt : i < q
        · have hiI : (i : Int) < (q : Int) := by omega
          have hpi : i < p.length := by rw [HPL.out]; exact hlt
          have HT := Lib.hid (nums_take p i hpi)
          obtain ⟨oc1, oc2⟩ := HOK.out (p.getD i (0, 0, 0)) (by rw [List.getD_eq_getElem?_getD, List.getElem?_eq_getElem hpi]; exact List.getElem_mem hpi)
          obtain ⟨ga, oa, hA, hga, hcells⟩ := (HP.out.below (B3.out.trans (HB.out.mono B2.size))) (by omega)
          have hcl := hcells i hlt
          simp only at hcl
          subst hA
          obtain ⟨⟨x, y, s⟩, hc⟩ : ∃ c, p.getD i (0, 0, 0) = c := ⟨_, rfl⟩
          rw [hc] at hcl oc1 oc2 HT
          obtain ⟨y0, y1, y2⟩ := hcl
          simp only at y0 y1 y2 oc1 oc2
          have NU := Lib.hid (fun W => number_any x y W (by unfold okc at oc1; omega) (by unfold okc at oc2; omega))
          have A4 := Lib.hid ((Below.refl wr.heap.size wr).alloc (Nat.le_refl _) (.cells #[.int .i64 x, .int .i64 y, .int .i64 s] 47))
          have K5 := Blk.new wr 47 #[.int .i64 x, .int .i64 y, .int .i64 s]
          have KS4 := Lib.hid (KS'.out.below A4.out KS'.out.lt)
          have OQ4 := Lib.hid (own_belowk OQ'.out A4.out)
          have OR4 := Lib.hid (own_belowk OR'.out A4.out)
          have HB4 := Lib.hid (HB.out.trans (A4.out.mono (by omega)))
          generalize hv : nmb x y = v at NU HT
          have hsz : w2.heap.size ≤ (wr.alloc (.cells #[.int .i64 x, .int .i64 y, .int .i64 s] 47)).heap.size := by have := A4.out.size; omega
          clear hcells hc hpi hv hga
          exact (by
            go_upto_region 5 with (fail)
            generalize wr.alloc (.cells #[.int .i64 x, .int .i64 y, .int .i64 s] 47) = w4 at *
            obtain ⟨k0, k1, k2, _, _, _, k6⟩ := K5.three6
            obtain ⟨_, _, s2', _, _⟩ := KS4.out.four
            have e7' := (KS4.out.alloc (.cells #[.int .i64 v] 3)).four.2.2.1
            go_region_law (first
              | (go_simp; go_at_call 72; (with_reducible refine (NU.out _).mono ?_); rintro e wa ⟨rfl, rfl⟩)
              | (refine step_append_lies _ (by rfl) _ _ _ (by rfl) w2.heap.size 3 ii (.int .i64 0) 1 8 Try.underlying38 hii hz0 hz1 hz2 rfl (by decide) (.slice (some ⟨gq', 0, none⟩) i cQ) i (il (nums (p.take i))) (by rfl) (by first | exact OQ4.out.alloc _ | exact (show ((w4.alloc (.cells #[.int .i64 v] 3)).drew).ownsRow w2.heap.size 3 1 (.slice (some ⟨gq', 0, none⟩) i cQ) i (il (nums (p.take i))) from OQ4.out.alloc _)) ⟨w4.heap.size, 0, none⟩ 1 1 [.int .i64 v] (by rfl) (by rfl) (World.news_of_block (cs := #[.int .i64 v]) (t := 3) (fr := (0, 0)) (heap_alloc_new w4 _)) (by simp [Value.oneCell']) (by omega) (by unfold maxLen; omega) (by omega) (by simp; omega) (w4.heap.size + 1) (by simp) ?_; intro g' c2 w5 hown hgrow hat hltg; have hfr := fr_app1 (grown_drew hgrow) hat; have P5 := Lib.hid hown; have K6 := Lib.hid (hfr.blk KS4.out (own_ob_ne OQ4.out KS4.out (by decide))); have d3 := K6.out.four.2.2.1; have d3f := K6.out.frozen 2; have FV := Lib.hid hfr; clear hown hgrow hat hfr))
            all_goals
              obtain ⟨p1, p2, p3, p4⟩ := nw_num hgs (by omega) KS4.out OQ4.out OR4.out P5.out FV.out
              have KS7 := Lib.hid p1
              have OQ7 := Lib.hid (show (w5.setCell ⟨gs, 2, none⟩ (.slice (some ⟨g', 0, none⟩) (i + 1) c2)).ownsRow w2.heap.size 3 1 (.slice (some ⟨g', 0, none⟩) (i + 1) c2) (i + 1) (il (nums (p.take (i + 1)))) from by rw [HT.out]; exact p2)
              have OR7 := Lib.hid p3
              have B7 := Lib.hid (HB4.out.trans p4)
              clear p1 p2 p3 p4 K6 d3 d3f FV P5 e7' k0 k1 k2 k6 s2'
              exact (by
                go_wp2_with fail
                go_roundw
                case rel => exact ⟨i + 1, g', c2, by omega, by go_num, KS7, OQ7, OR7, B7⟩
                case measure => simp [intOf]; omega))
        · obtain rfl : i = q := by omega
          have hpt : p.take i = p := by rw [← HPL.out]; exact List.take_length
          rw [hpt] at OQ'
          exact (by
            obtain ⟨_, _, c2, _, _⟩ := KS'.out.four
            have f2 := KS'.out.frozen 2
            have hszr : w2.heap.size ≤ wr.heap.size := by omega
            go_upto_region 8 with (at_builtin; refine wpList_append1F rfl _ _ 38 rfl w2.heap.size 3 ii (.int .i64 0) 8 Try.underlying38 hii hz0 hz1 hz2 rfl (some ⟨gq', 0, none⟩) i cQ _ rfl OQ'.out (.int .i64 8796134965298) rfl rfl (by unfold maxLen; omega) (by omega) hszr ?_; intro g' c3 w5 hown hfr; have P5 := Lib.hid (nw_num hgs hszr KS'.out OQ'.out OR'.out hown hfr); have K6 := hfr.blk KS'.out (own_ob_ne OQ'.out KS'.out (by decide)); have d3 := K6.four.2.2.1; have d3f := K6.frozen 2; clear hown hfr K6)
            obtain ⟨p1, p2, p3, p4⟩ := P5.out
            have KS7 := Lib.hid p1
            have OQ7 := Lib.hid (show (w5.setCell ⟨gs, 2, none⟩ (.slice (some ⟨g', 0, none⟩) (i + 1) c3)).ownsRow w2.heap.size 3 1 (.slice (some ⟨g', 0, none⟩) (i + 1) c3) (i + 1) (il (nums p ++ [BY])) from p2)
            have OR7 := Lib.hid p3
            have B7 := Lib.hid (HB.out.trans (p4.mono (by omega)))
            clear p1 p2 p3 p4 P5 d3 d3f c2 f2
            generalize w5.setCell ⟨gs, 2, none⟩ (.slice (some ⟨g', 0, none⟩) (i + 1) c3) = w7 at *
            clear KS' OQ' OR' HB hszr
            have K17 := (K1.out.below B7.out (by omega))
            obtain ⟨t0, t1, t2, _, _, _, t3⟩ := K17.three6
            have l7 := B7.out.size
            exact (by
              go_upto_region 9 with (fail)
              clear t0 t1 t2 t3 K17
              go_loopw [48] (fun iv wr => ∃ (j gr' cR : Nat), j ≤ n ∧ iv = .int .i64 (j : Int) ∧ Hid (Blk wr gs 79 #[.slice AN m cN, .slice AP i cP, .slice (some ⟨g', 0, none⟩) (i + 1) c3, .slice (some ⟨gr', 0, none⟩) j cR]) ∧ Hid (wr.ownsRow w2.heap.size 3 1 (.slice (some ⟨g', 0, none⟩) (i + 1) c3) (i + 1) (il (nums p ++ [BY]))) ∧ Hid (wr.ownsRow w2.heap.size 97 3 (.slice (some ⟨gr', 0, none⟩) j cR) j (cg (rd0 (nums p) (os.take j)))) ∧ Hid (Below w2.heap.size wc wr)) (fun iv _ => n - (intOf iv).toNat)
              case atStart => exact ⟨0, gr, n, Nat.zero_le _, rfl, KS7, OQ7, by simpa [rd0, cg] using OR7, B7⟩
              case round =>
                clear KS7 OQ7 OR7 B7 l7
                obtain ⟨j, gr', cR, hj, rfl, KS8, OQ8, OR8, HB8⟩ := hrel
                have sr8 := HB8.out.size
                by_cases hlt : j < n
                · have hjI : (j : Int) < (n : Int) := by omega
                  have HT := Lib.hid (rd0_take (nums p) os j (by rw [OL.out]; exact hlt))
                  rw [OI.out j hlt] at HT
                  obtain ⟨d1, d2, d3, d4⟩ := HD.out j hlt
                  obtain ⟨ga, oa, hA, hga, hcells⟩ := (HH.out.below (B3.out.trans (HB8.out.mono B2.size))) (by omega)
                  obtain ⟨y0, y1⟩ := hcells j hlt
                  subst hA
                  obtain ⟨⟨dx, dy⟩, hc⟩ : ∃ c, f j = c := ⟨_, rfl⟩
                  rw [hc] at y0 y1 d1 d2 d3 d4 HT
                  simp only at y0 y1 d1 d2 d3 d4
                  obtain ⟨ad0, e0, _, x0⟩ := il_at (Reads.of_own OQ8.out) (k := 0) (by omega)
                  injection e0 with e0
                  subst e0
                  rw [gN_app (nums p) 0 (Nat.zero_le _), addz] at x0
                  have hb0 := gN0_bd HOK.out
                  unfold BY at hb0
                  generalize gN (nums p) 0 = v0 at *
                  have e1 : IntKind.i64.wrap (dy * 2097157) = dy * 2097157 := IntWalk.i64_in _ ⟨by omega, by omega⟩
                  have e2 : IntKind.i64.wrap (dy * 2097157 + dx) = offN (dx, dy) := IntWalk.i64_in _ ⟨by omega, by omega⟩
                  have e3 : IntKind.i64.wrap (v0 - offN (dx, dy)) = v0 - offN (dx, dy) := IntWalk.i64_in _ ⟨by unfold offN; simp only; omega, by unfold offN; simp only; omega⟩
                  generalize offN (dx, dy) = v at *
                  have A4 := Lib.hid ((Below.refl wr.heap.size wr).alloc (Nat.le_refl _) (.cells #[.int .i64 dx, .int .i64 dy] 52))
                  have K5 := Blk.new wr 52 #[.int .i64 dx, .int .i64 dy]
                  have KS4 := Lib.hid (KS8.out.below A4.out KS8.out.lt)
                  have OQ4 := Lib.hid (own_belowk OQ8.out A4.out)
                  have OR4 := Lib.hid (own_belowk OR8.out A4.out)
                  have HB4 := Lib.hid (HB8.out.trans (A4.out.mono (by omega)))
                  have x0' := (A4.out.cell (p := ⟨g', 0, none⟩) ((OQ8.out.lt g' rfl).2)).trans x0
                  have hsz : w2.heap.size ≤ (wr.alloc (.cells #[.int .i64 dx, .int .i64 dy] 52)).heap.size := by have := A4.out.size; omega
                  have lg' := (OQ4.out.lt g' rfl).2
                  clear hcells hc hga x0 d1 d2 d3 d4 hb0
                  exact (by
                    go_upto_region 12 with (fail)
                    generalize wr.alloc (.cells #[.int .i64 dx, .int .i64 dy] 52) = w4 at *
                    obtain ⟨_, _, q2, q3, _⟩ := KS4.out.four
                    have r2 := (KS4.out.alloc (.cells #[.int .i64 v, .int .i64 0, .int .i64 (v0 - v)] 97)).four.2.2.1
                    have r3 := (KS4.out.alloc (.cells #[.int .i64 v, .int .i64 0, .int .i64 (v0 - v)] 97)).four.2.2.2.1
                    go_region_law (refine step_append_lies _ (by rfl) _ _ _ (by rfl) w2.heap.size 97 ir (.agg #[.int .i64 0, .int .i64 0, .int .i64 0]) 3 24 Try.underlying77 hir hy0 hy1 hy2 rfl (by decide) (.slice (some ⟨gr', 0, none⟩) j cR) j (cg (rd0 (nums p) (os.take j))) (by rfl) (by first | exact OR4.out.alloc _ | exact (show ((w4.alloc (.cells #[.int .i64 v, .int .i64 0, .int .i64 (v0 - v)] 97)).drew).ownsRow w2.heap.size 97 3 (.slice (some ⟨gr', 0, none⟩) j cR) j (cg (rd0 (nums p) (os.take j))) from OR4.out.alloc _)) ⟨w4.heap.size, 0, none⟩ 1 1 [.int .i64 v, .int .i64 0, .int .i64 (v0 - v)] (by rfl) (by rfl) (World.news_of_block (cs := #[.int .i64 v, .int .i64 0, .int .i64 (v0 - v)]) (t := 97) (fr := (0, 0)) (heap_alloc_new w4 _)) (by simp [Value.oneCell']) (by omega) (by unfold maxLen; omega) (by omega) (by simp; omega) (w4.heap.size + 1) (by simp) ?_; intro gn c2 w5 hown hgrow hat hltg; have hfr := fr_app1 (grown_drew hgrow) hat; have P5 := Lib.hid hown; have K6 := Lib.hid (hfr.blk KS4.out (own_ob_ne OR4.out KS4.out (by decide))); have d4 := K6.out.four.2.2.2.1; have d4f := K6.out.frozen 3; have FV := Lib.hid hfr; clear hown hgrow hat hfr)
                    all_goals
                      obtain ⟨p1, p2, p3, p4⟩ := nw_rd hgs (by omega) KS4.out OQ4.out OR4.out P5.out FV.out
                      have KS9 := Lib.hid p1
                      have OR9 := Lib.hid (show (w5.setCell ⟨gs, 3, none⟩ (.slice (some ⟨gn, 0, none⟩) (j + 1) c2)).ownsRow w2.heap.size 97 3 (.slice (some ⟨gn, 0, none⟩) (j + 1) c2) (j + 1) (cg (rd0 (nums p) (os.take (j + 1)))) from by rw [HT.out]; exact p2)
                      have OQ9 := Lib.hid p3
                      have B9 := Lib.hid (HB4.out.trans (p4.mono (by omega)))
                      clear p1 p2 p3 p4 K6 d4 d4f FV P5 r2 r3 q2 q3
                      exact (by
                        go_wp2_with fail
                        go_roundw
                        case rel => exact ⟨j + 1, gn, c2, by omega, by go_num, KS9, OQ9, OR9, B9⟩
                        case measure => simp [intOf]; omega))
                · obtain rfl : j = n := by omega
                  have hot : os.take j = os := by rw [← OL.out]; exact List.take_length
                  rw [hot] at OR8
                  have K28 := K2.out.below HB8.out (by omega)
                  obtain ⟨q0, q1, q2, q3, _⟩ := KS8.out.four
                  obtain ⟨v0, v1, v2, v3, v4⟩ := K28.four
                  have f0 := K28.frozen 0
                  have f1 := K28.frozen 1
                  have f2 := K28.frozen 2
                  have f3 := K28.frozen 3
                  exact (by
                    go_wp2_with fail
                    have K9 : Blk _ (w.heap.size + 1) 79 #[.slice AN m cN, .slice AP i cP, .slice (some ⟨g', 0, none⟩) (i + 1) c3, .slice (some ⟨gr', 0, none⟩) j cR] := (((K28.set_ 0 (.slice AN m cN)).set_ 1 (.slice AP i cP)).set_ 2 (.slice (some ⟨g', 0, none⟩) (i + 1) c3)).set_ 3 (.slice (some ⟨gr', 0, none⟩) j cR)
                    have nq : (Value.slice (some ⟨g', 0, none⟩) (i + 1) c3).ownBlock ≠ some (w.heap.size + 1) := fun e => by have := (OQ8.out.lt _ e).1; omega
                    have nr : (Value.slice (some ⟨gr', 0, none⟩) j cR).ownBlock ≠ some (w.heap.size + 1) := fun e => by have := (OR8.out.lt _ e).1; omega
                    have Q9 := own_set (p := ⟨w.heap.size + 1, 3, none⟩) (own_set (p := ⟨w.heap.size + 1, 2, none⟩) (own_set (p := ⟨w.heap.size + 1, 1, none⟩) (own_set (p := ⟨w.heap.size + 1, 0, none⟩) OQ8.out nq (.slice AN m cN)) nq (.slice AP i cP)) nq (.slice (some ⟨g', 0, none⟩) (i + 1) c3)) nq (.slice (some ⟨gr', 0, none⟩) j cR)
                    have R9 := own_set (p := ⟨w.heap.size + 1, 3, none⟩) (own_set (p := ⟨w.heap.size + 1, 2, none⟩) (own_set (p := ⟨w.heap.size + 1, 1, none⟩) (own_set (p := ⟨w.heap.size + 1, 0, none⟩) OR8.out nr (.slice AN m cN)) nr (.slice AP i cP)) nr (.slice (some ⟨g', 0, none⟩) (i + 1) c3)) nr (.slice (some ⟨gr', 0, none⟩) j cR)
                    have B9 := ((((B3.out.trans (HB8.out.mono (by omega))).setCell (p := ⟨w.heap.size + 1, 0, none⟩) (Nat.le_succ _) (.slice AN m cN)).setCell (p := ⟨w.heap.size + 1, 1, none⟩) (Nat.le_succ _) (.slice AP i cP)).setCell (p := ⟨w.heap.size + 1, 2, none⟩) (Nat.le_succ _) (.slice (some ⟨g', 0, none⟩) (i + 1) c3)).setCell (p := ⟨w.heap.size + 1, 3, none⟩) (Nat.le_succ _) (.slice (some ⟨gr', 0, none⟩) j cR)
                    generalize (((wr.setCell ⟨w.heap.size + 1, 0, none⟩ (.slice AN m cN)).setCell ⟨w.heap.size + 1, 1, none⟩ (.slice AP i cP)).setCell ⟨w.heap.size + 1, 2, none⟩ (.slice (some ⟨g', 0, none⟩) (i + 1) c3)).setCell ⟨w.heap.size + 1, 3, none⟩ (.slice (some ⟨gr', 0, none⟩) j cR) = w9 at K9 Q9 R9 B9 ⊢
                    obtain ⟨j0, j1, j2, j3, _⟩ := K9.four
                    exact bodyPost_ret (v := .agg #[.slice AN m cN, .slice AP i cP, .slice (some ⟨g', 0, none⟩) (i + 1) c3, .slice (some ⟨gr', 0, none⟩) j cR]) (by simp [results, Try.results50, go_sem, j0, j1, j2, j3]) rfl ⟨g', c3, gr', cR, rfl, own_lower Q9 (by omega), own_lower R9 (by omega), B9⟩))))
end Go.Proofs.Ytaicehkphokacaa
