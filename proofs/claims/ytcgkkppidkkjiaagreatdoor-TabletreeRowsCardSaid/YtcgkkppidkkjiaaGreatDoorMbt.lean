/- The walks of newForest and plant. -/
/- The walk of plant. -/
/- Plain mathematics: what is planted means what the tree means; Turn, back, and Reduce. -/
/- The walks of limited, Turn and Reduce. -/
import Derived.Test.YtcgkkppidkkjiaaGreatDoorMab
import Derived.Test.YtcgkkppidkkjiaaGreatDoorMae
import Derived.Test.YtcgkkppidkkjiaaGreatDoorMaa
import Derived.Test.YtcgkkppidkkjiaaGreatDoorMah
import Derived.Test.YtcgkkppidkkjiaaGreatDoorMbn
import Derived.Test.YtcgkkppidkkjiaaGreatDoorMbr
import Derived.Below
import Derived.BigQuiet
import Derived.Carry
import Derived.Deep.AppendLies
import Derived.Deep.CutRange
import Derived.Deep.Draws
import Derived.Deep.QuietTactic
import Derived.Deep.RegionHeldLaw
import Derived.Deep.RegionLaw
import Derived.DeepKeys4
import Derived.IntWalk
import Derived.Laws.MakeOwn
import Derived.Laws.OwnMore
import Derived.Laws.Rows
import Derived.Lib.Hide
import Derived.LoopN
import Derived.Maps.OwnOps
import Derived.OwnWalk
import Derived.Shelf.Abstract
import Derived.Sort.Statements
import Derived.StillTail
import Derived.StillTailTactics
import Derived.Test.YtcgkkppidkkjiaaGreatDoorRows
import Derived.WalkKit
import Derived.Test.YtcgkkppidkkjiaaGreatDoorMaj
import Derived.Test.YtcgkkppidkkjiaaGreatDoorMad
import Derived.Test.YtcgkkppidkkjiaaGreatDoorMbp
import Derived.Test.YtcgkkppidkkjiaaGreatDoorMbs
import Derived.Test.YtcgkkppidkkjiaaGreatDoorMbo
import Derived.Test.YtcgkkppidkkjiaaGreatDoorMag
import Derived.Laws.BitsLemmas
import Derived.Lib.SliceRun
namespace Go.Proofs.YtcgkkppidkkjiaaGreatDoor
open Go.RowKit
theorem newForest_any {sn : Nat} {w : World} (h1 : 2 ≤ sn) (h2 : sn ≤ 8) : Calls Tryz.prog 60 #[.int .i64 (sn : Int)] w fun e w' => ∃ fb G, e = .returned (.pointer (some ⟨fb, 0, none⟩)) ∧ Fo w' fb G (sn : Int) [] ∧ (∀ k, G k → w.heap.size ≤ k) ∧ Below w.heap.size w w' := by
  have hmm := @run_makeMap Tryz.prog
  go_enter Tryz.func60, Tryz.ntmps60
  go_wp2
  go_ret
  have K2 := Blk.new (w.alloc (.map #[] 0)) 129 #[.int .i64 (sn : Int), .slice none 0 0, .map (some w.heap.size)]
  have K1 := MapOf.new Tryz.prog w 134 nodV (fun (x : Int) => .int .i32 x)
  simp only [World.size_alloc] at K2
  refine ⟨w.heap.size + 1, fun k => k = w.heap.size ∨ k = w.heap.size + 1, rfl, ⟨none, 0, w.heap.size, K2, World.ownsRow_nil _ _ _ _, ?_, .inr rfl, .inl rfl, ?_, ?_, by omega, by omega, by simp, by simp; omega⟩, ?_, ?_⟩
  · exact K1.of_block (Below.heap_alloc _ _ _ (by simp))
  · intro g hg; simp [Value.ownBlock] at hg
  · intro b hb; simp; omega
  · intro k hk; omega
  · exact ((Below.refl _ _).alloc (Nat.le_refl _) _).alloc (by simp) _

/-- numbers as cells -/
def r32 (l : List Int) : Array Value := (l.map fun x => .int .i32 x).toArray
theorem r32_get {l : List Int} {j : Nat} (h : j < l.length) : (r32 l)[j]? = some (.int .i32 (ig l j)) := row_get h
theorem made_i32 (n : Nat) : madeCells (Value.int .i32 0).cells (n * 1) = r32 (List.replicate n 0) := by
  apply Array.ext
  · simp [madeCells, r32]
  · intro i h1 h2
    simp [madeCells, Value.cells, Nat.mod_one, r32]
theorem Tryz.info_i32 : (Tryz.prog.info? 21).map (fun i => (i.zero, i.size, i.bytes)) = some (some (.int .i32 0), 1, 4) := by kernel_rfl
theorem mk_i32 {m : Nat} (hm : m ≤ 5000) (w : World) : (Instr.makeSlice 137 (.int .i64 (m : Int)) (.int .i64 (m : Int))).run Tryz.prog w = .ok (.slice (some ⟨w.heap.size, 0, none⟩) m m) (w.alloc (.cells (r32 (List.replicate m 0)) 21)) := by
  obtain ⟨i0, hi, hz0, hz1, hz2⟩ := info_parts Tryz.info_i32
  have := run_make (P := Tryz.prog) w 137 21 i0 (.int .i32 0) Tryz.underlying137 hi hz0 .i64 .i64 (m : Int) (m : Int) (by omega) (by omega) (by rw [hz2]; omega) (by omega)
  rw [this, hz1, Int.toNat_natCast, made_i32]
theorem r32_step {ys : List Int} {sn : Nat} (h : ys.length < sn) (y : Int) : (r32 (ys ++ List.replicate (sn - ys.length) 0)).setIfInBounds ys.length (.int .i32 y) = r32 ((ys ++ [y]) ++ List.replicate (sn - (ys ++ [y]).length) 0) := by
  obtain ⟨k, hk⟩ : ∃ k, sn - ys.length = k + 1 := ⟨sn - ys.length - 1, by omega⟩
  have hk2 : sn - (ys ++ [y]).length = k := by simp; omega
  rw [hk, hk2, List.replicate_succ]
  simp [r32]

/-- an element of a planted node -/
def pv (l : Int) (nums : List Int) (k : Int) : Int := if 1 < l then ig nums k.toNat else k
/-- a planted node, its first j elements laid -/
def pn (l : Int) (nums e : List Int) (j : Nat) : Ndv := ⟨l, (e.take j).map (pv l nums) ++ List.replicate (8 - j) 0⟩
def plantF (st : Int) (lv : Nat → Int) (nx : Nat → List Int) : Nat → List Ndv → Option (List Int × List Ndv)
  | 0, L => some ([], L)
  | i + 1, L => (plantF st lv nx i L).bind fun (nums, L1) => (addF st L1 (pn (lv i) nums (nx i) (nx i).length)).bind fun (r, L2) => some (nums ++ [r], L2)
theorem plantF_at {st : Int} {lv : Nat → Int} {nx : Nat → List Int} {L L' : List Ndv} {nums : List Int} : ∀ {m : Nat}, plantF st lv nx m L = some (nums, L') → nums.length = m ∧ ∀ i, i < m → ∃ n1 L1 r L2, plantF st lv nx i L = some (n1, L1) ∧ n1.length = i ∧ addF st L1 (pn (lv i) n1 (nx i) (nx i).length) = some (r, L2) ∧ plantF st lv nx (i + 1) L = some (n1 ++ [r], L2) ∧ n1 = nums.take i := by
  intro m
  induction m generalizing nums L' with
  | zero =>
    intro h
    simp only [plantF, Option.some.injEq, Prod.mk.injEq] at h
    obtain ⟨rfl, _⟩ := h
    exact ⟨rfl, fun i hi => absurd hi (by omega)⟩
  | succ m ih =>
    intro h
    have h0 := h
    simp only [plantF] at h
    cases h1 : plantF st lv nx m L with
    | none => rw [h1] at h; cases h
    | some p =>
      obtain ⟨n1, L1⟩ := p
      rw [h1] at h
      simp only [Option.bind_some] at h
      cases h2 : addF st L1 (pn (lv m) n1 (nx m) (nx m).length) with
      | none => rw [h2] at h; cases h
      | some q =>
        obtain ⟨r, L2⟩ := q
        rw [h2] at h
        simp only [Option.bind_some, Option.some.injEq, Prod.mk.injEq] at h
        obtain ⟨rfl, rfl⟩ := h
        obtain ⟨g1, g2⟩ := ih h1
        refine ⟨by simp [g1], fun i hi => ?_⟩
        by_cases e : i < m
        · obtain ⟨n1', L1', r', L2', a1, a2, a3, a4, a5⟩ := g2 i e
          exact ⟨n1', L1', r', L2', a1, a2, a3, a4, by rw [a5, List.take_append_of_le_length (by omega)]⟩
        · obtain rfl : i = m := by omega
          exact ⟨n1, L1, r, L2, h1, g1, h2, h0, by rw [List.take_append_of_le_length (by omega), List.take_of_length_le (by omega)]⟩
theorem addF_rng {st r : Int} {L L2 : List Ndv} {n : Ndv} (h : addF st L n = some (r, L2)) (h0 : 0 ≤ st) (h1 : st + (L.length : Int) ≤ 2147483647) : st ≤ r ∧ r < 2147483647 ∧ st + (L2.length : Int) ≤ 2147483647 := by
  unfold addF at h
  cases hx : L.idxOf? n with
  | some i =>
    rw [hx] at h
    simp only [Option.some.injEq, Prod.mk.injEq] at h
    obtain ⟨rfl, rfl⟩ := h
    have := (idxOf_lt hx).1
    omega
  | none =>
    rw [hx] at h
    simp only at h
    split at h
    · simp only [Option.some.injEq, Prod.mk.injEq] at h
      obtain ⟨rfl, rfl⟩ := h
      simp; omega
    · cases h
theorem plantF_rng {st : Int} {lv : Nat → Int} {nx : Nat → List Int} {L : List Ndv} (h0 : 0 ≤ st) (h1 : st + (L.length : Int) ≤ 2147483647) : ∀ {m : Nat} {L' : List Ndv} {nums : List Int}, plantF st lv nx m L = some (nums, L') → (∀ x ∈ nums, 0 ≤ x ∧ x < 2147483647) ∧ st + (L'.length : Int) ≤ 2147483647 := by
  intro m
  induction m with
  | zero =>
    intro L' nums h
    simp only [plantF, Option.some.injEq, Prod.mk.injEq] at h
    obtain ⟨rfl, rfl⟩ := h
    exact ⟨by simp, h1⟩
  | succ m ih =>
    intro L' nums h
    simp only [plantF] at h
    cases h2 : plantF st lv nx m L with
    | none => rw [h2] at h; cases h
    | some p =>
      obtain ⟨n1, L1⟩ := p
      rw [h2] at h
      simp only [Option.bind_some] at h
      cases h3 : addF st L1 (pn (lv m) n1 (nx m) (nx m).length) with
      | none => rw [h3] at h; cases h
      | some q =>
        obtain ⟨r, L2⟩ := q
        rw [h3] at h
        simp only [Option.bind_some, Option.some.injEq, Prod.mk.injEq] at h
        obtain ⟨rfl, rfl⟩ := h
        obtain ⟨g1, g2⟩ := ih h2
        obtain ⟨g3, g4, g5⟩ := addF_rng h3 h0 g2
        refine ⟨fun x hx => ?_, g5⟩
        rcases List.mem_append.1 hx with hx | hx
        · exact g1 x hx
        · simp at hx; subst hx; exact ⟨by omega, g4⟩
theorem pn_cells {l : Int} {nums e : List Int} {j : Nat} (hj : j < e.length) (he : e.length ≤ 8) : (nodC (pn l nums e j)).toArray.setIfInBounds (1 + j) (.int .i32 (pv l nums (ig e j))) = (nodC (pn l nums e (j + 1))).toArray := by
  have e1 : e.take (j + 1) = e.take j ++ [ig e j] := by
    rw [List.take_succ_eq_append_getElem hj]
    simp [ig, hj]
  obtain ⟨k, hk⟩ : ∃ k, 8 - j = k + 1 := ⟨8 - j - 1, by omega⟩
  have hk2 : 8 - (j + 1) = k := by omega
  have hl : ((e.take j).map (pv l nums)).length = j := by simp; omega
  generalize hA : (e.take j).map (pv l nums) = A at hl
  simp only [pn, nodC, e1, List.map_append, hA, hk, hk2, List.replicate_succ]
  subst hl
  rw [Nat.add_comm]
  simp [List.set_append]
theorem pn_len {l : Int} {nums e : List Int} {j : Nat} (hj : j ≤ e.length) (he : e.length ≤ 8) : (pn l nums e j).r.length = 8 := by simp [pn]; omega
end Go.Proofs.YtcgkkppidkkjiaaGreatDoor
namespace Go.Proofs.YtcgkkppidkkjiaaGreatDoor
open Go.RowKit
theorem nodV_len9 {n : Ndv} (h : n.r.length = 8) : ∃ a b c d e f g i, n = ⟨n.lv, [a, b, c, d, e, f, g, i]⟩ := by
  obtain ⟨a, b, c, d, e, f, g, i, hh⟩ := oct h
  obtain ⟨lv, r⟩ := n
  simp only at hh
  subst hh
  exact ⟨a, b, c, d, e, f, g, i, rfl⟩
set_option maxRecDepth 100000 in
set_option maxHeartbeats 8000000 in
theorem plant_any {w : World} {fb : Nat} {G : Nat → Prop} {L L' : List Ndv} {T : Tr} {AH AN : Option Addr} {nh ch cN B : Nat} {nums : List Int} (h : Fo w fb G T.st L) (hT : Rtt T) (hN : NR w B AN T.m T.lv T.nx) (hB : B ≤ w.heap.size) (hG : ∀ k, G k → B ≤ k) (hp : plantF T.st T.lv T.nx T.m L = some (nums, L')) :
    Calls Tryz.prog 62 #[.pointer (some ⟨fb, 0, none⟩), .agg #[.int .i64 T.st, .slice AH nh ch, .slice AN T.m cN]] w fun e w' => ∃ G', e = .returned (.int .i32 (ig nums (T.m - 1))) ∧ Fo w' fb G' T.st L' ∧ Fr G w G' w' := by
  obtain ⟨hnl, hat⟩ := plantF_at hp
  obtain ⟨S1, S2, hd, M1, M2, nd, top⟩ := hT
  obtain ⟨g, o, hA, hgB, hcells⟩ := hN (by omega)
  subst hA
  obtain ⟨st, n, f, m, lv, nx⟩ := T
  simp only at *
  have hst := h.st2
  obtain ⟨q1, q2, q3, q4, q5, q6, q7, q8⟩ := hst
  have HF := Lib.hid h
  have HND := Lib.hid nd
  have HAT := Lib.hid hat
  have HC := Lib.hid hcells
  have HG := Lib.hid hG
  have HNL := Lib.hid hnl
  have HPP := Lib.hid hp
  have mz := mk_i32 (m := m) (by omega) (w.alloc (.cells #[.int .i64 st, .slice AH nh ch, .slice (some ⟨g, o, none⟩) m cN] 32))
  simp only [World.size_alloc] at mz
  have B1 := Lib.hid (((Below.refl w.heap.size w).alloc (Nat.le_refl _) (.cells #[.int .i64 st, .slice AH nh ch, .slice (some ⟨g, o, none⟩) m cN] 32)).alloc (by simp) (.cells (r32 (List.replicate m 0)) 21))
  have K1 := Lib.hid (Blk.new (w.alloc (.cells #[.int .i64 st, .slice AH nh ch, .slice (some ⟨g, o, none⟩) m cN] 32)) 21 (r32 (List.replicate m 0)))
  obtain ⟨t0, t1, t2, t3⟩ := (Blk.new w 32 #[.int .i64 st, .slice AH nh ch, .slice (some ⟨g, o, none⟩) m cN]).three
  obtain ⟨u0, u1, u2, u3⟩ := ((Blk.new w 32 #[.int .i64 st, .slice AH nh ch, .slice (some ⟨g, o, none⟩) m cN]).alloc (.cells (r32 (List.replicate m 0)) 21)).three
  simp only [World.size_alloc] at K1
  clear h nd hat hcells hG hnl q7 q5 top hp hN
  go_enter Tryz.func62, Tryz.ntmps62
  go_wp2
  go_loopw [18] (fun iv wr => ∃ (i : Nat) (n1 : List Int) (L1 : List Ndv) (G1 : Nat → Prop), i ≤ m ∧ iv = .int .i64 (i : Int) ∧ n1.length = i ∧ plantF st lv nx i L = some (n1, L1) ∧ Fo wr fb G1 st L1 ∧ Fr G w G1 wr ∧ ¬ G1 (w.heap.size + 1) ∧ Blk wr (w.heap.size + 1) 21 (r32 (n1 ++ List.replicate (m - n1.length) 0))) (fun iv _ => m - (intOf iv).toNat)
  case atStart =>
    refine ⟨0, [], L, G, Nat.zero_le _, rfl, rfl, rfl, HF.out.below B1.out, Fr.of_below B1.out, fun h => by have := HF.out.st2.2.2.2.2.2.2.1 _ h; omega, ?_⟩
    simpa using K1.out
  case round =>
    obtain ⟨i, n1, L1, G1, hi, rfl, hl1, hpl, hfo, hfr, hng, hkn⟩ := hrel
    obtain ⟨wo, rfl⟩ : ∃ wo, wo = wr := ⟨wr, rfl⟩
    have hsr : w.heap.size + 1 < wo.heap.size := hkn.lt
    have HP := Lib.hid hpl
    have HFO := Lib.hid hfo
    have HFR := Lib.hid hfr
    have HKN := Lib.hid hkn
    have HNG := Lib.hid hng
    have HL1 := Lib.hid hl1
    have BB := Lib.hid (hfr.below HG.out hB)
    clear hpl hfo hfr hkn hng hl1
    by_cases hlt : i < m
    · have d1 : decide ((i : Int) < (m : Int)) = true := by rw [decide_eq_true_iff]; omega
      obtain ⟨A', c', k1, k2, k3⟩ := HC.out i hlt
      obtain ⟨l1, l2, l3, l4⟩ := HND.out i hlt
      obtain ⟨n1', L1', r, L2, p1, p2, p3, p4, p5⟩ := HAT.out i hlt
      have hqq := HP.out.symm.trans p1
      simp only [Option.some.injEq, Prod.mk.injEq] at hqq
      obtain ⟨rfl, rfl⟩ := hqq
      have c1 : wo.cell? ⟨g, o + i * 2, none⟩ = some (.int .i64 (lv i)) := (BB.out.cell (p := ⟨g, _, none⟩) hgB).trans k1
      have c2 : wo.cell? ⟨g, o + i * 2 + 1, none⟩ = some (.slice A' (nx i).length c') := (BB.out.cell (p := ⟨g, _, none⟩) hgB).trans k2
      have hel := (k3.below BB.out)
      generalize hE : nx i = e at c2 hel l3 l4 p3
      generalize hV : lv i = l at c1 l1 l2 l4 p3
      have he8 : e.length ≤ 8 := by omega
      have HEL := Lib.hid hel
      have HL4 := Lib.hid l4
      have P3 := Lib.hid p3
      have P4 := Lib.hid p4
      have hgl : g < wo.heap.size := Nat.lt_of_lt_of_le hgB (Nat.le_trans hB HFR.out.size)
      clear k1 k2 k3 hel l4 p1 p2 p3 p4 p5 hE hV
      go_wp2
      go_loopw [29] (fun jv w2 => ∃ (j : Nat), j ≤ e.length ∧ jv = .int .i64 (j : Int) ∧ Blk w2 wo.heap.size 66 #[.int .i64 l, .slice A' e.length c'] ∧ Blk w2 (wo.heap.size + 1) 134 (nodC (pn l n1 e j)).toArray ∧ Below wo.heap.size wo w2) (fun jv _ => e.length - (intOf jv).toNat)
      case atStart =>
        have Z1 := (Blk.new wo 66 #[.int .i64 l, .slice A' e.length c']).alloc (.cells #[.int .i64 l, .int .i32 0, .int .i32 0, .int .i32 0, .int .i32 0, .int .i32 0, .int .i32 0, .int .i32 0, .int .i32 0] 134)
        have Z2 := Blk.new (wo.alloc (.cells #[.int .i64 l, .slice A' e.length c'] 66)) 134 #[.int .i64 l, .int .i32 0, .int .i32 0, .int .i32 0, .int .i32 0, .int .i32 0, .int .i32 0, .int .i32 0, .int .i32 0]
        simp only [World.size_alloc] at Z2
        exact ⟨0, Nat.zero_le _, rfl, Z1, Z2, ((Below.refl _ _).alloc (Nat.le_refl _) _).alloc (by simp) _⟩
      case round =>
        obtain ⟨j, hj, rfl, hz1, hz2, hb2⟩ := hrel
        have HZ1 := Lib.hid hz1
        have HZ2 := Lib.hid hz2
        have HB2 := Lib.hid hb2
        have hsz2 : wo.heap.size + 1 < wr.heap.size := hz2.lt
        clear hz1 hz2 hb2
        by_cases hje : j < e.length
        · have d2 : decide ((j : Int) < st) = true := by rw [decide_eq_true_iff]; omega
          obtain ⟨a1, a2, a3⟩ := HL4.out j hje
          obtain ⟨ad, e1, hadl, hcel⟩ := il_at (HEL.out) hje
          subst e1
          have hcel2 : wr.cell? (ad.add j) = some (.int .i64 (ig e j)) := (HB2.out.cell (p := ad.add j) (by rw [block_of_add]; have := BB.out.size; omega)).trans hcel
          have hpc := pn_cells (l := l) (nums := n1) hje he8
          obtain ⟨x, hx⟩ : ∃ x, (nodC (pn l n1 e j)).toArray[1 + j]? = some x := by
            have hl9 : (nodC (pn l n1 e j)).length = 9 := by simp [nodC, pn_len hj he8]
            have hlt9 : 1 + j < (nodC (pn l n1 e j)).toArray.size := by rw [List.size_toArray, hl9]; omega
            exact ⟨_, Array.getElem?_eq_getElem hlt9⟩
          have hz2c := (HZ2.out.cell (1 + j)).trans hx
          have hz2f := HZ2.out.frozen (1 + j)
          obtain ⟨zl0, zl1, _⟩ := HZ1.out.two
          generalize hK : ig e j = k at hcel2 hcel a1 a2 a3 hpc
          obtain ⟨kn, rfl⟩ := Int.eq_ofNat_of_zero_le a1
          have j0 : (0 : Int) ≤ (j : Int) := by omega
          have j1 : (j : Int) < 8 := by omega
          have k5 : (kn : Int) < 5000 := by
            by_cases q : 1 < l
            · have := (a3 q).1; omega
            · have := a2 (by omega); omega
          have cw : IntKind.i32.wrap (kn : Int) = (kn : Int) := IntWalk.i32_in _ ⟨by omega, by omega⟩
          have HPC := Lib.hid hpc
          clear hpc hx hcel
          by_cases hl1 : 1 < l
          · have hkn := (a3 hl1).1
            have hki : kn < n1.length := by have := HL1.out; omega
            have hd3 : decide (1 < l) = true := by rw [decide_eq_true_iff]; exact hl1
            have KN2 := Lib.hid (HKN.out.below HB2.out hsr)
            have hnc : (wr.setCell ⟨wo.heap.size + 1, 1 + j, none⟩ (.int .i32 (kn : Int))).cell? ⟨w.heap.size + 1, kn, none⟩ = some (.int .i32 (ig n1 kn)) := by
              have := (KN2.out.far (p := ⟨wo.heap.size + 1, 1 + j, none⟩) (by show w.heap.size + 1 ≠ wo.heap.size + 1; omega) (.int .i32 (kn : Int))).cell kn
              rw [this, r32_get (by simp; omega)]
              simp [ig, List.getD, List.getElem?_append_left hki]
            go_wp2
            have Z1 := (HZ1.out.far (p := ⟨wo.heap.size + 1, 1 + j, none⟩) (by show wo.heap.size ≠ wo.heap.size + 1; omega) (.int .i32 (kn : Int))).far (p := ⟨wo.heap.size + 1, 1 + j, none⟩) (by show wo.heap.size ≠ wo.heap.size + 1; omega) (.int .i32 (ig n1 kn))
            have Z2 := (HZ2.out.set_ (1 + j) (.int .i32 (kn : Int))).set_ (1 + j) (.int .i32 (ig n1 kn))
            have hpc := HPC.out
            rw [pv, if_pos hl1, Int.toNat_natCast] at hpc
            rw [Array.setIfInBounds_setIfInBounds, hpc] at Z2
            exact ⟨⟨j + 1, by omega, by go_num, Z1, Z2, (HB2.out.setCell (by show wo.heap.size ≤ wo.heap.size + 1; omega) _).setCell (by show wo.heap.size ≤ wo.heap.size + 1; omega) _⟩, by simp [intOf]; omega⟩
          · have hd3 : decide (1 < l) = false := by rw [decide_eq_false_iff_not]; exact hl1
            go_wp2
            have Z1 := HZ1.out.far (p := ⟨wo.heap.size + 1, 1 + j, none⟩) (by show wo.heap.size ≠ wo.heap.size + 1; omega) (.int .i32 (kn : Int))
            have Z2 := HZ2.out.set_ (1 + j) (.int .i32 (kn : Int))
            have hpc := HPC.out
            rw [pv, if_neg hl1] at hpc
            rw [hpc] at Z2
            exact ⟨⟨j + 1, by omega, by go_num, Z1, Z2, HB2.out.setCell (by show wo.heap.size ≤ wo.heap.size + 1; omega) _⟩, by simp [intOf]; omega⟩
        · obtain rfl : j = e.length := by omega
          have d2 : decide (((e.length : Nat) : Int) < st) = false := by rw [decide_eq_false_iff_not]; omega
          obtain ⟨y0, y1, y2, y3, y4, y5, y6, y7, hpn⟩ := nodV_len9 (pn_len (l := l) (nums := n1) (e := e) (Nat.le_refl _) he8)
          have hpn : pn l n1 e e.length = ⟨l, [y0, y1, y2, y3, y4, y5, y6, y7]⟩ := hpn
          have hz2 := HZ2.out
          rw [hpn] at hz2
          obtain ⟨v0, v1, v2, v3, v4, v5, v6, v7, v8⟩ := Blk.nine (t := 134) (show Blk wr (wo.heap.size + 1) _ #[.int .i64 l, .int .i32 y0, .int .i32 y1, .int .i32 y2, .int .i32 y3, .int .i32 y4, .int .i32 y5, .int .i32 y6, .int .i32 y7] from hz2)
          have hn8 : Nd8 (pn l n1 e e.length) := by
            refine ⟨by show (-9223372036854775808 : Int) ≤ l; omega, by show l < 9223372036854775808; have := hd.1.2; omega, pn_len (Nat.le_refl _) he8, fun x hx => ?_⟩
            have hx : x ∈ (e.take e.length).map (pv l n1) ++ List.replicate (8 - e.length) 0 := hx
            rcases List.mem_append.1 hx with hx | hx
            · rw [List.take_length] at hx
              obtain ⟨k, hk, rfl⟩ := List.mem_map.1 hx
              obtain ⟨j, hj, rfl⟩ := mem_ig hk
              obtain ⟨a1, a2, a3⟩ := HL4.out j hj
              by_cases q : 1 < l
              · obtain ⟨b1, _⟩ := a3 q
                have hlt : (ig e j).toNat < n1.length := by have := HL1.out; omega
                have := (plantF_rng (by omega) q8 HP.out).1 _ (ig_mem hlt)
                simp only [pv, if_pos q]
                omega
              · have := a2 (by omega)
                simp only [pv, if_neg q]
                omega
            · have := List.eq_of_mem_replicate hx
              omega
          have C := add_any (HFO.out.below HB2.out) hn8 P3.out
          rw [hpn, nodV_eight] at C
          have CH := Lib.hid C
          have KN2 := Lib.hid (HKN.out.below HB2.out hsr)
          clear hz2 C hn8
          go_wp2_with (go_at_call 87; (with_reducible refine (CH.out).mono ?_); rintro e w5 ⟨G2, rfl, hf5, hr5⟩; have F5 := Lib.hid hf5; have R5 := Lib.hid hr5; have K5 := Lib.hid (hr5.blk KN2.out HNG.out); have z0 := K5.out.cell i; rw [r32_get (by have := HL1.out; simp; omega)] at z0; have z1 := K5.out.frozen i; clear hf5 hr5)
          have ng2 : ¬ G2 (w.heap.size + 1) := fun h => (R5.out.new _ h).elim HNG.out (fun h => by omega)
          have ZF := F5.out.keep (Fr.set_ (G := fun k => k = w.heap.size + 1) w5 (p := ⟨w.heap.size + 1, i, none⟩) (.int .i32 r) rfl) (fun k hk e => ng2 (e ▸ hk))
          have ZR := (((HFR.out.trans (Fr.of_below (G := G1) (show Below wo.heap.size wo wr from HB2.out))).trans R5.out).set_new (p := ⟨w.heap.size + 1, i, none⟩) (by show w.heap.size ≤ w.heap.size + 1; omega) (.int .i32 r))
          have hl := HL1.out
          have ZK := K5.out.set_ i (.int .i32 r)
          rw [← hl, r32_step (by omega), hl] at ZK
          exact ⟨⟨i + 1, n1 ++ [r], L2, G2, by omega, by go_num, by simp [hl], P4.out, ZF, ZR, ng2, ZK⟩, by simp [intOf]; omega⟩
    · obtain rfl : i = m := by omega
      have d1 : decide ((i : Int) < (i : Int)) = false := by rw [decide_eq_false_iff_not]; omega
      obtain ⟨i', rfl⟩ : ∃ i', i = i' + 1 := ⟨i - 1, by omega⟩
      have hz := HKN.out.cell i'
      rw [r32_get (by have := HL1.out; simp; omega)] at hz
      have e1 : ((i' + 1 : Nat) : Int) - 1 = (i' : Int) := by omega
      have e2 : IntKind.i64.wrap (i' : Int) = (i' : Int) := IntWalk.i64_in _ ⟨by omega, by omega⟩
      go_wp2
      go_ret
      have hqq := HPP.out.symm.trans HP.out
      simp only [Option.some.injEq, Prod.mk.injEq] at hqq
      obtain ⟨rfl, rfl⟩ := hqq
      refine ⟨G1, ret_int ?_, HFO.out, HFR.out⟩
      rw [HL1.out, Nat.sub_self, List.replicate_zero, List.append_nil, Nat.add_sub_cancel]
end Go.Proofs.YtcgkkppidkkjiaaGreatDoor
namespace Go.Proofs.YtcgkkppidkkjiaaGreatDoor
open Go.RowKit
/-- a tree of finished nodes -/
def trOR (sn n : Nat) (f : Nat → P2) (out : List (Int × List Int)) : Tr := ⟨(sn : Int), n, f, out.length, lvO out, nxO out⟩
end Go.Proofs.YtcgkkppidkkjiaaGreatDoor
namespace Go.Proofs.YtcgkkppidkkjiaaGreatDoor
open Go.RowKit
/-- three cells of a struct -/
theorem tri {w : World} {g : Nat} {t : TypeId} {a b c : Value} (h : Blk w g t #[a, b, c]) : w.cell? ⟨g, 0, none⟩ = some a ∧ w.cell? ⟨g, 1, none⟩ = some b ∧ w.cell? ⟨g, 2, none⟩ = some c := ⟨h.three.1, h.three.2.1, h.three.2.2.1⟩
theorem below_blk {B g : Nat} {w w' : World} {t : TypeId} {cs : Array Value} (hb : Below B w w') (h : Blk w g t cs) (hg : g < B) : Blk w' g t cs := h.below hb hg
theorem Fr.qreads {G G' : Nat → Prop} {w w' : World} (h : Fr G w G' w') {A : Option Addr} {n : Nat} {f : Nat → P2} (k : QReads w w.heap.size A n f) (hA : 0 < n → ∀ ad, A = some ad → ¬ G ad.block) : QReads w' w'.heap.size A n f := fun hn => by
  obtain ⟨g, o, e, hg, hc⟩ := k hn
  have hn2 := hA hn _ e
  exact ⟨g, o, e, Nat.lt_of_lt_of_le hg h.size, fun i hi => by
    obtain ⟨c1, c2⟩ := hc i hi
    exact ⟨(World.cell?_of_block (h.block g hg hn2)).trans c1, (World.cell?_of_block (h.block g hg hn2)).trans c2⟩⟩
theorem set3_fr (w : World) (g : Nat) (b0 b1 b2 : Value) : Fr (fun k => k = g) w (fun k => k = g) (((w.setCell ⟨g, 0, none⟩ b0).setCell ⟨g, 1, none⟩ b1).setCell ⟨g, 2, none⟩ b2) :=
  ((Fr.set_ w (p := ⟨g, 0, none⟩) b0 (by rfl)).trans (Fr.set_ _ (p := ⟨g, 1, none⟩) b1 (by rfl))).trans (Fr.set_ _ (p := ⟨g, 2, none⟩) b2 (by rfl))
end Go.Proofs.YtcgkkppidkkjiaaGreatDoor
