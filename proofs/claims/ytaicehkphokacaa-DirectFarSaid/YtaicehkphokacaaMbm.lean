/- Small lemmas out of older texts. -/
import Derived.Test.YtaicehkphokacaaMaq
import Derived.Test.YtaicehkphokacaaMah
import Derived.ProofKit
import Derived.OpenShut
import Derived.Deep.DeepHandedRow
import Derived.Lib.SmallJoins
import Derived.Deep.Slices
import Derived.ChangeSame
namespace Go.Proofs.Ytaicehkphokacaa
open Go.ChangeShapes Go.WideShapes Go.ChangeAt Go.RowKit Go.Joins Go.Deep
variable {H : Type} {enc : TypeId × Value → H} {P : Program}
theorem QReads.nil {w : World} {B : Nat} {f : Nat → P2} : QReads w B none 0 f := fun h => absurd h (by omega)
theorem Reads.none0 {w : World} {B : Nat} : Reads w B none 0 [] := ⟨by simp, fun h => absurd h (by omega)⟩
theorem reads_len0 {w : World} {B n : Nat} {A : Option Addr} {l : List Int} (h : Reads w B A n (il l)) : l.length = n := by simpa [il] using h.1
theorem own : ownKnob Try.prog.godebug = none := by kernel_rfl
theorem laidOut : laidOutB Try.prog = true := by kernel_rfl
theorem cellsInt : Try.prog.cellsOf 3 = 1 := by kernel_rfl
theorem cellsInts : Try.prog.cellsOf 38 = 1 := by kernel_rfl
theorem cellsPoint : Try.prog.cellsOf 52 = 2 := by kernel_rfl
theorem cellsNode : Try.prog.cellsOf 70 = 2 := by kernel_rfl
theorem cellsTree : Try.prog.cellsOf 25 = 3 := by kernel_rfl
theorem post_of_below {f : Func} {s : ChangeSpec} {apart fresh handsOn again : Bool} {W W' : World} {args : Array Value} {v : Value} {ds gs : List (DataW H)} {before pa pv : List MemPlace}
    (hW : DataW.Whole enc P f.params.toList s.vars apart W args.toList ds gs before)
    (hres : ∀ (b : Nat) (sp : Nat → Bool) (hd : Bool), DataW.TrodAll enc P W' b sp hd f.resultTypes.toList (v.resultList f.resultTypes.size) (s.fn H (ds ++ gs)).results [])
    (hargs : ∀ sp : Nat → Bool, (∀ p ∈ before, sp p.block = true) → DataW.TrodAll enc P W' 0 sp true f.params.toList args.toList (s.fn H (ds ++ gs)).args pa)
    (hvars : ∀ sp : Nat → Bool, (∀ p ∈ before, sp p.block = true) → DataW.TrodVars enc P W' sp s.vars (s.fn H (ds ++ gs)).vars pv)
    (hps : before = pa ++ pv) (hb : Below W.heap.size W W')
    (hok : ∀ (j : Nat) (t : TypeId) (r : Value), f.resultTypes[j]? = some t → (v.resultList f.resultTypes.size)[j]? = some r → Value.okWide P W' .any 0 t r) :
    s.post enc P f apart fresh handsOn again W args v W' := by
  have hlt : ∀ p ∈ before, p.block < W.heap.size := fun p hp => hW.lt p hp
  have hold : ∀ p ∈ before, (fun b => decide (b < W.heap.size)) p.block = true := fun p hp => by simpa using hlt p hp
  refine ⟨ds, gs, before, [], pa, pv, hW, hres _ _ _, hargs _ hold, hvars _ hold, World.keptBut_mono (fun p hp => ⟨hp, ?_⟩) (hb.frame (· ∈ before)), fun _ => ?_⟩
  · rw [hps, List.mem_append] at hp
    exact Or.inr hp
  · obtain ⟨_, _, _, _, _, hz, hn⟩ := hW
    refine ⟨hok, _, _, ([] ++ pa) ++ pv, ⟨[] ++ pa, pv, trodAll_append (hargs _ (fun _ _ => rfl)) (hres _ _ _), hvars _ (fun _ _ => rfl), rfl, ?_, ?_⟩, ?_⟩
    · intro b off hp
      have hin : MemPlace.cell b off ∈ before := by rw [hps]; simpa using hp
      rw [hb.frozen (hlt _ hin)]
      exact hz b off hin
    · intro ha
      have := hn ha
      rw [hps] at this
      simpa using this
    · intro p hp _
      rw [hps]
      simpa using hp
set_option maxRecDepth 100000 in
/-- two values in a row read as a position -/
theorem point_in {H : Type} {enc : TypeId × Value → H} {W : World} {base fuel : Nat} {spare : Nat → Bool} {held : Bool} {cs : List Value} {y : DataW H × List MemPlace} (hl : cs.length = 2) (h : DataW.trod enc Try.prog W base spare held fuel 52 cs = some y) :
    ∃ a : P2, cs = [.int .i64 a.1, .int .i64 a.2] := by
  obtain ⟨xs, k, hk, hxy, _, hxl, hf⟩ := DataW.trod_struct Try.underlying52 h
  match cs, hl, xs, hxl with
  | [v0, v1], _, [y0, y1], _ =>
    have e0 := hf 0 _ rfl
    have e1 := hf 1 _ rfl
    simp [cellsInt] at e0 e1
    obtain ⟨x, hx, _⟩ := DataW.trod_int Try.underlying3 e0
    obtain ⟨y, hy, _⟩ := DataW.trod_int Try.underlying3 e1
    injection hx with hx
    injection hy with hy
    exact ⟨(x, y), by rw [hx, hy]⟩
/-- a list that came in reads as positions -/
theorem list_in {H : Type} {enc : TypeId × Value → H} {W : World} {base fuel : Nat} {spare : Nat → Bool} {held : Bool} {v : Value} {y : DataW H × List MemPlace} (h : DataW.trod enc Try.prog W base spare held fuel 22 [v] = some y) :
    ∃ (A : Option Addr) (n c : Nat) (f : Nat → P2), v = .slice A n c ∧ n ≤ maxLen ∧ QReads W W.heap.size A n f := by
  rcases open_slice Try.underlying22 h with ⟨hcs, _⟩ | ⟨a, len, cap, m, n, D, Pl, hcs, hb, hl, hm, hmm, _, hx⟩
  · injection hcs with hcs
    exact ⟨none, 0, 0, fun _ => (0, 0), hcs, Nat.zero_le _, QReads.nil⟩
  · injection hcs with hcs
    have hlm : len ≤ m := by rw [hmm]; split <;> omega
    have each : ∀ i, i < len → ∃ q : P2, W.cell? (a.add (i * 2)) = some (.int .i64 q.1) ∧ W.cell? (a.add (i * 2 + 1)) = some (.int .i64 q.2) := by
      intro i hi
      obtain ⟨cs', h1, h2⟩ := hx i (by omega)
      rw [cellsPoint] at h1
      obtain ⟨_, hlen, hcell⟩ := World.cells?_some h1
      obtain ⟨q, hq⟩ := point_in hlen h2
      subst hq
      have e0 := hcell 0 (by omega)
      have e1 := hcell 1 (by omega)
      rw [add_add] at e0 e1
      exact ⟨q, by simpa using e0, by simpa using e1⟩
    obtain ⟨f, hf⟩ := choose_lt each
    refine ⟨some a, len, cap, f, hcs, Nat.le_trans hl hm, fun hn => ?_⟩
    have h0 := (hf 0 hn).1
    rw [show a.add (0 * 2) = a by simp [Addr.add]] at h0
    have hs := spot_of_cell h0
    refine ⟨a.block, a.off, by rw [← hs], World.block_lt_of_cell? W _ h0, fun k hk => ?_⟩
    have hadd : ∀ j, a.add j = ⟨a.block, a.off + j, none⟩ := fun j => by
      rw [hs]
      unfold Addr.add
      split
      · next e => subst e; rfl
      · rfl
    obtain ⟨q0, q1⟩ := hf k hk
    rw [hadd] at q0 q1
    exact ⟨q0, q1⟩
/-- a list of numbers that came in reads as numbers -/
theorem ints_in {H : Type} {enc : TypeId × Value → H} {W : World} {base fuel : Nat} {spare : Nat → Bool} {held : Bool} {v : Value} {y : DataW H × List MemPlace} (h : DataW.trod enc Try.prog W base spare held fuel 38 [v] = some y) :
    ∃ (A : Option Addr) (n c : Nat) (l : List Int), v = .slice A n c ∧ n ≤ c ∧ n ≤ maxLen ∧ Reads W W.heap.size A n (il l) := by
  rcases open_ints Try.underlying38 Try.underlying3 cellsInt h with ⟨hcs, _⟩ | ⟨a, len, cap, zs, hcs, hb, hl, hm, hz, hx, hcell, hw⟩
  · injection hcs with hcs
    exact ⟨none, 0, 0, [], hcs, Nat.le_refl _, Nat.zero_le _, Reads.none0⟩
  · injection hcs with hcs
    have hzl : len ≤ zs.length := by rw [hz]; split <;> omega
    refine ⟨some a, len, cap, zs.take len, hcs, hl, Nat.le_trans hl hm, by simp [il]; omega, fun hp => ⟨a, rfl, ?_, ?_⟩⟩
    · have := World.block_lt_of_cell? W _ (hcell 0 (by omega))
      rwa [block_of_add] at this
    · intro j u hu
      have hj : j < len := by
        have := (List.getElem?_eq_some_iff.1 hu).1
        simp [il] at this; omega
      have hj' : j < zs.length := by omega
      rw [hcell j hj']
      simp only [il, List.getElem?_map, List.getElem?_take, if_pos hj, List.getElem?_eq_getElem hj', Option.map_some] at hu
      rw [← hu]
      simp [List.getD, hj']
set_option maxRecDepth 100000 in
/-- two values in a row read as a node -/
theorem node_read {H : Type} {enc : TypeId × Value → H} {W : World} {base fuel : Nat} {spare : Nat → Bool} {held : Bool} {cs : List Value} {y : DataW H × List MemPlace} (hl : cs.length = 2) (h : DataW.trod enc Try.prog W base spare held fuel 70 cs = some y) :
    ∃ (A : Option Addr) (c : Nat) (l : List Int) (o : Int), cs = [.int .i64 o, .slice A l.length c] ∧ l.length ≤ maxLen ∧ Reads W W.heap.size A l.length (il l) := by
  obtain ⟨xs, k, hk, hxy, _, hxl, hf⟩ := DataW.trod_struct Try.underlying70 h
  match cs, hl, xs, hxl with
  | [v0, v1], _, [y0, y1], _ =>
    have e0 := hf 0 _ rfl
    have e1 := hf 1 _ rfl
    simp [cellsInt, cellsInts] at e0 e1
    obtain ⟨A, n, c, l, rfl, _, h1, h2⟩ := ints_in e1
    obtain ⟨o, ho, _⟩ := DataW.trod_int Try.underlying3 e0
    injection ho with ho
    have hll := reads_len0 h2
    exact ⟨A, c, l, o, by rw [ho, hll], by omega, by rw [hll]; exact h2⟩
/-- a list of nodes that came in reads as nodes -/
theorem nodes_read {H : Type} {enc : TypeId × Value → H} {W : World} {base fuel : Nat} {spare : Nat → Bool} {held : Bool} {v : Value} {y : DataW H × List MemPlace} (h : DataW.trod enc Try.prog W base spare held fuel 23 [v] = some y) :
    ∃ (A : Option Addr) (n c : Nat) (lv : Nat → Int) (nx : Nat → List Int), v = .slice A n c ∧ n ≤ maxLen ∧ NR W W.heap.size A n lv nx ∧ ∀ k, k < n → (nx k).length ≤ maxLen := by
  rcases open_slice Try.underlying23 h with ⟨hcs, _⟩ | ⟨a, len, cap, m, n, D, Pl, hcs, hb, hl, hm, hmm, _, hx⟩
  · injection hcs with hcs
    exact ⟨none, 0, 0, fun _ => 0, fun _ => [], hcs, Nat.zero_le _, fun hn => absurd hn (Nat.lt_irrefl 0), fun k hk => absurd hk (Nat.not_lt_zero k)⟩
  · injection hcs with hcs
    have hlm : len ≤ m := by rw [hmm]; split <;> omega
    have each : ∀ i, i < len → ∃ q : Int × List Int, (∃ A' c', W.cell? (a.add (i * 2)) = some (.int .i64 q.1) ∧ W.cell? (a.add (i * 2 + 1)) = some (.slice A' q.2.length c') ∧ Reads W W.heap.size A' q.2.length (il q.2)) ∧ q.2.length ≤ maxLen := by
      intro i hi
      obtain ⟨cs', h1, h2⟩ := hx i (by omega)
      rw [cellsNode] at h1
      obtain ⟨_, hlen, hcell⟩ := World.cells?_some h1
      obtain ⟨A', c', l, o, rfl, hml, hr⟩ := node_read hlen h2
      have e0 := hcell 0 (by omega)
      have e1 := hcell 1 (by omega)
      rw [add_add] at e0 e1
      exact ⟨(o, l), ⟨A', c', by simpa using e0, by simpa using e1, hr⟩, hml⟩
    obtain ⟨f, hf⟩ := choose_lt each
    refine ⟨some a, len, cap, fun k => (f k).1, fun k => (f k).2, hcs, Nat.le_trans hl hm, fun hn => ?_, fun k hk => (hf k hk).2⟩
    obtain ⟨⟨A', c', h0, _⟩, _⟩ := hf 0 hn
    rw [show a.add (0 * 2) = a by simp [Addr.add]] at h0
    have hs := spot_of_cell h0
    refine ⟨a.block, a.off, by rw [← hs], World.block_lt_of_cell? W _ h0, fun k hk => ?_⟩
    have hadd : ∀ j, a.add j = ⟨a.block, a.off + j, none⟩ := fun j => by
      rw [hs]
      unfold Addr.add
      split
      · next e => subst e; rfl
      · rfl
    obtain ⟨⟨A'', c'', q0, q1, q2⟩, _⟩ := hf k hk
    rw [hadd] at q0 q1
    exact ⟨A'', c'', q0, q1, q2⟩
theorem array3 {α : Type} {cs : Array α} (h : cs.size = 3) : ∃ c0 c1 c2, cs = #[c0, c1, c2] := by
  obtain ⟨l⟩ := cs
  match l, h with
  | [c0, c1, c2], _ => exact ⟨c0, c1, c2, rfl⟩
set_option maxRecDepth 100000 in
/-- a tree that came in reads as a tree -/
theorem tree_in {H : Type} {enc : TypeId × Value → H} {W : World} {base b0 : Nat} {spare : Nat → Bool} {held : Bool} {r : Reach} {v : Value} {d : DataW H} {p : List MemPlace} (hv : Value.okWide Try.prog W r b0 25 v) (h : DataW.Trod enc Try.prog W base spare held 25 v d p) :
    ∃ (AH : Option Addr) (cH : Nat) (AN : Option Addr) (cN : Nat) (T : Tr), v = .agg #[.int .i64 T.st, .slice AH T.n cH, .slice AN T.m cN] ∧ TS W AH AN T ∧ Fits T := by
  obtain ⟨cs, rfl, hsz⟩ := okWide_struct Try.underlying25 hv
  obtain ⟨c0, c1, c2, rfl⟩ := array3 (hsz.trans cellsTree)
  obtain ⟨fuel, hf⟩ := h
  obtain ⟨xs, k, hk, hxy, _, hxl, hf⟩ := DataW.trod_struct Try.underlying25 hf
  match xs, hxl with
  | [y0, y1, y2], _ =>
    have e0 := hf 0 _ rfl
    have e1 := hf 1 _ rfl
    have e2 := hf 2 _ rfl
    have z1 : Try.prog.cellsOf 22 = 1 := by kernel_rfl
    have z2 : Try.prog.cellsOf 23 = 1 := by kernel_rfl
    simp [cellsInt, z1, z2, Value.cells] at e0 e1 e2
    obtain ⟨st, h0, _⟩ := DataW.trod_int Try.underlying3 e0
    injection h0 with h0
    obtain ⟨A, n, c, f, rfl, n1, g1⟩ := list_in e1
    obtain ⟨An, m, cn, lv, nx, rfl, n2, g2, m2⟩ := nodes_read e2
    subst h0
    unfold maxLen at n1 n2 m2
    exact ⟨A, c, An, cn, ⟨st, n, f, m, lv, nx⟩, rfl, ⟨g1, g2⟩, ⟨by show n < _; omega, by show m < _; omega, fun k hk => by have := m2 k hk; show (nx k).length < _; omega⟩⟩
end Go.Proofs.Ytaicehkphokacaa
