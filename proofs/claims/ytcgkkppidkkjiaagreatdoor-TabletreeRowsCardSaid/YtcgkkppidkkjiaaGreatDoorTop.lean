/- The first row whose tree leads to 1 decides, for every table and list of states: the statement TabletreeRows, its card. No condition. -/
import Derived.Test.YtcgkkppidkkjiaaGreatDoorCards
import Derived.Test.YtcgkkppidkkjiaaGreatDoorTie
import Derived.Test.YtcgkkppidkkjiaaGreatDoorMbr
import Derived.ProofKit
import Derived.OpenShut
import Derived.Deep.DeepHandedRow
import Derived.Lib.LaidTab
import Derived.Lib.SmallJoins
import Derived.Deep.Slices
import Derived.ChangeSame
namespace Go.Proofs.YtcgkkppidkkjiaaGreatDoor.lawRows
open Go.ChangeShapes Go.WideShapes Go.ChangeAt Go.RowKit Go.Joins Go.Deep

/-- no list is greater than memory -/
def Fits (T : Tab) : Prop := T.n < 9223372036854775808 ∧ T.nv < 9223372036854775808 ∧ T.nr < 9223372036854775808 ∧ (∀ k, k < T.nv → (T.v k).length < 9223372036854775808) ∧ ∀ k, k < T.nr → (T.ri k).length < 9223372036854775808
theorem own : ownKnob Tryz.prog.godebug = none := by kernel_rfl
theorem laidOut : laidOutB Tryz.prog = true := by kernel_rfl
theorem cellsInt : Tryz.prog.cellsOf 3 = 1 := by kernel_rfl
theorem cellsInts : Tryz.prog.cellsOf 27 = 1 := by kernel_rfl
theorem cellsPoint : Tryz.prog.cellsOf 58 = 2 := by kernel_rfl
theorem cellsRow : Tryz.prog.cellsOf 41 = 2 := by kernel_rfl
theorem cellsTable : Tryz.prog.cellsOf 26 = 5 := by kernel_rfl
theorem cellsMats : Tryz.prog.cellsOf 163 = 32 := by kernel_rfl
theorem cellsMat : Tryz.prog.cellsOf 162 = 4 := by kernel_rfl

section
variable {H : Type} {enc : TypeId × Value → H} {P : Program}
theorem post_of_below {f : Func} {s : ChangeSpec} {apart fresh handsOn again : Bool} {W W' : World} {args : Array Value} {v : Value} {ds gs : List (DataW H)} {before pa pv : List MemPlace}
    (hW : DataW.Whole enc P f.params.toList s.vars apart W args.toList ds gs before)
    (hres : ∀ (b : Nat) (sp : Nat → Bool) (hd : Bool), DataW.TrodAll enc P W' b sp hd f.resultTypes.toList (v.resultList f.resultTypes.size) (s.fn H (ds ++ gs)).results [])
    (hargs : ∀ sp : Nat → Bool, (∀ p ∈ before, sp p.block = true) → DataW.TrodAll enc P W' 0 sp true f.params.toList args.toList (s.fn H (ds ++ gs)).args pa)
    (hvars : ∀ sp : Nat → Bool, (∀ p ∈ before, sp p.block = true) → DataW.TrodVars enc P W' sp s.vars (s.fn H (ds ++ gs)).vars pv)
    (hps : before = pa ++ pv) (hb : Below W.heap.size W W')
    (hok : ∀ (j : Nat) (t : TypeId) (r : Value), f.resultTypes[j]? = some t → (v.resultList f.resultTypes.size)[j]? = some r → Value.okWide P W' .any 0 t r) :
    s.post enc P f apart fresh handsOn again W args v W' := by
  have hlt : ∀ p ∈ before, p.block < W.heap.size := fun p hp => hW.lt p hp
  have hold : ∀ p ∈ before, (fun b => decide (b < W.heap.size)) p.block = true := fun p hp => by simpa using hlt p hp
  refine ⟨ds, gs, before, [], pa, pv, hW, hres _ _ _, hargs _ hold, hvars _ hold, World.keptBut_mono (fun p hp => ⟨hp, ?_⟩) (hb.frame (· ∈ before)), fun _ => ?_⟩
  · rw [hps, List.mem_append] at hp
    exact Or.inr hp
  · obtain ⟨_, _, _, _, _, hz, hn⟩ := hW
    refine ⟨hok, _, _, ([] ++ pa) ++ pv, ⟨[] ++ pa, pv, trodAll_append (hargs _ (fun _ _ => rfl)) (hres _ _ _), hvars _ (fun _ _ => rfl), rfl, ?_, ?_⟩, ?_⟩
    · intro b off hp
      have hin : MemPlace.cell b off ∈ before := by rw [hps]; simpa using hp
      rw [hb.frozen (hlt _ hin)]
      exact hz b off hin
    · intro ha
      have := hn ha
      rw [hps] at this
      simpa using this
    · intro p hp _
      rw [hps]
      simpa using hp
end


theorem spot_of_cell {w : World} {a : Addr} {u : Value} (h : w.cell? a = some u) : a = ⟨a.block, a.off, none⟩ := by
  obtain ⟨b, o, s⟩ := a
  cases s with
  | none => rfl
  | some s =>
    unfold World.cell? at h
    split at h
    · simp at h
    · cases h
set_option maxRecDepth 100000 in
/-- two values in a row read as a position -/
theorem point_in {H : Type} {enc : TypeId × Value → H} {W : World} {base fuel : Nat} {spare : Nat → Bool} {held : Bool} {cs : List Value} {y : DataW H × List MemPlace} (hl : cs.length = 2) (h : DataW.trod enc Tryz.prog W base spare held fuel 58 cs = some y) :
    ∃ a : P2, cs = [.int .i64 a.1, .int .i64 a.2] := by
  obtain ⟨xs, k, hk, hxy, _, hxl, hf⟩ := DataW.trod_struct Tryz.underlying58 h
  match cs, hl, xs, hxl with
  | [v0, v1], _, [y0, y1], _ =>
    have e0 := hf 0 _ rfl
    have e1 := hf 1 _ rfl
    simp [cellsInt] at e0 e1
    obtain ⟨x, hx, _⟩ := DataW.trod_int Tryz.underlying3 e0
    obtain ⟨y, hy, _⟩ := DataW.trod_int Tryz.underlying3 e1
    injection hx with hx
    injection hy with hy
    exact ⟨(x, y), by rw [hx, hy]⟩
/-- a list that came in reads as positions -/
theorem list_in {H : Type} {enc : TypeId × Value → H} {W : World} {base fuel : Nat} {spare : Nat → Bool} {held : Bool} {v : Value} {y : DataW H × List MemPlace} (h : DataW.trod enc Tryz.prog W base spare held fuel 22 [v] = some y) :
    ∃ (A : Option Addr) (n c : Nat) (f : Nat → P2), v = .slice A n c ∧ n ≤ maxLen ∧ QReads W W.heap.size A n f := by
  rcases open_slice Tryz.underlying22 h with ⟨hcs, _⟩ | ⟨a, len, cap, m, n, D, Pl, hcs, hb, hl, hm, hmm, _, hx⟩
  · injection hcs with hcs
    exact ⟨none, 0, 0, fun _ => (0, 0), hcs, Nat.zero_le _, QReads.nil⟩
  · injection hcs with hcs
    have hlm : len ≤ m := by rw [hmm]; split <;> omega
    have each : ∀ i, i < len → ∃ q : P2, W.cell? (a.add (i * 2)) = some (.int .i64 q.1) ∧ W.cell? (a.add (i * 2 + 1)) = some (.int .i64 q.2) := by
      intro i hi
      obtain ⟨cs', h1, h2⟩ := hx i (by omega)
      rw [cellsPoint] at h1
      obtain ⟨_, hlen, hcell⟩ := World.cells?_some h1
      obtain ⟨q, hq⟩ := point_in hlen h2
      subst hq
      have e0 := hcell 0 (by omega)
      have e1 := hcell 1 (by omega)
      rw [add_add] at e0 e1
      exact ⟨q, by simpa using e0, by simpa using e1⟩
    obtain ⟨f, hf⟩ := choose_lt each
    refine ⟨some a, len, cap, f, hcs, Nat.le_trans hl hm, fun hn => ?_⟩
    have h0 := (hf 0 hn).1
    rw [show a.add (0 * 2) = a by simp [Addr.add]] at h0
    have hs := spot_of_cell h0
    refine ⟨a.block, a.off, by rw [← hs], World.block_lt_of_cell? W _ h0, fun k hk => ?_⟩
    have hadd : ∀ j, a.add j = ⟨a.block, a.off + j, none⟩ := fun j => by
      rw [hs]
      unfold Addr.add
      split
      · next e => subst e; rfl
      · rfl
    obtain ⟨q0, q1⟩ := hf k hk
    rw [hadd] at q0 q1
    exact ⟨q0, q1⟩

/-- a list of numbers that came in reads as numbers -/
theorem ints_in {H : Type} {enc : TypeId × Value → H} {W : World} {base fuel : Nat} {spare : Nat → Bool} {held : Bool} {v : Value} {y : DataW H × List MemPlace} (h : DataW.trod enc Tryz.prog W base spare held fuel 27 [v] = some y) :
    ∃ (A : Option Addr) (n c : Nat) (l : List Int), v = .slice A n c ∧ n ≤ c ∧ n ≤ maxLen ∧ Reads W W.heap.size A n (il l) := by
  rcases open_ints Tryz.underlying27 Tryz.underlying3 cellsInt h with ⟨hcs, _⟩ | ⟨a, len, cap, zs, hcs, hb, hl, hm, hz, hx, hcell, hw⟩
  · injection hcs with hcs
    exact ⟨none, 0, 0, [], hcs, Nat.le_refl _, Nat.zero_le _, Reads.none_⟩
  · injection hcs with hcs
    have hzl : len ≤ zs.length := by rw [hz]; split <;> omega
    refine ⟨some a, len, cap, zs.take len, hcs, hl, Nat.le_trans hl hm, by simp [il]; omega, fun hp => ⟨a, rfl, ?_, ?_⟩⟩
    · have := World.block_lt_of_cell? W _ (hcell 0 (by omega))
      rwa [block_of_add] at this
    · intro j u hu
      have hj : j < len := by
        have := (List.getElem?_eq_some_iff.1 hu).1
        simp [il] at this; omega
      have hj' : j < zs.length := by omega
      rw [hcell j hj']
      simp only [il, List.getElem?_map, List.getElem?_take, if_pos hj, List.getElem?_eq_getElem hj', Option.map_some] at hu
      rw [← hu]
      simp [List.getD, hj']
theorem one_of {cs : List Value} (h : cs.length = 1) : ∃ v, cs = [v] := by
  match cs, h with
  | [v], _ => exact ⟨v, rfl⟩
/-- a list of lists that came in reads as lists -/
theorem vars_read {H : Type} {enc : TypeId × Value → H} {W : World} {base fuel : Nat} {spare : Nat → Bool} {held : Bool} {v : Value} {y : DataW H × List MemPlace} (h : DataW.trod enc Tryz.prog W base spare held fuel 23 [v] = some y) :
    ∃ (A : Option Addr) (n c : Nat) (l : Nat → List Int), v = .slice A n c ∧ n ≤ maxLen ∧ VR W W.heap.size A n l ∧ ∀ k, k < n → (l k).length ≤ maxLen := by
  rcases open_slice Tryz.underlying23 h with ⟨hcs, _⟩ | ⟨a, len, cap, m, n, D, Pl, hcs, hb, hl, hm, hmm, _, hx⟩
  · injection hcs with hcs
    exact ⟨none, 0, 0, fun _ => [], hcs, Nat.zero_le _, fun hn => absurd hn (Nat.lt_irrefl 0), fun k hk => absurd hk (Nat.not_lt_zero k)⟩
  · injection hcs with hcs
    have hlm : len ≤ m := by rw [hmm]; split <;> omega
    have each : ∀ i, i < len → ∃ q : List Int, (∃ A' c', W.cell? (a.add i) = some (.slice A' q.length c') ∧ Reads W W.heap.size A' q.length (il q)) ∧ q.length ≤ maxLen := by
      intro i hi
      obtain ⟨cs', h1, h2⟩ := hx i (by omega)
      rw [cellsInts] at h1
      obtain ⟨_, hlen, hcell⟩ := World.cells?_some h1
      obtain ⟨v', rfl⟩ := one_of hlen
      obtain ⟨A', n', c', l, rfl, _, hml, hr⟩ := ints_in h2
      have e0 := hcell 0 (by omega)
      rw [add_add] at e0
      have hll := reads_len hr
      refine ⟨l, ⟨A', c', ?_, by rw [hll]; exact hr⟩, by omega⟩
      rw [hll]
      simpa using e0
    obtain ⟨f, hf⟩ := choose_lt each
    refine ⟨some a, len, cap, f, hcs, Nat.le_trans hl hm, fun hn => ⟨a, rfl, ?_, fun k hk => (hf k hk).1⟩, fun k hk => (hf k hk).2⟩
    obtain ⟨⟨A', c', h0, _⟩, _⟩ := hf 0 hn
    have := World.block_lt_of_cell? W _ h0
    rwa [block_of_add] at this
set_option maxRecDepth 100000 in
/-- two values in a row read as a row -/
theorem row_read {H : Type} {enc : TypeId × Value → H} {W : World} {base fuel : Nat} {spare : Nat → Bool} {held : Bool} {cs : List Value} {y : DataW H × List MemPlace} (hl : cs.length = 2) (h : DataW.trod enc Tryz.prog W base spare held fuel 41 cs = some y) :
    ∃ (A : Option Addr) (c : Nat) (l : List Int) (o : Int), cs = [.slice A l.length c, .int .i64 o] ∧ l.length ≤ maxLen ∧ Reads W W.heap.size A l.length (il l) := by
  obtain ⟨xs, k, hk, hxy, _, hxl, hf⟩ := DataW.trod_struct Tryz.underlying41 h
  match cs, hl, xs, hxl with
  | [v0, v1], _, [y0, y1], _ =>
    have e0 := hf 0 _ rfl
    have e1 := hf 1 _ rfl
    simp [cellsInt, cellsInts] at e0 e1
    obtain ⟨A, n, c, l, rfl, _, h1, h2⟩ := ints_in e0
    obtain ⟨o, ho, _⟩ := DataW.trod_int Tryz.underlying3 e1
    injection ho with ho
    have hll := reads_len h2
    exact ⟨A, c, l, o, by rw [ho, hll], by omega, by rw [hll]; exact h2⟩
/-- a list of rows that came in reads as rows -/
theorem rows_read {H : Type} {enc : TypeId × Value → H} {W : World} {base fuel : Nat} {spare : Nat → Bool} {held : Bool} {v : Value} {y : DataW H × List MemPlace} (h : DataW.trod enc Tryz.prog W base spare held fuel 24 [v] = some y) :
    ∃ (A : Option Addr) (n c : Nat) (ri : Nat → List Int) (ro : Nat → Int), v = .slice A n c ∧ n ≤ c ∧ n ≤ maxLen ∧ RR W W.heap.size A n ri ro ∧ ∀ k, k < n → (ri k).length ≤ maxLen := by
  rcases open_slice Tryz.underlying24 h with ⟨hcs, _⟩ | ⟨a, len, cap, m, n, D, Pl, hcs, hb, hl, hm, hmm, _, hx⟩
  · injection hcs with hcs
    exact ⟨none, 0, 0, fun _ => [], fun _ => 0, hcs, Nat.le_refl _, Nat.zero_le _, fun hn => absurd hn (Nat.lt_irrefl 0), fun k hk => absurd hk (Nat.not_lt_zero k)⟩
  · injection hcs with hcs
    have hlm : len ≤ m := by rw [hmm]; split <;> omega
    have each : ∀ i, i < len → ∃ q : List Int × Int, (∃ A' c', W.cell? (a.add (i * 2)) = some (.slice A' q.1.length c') ∧ Reads W W.heap.size A' q.1.length (il q.1) ∧ W.cell? (a.add (i * 2 + 1)) = some (.int .i64 q.2)) ∧ q.1.length ≤ maxLen := by
      intro i hi
      obtain ⟨cs', h1, h2⟩ := hx i (by omega)
      rw [cellsRow] at h1
      obtain ⟨_, hlen, hcell⟩ := World.cells?_some h1
      obtain ⟨A', c', l, o, rfl, hml, hr⟩ := row_read hlen h2
      have e0 := hcell 0 (by omega)
      have e1 := hcell 1 (by omega)
      rw [add_add] at e0 e1
      exact ⟨(l, o), ⟨A', c', by simpa using e0, hr, by simpa using e1⟩, hml⟩
    obtain ⟨f, hf⟩ := choose_lt each
    refine ⟨some a, len, cap, fun k => (f k).1, fun k => (f k).2, hcs, hl, Nat.le_trans hl hm, fun hn => ?_, fun k hk => (hf k hk).2⟩
    obtain ⟨⟨A', c', h0, _⟩, _⟩ := hf 0 hn
    rw [show a.add (0 * 2) = a by simp [Addr.add]] at h0
    have hs := spot_of_cell h0
    refine ⟨a.block, a.off, by rw [← hs], World.block_lt_of_cell? W _ h0, fun k hk => ?_⟩
    have hadd : ∀ j, a.add j = ⟨a.block, a.off + j, none⟩ := fun j => by
      rw [hs]
      unfold Addr.add
      split
      · next e => subst e; rfl
      · rfl
    obtain ⟨⟨A'', c'', q0, q1, q2⟩, _⟩ := hf k hk
    rw [hadd] at q0 q2
    exact ⟨A'', c'', q0, q1, q2⟩
theorem array5 {α : Type} {cs : Array α} (h : cs.size = 5) : ∃ c0 c1 c2 c3 c4, cs = #[c0, c1, c2, c3, c4] := by
  obtain ⟨l⟩ := cs
  match l, h with
  | [c0, c1, c2, c3, c4], _ => exact ⟨c0, c1, c2, c3, c4, rfl⟩
set_option maxRecDepth 100000 in
/-- a table that came in reads as a table -/
theorem tab_in {H : Type} {enc : TypeId × Value → H} {W : World} {base b0 : Nat} {spare : Nat → Bool} {held : Bool} {r : Reach} {v : Value} {d : DataW H} {p : List MemPlace} (hv : Value.okWide Tryz.prog W r b0 26 v) (h : DataW.Trod enc Tryz.prog W base spare held 26 v d p) :
    ∃ (AH : Option Addr) (cH : Nat) (AV : Option Addr) (cV : Nat) (AR : Option Addr) (cR : Nat) (T : Tab), v = .agg #[.int .i64 T.st, .int .i64 T.sy, .slice AH T.n cH, .slice AV T.nv cV, .slice AR T.nr cR] ∧ TR W AH AV AR T ∧ Fits T ∧ T.nr ≤ cR := by
  obtain ⟨cs, rfl, hsz⟩ := okWide_struct Tryz.underlying26 hv
  obtain ⟨c0, c1, c2, c3, c4, rfl⟩ := array5 (hsz.trans cellsTable)
  obtain ⟨fuel, hf⟩ := h
  obtain ⟨xs, k, hk, hxy, _, hxl, hf⟩ := DataW.trod_struct Tryz.underlying26 hf
  match xs, hxl with
  | [y0, y1, y2, y3, y4], _ =>
    have e0 := hf 0 _ rfl
    have e1 := hf 1 _ rfl
    have e2 := hf 2 _ rfl
    have e3 := hf 3 _ rfl
    have e4 := hf 4 _ rfl
    have z2 : Tryz.prog.cellsOf 22 = 1 := by kernel_rfl
    have z3 : Tryz.prog.cellsOf 23 = 1 := by kernel_rfl
    have z4 : Tryz.prog.cellsOf 24 = 1 := by kernel_rfl
    simp [cellsInt, z2, z3, z4, Value.cells] at e0 e1 e2 e3 e4
    obtain ⟨st, h0, _⟩ := DataW.trod_int Tryz.underlying3 e0
    injection h0 with h0
    obtain ⟨sy, h1, _⟩ := DataW.trod_int Tryz.underlying3 e1
    injection h1 with h1
    obtain ⟨A, n, c, f, rfl, n1, g2⟩ := list_in e2
    obtain ⟨Av, nv, cv, lv, rfl, n2, g3, m3⟩ := vars_read e3
    obtain ⟨Ar, nr, cr, ri, ro, rfl, ncr, n3, g4, m4⟩ := rows_read e4
    subst h0 h1
    unfold maxLen at n1 n2 m3 n3 m4
    exact ⟨A, c, Av, cv, Ar, cr, ⟨st, sy, n, f, nv, lv, nr, ri, ro⟩, rfl, ⟨g2, g3, g4⟩, ⟨by show n < _; omega, by show nv < _; omega, by show nr < _; omega, fun k hk => by have := m3 k hk; show (lv k).length < _; omega, fun k hk => by have := m4 k hk; show (ri k).length < _; omega⟩, ncr⟩
theorem matNamed : Tryz.prog.globalNamed "cellular/symmetry.matrices" = some 0 := by kernel_rfl
theorem matType : (Tryz.prog.globals[0]?).map (·.type) = some 163 := by kernel_rfl
theorem at_one {l : List Value} {k : Nat} {v : Value} (h : (l.drop k).take 1 = [v]) : l[k]? = some v := by
  have := congrArg (·[0]?) h
  simpa [List.getElem?_take, List.getElem?_drop] using this
/-- a matrix's cells -/
theorem row_in {H : Type} {enc : TypeId × Value → H} {W : World} {base fuel : Nat} {spare : Nat → Bool} {held : Bool} {cs : List Value} {y : DataW H × List MemPlace} {a b c d : Int} (h : DataW.trod enc Tryz.prog W base spare held fuel 162 cs = some y)
    (hy : y.1 = .agg [.lit (.int .i64 a), .lit (.int .i64 b), .lit (.int .i64 c), .lit (.int .i64 d)]) : cs[0]? = some (.int .i64 a) ∧ cs[1]? = some (.int .i64 b) ∧ cs[2]? = some (.int .i64 c) ∧ cs[3]? = some (.int .i64 d) := by
  obtain ⟨y0, y1, y2, y3, n, rfl, hl, h0, h1, h2, h3⟩ := trod_struct4 Tryz.underlying162 h
  obtain ⟨z0, e0, f0, _⟩ := DataW.trod_int Tryz.underlying3 h0
  obtain ⟨z1, e1, f1, _⟩ := DataW.trod_int Tryz.underlying3 h1
  obtain ⟨z2, e2, f2, _⟩ := DataW.trod_int Tryz.underlying3 h2
  obtain ⟨z3, e3, f3, _⟩ := DataW.trod_int Tryz.underlying3 h3
  subst f0 f1 f2 f3
  simp only [DataW.agg.injEq, List.cons.injEq, DataW.lit.injEq, Lit.int.injEq, true_and, and_true] at hy
  obtain ⟨rfl, rfl, rfl, rfl⟩ := hy
  rw [show Tryz.prog.cellsOf _ = 1 from cellsInt] at e0 e1 e2 e3
  exact ⟨at_one e0, at_one e1, at_one e2, at_one e3⟩
/-- what the variable holds -/
theorem mat_of_laid {W : World} (h : laidMetH Tryz.prog Rows.tabletreeRowsRow.laid W) : Mat W := by
  have h' : laidMet Tryz.prog [("cellular/symmetry.matrices", Rows.laid_cellular_symmetry_matrices)] W := h
  obtain ⟨ps, ⟨g, t, cs, fuel, p, q, hg, ht, hvar, hd, _, _⟩, _⟩ := h'
  obtain rfl := Option.some.inj (matNamed.symm.trans hg)
  obtain rfl := Option.some.inj (matType.symm.trans ht)
  have hcell := fun i => World.var?_cell matNamed hvar i
  obtain ⟨l⟩ := cs
  cases fuel with
  | zero => simp [DataW.trod] at hd
  | succ fuel =>
    simp only [DataW.trod, Tryz.underlying163, cellsMats, cellsMat] at hd
    split at hd
    · rename_i hl
      obtain ⟨xs, hm, hx⟩ := Option.map_eq_some_iff.1 hd
      have hxs : xs.map (·.1) = (List.range 8).map fun m => (DataW.agg [.lit (.int .i64 (mxx m)), .lit (.int .i64 (mxy m)), .lit (.int .i64 (myx m)), .lit (.int .i64 (myy m))] : DataW Unit) := by
        have h2 := congrArg Prod.fst hx
        simp only [Rows.laid_cellular_symmetry_matrices, DataW.agg.injEq] at h2
        rw [h2]
        rfl
      have hall : ∀ m, m < 8 → l[m * 4]? = some (.int .i64 (mxx m)) ∧ l[m * 4 + 1]? = some (.int .i64 (mxy m)) ∧ l[m * 4 + 2]? = some (.int .i64 (myx m)) ∧ l[m * 4 + 3]? = some (.int .i64 (myy m)) := by
        intro m hm8
        obtain ⟨b, hb, hf⟩ := Lib.mapM_at hm m m (by simp [hm8])
        have hb1 : b.1 = .agg [.lit (.int .i64 (mxx m)), .lit (.int .i64 (mxy m)), .lit (.int .i64 (myx m)), .lit (.int .i64 (myy m))] := by
          have h3 : (xs.map (·.1))[m]? = some b.1 := by simp [hb]
          rw [hxs] at h3
          simp only [List.getElem?_map, List.getElem?_range hm8, Option.map_some] at h3
          exact (Option.some.inj h3).symm
        obtain ⟨r0, r1, r2, r3⟩ := row_in hf hb1
        simp only [List.getElem?_take, List.getElem?_drop] at r0 r1 r2 r3
        exact ⟨by simpa using r0, by simpa using r1, by simpa using r2, by simpa using r3⟩
      have hc : ∀ m, m < 8 → W.cell? ⟨0, m * 4, none⟩ = some (.int .i64 (mxx m)) ∧ W.cell? ⟨0, m * 4 + 1, none⟩ = some (.int .i64 (mxy m)) ∧ W.cell? ⟨0, m * 4 + 2, none⟩ = some (.int .i64 (myx m)) ∧ W.cell? ⟨0, m * 4 + 3, none⟩ = some (.int .i64 (myy m)) := by
        intro m hm8
        obtain ⟨r0, r1, r2, r3⟩ := hall m hm8
        rw [hcell, hcell, hcell, hcell]
        exact ⟨by simpa using r0, by simpa using r1, by simpa using r2, by simpa using r3⟩
      exact ⟨World.block_lt_of_cell? W _ (hc 0 (by decide)).1, hc⟩
    · cases hd

set_option maxRecDepth 100000 in
/-- WHAT THE WALK GIVES, for every argument and every world where the variable holds what it is laid with. -/
theorem contract (H : Type) (enc : TypeId × Value → H) (W : World) (base : Nat) (args : Array Value) (ds gs : List (DataW H)) (before : List MemPlace)
    (hval : ∀ (j : Nat) t v, Tryz.f3.params[j]? = some t → args[j]? = some v → Value.okWide Tryz.prog W .any base t v)
    (hW : DataW.Whole enc Tryz.prog Tryz.f3.params.toList Rows.tabletreeRowsSpec.vars false W args.toList ds gs before) (hM : Mat W) :
    Calls Tryz.prog 3 args W fun e W' => ∃ v, e = .returned v ∧ Rows.tabletreeRowsSpec.post enc Tryz.prog Tryz.f3 false true false false W args v W' := by
  have hW' := hW
  have hlt0 : ∀ p ∈ before, p.block < W.heap.size := fun p hp => hW.lt p hp
  obtain ⟨p, q, hA0, hV, rfl, hfz, hnd⟩ := hW
  have hA : DataW.TrodAll enc Tryz.prog W 0 (fun _ => true) true Tryz.f3.params.toList args.toList ds p := hA0
  rw [Tryz.params3] at hA hval
  obtain ⟨v0, vs0, d0, ds0, p0, q0, hargs, rfl, rfl, h0, r0⟩ := trodAll_cons hA
  obtain ⟨v1, vs1, d1, ds1, p1, q1, rfl, rfl, rfl, h1, r1⟩ := trodAll_cons r0
  obtain ⟨rfl, rfl, rfl⟩ := trodAll_nil r1
  obtain rfl : args = #[v0, v1] := by cases args; simp_all
  obtain ⟨rfl, rfl⟩ := trodVars_none hV
  have k0 := h0
  have k1 := h1
  obtain ⟨a1, l1, e1, rfl⟩ := okWide_slice Tryz.underlying27 (hval 1 27 v1 rfl rfl)
  obtain ⟨fuel1, h1⟩ := h1
  obtain ⟨A, n, c, l, hv1, gc, gm, g1⟩ := ints_in (v := .slice a1 l1 e1) h1
  injection hv1 with x1 x2 x3
  subst x1 x2 x3
  obtain ⟨AH, cH, AV, cV, AR, cR, T, rfl, hT, hF, hRc⟩ := tab_in (hval 0 26 v0 rfl rfl) h0
  clear hA0
  have LAW : Calls Tryz.prog 3 #[.agg #[.int .i64 T.st, .int .i64 T.sy, .slice AH T.n cH, .slice AV T.nv cV, .slice AR T.nr cR], .slice a1 l1 e1] W fun e w' => e = .returned (.bool true) ∧ Below W.heap.size W w' := by
    by_cases hbd : Bd T
    · exact law_any AH cH AV cV AR cR T a1 l1 e1 l W (fun w' hb => awake_all w' (hM.below hb hM.1)) hM hT hbd g1 hRc
    · exact law_nb AH cH AV cV AR cR T a1 l1 e1 W hM hT hbd hF.1 hF.2.1 hF.2.2.1 hF.2.2.2.1 hF.2.2.2.2
  refine LAW.mono fun e W' ⟨he, hb⟩ => ?_
  subst he
  refine ⟨_, rfl, post_of_below (pa := _) (pv := []) hW' (fun _ _ _ => trodAll_cons_mk (shut_bool Tryz.underlying4 _) trodAll_mk0) (fun sp hsp => ?_) (fun _ _ => rfl) rfl hb (ok_one (by kernel_rfl) rfl (okWide_bool_mk Tryz.underlying4 _))⟩
  exact trodAll_cons_mk (WideElems.Trod_stays laidOut (by kernel_rfl) (of_decide_eq_true (by kernel_rfl)) k0 (fun x hx => hb.same (hlt0 x (by simp [hx]))) (fun x hx => hsp x (by simp [hx])))
    (trodAll_cons_mk (WideElems.Trod_stays laidOut (by kernel_rfl) (of_decide_eq_true (by kernel_rfl)) k1 (fun x hx => hb.same (hlt0 x (by simp [hx]))) (fun x hx => hsp x (by simp [hx]))) trodAll_mk0)

/-- The matrices, laid into their block. -/
def layMats : Obj → Obj
  | .cells _ t frozen => .cells #[.int .i64 1, .int .i64 0, .int .i64 0, .int .i64 1, .int .i64 0, .int .i64 (-1), .int .i64 1, .int .i64 0, .int .i64 (-1), .int .i64 0, .int .i64 0, .int .i64 (-1), .int .i64 0, .int .i64 1, .int .i64 (-1), .int .i64 0, .int .i64 (-1), .int .i64 0, .int .i64 0, .int .i64 1, .int .i64 0, .int .i64 (-1), .int .i64 (-1), .int .i64 0, .int .i64 1, .int .i64 0, .int .i64 0, .int .i64 (-1), .int .i64 0, .int .i64 1, .int .i64 1, .int .i64 0] t frozen
  | o => o
/-- A WORLD FOR THE WITNESS: the settled one, the matrices holding what their text lays. -/
noncomputable def laidWorld (os : Os) : World :=
  { World.holding Tryz.prog os ⟨#[], #[], []⟩ with heap := (World.holding Tryz.prog os ⟨#[], #[], []⟩).heap.modify 0 layMats }
noncomputable def witArgs : Array Value := #[.agg #[.int .i64 0, .int .i64 0, .slice none 0 0, .slice none 0 0, .slice none 0 0], .slice none 0 0]
theorem laid_met (os : Os) : laidMet Tryz.prog Rows.tabletreeRowsRow.laid ((laidWorld os).forCall (fun _ _ => 0) ⟨#[], witArgs, []⟩).memory :=
  laidMet_of_run' 8 (by kernel_rfl) (by kernel_rfl)
theorem reads (os : Os) {H : Type} (enc : TypeId × Value → H) : ∃ places, DataW.whole enc Tryz.prog ((laidWorld os).forCall (fun _ _ => 0) ⟨#[], witArgs, []⟩).memory Tryz.f3.params.toList Rows.tabletreeRowsSpec.vars false witArgs.toList 8 = some ([.agg [.lit (.int .i64 0), .lit (.int .i64 0), .nil, .nil, .nil], .nil], [], places) :=
  ⟨[], by kernel_rfl⟩

set_option maxRecDepth 100000 in
theorem lifted (os : Os) (started : os.Started) (H : Type) (enc : TypeId × Value → H) (F : Stop.Interp) :
    ReturnsInHanded {} Tryz.checked os 3 .any ((OpenSpec.ofChange Rows.tabletreeRowsSpec).preRow enc Tryz.prog Tryz.f3 Rows.tabletreeRowsRow.domain false Rows.tabletreeRowsRow.laid) (((OpenSpec.ofChange Rows.tabletreeRowsSpec).at F).post enc Tryz.prog Tryz.f3 false true false false) := by
  obtain ⟨places, hx⟩ := reads os enc
  refine returnsInHanded_of_row (C := Tryz.checked) (s := OpenSpec.ofChange Rows.tabletreeRowsSpec) own started (by kernel_rfl) Tryz.func3
    (witness_row_at (enc := enc) (C := Tryz.checked) false (laidWorld os) witArgs rfl (by kernel_rfl) (by kernel_rfl) (by kernel_rfl)
      (OpenSpec.preRow_of_cond 8 hx (by kernel_rfl) (fun k hk => by cases hk) (by kernel_rfl) (laid_met os))) ?_
  intro W base args ds gs before hval hW _ _ _ hlaid _ _
  exact contract H enc W base args ds gs before hval hW (mat_of_laid hlaid)

theorem said : Rows.TabletreeRowsSaid :=
  OpenClaim.holds_of_cond 3 Tryz.f3 rfl rfl rfl rfl rfl rfl rfl ⟨rfl, rfl, rfl, rfl, rfl⟩ rfl rfl rfl rfl rfl (by kernel_rfl) Tryz.func3 (by kernel_rfl)
    (of_decide_eq_true (by kernel_rfl)) (by unfold Func.isWrapper; first | (rw [if_pos (by decide +kernel)]; kernel_rfl) | (rw [if_neg (by decide +kernel)]; exact ⟨rfl, rfl⟩))
    (fun os started H enc _ F => by rw [OpenClaim.pre_eq_preRow]; exact lifted os started H enc F)

/-- No parameter wants a stand-in; the program's own looks are off. -/
theorem plain (f : FuncId) (fn : Func) (hf : Tryz.pinned.checked.prog.funcNamed "cellular/cellularlaw15.TabletreeRows" = some f) (hfn : Tryz.pinned.checked.prog.funcs[f]? = some fn) :
    false = Tryz.pinned.checked.prog.looks [] ∧ ∀ (j : Nat) t, fn.params[j]? = some t → Tryz.pinned.checked.prog.wantsStandIn t = false := by
  obtain rfl : f = 3 := Option.some.inj ((show Tryz.prog.funcNamed "cellular/cellularlaw15.TabletreeRows" = some 3 by kernel_rfl).symm.trans hf) |>.symm
  obtain rfl : fn = Tryz.f3 := (Option.some.inj (Tryz.func3.symm.trans hfn)).symm
  refine ⟨by kernel_rfl, fun j t ht => ?_⟩
  rw [Tryz.params3] at ht
  have ht' : t = 26 ∨ t = 27 := by
    have := Array.mem_of_getElem? ht
    simpa using this
  rcases ht' with rfl | rfl
  · exact (show Tryz.prog.wantsStandIn 26 = false by kernel_rfl)
  · exact (show Tryz.prog.wantsStandIn 27 = false by kernel_rfl)

/-- The card of TabletreeRows. -/
theorem card : Rows.TabletreeRowsCardSaid :=
  Claim7.holds_tied_plain_at .later [] _ _ _ _ said (fun _ h => by cases h) (by kernel_rfl) (fun _ h => by cases h) tabletreeRows_row_tie rfl ⟨rfl, rfl⟩ (by kernel_rfl) rfl plain (by kernel_rfl)

end Go.Proofs.YtcgkkppidkkjiaaGreatDoor.lawRows
