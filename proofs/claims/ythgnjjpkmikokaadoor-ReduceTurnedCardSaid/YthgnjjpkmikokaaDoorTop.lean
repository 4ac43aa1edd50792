/- A turned rule has the turned neighbourhood, reads the states at the turned offsets, and is turned back by the inverse symmetry, and the chapter's examples hold: for every number, tree and states: the statement ReduceTurned, its card. No condition. -/
import Derived.Test.YthgnjjpkmikokaaDoorCards
import Derived.Test.YthgnjjpkmikokaaDoorTie
import Derived.Test.YthgnjjpkmikokaaDoorAwk
import Derived.Test.YthgnjjpkmikokaaDoorLwa
import Derived.ProofKit
import Derived.OpenShut
import Derived.Deep.DeepHandedRow
import Derived.Lib.LaidTab
import Derived.Lib.SmallJoins
import Derived.Deep.Slices
import Derived.ChangeSame
namespace Go.Proofs.YthgnjjpkmikokaaDoor.lawTurned
open Go.ChangeShapes Go.WideShapes Go.ChangeAt Go.RowKit Go.Joins Go.Deep

theorem own : ownKnob Tryd.prog.godebug = none := by kernel_rfl
theorem laidOut : laidOutB Tryd.prog = true := by kernel_rfl
theorem cellsInt : Tryd.prog.cellsOf 3 = 1 := by kernel_rfl
theorem cellsInts : Tryd.prog.cellsOf 26 = 1 := by kernel_rfl
theorem cellsPoint : Tryd.prog.cellsOf 40 = 2 := by kernel_rfl
theorem cellsNode : Tryd.prog.cellsOf 44 = 2 := by kernel_rfl
theorem cellsMat : Tryd.prog.cellsOf 113 = 4 := by kernel_rfl
theorem cellsMats : Tryd.prog.cellsOf 114 = 32 := by kernel_rfl
theorem matNamed : Tryd.prog.globalNamed "cellular/symmetry.matrices" = some 0 := by kernel_rfl
theorem matType : (Tryd.prog.globals[0]?).map (·.type) = some 114 := by kernel_rfl
theorem cellsTree : Tryd.prog.cellsOf 25 = 3 := by kernel_rfl

section
variable {H : Type} {enc : TypeId × Value → H} {P : Program}
theorem post_of_below {f : Func} {s : ChangeSpec} {apart fresh handsOn again : Bool} {W W' : World} {args : Array Value} {v : Value} {ds gs : List (DataW H)} {before pa pv : List MemPlace}
    (hW : DataW.Whole enc P f.params.toList s.vars apart W args.toList ds gs before)
    (hres : ∀ (b : Nat) (sp : Nat → Bool) (hd : Bool), DataW.TrodAll enc P W' b sp hd f.resultTypes.toList (v.resultList f.resultTypes.size) (s.fn H (ds ++ gs)).results [])
    (hargs : ∀ sp : Nat → Bool, (∀ p ∈ before, sp p.block = true) → DataW.TrodAll enc P W' 0 sp true f.params.toList args.toList (s.fn H (ds ++ gs)).args pa)
    (hvars : ∀ sp : Nat → Bool, (∀ p ∈ before, sp p.block = true) → DataW.TrodVars enc P W' sp s.vars (s.fn H (ds ++ gs)).vars pv)
    (hps : before = pa ++ pv) (hb : Below W.heap.size W W')
    (hok : ∀ (j : Nat) (t : TypeId) (r : Value), f.resultTypes[j]? = some t → (v.resultList f.resultTypes.size)[j]? = some r → Value.okWide P W' .any 0 t r) :
    s.post enc P f apart fresh handsOn again W args v W' := by
  have hlt : ∀ p ∈ before, p.block < W.heap.size := fun p hp => hW.lt p hp
  have hold : ∀ p ∈ before, (fun b => decide (b < W.heap.size)) p.block = true := fun p hp => by simpa using hlt p hp
  refine ⟨ds, gs, before, [], pa, pv, hW, hres _ _ _, hargs _ hold, hvars _ hold, World.keptBut_mono (fun p hp => ⟨hp, ?_⟩) (hb.frame (· ∈ before)), fun _ => ?_⟩
  · rw [hps, List.mem_append] at hp
    exact Or.inr hp
  · obtain ⟨_, _, _, _, _, hz, hn⟩ := hW
    refine ⟨hok, _, _, ([] ++ pa) ++ pv, ⟨[] ++ pa, pv, trodAll_append (hargs _ (fun _ _ => rfl)) (hres _ _ _), hvars _ (fun _ _ => rfl), rfl, ?_, ?_⟩, ?_⟩
    · intro b off hp
      have hin : MemPlace.cell b off ∈ before := by rw [hps]; simpa using hp
      rw [hb.frozen (hlt _ hin)]
      exact hz b off hin
    · intro ha
      have := hn ha
      rw [hps] at this
      simpa using this
    · intro p hp _
      rw [hps]
      simpa using hp
end


theorem spot_of_cell {w : World} {a : Addr} {u : Value} (h : w.cell? a = some u) : a = ⟨a.block, a.off, none⟩ := by
  obtain ⟨b, o, s⟩ := a
  cases s with
  | none => rfl
  | some s =>
    unfold World.cell? at h
    split at h
    · simp at h
    · cases h
set_option maxRecDepth 100000 in
/-- two values in a row read as a position -/
theorem point_in {H : Type} {enc : TypeId × Value → H} {W : World} {base fuel : Nat} {spare : Nat → Bool} {held : Bool} {cs : List Value} {y : DataW H × List MemPlace} (hl : cs.length = 2) (h : DataW.trod enc Tryd.prog W base spare held fuel 40 cs = some y) :
    ∃ a : P2, cs = [.int .i64 a.1, .int .i64 a.2] := by
  obtain ⟨xs, k, hk, hxy, _, hxl, hf⟩ := DataW.trod_struct Tryd.underlying40 h
  match cs, hl, xs, hxl with
  | [v0, v1], _, [y0, y1], _ =>
    have e0 := hf 0 _ rfl
    have e1 := hf 1 _ rfl
    simp [cellsInt] at e0 e1
    obtain ⟨x, hx, _⟩ := DataW.trod_int Tryd.underlying3 e0
    obtain ⟨y, hy, _⟩ := DataW.trod_int Tryd.underlying3 e1
    injection hx with hx
    injection hy with hy
    exact ⟨(x, y), by rw [hx, hy]⟩
/-- a list that came in reads as positions -/
theorem list_in {H : Type} {enc : TypeId × Value → H} {W : World} {base fuel : Nat} {spare : Nat → Bool} {held : Bool} {v : Value} {y : DataW H × List MemPlace} (h : DataW.trod enc Tryd.prog W base spare held fuel 22 [v] = some y) :
    ∃ (A : Option Addr) (n c : Nat) (f : Nat → P2), v = .slice A n c ∧ n ≤ maxLen ∧ QReads W W.heap.size A n f := by
  rcases open_slice Tryd.underlying22 h with ⟨hcs, _⟩ | ⟨a, len, cap, m, n, D, Pl, hcs, hb, hl, hm, hmm, _, hx⟩
  · injection hcs with hcs
    exact ⟨none, 0, 0, fun _ => (0, 0), hcs, Nat.zero_le _, QReads.nil⟩
  · injection hcs with hcs
    have hlm : len ≤ m := by rw [hmm]; split <;> omega
    have each : ∀ i, i < len → ∃ q : P2, W.cell? (a.add (i * 2)) = some (.int .i64 q.1) ∧ W.cell? (a.add (i * 2 + 1)) = some (.int .i64 q.2) := by
      intro i hi
      obtain ⟨cs', h1, h2⟩ := hx i (by omega)
      rw [cellsPoint] at h1
      obtain ⟨_, hlen, hcell⟩ := World.cells?_some h1
      obtain ⟨q, hq⟩ := point_in hlen h2
      subst hq
      have e0 := hcell 0 (by omega)
      have e1 := hcell 1 (by omega)
      rw [add_add] at e0 e1
      exact ⟨q, by simpa using e0, by simpa using e1⟩
    obtain ⟨f, hf⟩ := choose_lt each
    refine ⟨some a, len, cap, f, hcs, Nat.le_trans hl hm, fun hn => ?_⟩
    have h0 := (hf 0 hn).1
    rw [show a.add (0 * 2) = a by simp [Addr.add]] at h0
    have hs := spot_of_cell h0
    refine ⟨a.block, a.off, by rw [← hs], World.block_lt_of_cell? W _ h0, fun k hk => ?_⟩
    have hadd : ∀ j, a.add j = ⟨a.block, a.off + j, none⟩ := fun j => by
      rw [hs]
      unfold Addr.add
      split
      · next e => subst e; rfl
      · rfl
    obtain ⟨q0, q1⟩ := hf k hk
    rw [hadd] at q0 q1
    exact ⟨q0, q1⟩

/-- a list of numbers that came in reads as numbers -/
theorem ints_in {H : Type} {enc : TypeId × Value → H} {W : World} {base fuel : Nat} {spare : Nat → Bool} {held : Bool} {v : Value} {y : DataW H × List MemPlace} (h : DataW.trod enc Tryd.prog W base spare held fuel 26 [v] = some y) :
    ∃ (A : Option Addr) (n c : Nat) (l : List Int), v = .slice A n c ∧ n ≤ c ∧ n ≤ maxLen ∧ Reads W W.heap.size A n (il l) := by
  rcases open_ints Tryd.underlying26 Tryd.underlying3 cellsInt h with ⟨hcs, _⟩ | ⟨a, len, cap, zs, hcs, hb, hl, hm, hz, hx, hcell, hw⟩
  · injection hcs with hcs
    exact ⟨none, 0, 0, [], hcs, Nat.le_refl _, Nat.zero_le _, Reads.none_⟩
  · injection hcs with hcs
    have hzl : len ≤ zs.length := by rw [hz]; split <;> omega
    refine ⟨some a, len, cap, zs.take len, hcs, hl, Nat.le_trans hl hm, by simp [il]; omega, fun hp => ⟨a, rfl, ?_, ?_⟩⟩
    · have := World.block_lt_of_cell? W _ (hcell 0 (by omega))
      rwa [block_of_add] at this
    · intro j u hu
      have hj : j < len := by
        have := (List.getElem?_eq_some_iff.1 hu).1
        simp [il] at this; omega
      have hj' : j < zs.length := by omega
      rw [hcell j hj']
      simp only [il, List.getElem?_map, List.getElem?_take, if_pos hj, List.getElem?_eq_getElem hj', Option.map_some] at hu
      rw [← hu]
      simp [List.getD, hj']
theorem one_of {cs : List Value} (h : cs.length = 1) : ∃ v, cs = [v] := by
  match cs, h with
  | [v], _ => exact ⟨v, rfl⟩
set_option maxRecDepth 100000 in
/-- two values in a row read as a node -/
theorem node_read {H : Type} {enc : TypeId × Value → H} {W : World} {base fuel : Nat} {spare : Nat → Bool} {held : Bool} {cs : List Value} {y : DataW H × List MemPlace} (hl : cs.length = 2) (h : DataW.trod enc Tryd.prog W base spare held fuel 44 cs = some y) :
    ∃ (A : Option Addr) (c : Nat) (l : List Int) (o : Int), cs = [.int .i64 o, .slice A l.length c] ∧ l.length ≤ maxLen ∧ Reads W W.heap.size A l.length (il l) := by
  obtain ⟨xs, k, hk, hxy, _, hxl, hf⟩ := DataW.trod_struct Tryd.underlying44 h
  match cs, hl, xs, hxl with
  | [v0, v1], _, [y0, y1], _ =>
    have e0 := hf 0 _ rfl
    have e1 := hf 1 _ rfl
    simp [cellsInt, cellsInts] at e0 e1
    obtain ⟨A, n, c, l, rfl, _, h1, h2⟩ := ints_in e1
    obtain ⟨o, ho, _⟩ := DataW.trod_int Tryd.underlying3 e0
    injection ho with ho
    have hll := reads_len h2
    exact ⟨A, c, l, o, by rw [ho, hll], by omega, by rw [hll]; exact h2⟩
/-- a list of nodes that came in reads as nodes -/
theorem nodes_read {H : Type} {enc : TypeId × Value → H} {W : World} {base fuel : Nat} {spare : Nat → Bool} {held : Bool} {v : Value} {y : DataW H × List MemPlace} (h : DataW.trod enc Tryd.prog W base spare held fuel 23 [v] = some y) :
    ∃ (A : Option Addr) (n c : Nat) (lv : Nat → Int) (nx : Nat → List Int), v = .slice A n c ∧ n ≤ maxLen ∧ NR W W.heap.size A n lv nx ∧ ∀ k, k < n → (nx k).length ≤ maxLen := by
  rcases open_slice Tryd.underlying23 h with ⟨hcs, _⟩ | ⟨a, len, cap, m, n, D, Pl, hcs, hb, hl, hm, hmm, _, hx⟩
  · injection hcs with hcs
    exact ⟨none, 0, 0, fun _ => 0, fun _ => [], hcs, Nat.zero_le _, fun hn => absurd hn (Nat.lt_irrefl 0), fun k hk => absurd hk (Nat.not_lt_zero k)⟩
  · injection hcs with hcs
    have hlm : len ≤ m := by rw [hmm]; split <;> omega
    have each : ∀ i, i < len → ∃ q : Int × List Int, (∃ A' c', W.cell? (a.add (i * 2)) = some (.int .i64 q.1) ∧ W.cell? (a.add (i * 2 + 1)) = some (.slice A' q.2.length c') ∧ Reads W W.heap.size A' q.2.length (il q.2)) ∧ q.2.length ≤ maxLen := by
      intro i hi
      obtain ⟨cs', h1, h2⟩ := hx i (by omega)
      rw [cellsNode] at h1
      obtain ⟨_, hlen, hcell⟩ := World.cells?_some h1
      obtain ⟨A', c', l, o, rfl, hml, hr⟩ := node_read hlen h2
      have e0 := hcell 0 (by omega)
      have e1 := hcell 1 (by omega)
      rw [add_add] at e0 e1
      exact ⟨(o, l), ⟨A', c', by simpa using e0, by simpa using e1, hr⟩, hml⟩
    obtain ⟨f, hf⟩ := choose_lt each
    refine ⟨some a, len, cap, fun k => (f k).1, fun k => (f k).2, hcs, Nat.le_trans hl hm, fun hn => ?_, fun k hk => (hf k hk).2⟩
    obtain ⟨⟨A', c', h0, _⟩, _⟩ := hf 0 hn
    rw [show a.add (0 * 2) = a by simp [Addr.add]] at h0
    have hs := spot_of_cell h0
    refine ⟨a.block, a.off, by rw [← hs], World.block_lt_of_cell? W _ h0, fun k hk => ?_⟩
    have hadd : ∀ j, a.add j = ⟨a.block, a.off + j, none⟩ := fun j => by
      rw [hs]
      unfold Addr.add
      split
      · next e => subst e; rfl
      · rfl
    obtain ⟨⟨A'', c'', q0, q1, q2⟩, _⟩ := hf k hk
    rw [hadd] at q0 q1
    exact ⟨A'', c'', q0, q1, q2⟩
theorem array3 {α : Type} {cs : Array α} (h : cs.size = 3) : ∃ c0 c1 c2, cs = #[c0, c1, c2] := by
  obtain ⟨l⟩ := cs
  match l, h with
  | [c0, c1, c2], _ => exact ⟨c0, c1, c2, rfl⟩
set_option maxRecDepth 100000 in
/-- a tree that came in reads as a tree -/
theorem tree_in {H : Type} {enc : TypeId × Value → H} {W : World} {base b0 : Nat} {spare : Nat → Bool} {held : Bool} {r : Reach} {v : Value} {d : DataW H} {p : List MemPlace} (hv : Value.okWide Tryd.prog W r b0 25 v) (h : DataW.Trod enc Tryd.prog W base spare held 25 v d p) :
    ∃ (AH : Option Addr) (cH : Nat) (AN : Option Addr) (cN : Nat) (T : Tr), v = .agg #[.int .i64 T.st, .slice AH T.n cH, .slice AN T.m cN] ∧ TS W AH AN T ∧ Fits T := by
  obtain ⟨cs, rfl, hsz⟩ := okWide_struct Tryd.underlying25 hv
  obtain ⟨c0, c1, c2, rfl⟩ := array3 (hsz.trans cellsTree)
  obtain ⟨fuel, hf⟩ := h
  obtain ⟨xs, k, hk, hxy, _, hxl, hf⟩ := DataW.trod_struct Tryd.underlying25 hf
  match xs, hxl with
  | [y0, y1, y2], _ =>
    have e0 := hf 0 _ rfl
    have e1 := hf 1 _ rfl
    have e2 := hf 2 _ rfl
    have z1 : Tryd.prog.cellsOf 22 = 1 := by kernel_rfl
    have z2 : Tryd.prog.cellsOf 23 = 1 := by kernel_rfl
    simp [cellsInt, z1, z2, Value.cells] at e0 e1 e2
    obtain ⟨st, h0, _⟩ := DataW.trod_int Tryd.underlying3 e0
    injection h0 with h0
    obtain ⟨A, n, c, f, rfl, n1, g1⟩ := list_in e1
    obtain ⟨An, m, cn, lv, nx, rfl, n2, g2, m2⟩ := nodes_read e2
    subst h0
    unfold maxLen at n1 n2 m2
    exact ⟨A, c, An, cn, ⟨st, n, f, m, lv, nx⟩, rfl, ⟨g1, g2⟩, ⟨by show n < _; omega, by show m < _; omega, fun k hk => by have := m2 k hk; show (nx k).length < _; omega⟩⟩

theorem at_one {l : List Value} {k : Nat} {v : Value} (h : (l.drop k).take 1 = [v]) : l[k]? = some v := by
  have := congrArg (·[0]?) h
  simpa [List.getElem?_take, List.getElem?_drop] using this
/-- a matrix's cells -/
theorem row_in {H : Type} {enc : TypeId × Value → H} {W : World} {base fuel : Nat} {spare : Nat → Bool} {held : Bool} {cs : List Value} {y : DataW H × List MemPlace} {a b c d : Int} (h : DataW.trod enc Tryd.prog W base spare held fuel 113 cs = some y)
    (hy : y.1 = .agg [.lit (.int .i64 a), .lit (.int .i64 b), .lit (.int .i64 c), .lit (.int .i64 d)]) : cs[0]? = some (.int .i64 a) ∧ cs[1]? = some (.int .i64 b) ∧ cs[2]? = some (.int .i64 c) ∧ cs[3]? = some (.int .i64 d) := by
  obtain ⟨y0, y1, y2, y3, n, rfl, hl, h0, h1, h2, h3⟩ := trod_struct4 Tryd.underlying113 h
  obtain ⟨z0, e0, f0, _⟩ := DataW.trod_int Tryd.underlying3 h0
  obtain ⟨z1, e1, f1, _⟩ := DataW.trod_int Tryd.underlying3 h1
  obtain ⟨z2, e2, f2, _⟩ := DataW.trod_int Tryd.underlying3 h2
  obtain ⟨z3, e3, f3, _⟩ := DataW.trod_int Tryd.underlying3 h3
  subst f0 f1 f2 f3
  simp only [DataW.agg.injEq, List.cons.injEq, DataW.lit.injEq, Lit.int.injEq, true_and, and_true] at hy
  obtain ⟨rfl, rfl, rfl, rfl⟩ := hy
  rw [show Tryd.prog.cellsOf _ = 1 from cellsInt] at e0 e1 e2 e3
  exact ⟨at_one e0, at_one e1, at_one e2, at_one e3⟩
/-- what the variable holds -/
theorem mat_of_laid {W : World} (h : laidMetH Tryd.prog Rows.reduceTurnedRow.laid W) : Mat W := by
  have h' : laidMet Tryd.prog [("cellular/symmetry.matrices", Rows.laid_cellular_symmetry_matrices)] W := h
  obtain ⟨ps, ⟨g, t, cs, fuel, p, q, hg, ht, hvar, hd, _, _⟩, _⟩ := h'
  obtain rfl := Option.some.inj (matNamed.symm.trans hg)
  obtain rfl := Option.some.inj (matType.symm.trans ht)
  have hcell := fun i => World.var?_cell matNamed hvar i
  obtain ⟨l⟩ := cs
  cases fuel with
  | zero => simp [DataW.trod] at hd
  | succ fuel =>
    simp only [DataW.trod, Tryd.underlying114, cellsMats, cellsMat] at hd
    split at hd
    · rename_i hl
      obtain ⟨xs, hm, hx⟩ := Option.map_eq_some_iff.1 hd
      have hxs : xs.map (·.1) = (List.range 8).map fun m => (DataW.agg [.lit (.int .i64 (mxx m)), .lit (.int .i64 (mxy m)), .lit (.int .i64 (myx m)), .lit (.int .i64 (myy m))] : DataW Unit) := by
        have h2 := congrArg Prod.fst hx
        simp only [Rows.laid_cellular_symmetry_matrices, DataW.agg.injEq] at h2
        rw [h2]
        rfl
      have hall : ∀ m, m < 8 → l[m * 4]? = some (.int .i64 (mxx m)) ∧ l[m * 4 + 1]? = some (.int .i64 (mxy m)) ∧ l[m * 4 + 2]? = some (.int .i64 (myx m)) ∧ l[m * 4 + 3]? = some (.int .i64 (myy m)) := by
        intro m hm8
        obtain ⟨b, hb, hf⟩ := Lib.mapM_at hm m m (by simp [hm8])
        have hb1 : b.1 = .agg [.lit (.int .i64 (mxx m)), .lit (.int .i64 (mxy m)), .lit (.int .i64 (myx m)), .lit (.int .i64 (myy m))] := by
          have h3 : (xs.map (·.1))[m]? = some b.1 := by simp [hb]
          rw [hxs] at h3
          simp only [List.getElem?_map, List.getElem?_range hm8, Option.map_some] at h3
          exact (Option.some.inj h3).symm
        obtain ⟨r0, r1, r2, r3⟩ := row_in hf hb1
        simp only [List.getElem?_take, List.getElem?_drop] at r0 r1 r2 r3
        exact ⟨by simpa using r0, by simpa using r1, by simpa using r2, by simpa using r3⟩
      have hc : ∀ m, m < 8 → W.cell? ⟨0, m * 4, none⟩ = some (.int .i64 (mxx m)) ∧ W.cell? ⟨0, m * 4 + 1, none⟩ = some (.int .i64 (mxy m)) ∧ W.cell? ⟨0, m * 4 + 2, none⟩ = some (.int .i64 (myx m)) ∧ W.cell? ⟨0, m * 4 + 3, none⟩ = some (.int .i64 (myy m)) := by
        intro m hm8
        obtain ⟨r0, r1, r2, r3⟩ := hall m hm8
        rw [hcell, hcell, hcell, hcell]
        exact ⟨by simpa using r0, by simpa using r1, by simpa using r2, by simpa using r3⟩
      exact ⟨World.block_lt_of_cell? W _ (hc 0 (by decide)).1, hc⟩
    · cases hd

set_option maxRecDepth 100000 in
/-- WHAT THE WALK GIVES, for every argument and every world where the variable holds what it is laid with. -/
theorem contract (H : Type) (enc : TypeId × Value → H) (W : World) (base : Nat) (args : Array Value) (ds gs : List (DataW H)) (before : List MemPlace)
    (hval : ∀ (j : Nat) t v, Tryd.f3.params[j]? = some t → args[j]? = some v → Value.okWide Tryd.prog W .any base t v)
    (hW : DataW.Whole enc Tryd.prog Tryd.f3.params.toList Rows.reduceTurnedSpec.vars false W args.toList ds gs before) (hM : Mat W) :
    Calls Tryd.prog 3 args W fun e W' => ∃ v, e = .returned v ∧ Rows.reduceTurnedSpec.post enc Tryd.prog Tryd.f3 false true false false W args v W' := by
  have hW' := hW
  have hlt0 : ∀ p ∈ before, p.block < W.heap.size := fun p hp => hW.lt p hp
  obtain ⟨p, q, hA0, hV, rfl, hfz, hnd⟩ := hW
  have hA : DataW.TrodAll enc Tryd.prog W 0 (fun _ => true) true Tryd.f3.params.toList args.toList ds p := hA0
  rw [Tryd.params3] at hA hval
  obtain ⟨v0, vs0, d0, ds0, p0, q0, hargs, rfl, rfl, h0, r0⟩ := trodAll_cons hA
  obtain ⟨v1, vs1, d1, ds1, p1, q1, rfl, rfl, rfl, h1, r1⟩ := trodAll_cons r0
  obtain ⟨v2, vs2, d2, ds2, p2, q2, rfl, rfl, rfl, h2, r2⟩ := trodAll_cons r1
  obtain ⟨rfl, rfl, rfl⟩ := trodAll_nil r2
  obtain rfl : args = #[v0, v1, v2] := by cases args; simp_all
  obtain ⟨rfl, rfl⟩ := trodVars_none hV
  have k0 := h0
  have k1 := h1
  have k2 := h2
  obtain ⟨kv, rfl, rfl, rfl, hkv⟩ := open_int Tryd.underlying3 (hval 0 3 v0 rfl rfl) h0
  obtain ⟨a2, l2, e2, rfl⟩ := okWide_slice Tryd.underlying26 (hval 2 26 v2 rfl rfl)
  obtain ⟨fuel2, h2⟩ := h2
  obtain ⟨A, n, c, l, hv1, gc, gm, g1⟩ := ints_in (v := .slice a2 l2 e2) h2
  injection hv1 with x1 x2 x3
  subst x1 x2 x3
  obtain ⟨AH, cH, AN, cN, T, rfl, hT, hF⟩ := tree_in (hval 1 25 v1 rfl rfl) h1
  clear hA0
  have hkk : -9223372036854775808 ≤ kv ∧ kv ≤ 9223372036854775807 := by
    have e1 : IntKind.i64.min = -9223372036854775808 := by decide
    have e2 : IntKind.i64.max = 9223372036854775807 := by decide
    simp only [Lit.wf, e1, e2, Bool.and_eq_true, decide_eq_true_eq] at hkv
    omega
  have hAw : Aw W := aw_of hM
  unfold maxLen at gm
  refine (lawt_any kv AH cH AN cN T a2 l2 e2 l W hkk.1 hkk.2 hM hT g1 hF (by omega) hAw).mono fun e W' ⟨he, hb⟩ => ?_
  subst he
  refine ⟨_, rfl, post_of_below (pa := _) (pv := []) hW' (fun _ _ _ => trodAll_cons_mk (shut_bool Tryd.underlying4 _) trodAll_mk0) (fun sp hsp => ?_) (fun _ _ => rfl) rfl hb (ok_one (by kernel_rfl) rfl (okWide_bool_mk Tryd.underlying4 _))⟩
  exact trodAll_cons_mk (WideElems.Trod_stays laidOut (by kernel_rfl) (of_decide_eq_true (by kernel_rfl)) k0 (fun x hx => by cases hx) (fun x hx => by cases hx))
    (trodAll_cons_mk (WideElems.Trod_stays laidOut (by kernel_rfl) (of_decide_eq_true (by kernel_rfl)) k1 (fun x hx => hb.same (hlt0 x (by simp [hx]))) (fun x hx => hsp x (by simp [hx])))
      (trodAll_cons_mk (WideElems.Trod_stays laidOut (by kernel_rfl) (of_decide_eq_true (by kernel_rfl)) k2 (fun x hx => hb.same (hlt0 x (by simp [hx]))) (fun x hx => hsp x (by simp [hx]))) trodAll_mk0))

/-- The matrices, laid into their block. -/
def layMats : Obj → Obj
  | .cells _ t frozen => .cells #[.int .i64 1, .int .i64 0, .int .i64 0, .int .i64 1, .int .i64 0, .int .i64 (-1), .int .i64 1, .int .i64 0, .int .i64 (-1), .int .i64 0, .int .i64 0, .int .i64 (-1), .int .i64 0, .int .i64 1, .int .i64 (-1), .int .i64 0, .int .i64 (-1), .int .i64 0, .int .i64 0, .int .i64 1, .int .i64 0, .int .i64 (-1), .int .i64 (-1), .int .i64 0, .int .i64 1, .int .i64 0, .int .i64 0, .int .i64 (-1), .int .i64 0, .int .i64 1, .int .i64 1, .int .i64 0] t frozen
  | o => o
/-- A WORLD FOR THE WITNESS: the settled one, the matrices holding what their text lays. -/
noncomputable def laidWorld (os : Os) : World :=
  { World.holding Tryd.prog os ⟨#[], #[], []⟩ with heap := (World.holding Tryd.prog os ⟨#[], #[], []⟩).heap.modify 0 layMats }
noncomputable def witArgs : Array Value := #[.int .i64 0, .agg #[.int .i64 0, .slice none 0 0, .slice none 0 0], .slice none 0 0]
theorem laid_met (os : Os) : laidMet Tryd.prog Rows.reduceTurnedRow.laid ((laidWorld os).forCall (fun _ _ => 0) ⟨#[], witArgs, []⟩).memory :=
  laidMet_of_run' 8 (by kernel_rfl) (by kernel_rfl)
theorem reads (os : Os) {H : Type} (enc : TypeId × Value → H) : ∃ places, DataW.whole enc Tryd.prog ((laidWorld os).forCall (fun _ _ => 0) ⟨#[], witArgs, []⟩).memory Tryd.f3.params.toList Rows.reduceTurnedSpec.vars false witArgs.toList 8 = some ([.lit (.int .i64 0), .agg [.lit (.int .i64 0), .nil, .nil], .nil], [], places) :=
  ⟨[], by kernel_rfl⟩

set_option maxRecDepth 100000 in
theorem lifted (os : Os) (started : os.Started) (H : Type) (enc : TypeId × Value → H) (F : Stop.Interp) :
    ReturnsInHanded {} Tryd.checked os 3 .any ((OpenSpec.ofChange Rows.reduceTurnedSpec).preRow enc Tryd.prog Tryd.f3 Rows.reduceTurnedRow.domain false Rows.reduceTurnedRow.laid) (((OpenSpec.ofChange Rows.reduceTurnedSpec).at F).post enc Tryd.prog Tryd.f3 false true false false) := by
  obtain ⟨places, hx⟩ := reads os enc
  refine returnsInHanded_of_row (C := Tryd.checked) (s := OpenSpec.ofChange Rows.reduceTurnedSpec) own started (by kernel_rfl) Tryd.func3
    (witness_row_at (enc := enc) (C := Tryd.checked) false (laidWorld os) witArgs rfl (by kernel_rfl) (by kernel_rfl) (by kernel_rfl)
      (OpenSpec.preRow_of_cond 8 hx (by kernel_rfl) (fun k hk => by cases hk) (by kernel_rfl) (laid_met os))) ?_
  intro W base args ds gs before hval hW _ _ _ hlaid _ _
  exact contract H enc W base args ds gs before hval hW (mat_of_laid hlaid)

theorem said : Rows.ReduceTurnedSaid :=
  OpenClaim.holds_of_cond 3 Tryd.f3 rfl rfl rfl rfl rfl rfl rfl ⟨rfl, rfl, rfl, rfl, rfl⟩ rfl rfl rfl rfl rfl (by kernel_rfl) Tryd.func3 (by kernel_rfl)
    (of_decide_eq_true (by kernel_rfl)) (by unfold Func.isWrapper; first | (rw [if_pos (by decide +kernel)]; kernel_rfl) | (rw [if_neg (by decide +kernel)]; exact ⟨rfl, rfl⟩))
    (fun os started H enc _ F => by rw [OpenClaim.pre_eq_preRow]; exact lifted os started H enc F)

/-- No parameter wants a stand-in; the program's own looks are off. -/
theorem plain (f : FuncId) (fn : Func) (hf : Tryd.pinned.checked.prog.funcNamed "cellular/cellularlaw13.ReduceTurned" = some f) (hfn : Tryd.pinned.checked.prog.funcs[f]? = some fn) :
    false = Tryd.pinned.checked.prog.looks [] ∧ ∀ (j : Nat) t, fn.params[j]? = some t → Tryd.pinned.checked.prog.wantsStandIn t = false := by
  obtain rfl : f = 3 := Option.some.inj ((show Tryd.prog.funcNamed "cellular/cellularlaw13.ReduceTurned" = some 3 by kernel_rfl).symm.trans hf) |>.symm
  obtain rfl : fn = Tryd.f3 := (Option.some.inj (Tryd.func3.symm.trans hfn)).symm
  refine ⟨by kernel_rfl, fun j t ht => ?_⟩
  rw [Tryd.params3] at ht
  have ht' : t = 3 ∨ t = 25 ∨ t = 26 := by
    have := Array.mem_of_getElem? ht
    simpa using this
  rcases ht' with rfl | rfl | rfl
  · exact (show Tryd.prog.wantsStandIn 3 = false by kernel_rfl)
  · exact (show Tryd.prog.wantsStandIn 25 = false by kernel_rfl)
  · exact (show Tryd.prog.wantsStandIn 26 = false by kernel_rfl)

/-- The card of ReduceTurned. -/
theorem card : Rows.ReduceTurnedCardSaid :=
  Claim7.holds_tied_plain_at .later [] _ _ _ _ said (fun _ h => by cases h) (by kernel_rfl) (fun _ h => by cases h) reduceTurned_row_tie rfl ⟨rfl, rfl⟩ (by kernel_rfl) rfl plain (by kernel_rfl)

end Go.Proofs.YthgnjjpkmikokaaDoor.lawTurned
