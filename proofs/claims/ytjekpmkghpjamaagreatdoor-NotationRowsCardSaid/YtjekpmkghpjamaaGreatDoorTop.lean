/- An elementary rule has the new states of its number, its symmetries are those of the mirrored number, and the chapter's examples hold: for every number: the statement NotationRows, its card. No condition. -/
import Derived.Test.YtjekpmkghpjamaaGreatDoorCards
import Derived.Test.YtjekpmkghpjamaaGreatDoorTie
import Derived.Test.YtjekpmkghpjamaaGreatDoorMbw
import Derived.ProofKit
import Derived.OpenShut
import Derived.Deep.DeepHandedRow
import Derived.Lib.LaidTab
import Derived.Lib.SmallJoins
import Derived.Deep.Slices
import Derived.ChangeSame
import Derived.Stop.LaidErr
import Derived.Shelf.Vars
namespace Go.Proofs.YtjekpmkghpjamaaGreatDoor.lawRows
open Go.ChangeShapes Go.WideShapes Go.ChangeAt Go.RowKit Go.Joins Go.Deep

theorem own : ownKnob Tryz.prog.godebug = none := by kernel_rfl
theorem laidOut : laidOutB Tryz.prog = true := by kernel_rfl
theorem cellsInt : Tryz.prog.cellsOf 3 = 1 := by kernel_rfl
theorem cellsMats : Tryz.prog.cellsOf 207 = 32 := by kernel_rfl
theorem cellsMat : Tryz.prog.cellsOf 206 = 4 := by kernel_rfl

section
variable {H : Type} {enc : TypeId × Value → H} {P : Program}
theorem post_of_below {f : Func} {s : ChangeSpec} {apart fresh handsOn again : Bool} {W W' : World} {args : Array Value} {v : Value} {ds gs : List (DataW H)} {before pa pv : List MemPlace}
    (hW : DataW.Whole enc P f.params.toList s.vars apart W args.toList ds gs before)
    (hres : ∀ (b : Nat) (sp : Nat → Bool) (hd : Bool), DataW.TrodAll enc P W' b sp hd f.resultTypes.toList (v.resultList f.resultTypes.size) (s.fn H (ds ++ gs)).results [])
    (hargs : ∀ sp : Nat → Bool, (∀ p ∈ before, sp p.block = true) → DataW.TrodAll enc P W' 0 sp true f.params.toList args.toList (s.fn H (ds ++ gs)).args pa)
    (hvars : ∀ sp : Nat → Bool, (∀ p ∈ before, sp p.block = true) → DataW.TrodVars enc P W' sp s.vars (s.fn H (ds ++ gs)).vars pv)
    (hps : before = pa ++ pv) (hb : Below W.heap.size W W')
    (hok : ∀ (j : Nat) (t : TypeId) (r : Value), f.resultTypes[j]? = some t → (v.resultList f.resultTypes.size)[j]? = some r → Value.okWide P W' .any 0 t r) :
    s.post enc P f apart fresh handsOn again W args v W' := by
  have hlt : ∀ p ∈ before, p.block < W.heap.size := fun p hp => hW.lt p hp
  have hold : ∀ p ∈ before, (fun b => decide (b < W.heap.size)) p.block = true := fun p hp => by simpa using hlt p hp
  refine ⟨ds, gs, before, [], pa, pv, hW, hres _ _ _, hargs _ hold, hvars _ hold, World.keptBut_mono (fun p hp => ⟨hp, ?_⟩) (hb.frame (· ∈ before)), fun _ => ?_⟩
  · rw [hps, List.mem_append] at hp
    exact Or.inr hp
  · obtain ⟨_, _, _, _, _, hz, hn⟩ := hW
    refine ⟨hok, _, _, ([] ++ pa) ++ pv, ⟨[] ++ pa, pv, trodAll_append (hargs _ (fun _ _ => rfl)) (hres _ _ _), hvars _ (fun _ _ => rfl), rfl, ?_, ?_⟩, ?_⟩
    · intro b off hp
      have hin : MemPlace.cell b off ∈ before := by rw [hps]; simpa using hp
      rw [hb.frozen (hlt _ hin)]
      exact hz b off hin
    · intro ha
      have := hn ha
      rw [hps] at this
      simpa using this
    · intro p hp _
      rw [hps]
      simpa using hp
end


theorem matNamed : Tryz.prog.globalNamed "cellular/symmetry.matrices" = some 1 := by kernel_rfl
theorem matType : (Tryz.prog.globals[1]?).map (·.type) = some 207 := by kernel_rfl
theorem errNamed : Tryz.prog.globalNamed "strconv.ErrSyntax" = some 4 := by kernel_rfl
theorem errType : (Tryz.prog.globals[4]?).map (·.type) = some 125 := by kernel_rfl
theorem rngNamed : Tryz.prog.globalNamed "strconv.ErrRange" = some 5 := by kernel_rfl
theorem rngType : (Tryz.prog.globals[5]?).map (·.type) = some 125 := by kernel_rfl
theorem at_one {l : List Value} {k : Nat} {v : Value} (h : (l.drop k).take 1 = [v]) : l[k]? = some v := by
  have := congrArg (·[0]?) h
  simpa [List.getElem?_take, List.getElem?_drop] using this
/-- a matrix's cells -/
theorem row_in {H : Type} {enc : TypeId × Value → H} {W : World} {base fuel : Nat} {spare : Nat → Bool} {held : Bool} {cs : List Value} {y : DataW H × List MemPlace} {a b c d : Int} (h : DataW.trod enc Tryz.prog W base spare held fuel 206 cs = some y)
    (hy : y.1 = .agg [.lit (.int .i64 a), .lit (.int .i64 b), .lit (.int .i64 c), .lit (.int .i64 d)]) : cs[0]? = some (.int .i64 a) ∧ cs[1]? = some (.int .i64 b) ∧ cs[2]? = some (.int .i64 c) ∧ cs[3]? = some (.int .i64 d) := by
  obtain ⟨y0, y1, y2, y3, n, rfl, hl, h0, h1, h2, h3⟩ := trod_struct4 Tryz.underlying206 h
  obtain ⟨z0, e0, f0, _⟩ := DataW.trod_int Tryz.underlying3 h0
  obtain ⟨z1, e1, f1, _⟩ := DataW.trod_int Tryz.underlying3 h1
  obtain ⟨z2, e2, f2, _⟩ := DataW.trod_int Tryz.underlying3 h2
  obtain ⟨z3, e3, f3, _⟩ := DataW.trod_int Tryz.underlying3 h3
  subst f0 f1 f2 f3
  simp only [DataW.agg.injEq, List.cons.injEq, DataW.lit.injEq, Lit.int.injEq, true_and, and_true] at hy
  obtain ⟨rfl, rfl, rfl, rfl⟩ := hy
  rw [show Tryz.prog.cellsOf _ = 1 from cellsInt] at e0 e1 e2 e3
  exact ⟨at_one e0, at_one e1, at_one e2, at_one e3⟩
/-- what the variable holds -/
theorem mat_of_laid {W : World} {r : List (String × DataW Unit)} (h : laidMet Tryz.prog (("cellular/symmetry.matrices", Rows.laid_cellular_symmetry_matrices) :: r) W) : Mat W := by
  obtain ⟨ps, ⟨g, t, cs, fuel, p, q, hg, ht, hvar, hd, _, _⟩, _⟩ := h
  obtain rfl := Option.some.inj (matNamed.symm.trans hg)
  obtain rfl := Option.some.inj (matType.symm.trans ht)
  have hcell := fun i => World.var?_cell matNamed hvar i
  obtain ⟨l⟩ := cs
  cases fuel with
  | zero => simp [DataW.trod] at hd
  | succ fuel =>
    simp only [DataW.trod, Tryz.underlying207, cellsMats, cellsMat] at hd
    split at hd
    · rename_i hl
      obtain ⟨xs, hm, hx⟩ := Option.map_eq_some_iff.1 hd
      have hxs : xs.map (·.1) = (List.range 8).map fun m => (DataW.agg [.lit (.int .i64 (mxx m)), .lit (.int .i64 (mxy m)), .lit (.int .i64 (myx m)), .lit (.int .i64 (myy m))] : DataW Unit) := by
        have h2 := congrArg Prod.fst hx
        simp only [Rows.laid_cellular_symmetry_matrices, DataW.agg.injEq] at h2
        rw [h2]
        rfl
      have hall : ∀ m, m < 8 → l[m * 4]? = some (.int .i64 (mxx m)) ∧ l[m * 4 + 1]? = some (.int .i64 (mxy m)) ∧ l[m * 4 + 2]? = some (.int .i64 (myx m)) ∧ l[m * 4 + 3]? = some (.int .i64 (myy m)) := by
        intro m hm8
        obtain ⟨b, hb, hf⟩ := Lib.mapM_at hm m m (by simp [hm8])
        have hb1 : b.1 = .agg [.lit (.int .i64 (mxx m)), .lit (.int .i64 (mxy m)), .lit (.int .i64 (myx m)), .lit (.int .i64 (myy m))] := by
          have h3 : (xs.map (·.1))[m]? = some b.1 := by simp [hb]
          rw [hxs] at h3
          simp only [List.getElem?_map, List.getElem?_range hm8, Option.map_some] at h3
          exact (Option.some.inj h3).symm
        obtain ⟨r0, r1, r2, r3⟩ := row_in hf hb1
        simp only [List.getElem?_take, List.getElem?_drop] at r0 r1 r2 r3
        exact ⟨by simpa using r0, by simpa using r1, by simpa using r2, by simpa using r3⟩
      have hc : ∀ m, m < 8 → W.cell? ⟨1, m * 4, none⟩ = some (.int .i64 (mxx m)) ∧ W.cell? ⟨1, m * 4 + 1, none⟩ = some (.int .i64 (mxy m)) ∧ W.cell? ⟨1, m * 4 + 2, none⟩ = some (.int .i64 (myx m)) ∧ W.cell? ⟨1, m * 4 + 3, none⟩ = some (.int .i64 (myy m)) := by
        intro m hm8
        obtain ⟨r0, r1, r2, r3⟩ := hall m hm8
        rw [hcell, hcell, hcell, hcell]
        exact ⟨by simpa using r0, by simpa using r1, by simpa using r2, by simpa using r3⟩
      exact ⟨World.block_lt_of_cell? W _ (hc 0 (by decide)).1, hc⟩
    · cases hd

/-- what the walk reads of the package variables -/
theorem vars_in {W : World} (hL : laidMetH Tryz.prog Rows.notationRowsRow.laid W) (hsh : W.ShapedOpen Tryz.prog) : ∃ m u x u' x', Vars m u x u' x' W := by
  have h' : laidMet Tryz.prog Rows.notationRowsRow.laid W := hL
  have h4 := h'.tail.tail.tail.tail
  have h5 := h4.tail
  have h6 := h5.tail
  have hM := mat_of_laid h4
  have err1 : ∃ u v, W.cell? ⟨5, 0, none⟩ = some (.iface u v) := by
    obtain ⟨ps, ⟨g, t, cs, fuel, p, q, hg, ht, hvar, hd, _, _⟩, _⟩ := h5
    obtain rfl := Option.some.inj (rngNamed.symm.trans hg)
    obtain rfl := Option.some.inj (rngType.symm.trans ht)
    have hcell := World.var?_cell rngNamed hvar 0
    obtain ⟨l⟩ := cs
    obtain ⟨f1, u, v, hl, _, _⟩ := iface_of_trod Tryz.underlying125 hd
    have hl' : l = [.iface u v] := hl
    subst hl'
    exact ⟨u, v, by rw [hcell]; rfl⟩
  have err2 : ∃ u v, W.cell? ⟨4, 0, none⟩ = some (.iface u v) := by
    obtain ⟨ps, ⟨g, t, cs, fuel, p, q, hg, ht, hvar, hd, _, _⟩, _⟩ := h6
    obtain rfl := Option.some.inj (errNamed.symm.trans hg)
    obtain rfl := Option.some.inj (errType.symm.trans ht)
    have hcell := World.var?_cell errNamed hvar 0
    obtain ⟨l⟩ := cs
    obtain ⟨f1, u, v, hl, _, _⟩ := iface_of_trod Tryz.underlying125 hd
    have hl' : l = [.iface u v] := hl
    subst hl'
    exact ⟨u, v, by rw [hcell]; rfl⟩
  obtain ⟨u', x', hr⟩ := err1
  obtain ⟨u, x, hs⟩ := err2
  obtain ⟨m, hm⟩ := cell_of_shapedOpen_int (P := Tryz.prog) (g := 3) (t := 3) (zero := #[.int .i64 0]) hsh (of_decide_eq_true (by kernel_rfl)) (by kernel_rfl) rfl (by kernel_rfl) (by kernel_rfl) Tryz.underlying3
  exact ⟨m, u, x, u', x', ⟨World.block_lt_of_cell? W _ hs, hm, hs⟩, ⟨World.block_lt_of_cell? W _ hr, hr⟩, hM⟩

set_option maxRecDepth 100000 in
/-- WHAT THE WALK GIVES, for every argument and every world where the variables hold what they are laid with. -/
theorem contract (H : Type) (enc : TypeId × Value → H) (W : World) (base : Nat) (args : Array Value) (ds gs : List (DataW H)) (before : List MemPlace)
    (m : Int) (u : TypeId) (x : Value) (u' : TypeId) (x' : Value) (hv : Vars m u x u' x' W)
    (hval : ∀ (j : Nat) t v, Tryz.f3.params[j]? = some t → args[j]? = some v → Value.okWide Tryz.prog W .any base t v)
    (hW : DataW.Whole enc Tryz.prog Tryz.f3.params.toList Rows.notationRowsSpec.vars false W args.toList ds gs before) :
    Calls Tryz.prog 3 args W fun e W' => ∃ v, e = .returned v ∧ Rows.notationRowsSpec.post enc Tryz.prog Tryz.f3 false true false false W args v W' := by
  have hW' := hW
  have hlt0 : ∀ p ∈ before, p.block < W.heap.size := fun p hp => hW.lt p hp
  obtain ⟨p, q, hA0, hV, rfl, hfz, hnd⟩ := hW
  have hA : DataW.TrodAll enc Tryz.prog W 0 (fun _ => true) true Tryz.f3.params.toList args.toList ds p := hA0
  rw [Tryz.params3] at hA hval
  obtain ⟨v0, vs0, d0, ds0, p0, q0, hargs, rfl, rfl, h0, r0⟩ := trodAll_cons hA
  obtain ⟨rfl, rfl, rfl⟩ := trodAll_nil r0
  obtain rfl : args = #[v0] := by cases args; simp_all
  obtain ⟨rfl, rfl⟩ := trodVars_none hV
  have k0 := h0
  obtain ⟨kv, rfl, rfl, rfl, hkv⟩ := open_int Tryz.underlying5 (hval 0 5 v0 rfl rfl) h0
  clear hA0
  have hkk : 0 ≤ kv ∧ kv < 256 := by
    have e1 : IntKind.u8.min = 0 := by decide
    have e2 : IntKind.u8.max = 255 := by decide
    simp only [Lit.wf, e1, e2, Bool.and_eq_true, decide_eq_true_eq] at hkv
    omega
  obtain ⟨y, rfl⟩ : ∃ y : Nat, kv = (y : Int) := ⟨kv.toNat, by omega⟩
  refine (law_any hv (x := y) (by omega)).mono fun e W' ⟨he, hb⟩ => ?_
  subst he
  refine ⟨_, rfl, post_of_below (pa := _) (pv := []) hW' (fun _ _ _ => trodAll_cons_mk (shut_bool Tryz.underlying4 _) trodAll_mk0) (fun sp hsp => ?_) (fun _ _ => rfl) rfl hb (ok_one (by kernel_rfl) rfl (okWide_bool_mk Tryz.underlying4 _))⟩
  exact trodAll_cons_mk (WideElems.Trod_stays laidOut (by kernel_rfl) (of_decide_eq_true (by kernel_rfl)) k0 (fun x hx => by cases hx) (fun x hx => by cases hx)) trodAll_mk0

/-- The tables of math/bits and internal/strconv, laid into their blocks. -/
def layPow : Obj → Obj
  | .cells _ t frozen => .cells #[.int .u64 1, .int .u64 10, .int .u64 100, .int .u64 1000, .int .u64 10000, .int .u64 100000, .int .u64 1000000, .int .u64 10000000, .int .u64 100000000, .int .u64 1000000000, .int .u64 10000000000, .int .u64 100000000000, .int .u64 1000000000000, .int .u64 10000000000000, .int .u64 100000000000000, .int .u64 1000000000000000, .int .u64 10000000000000000, .int .u64 100000000000000000, .int .u64 1000000000000000000, .int .u64 10000000000000000000] t frozen
  | o => o
def lay32 : Obj → Obj
  | .cells _ t frozen => .cells #[.int .u8 0, .int .u8 1, .int .u8 28, .int .u8 2, .int .u8 29, .int .u8 14, .int .u8 24, .int .u8 3, .int .u8 30, .int .u8 22, .int .u8 20, .int .u8 15, .int .u8 25, .int .u8 17, .int .u8 4, .int .u8 8, .int .u8 31, .int .u8 27, .int .u8 13, .int .u8 23, .int .u8 21, .int .u8 19, .int .u8 16, .int .u8 7, .int .u8 26, .int .u8 12, .int .u8 18, .int .u8 6, .int .u8 11, .int .u8 5, .int .u8 10, .int .u8 9] t frozen
  | o => o
def lay64 : Obj → Obj
  | .cells _ t frozen => .cells #[.int .u8 0, .int .u8 1, .int .u8 56, .int .u8 2, .int .u8 57, .int .u8 49, .int .u8 28, .int .u8 3, .int .u8 61, .int .u8 58, .int .u8 42, .int .u8 50, .int .u8 38, .int .u8 29, .int .u8 17, .int .u8 4, .int .u8 62, .int .u8 47, .int .u8 59, .int .u8 36, .int .u8 45, .int .u8 43, .int .u8 51, .int .u8 22, .int .u8 53, .int .u8 39, .int .u8 33, .int .u8 30, .int .u8 24, .int .u8 18, .int .u8 12, .int .u8 5, .int .u8 63, .int .u8 55, .int .u8 48, .int .u8 27, .int .u8 60, .int .u8 41, .int .u8 37, .int .u8 16, .int .u8 46, .int .u8 35, .int .u8 44, .int .u8 21, .int .u8 52, .int .u8 32, .int .u8 23, .int .u8 11, .int .u8 54, .int .u8 26, .int .u8 40, .int .u8 15, .int .u8 34, .int .u8 20, .int .u8 31, .int .u8 10, .int .u8 25, .int .u8 14, .int .u8 19, .int .u8 9, .int .u8 13, .int .u8 8, .int .u8 7, .int .u8 6] t frozen
  | o => o
def layFirst : Obj → Obj
  | .cells _ t frozen => .cells ((Go.Pinned.utf8FirstZ.map fun (n : Nat) => Value.int .u8 n).toArray) t frozen
  | o => o
def layRanges : Obj → Obj
  | .cells _ t frozen => .cells #[.int .u8 128, .int .u8 191, .int .u8 160, .int .u8 191, .int .u8 128, .int .u8 159, .int .u8 144, .int .u8 191, .int .u8 128, .int .u8 143, .int .u8 0, .int .u8 0, .int .u8 0, .int .u8 0, .int .u8 0, .int .u8 0, .int .u8 0, .int .u8 0, .int .u8 0, .int .u8 0, .int .u8 0, .int .u8 0, .int .u8 0, .int .u8 0, .int .u8 0, .int .u8 0, .int .u8 0, .int .u8 0, .int .u8 0, .int .u8 0, .int .u8 0, .int .u8 0] t frozen
  | o => o
def layMats : Obj → Obj
  | .cells _ t frozen => .cells #[.int .i64 1, .int .i64 0, .int .i64 0, .int .i64 1, .int .i64 0, .int .i64 (-1), .int .i64 1, .int .i64 0, .int .i64 (-1), .int .i64 0, .int .i64 0, .int .i64 (-1), .int .i64 0, .int .i64 1, .int .i64 (-1), .int .i64 0, .int .i64 (-1), .int .i64 0, .int .i64 0, .int .i64 1, .int .i64 0, .int .i64 (-1), .int .i64 (-1), .int .i64 0, .int .i64 1, .int .i64 0, .int .i64 0, .int .i64 (-1), .int .i64 0, .int .i64 1, .int .i64 1, .int .i64 0] t frozen
  | o => o
def layHn : Obj → Obj
  | .cells _ t frozen => .cells #[.string ⟨#[109, 111, 111, 114, 101]⟩, .string ⟨#[110, 101, 117, 109, 97, 110, 110]⟩, .string ⟨#[104, 101, 120]⟩, .string ⟨#[108, 105, 110, 101]⟩] t frozen
  | o => o
def laySn : Obj → Obj
  | .cells _ t frozen => .cells #[.string ⟨#[110, 111, 110, 101]⟩, .string ⟨#[114, 111, 116, 97, 116, 101]⟩, .string ⟨#[114, 101, 102, 108, 101, 99, 116]⟩, .string ⟨#[112, 101, 114, 109, 117, 116, 101]⟩] t frozen
  | o => o
/-- where the texts of the two errors lie -/
noncomputable def low : Nat := (World.holding Tryz.prog default ⟨#[], #[], []⟩).heap.size
def layErr (g : Nat) : Obj → Obj
  | .cells _ t frozen => .cells #[.iface 286 (.pointer (some ⟨g, 0, none⟩))] t frozen
  | o => o
def textRange : ByteArray := ⟨#[118, 97, 108, 117, 101, 32, 111, 117, 116, 32, 111, 102, 32, 114, 97, 110, 103, 101]⟩
def textSyntax : ByteArray := ⟨#[105, 110, 118, 97, 108, 105, 100, 32, 115, 121, 110, 116, 97, 120]⟩
/-- A WORLD FOR THE WITNESS: the settled one, the tables and the two errors holding what their text lays. -/
noncomputable def laidWorld (os : Os) : World :=
  { World.holding Tryz.prog os ⟨#[.cells #[.string textSyntax] 288, .cells #[.string textRange] 288], #[], []⟩ with heap := (((((((((((World.holding Tryz.prog os ⟨#[.cells #[.string textSyntax] 288, .cells #[.string textRange] 288], #[], []⟩).heap.modify 1 layMats).modify 0 laySn).modify 2 layHn).modify 6 layPow).modify 7 layFirst).modify 8 layRanges).modify 4 (layErr low)).modify 5 (layErr (low + 1))).modify 9 lay32).modify 10 lay64) }
noncomputable def witArgs : Array Value := #[.int .u8 0]
theorem laid_met (os : Os) : laidMet Tryz.prog Rows.notationRowsRow.laid ((laidWorld os).forCall (fun _ _ => 0) ⟨#[], witArgs, []⟩).memory :=
  laidMet_of_run' 8 (by kernel_rfl) (by kernel_rfl)
theorem reads (os : Os) {H : Type} (enc : TypeId × Value → H) : ∃ places, DataW.whole enc Tryz.prog ((laidWorld os).forCall (fun _ _ => 0) ⟨#[], witArgs, []⟩).memory Tryz.f3.params.toList Rows.notationRowsSpec.vars false witArgs.toList 8 = some ([.lit (.int .u8 0)], [], places) :=
  ⟨[], by kernel_rfl⟩

set_option maxRecDepth 100000 in
theorem lifted (os : Os) (started : os.Started) (H : Type) (enc : TypeId × Value → H) (F : Stop.Interp) :
    ReturnsInHanded {} Tryz.checked os 3 .any ((OpenSpec.ofChange Rows.notationRowsSpec).preRow enc Tryz.prog Tryz.f3 Rows.notationRowsRow.domain false Rows.notationRowsRow.laid) (((OpenSpec.ofChange Rows.notationRowsSpec).at F).post enc Tryz.prog Tryz.f3 false true false false) := by
  obtain ⟨places, hx⟩ := reads os enc
  refine returnsInHanded_of_row (C := Tryz.checked) (s := OpenSpec.ofChange Rows.notationRowsSpec) own started (by kernel_rfl) Tryz.func3
    (witness_row_at (enc := enc) (C := Tryz.checked) false (laidWorld os) witArgs rfl (by kernel_rfl) (by kernel_rfl) (by kernel_rfl)
      (OpenSpec.preRow_of_cond 8 hx (by kernel_rfl) (fun k hk => by cases hk) (by kernel_rfl) (laid_met os))) ?_
  intro W base args ds gs before hval hW _ _ _ hL hsh _
  obtain ⟨m, u, x, u', x', hv⟩ := vars_in hL hsh
  exact contract H enc W base args ds gs before m u x u' x' hv hval hW

theorem said : Rows.NotationRowsSaid :=
  OpenClaim.holds_of_cond 3 Tryz.f3 rfl rfl rfl rfl rfl rfl rfl ⟨rfl, rfl, rfl, rfl, rfl⟩ rfl rfl rfl rfl rfl (by kernel_rfl) Tryz.func3 (by kernel_rfl)
    (of_decide_eq_true (by kernel_rfl)) (by unfold Func.isWrapper; first | (rw [if_pos (by decide +kernel)]; kernel_rfl) | (rw [if_neg (by decide +kernel)]; exact ⟨rfl, rfl⟩))
    (fun os started H enc _ F => by rw [OpenClaim.pre_eq_preRow]; exact lifted os started H enc F)

/-- No parameter wants a stand-in; the program's own looks are off. -/
theorem plain (f : FuncId) (fn : Func) (hf : Tryz.pinned.checked.prog.funcNamed "cellular/cellularlaw16.NotationRows" = some f) (hfn : Tryz.pinned.checked.prog.funcs[f]? = some fn) :
    true = Tryz.pinned.checked.prog.looks [] ∧ ∀ (j : Nat) t, fn.params[j]? = some t → Tryz.pinned.checked.prog.wantsStandIn t = false := by
  obtain rfl : f = 3 := Option.some.inj ((show Tryz.prog.funcNamed "cellular/cellularlaw16.NotationRows" = some 3 by kernel_rfl).symm.trans hf) |>.symm
  obtain rfl : fn = Tryz.f3 := (Option.some.inj (Tryz.func3.symm.trans hfn)).symm
  refine ⟨by kernel_rfl, fun j t ht => ?_⟩
  rw [Tryz.params3] at ht
  have ht' : t = 5 := by
    have := Array.mem_of_getElem? ht
    simpa using this
  subst ht'
  exact (show Tryz.prog.wantsStandIn 5 = false by kernel_rfl)

/-- The card of NotationRows. -/
theorem card : Rows.NotationRowsCardSaid :=
  Claim7.holds_tied_plain_at .later [] _ _ _ _ said (fun _ h => by cases h) (by kernel_rfl) (fun _ h => by cases h) notationRows_row_tie rfl ⟨rfl, rfl⟩ (by kernel_rfl) rfl plain (by kernel_rfl)

end Go.Proofs.YtjekpmkghpjamaaGreatDoor.lawRows
