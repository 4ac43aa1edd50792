/- Equal at trees with two neighbourhoods, and by what the trees mean. -/
/- What a quiet callee leaves; small facts. -/
/- Arrays by value: the law of an index; tables of ten answers. -/
/- Plain facts on memory: what a slice reads as, carried from world to world. -/
/- The walk of list. -/
/- The walks of the functions that look into a string: HasPrefix, CutPrefix, and Itoa of a digit. -/
import Derived.Test.YtjekpmkghpjamaaGreatDoorMau
import Derived.Below
import Derived.BigQuiet
import Derived.Deep.AppendLies
import Derived.Deep.Draws
import Derived.Deep.QuietTactic
import Derived.IntWalk
import Derived.Laws.OwnMore
import Derived.Laws.Rows
import Derived.Lib.Hide
import Derived.LoopN
import Derived.Shelf.Abstract
import Derived.StillTail
import Derived.StillTailTactics
import Derived.Test.YtjekpmkghpjamaaGreatDoorRows
import Derived.WalkKit
import Derived.OwnWalk
import Derived.Test.YtjekpmkghpjamaaGreatDoorMaa
import Derived.Test.YtjekpmkghpjamaaGreatDoorMab
import Derived.Test.YtjekpmkghpjamaaGreatDoorMad
import Derived.Deep.CutRange
import Derived.Sort.Statements
import Derived.Lib.Strings
namespace Go.Proofs.YtjekpmkghpjamaaGreatDoor
open Go.RowKit

set_option maxRecDepth 100000 in
set_option maxHeartbeats 8000000 in
theorem alike_no {T U : Tr} {sn : Nat} {AH AN AH' AN' : Option Addr} {cH cN cH' cN' : Nat} {w : World} (h : TS w AH AN T) (h' : TS w AH' AN' U) (hn : T.n ≤ 1000000) (hm : U.n ≤ 1000000) (hs : sm T.f T.n U.f U.n = false) :
    Calls Tryz.prog 58 #[.agg #[.int .i64 (sn : Int), .slice AH T.n cH, .slice AN T.m cN], .agg #[.int .i64 (sn : Int), .slice AH' U.n cH', .slice AN' U.m cN']] w fun e w' => e = .returned (.bool false) ∧ Below w.heap.size w w' := by
  have HS := Lib.hid (fun w' (hb : Below w.heap.size w w') => hs ▸ hsame_any AH AH' T.n U.n cH cH' T.f U.f w' (h.1.later hb) (h'.1.later hb) hn hm)
  clear h h' hs hn hm
  go_enter Tryz.func58, Tryz.ntmps58
  have Z1 := Lib.hid ((Below.refl w.heap.size w).alloc (Nat.le_refl _) (.cells #[.int .i64 (sn : Int), .slice AH T.n cH, .slice AN T.m cN] 25))
  have Z2 := Lib.hid (Z1.out.alloc Z1.out.size (.cells #[.int .i64 (sn : Int), .slice AH' U.n cH', .slice AN' U.m cN'] 25))
  have KT := Lib.hid ((Blk.new w 25 #[.int .i64 (sn : Int), .slice AH T.n cH, .slice AN T.m cN]).alloc (.cells #[.int .i64 (sn : Int), .slice AH' U.n cH', .slice AN' U.m cN'] 25))
  have KR := Blk.new (w.alloc (.cells #[.int .i64 (sn : Int), .slice AH T.n cH, .slice AN T.m cN] 25)) 25 #[.int .i64 (sn : Int), .slice AH' U.n cH', .slice AN' U.m cN']
  simp only [World.size_alloc] at KR
  have KR := Lib.hid KR
  obtain ⟨t0, t1, t2, t3⟩ := KT.out.three
  obtain ⟨r0, r1, r2, r3⟩ := KR.out.three
  go_wp2_with (go_at_call 107; (with_reducible refine (HS.out _ Z2.out).mono ?_); rintro e w1 ⟨rfl, hb⟩; have B1 := Lib.hid (Z2.out.trans (hb.mono Z2.out.size)); clear hb)
  all_goals
    go_ret
    exact ⟨rfl, B1.out⟩
set_option maxRecDepth 100000 in
set_option maxHeartbeats 16000000 in
/-- Equal, at two trees with the same number of states and other offsets -/
theorem teq_no {T U : Tr} {sn : Nat} {AH AN AH' AN' : Option Addr} {cH cN cH' cN' : Nat} {w : World} (hst : T.st = (sn : Int)) (hsu : U.st = (sn : Int)) (h : TS w AH AN T) (h' : TS w AH' AN' U) (hT : Rt T) (hU : Rt U)
    (hs : sm T.f T.n U.f U.n = false) :
    Calls Tryz.prog 28 #[.agg #[.int .i64 (sn : Int), .slice AH T.n cH, .slice AN T.m cN], .agg #[.int .i64 (sn : Int), .slice AH' U.n cH', .slice AN' U.m cN']] w fun e w' => e = .returned (.bool false) ∧ Below w.heap.size w w' := by
  have n25 := hT.hd.1.2
  have m25 := hU.hd.1.2
  have RI := Lib.hid (fun w' (hb : Below w.heap.size w w') => tright_yes AH cH AN cN T w' (h.later hb) hT)
  have RJ := Lib.hid (fun w' (hb : Below w.heap.size w w') => tright_yes AH' cH' AN' cN' U w' (h'.later hb) hU)
  rw [hst] at RI
  rw [hsu] at RJ
  have AL := Lib.hid (fun w' (hb : Below w.heap.size w w') => alike_no (sn := sn) (cH := cH) (cN := cN) (cH' := cH') (cN' := cN') (h.later hb) (h'.later hb) (by omega) (by omega) hs)
  clear h h' hs hT hU hst hsu
  go_enter Tryz.func28, Tryz.ntmps28
  have Z1 := Lib.hid ((Below.refl w.heap.size w).alloc (Nat.le_refl _) (.cells #[.int .i64 (sn : Int), .slice AH T.n cH, .slice AN T.m cN] 25))
  have Z2 := Lib.hid (Z1.out.alloc Z1.out.size (.cells #[.int .i64 (sn : Int), .slice AH' U.n cH', .slice AN' U.m cN'] 25))
  have KT := Lib.hid ((Blk.new w 25 #[.int .i64 (sn : Int), .slice AH T.n cH, .slice AN T.m cN]).alloc (.cells #[.int .i64 (sn : Int), .slice AH' U.n cH', .slice AN' U.m cN'] 25))
  have KR := Blk.new (w.alloc (.cells #[.int .i64 (sn : Int), .slice AH T.n cH, .slice AN T.m cN] 25)) 25 #[.int .i64 (sn : Int), .slice AH' U.n cH', .slice AN' U.m cN']
  simp only [World.size_alloc] at KR
  have KR := Lib.hid KR
  obtain ⟨t0, t1, t2, t3⟩ := KT.out.three
  obtain ⟨r0, r1, r2, r3⟩ := KR.out.three
  go_wp2_with (first
    | (go_at_call 22; (with_reducible refine (RI.out _ Z2.out).mono ?_); rintro e w1 ⟨rfl, hb⟩; have B1 := Lib.hid (Z2.out.trans (hb.mono Z2.out.size)); have KT1 := Lib.hid (KT.out.below hb KT.out.lt); have KR1 := Lib.hid (KR.out.below hb KR.out.lt); clear hb; obtain ⟨u0, u1, u2, u3⟩ := KT1.out.three; obtain ⟨v0, v1, v2, v3⟩ := KR1.out.three)
    | (go_at_call 22; (with_reducible refine (RJ.out _ B1.out).mono ?_); rintro e w2 ⟨rfl, hb⟩; have B2 := Lib.hid (B1.out.trans (hb.mono B1.out.size)); have KT2 := Lib.hid (KT1.out.below hb KT1.out.lt); have KR2 := Lib.hid (KR1.out.below hb KR1.out.lt); clear hb; obtain ⟨u0', u1', u2', u3'⟩ := KT2.out.three; obtain ⟨v0', v1', v2', v3'⟩ := KR2.out.three)
    | (go_at_call 58; (with_reducible refine (AL.out _ B2.out).mono ?_); rintro e w3 ⟨rfl, hb⟩; have B3 := Lib.hid (B2.out.trans (hb.mono B2.out.size)); clear hb))
  all_goals
    go_ret
    exact ⟨rfl, B3.out⟩
/-- Equal, by meaning -/
theorem teq_sem {T U : Tr} {sn : Nat} {q : Bool} (hst : T.st = (sn : Int)) (hsu : U.st = (sn : Int)) (hT : Rt T) (hU : Rt U) (hn : T.n = U.n)
    (hq : q = true ↔ sm T.f T.n U.f U.n = true ∧ ∀ e : Env sn, Phi T e = Phi U e)
    {AH AN AH' AN' : Option Addr} {cH cN cH' cN' : Nat} {w : World} (h : TS w AH AN T) (h' : TS w AH' AN' U) :
    Calls Tryz.prog 28 #[.agg #[.int .i64 (sn : Int), .slice AH T.n cH, .slice AN T.m cN], .agg #[.int .i64 (sn : Int), .slice AH' U.n cH', .slice AN' U.m cN']] w fun e w' => e = .returned (.bool q) ∧ Below w.heap.size w w' := by
  cases hs : sm T.f T.n U.f U.n with
  | false =>
    have : q = false := by
      cases q with
      | false => rfl
      | true => have := (hq.1 rfl).1; rw [hs] at this; cases this
    rw [this]
    exact teq_no hst hsu h h' hT hU hs
  | true =>
    obtain ⟨nums, L, nums', L', p, p', hi⟩ := eq_sem hT hU hst hsu hn
    have := teq_any (cH := cH) (cN := cN) (cH' := cH') (cN' := cN') hst hsu h h' hT hU hs p p'
    have e : decide (ig nums (T.m - 1) = ig nums' (U.m - 1)) = q := by
      rw [Bool.eq_iff_iff, decide_eq_true_iff, hi, hq]
      exact ⟨fun h => ⟨hs, h⟩, fun h => h.2⟩
    rw [e] at this
    exact this
end Go.Proofs.YtjekpmkghpjamaaGreatDoor
namespace Go.Proofs.YtjekpmkghpjamaaGreatDoor
open Go.RowKit
/-- an element of one cell of an array by value -/
theorem run_index_one {P : Program} {t e : TypeId} {n : Nat} {i0 : TypeInfo} (ht : P.underlying t = some (.array n e)) (ha : ∀ w, (isAgg e).run P w = .ok false w)
    (hi : P.info? e = some i0) (hz : i0.size = 1) (w : World) (cs : Array Value) (k : IntKind) (i : Nat) (h1 : i < n) (v : Value) (hv : cs[i]? = some v) :
    (Instr.index t (.agg cs) (.int k (i : Int))).run P w = .ok v w := by
  have h2 : (i : Int) < (n : Int) := by omega
  have hc : P.cellsOf e = 1 := by simp [Program.cellsOf, hi, hz]
  simp [Instr.index, run_underlying ht, asIntOf, go_sem, run_sizeOf w hi, hz, part, ha, hc, hv, h1]
end Go.Proofs.YtjekpmkghpjamaaGreatDoor
namespace Go.Proofs.YtjekpmkghpjamaaGreatDoor
open Go.RowKit
theorem Tryz.info_bool : (Tryz.prog.info? 4).map (fun i => (i.zero, i.size, i.bytes)) = some (some (.bool false), 1, 1) := by kernel_rfl
theorem Tryz.info_string : (Tryz.prog.info? 9).map (fun i => (i.zero, i.size, i.bytes)) = some (some (.string ⟨#[]⟩), 1, 16) := by kernel_rfl
/-- ten answers as cells -/
def bls (p : Nat → Bool) : Array Value := #[.bool (p 0), .bool (p 1), .bool (p 2), .bool (p 3), .bool (p 4), .bool (p 5), .bool (p 6), .bool (p 7), .bool (p 8), .bool (p 9)]
theorem bls_at (p : Nat → Bool) (i : Nat) (h : i < 10) : (bls p)[i]? = some (.bool (p i)) := by
  match i, h with
  | 0, _ | 1, _ | 2, _ | 3, _ | 4, _ | 5, _ | 6, _ | 7, _ | 8, _ | 9, _ => rfl
/-- one answer exchanged -/
def updG (p : Nat → Bool) (i : Nat) (b : Bool) (k : Nat) : Bool := if k = i then b else p k
theorem bls_set (p : Nat → Bool) (i : Nat) (b : Bool) (h : i < 10) : (bls p).setIfInBounds i (.bool b) = bls (updG p i b) := by
  match i, h with
  | 0, _ | 1, _ | 2, _ | 3, _ | 4, _ | 5, _ | 6, _ | 7, _ | 8, _ | 9, _ => rfl
theorem run_bls (p : Nat → Bool) (i : Nat) (h : i < 10) (w : World) : (Instr.index 75 (.agg (bls p)) (.int .i64 (i : Int))).run Tryz.prog w = .ok (.bool (p i)) w := by
  obtain ⟨i0, hi, hz0, hz1, hz2⟩ := info_parts Tryz.info_bool
  exact run_index_one Tryz.underlying75 (run_isAgg_plain Tryz.underlying4 rfl) hi hz1 w _ .i64 i h _ (bls_at p i h)
theorem run_letters (w : World) : (Instr.index 174 (.agg #[.string ⟨#[]⟩, .string ⟨#[86]⟩, .string ⟨#[72]⟩]) (.int .i64 0)).run Tryz.prog w = .ok (.string ⟨#[]⟩) w ∧ (Instr.index 174 (.agg #[.string ⟨#[]⟩, .string ⟨#[86]⟩, .string ⟨#[72]⟩]) (.int .i64 1)).run Tryz.prog w = .ok (.string ⟨#[86]⟩) w ∧ (Instr.index 174 (.agg #[.string ⟨#[]⟩, .string ⟨#[86]⟩, .string ⟨#[72]⟩]) (.int .i64 2)).run Tryz.prog w = .ok (.string ⟨#[72]⟩) w := by
  obtain ⟨i0, hi, hz0, hz1, hz2⟩ := info_parts Tryz.info_string
  exact ⟨run_index_one Tryz.underlying174 (run_isAgg_plain Tryz.underlying9 rfl) hi hz1 w _ .i64 0 (by decide) _ rfl, run_index_one Tryz.underlying174 (run_isAgg_plain Tryz.underlying9 rfl) hi hz1 w _ .i64 1 (by decide) _ rfl, run_index_one Tryz.underlying174 (run_isAgg_plain Tryz.underlying9 rfl) hi hz1 w _ .i64 2 (by decide) _ rfl⟩
end Go.Proofs.YtjekpmkghpjamaaGreatDoor
namespace Go.Proofs.YtjekpmkghpjamaaGreatDoor
open Go.RowKit
section
variable {w w' : World} {B B' n : Nat} {A : Option Addr} {xs : List Value}
end
section
variable {w w' : World} {g : Nat} {t : TypeId} {cs : Array Value}
end
/-- append of one value onto a row of the call's own -/
theorem wpList_append1 {P : Program} {w : World} {ops : Array Oper} {rest : List Oper} {o : Oper} {a : Act} {Q : Exit → Act → World → Prop} (hgd : o.guard = none) (s x : Operand) (t : TypeId)
    (ho : o.op = .call { callee := .builtin .append, args := #[s, x], argTypes := #[t, t] })
    (base : Nat) (e : TypeId) (i : TypeInfo) (z : Value) (bytes : Nat) (ht : P.underlying t = some (.slice e)) (hi : P.info? e = some i) (hz : i.zero = some z)
    (hsize : i.size = 1) (hby : i.bytes = bytes) (hzs : z.cells.size = 1)
    (A : Option Addr) (n c : Nat) (xs : List Value) (hs : a.eval s = .slice A n c) (hown : w.ownsRow base e 1 (.slice A n c) n xs) (u : Value)
    (hx : a.eval x = .slice (some ⟨w.heap.size, 0, none⟩) 1 1) (h1 : u.oneCell' = true) (h63 : n + 1 ≤ maxLen) (hbytes : (n + 1) * bytes ≤ 140737488355328) (hbase : base ≤ w.heap.size)
    (h : ∀ g' c' w', w'.ownsRow base e 1 (.slice (some ⟨g', 0, none⟩) (n + 1) c') (n + 1) (xs ++ [u]) → Below base w w' → wpList P ops Q rest (a.put o.dst (.slice (some ⟨g', 0, none⟩) (n + 1) c')) w') :
    wpList P ops Q (o :: rest) a (w.alloc (.cells #[u] e)) := by
  refine wpList_append_own _ hgd s x t ho base e i z 1 bytes ht hi hz hsize hby hzs (by decide) _ n xs hs (hown.alloc _) ⟨w.heap.size, 0, none⟩ 1 1 [u] hx rfl ?_ ?_ h63 hbytes (by simp; omega) ?_
  · intro j v hj
    match j, hj with
    | 0, hj => simp at hj; subst hj; simp [Addr.add]
  · intro v hv; simp at hv; subst hv; exact h1
  · intro v' w' hown' hg _
    obtain ⟨g', c', hv, hg', hs'⟩ := hown'.form (by omega)
    subst hv
    refine h g' c' w' hown' (Below.grown ((Below.refl base w).alloc hbase _) hg (by simp; omega) ?_)
    intro k hk
    exact (hown.lt k hk).1

end Go.Proofs.YtjekpmkghpjamaaGreatDoor
namespace Go.Proofs.YtjekpmkghpjamaaGreatDoor
open Go.RowKit
/-- the numbers below n that a table has -/
def nl (p : Nat → Bool) (n : Nat) : List Int := ((List.range n).filter p).map fun (k : Nat) => (k : Int)
theorem nl_succ (p : Nat → Bool) (n : Nat) : nl p (n + 1) = if p n = true then nl p n ++ [(n : Int)] else nl p n := by
  unfold nl
  rw [List.range_succ, List.filter_append]
  by_cases h : p n = true <;> simp [h]
theorem nl_len (p : Nat → Bool) (n : Nat) : (nl p n).length ≤ n := by
  have := List.length_filter_le p (List.range n)
  simpa [nl] using this
set_option maxRecDepth 100000 in
set_option maxHeartbeats 2000000 in
theorem list_any (p : Nat → Bool) (w : World) :
    Calls Tryz.prog 36 #[.agg (bls p)] w fun e w' => ∃ A c, e = .returned (.slice A (nl p 10).length c) ∧ w'.ownsRow w.heap.size 3 1 (.slice A (nl p 10).length c) (nl p 10).length (il (nl p 10)) ∧ Below w.heap.size w w' := by
  obtain ⟨i0, hi, hz0, hz1, hz2⟩ := info_parts Tryz.info_int
  have X := fun k h w => run_bls p k h w
  have HB := Lib.hid ((Below.refl w.heap.size w).alloc (Nat.le_refl _) (.cells (bls p) 75))
  have K := Lib.hid (Blk.new w 75 (bls p))
  have hpos : w.heap.size ≤ (w.alloc (.cells (bls p) 75)).heap.size := by simp
  simp only [bls] at X HB K hpos ⊢
  have zz := Lib.hid X
  (try clear X)
  have X := zz
  clear zz
  go_enter Tryz.func36, Tryz.ntmps36
  go_wp2
  generalize w.alloc (.cells #[.bool (p 0), .bool (p 1), .bool (p 2), .bool (p 3), .bool (p 4), .bool (p 5), .bool (p 6), .bool (p 7), .bool (p 8), .bool (p 9)] 75) = w0 at HB K hpos ⊢
  go_loopw [3, 7] (fun lv jv wr => ∃ (j m : Nat) (l : List Int) (A : Option Addr) (c : Nat), j ≤ 10 ∧ jv = .int .i64 (j : Int) ∧ l = nl p j ∧ m = l.length ∧ m ≤ j ∧ lv = .slice A m c ∧ wr.ownsRow w.heap.size 3 1 (.slice A m c) m (il l) ∧ Below w.heap.size w wr) (fun _ jv _ => 10 - (intOf jv).toNat)
  case atStart => exact ⟨0, 0, [], none, 0, Nat.zero_le _, rfl, rfl, rfl, Nat.zero_le _, rfl, World.ownsRow_nil _ _ _ _, HB.out⟩
  case round =>
    obtain ⟨j, m, l, A, c, hj, rfl, hl, hm, hmj, rfl, hown, hbel⟩ := hrel
    have HL := Lib.hid hl
    have HM := Lib.hid hm
    have HE := Lib.hid hbel
    have hs := hbel.size
    clear hl hm hbel
    by_cases hjn : j < 10
    · have X1 := fun w => X.out j hjn w
      have step := fun (l' : List Int) (e : l' = if p j = true then l ++ [(j : Int)] else l) => (show l' = nl p (j + 1) by rw [e, nl_succ, ← HL.out])
      generalize p j = q at X1 step
      have STEP := Lib.hid step
      clear step
      cases q with
      | true =>
        go_wp2_with (at_builtin; refine wpList_append1 rfl _ _ 36 rfl w.heap.size 3 i0 (.int .i64 0) 8 Tryz.underlying36 hi hz0 hz1 hz2 rfl A m c _ rfl hown (.int .i64 (j : Int)) rfl rfl (by unfold maxLen; omega) (by omega) hs ?_; intro g' c' w2 hown' hbel')
        go_roundw
        case rel => exact ⟨j + 1, m + 1, l ++ [(j : Int)], some ⟨g', 0, none⟩, c', by omega, by go_num, STEP.out _ rfl, by rw [HM.out]; simp, by omega, rfl, by rw [il_add]; exact hown', HE.out.trans hbel'⟩
        case measure => simp [intOf]; omega
      | false =>
        go_wp2
        go_roundw
        case rel => exact ⟨j + 1, m, l, A, c, by omega, by go_num, STEP.out _ rfl, HM.out, by omega, rfl, hown, HE.out⟩
        case measure => simp [intOf]; omega
    · obtain rfl : j = 10 := by omega
      have hl := HL.out
      have hm := HM.out
      clear HL HM
      subst hl
      subst hm
      go_wp2
      go_ret
      exact ⟨A, c, rfl, hown, HE.out⟩
theorem Blk.ten {w : World} {g : Nat} {t : TypeId} {c0 c1 c2 c3 c4 c5 c6 c7 c8 c9 : Value} (h : Blk w g t #[c0, c1, c2, c3, c4, c5, c6, c7, c8, c9]) :
    w.cell? ⟨g, 0, none⟩ = some c0 ∧ w.cell? ⟨g, 1, none⟩ = some c1 ∧ w.cell? ⟨g, 2, none⟩ = some c2 ∧ w.cell? ⟨g, 3, none⟩ = some c3 ∧ w.cell? ⟨g, 4, none⟩ = some c4 ∧ w.cell? ⟨g, 5, none⟩ = some c5 ∧ w.cell? ⟨g, 6, none⟩ = some c6 ∧ w.cell? ⟨g, 7, none⟩ = some c7 ∧ w.cell? ⟨g, 8, none⟩ = some c8 ∧ w.cell? ⟨g, 9, none⟩ = some c9 ∧ g < w.heap.size :=
  ⟨by rw [h.cell]; rfl, by rw [h.cell]; rfl, by rw [h.cell]; rfl, by rw [h.cell]; rfl, by rw [h.cell]; rfl, by rw [h.cell]; rfl, by rw [h.cell]; rfl, by rw [h.cell]; rfl, by rw [h.cell]; rfl, by rw [h.cell]; rfl, h.lt⟩
end Go.Proofs.YtjekpmkghpjamaaGreatDoor
namespace Go.Proofs.YtjekpmkghpjamaaGreatDoor
open Go.RowKit
theorem hasPrefix_any (s p : ByteArray) (w : World) (hn : s.size ≤ 1000) (hp : p.size ≤ 1000) :
    Calls Tryz.prog 62 #[.string s, .string p] w fun e w' => e = .returned (.bool (decide (p.size ≤ s.size) && ((s.extract 0 p.size).toList == p.toList))) ∧ w = w' := by
  by_cases h1 : p.size ≤ s.size
  · have h2 : (p.size : Int) ≤ (s.size : Int) := by omega
    go_enter Tryz.func62, Tryz.ntmps62
    go_wp2
    go_ret
    exact ⟨ret_bool (by simp [h1]), rfl⟩
  · go_enter Tryz.func62, Tryz.ntmps62
    go_wp2
    go_ret
    exact ⟨ret_bool (by simp [h1]), rfl⟩
/-- a text that begins so, and what follows -/
theorem lcut_yes (s p : ByteArray) (w : World) (hn : s.size ≤ 1000) (hp : p.size ≤ s.size) (h : ((s.extract 0 p.size).toList == p.toList) = true) :
    Calls Tryz.prog 69 #[.string s, .string p] w fun e w' => e = .returned (.tuple #[.string (s.extract p.size s.size), .bool true]) ∧ w = w' := by
  have H := hasPrefix_any s p w hn (by omega)
  rw [h, decide_eq_true hp] at H
  have H := Lib.hid H
  clear h
  go_enter Tryz.func69, Tryz.ntmps69
  go_wp2_with (go_at_call 62; (with_reducible refine H.out.mono ?_); rintro e w' ⟨rfl, rfl⟩)
  go_ret2
  exact ⟨rfl, rfl⟩
theorem lcut_no (s p : ByteArray) (w : World) (hn : s.size ≤ 1000) (hp : p.size ≤ 1000) (h : (decide (p.size ≤ s.size) && ((s.extract 0 p.size).toList == p.toList)) = false) :
    Calls Tryz.prog 69 #[.string s, .string p] w fun e w' => e = .returned (.tuple #[.string s, .bool false]) ∧ w = w' := by
  have H := hasPrefix_any s p w hn hp
  rw [h] at H
  have H := Lib.hid H
  clear h
  go_enter Tryz.func69, Tryz.ntmps69
  go_wp2_with (go_at_call 62; (with_reducible refine H.out.mono ?_); rintro e w' ⟨rfl, rfl⟩)
  go_ret2
  exact ⟨rfl, rfl⟩
/-- a text by its bytes -/
def tx (l : List UInt8) : ByteArray := ⟨l.toArray⟩
theorem tx_size (l : List UInt8) : (tx l).size = l.length := by
  rw [Lib.size_eq]; simp [tx]
theorem cut_any (l q : List UInt8) (w : World) (hn : l.length ≤ 1000) (hq : q.length ≤ 1000) :
    Calls Tryz.prog 33 #[.string (tx l), .string (tx q)] w fun e w' => e = .returned (.tuple #[.string (tx (Lib.trimPrefix l q)), .bool (Lib.hasPrefix l q)]) ∧ w = w' := by
  have H : Calls Tryz.prog 69 #[.string (tx l), .string (tx q)] w fun e w' => e = .returned (.tuple #[.string (tx (Lib.trimPrefix l q)), .bool (Lib.hasPrefix l q)]) ∧ w = w' := by
    have hr := Lib.hasPrefix_raw (tx l) (tx q)
    have e1 : (tx l).data.toList = l := by simp [tx]
    have e2 : (tx q).data.toList = q := by simp [tx]
    rw [e1, e2] at hr
    cases hb : Lib.hasPrefix l q with
    | true =>
      rw [hb] at hr
      simp only [Bool.and_eq_true, decide_eq_true_eq] at hr
      have h9 := Lib.trimPrefix_hit (tx l) (tx q) hr.1 hr.2
      rw [e1, e2] at h9
      have h9 : tx (Lib.trimPrefix l q) = (tx l).extract (tx q).size (tx l).size := h9
      rw [h9]
      exact lcut_yes (tx l) (tx q) w (by rw [tx_size]; exact hn) hr.1 hr.2
    | false =>
      rw [hb] at hr
      have h9 := Lib.trimPrefix_miss (tx l) (tx q) hr
      rw [e1, e2] at h9
      have h9 : tx (Lib.trimPrefix l q) = tx l := h9
      rw [h9]
      exact lcut_no (tx l) (tx q) w (by rw [tx_size]; exact hn) (by rw [tx_size]; exact hq) hr
  have H := Lib.hid H
  generalize tx (Lib.trimPrefix l q) = r at H ⊢
  generalize Lib.hasPrefix l q = b at H ⊢
  generalize tx l = s at H ⊢
  generalize tx q = p at H ⊢
  go_enter Tryz.func33, Tryz.ntmps33
  go_wp2_with (go_at_call 69; (with_reducible refine H.out.mono ?_); rintro e w' ⟨rfl, rfl⟩)
  go_ret2
  exact ⟨rfl, rfl⟩
/-- the text of a digit -/
def dg (n : Nat) : List UInt8 := [(48 + n).toUInt8]
theorem digit_at (n : Nat) (hn : n < 10) : (⟨#[48, 49, 50, 51, 52, 53, 54, 55, 56, 57, 97, 98, 99, 100, 101, 102, 103, 104, 105, 106, 107, 108, 109, 110, 111, 112, 113, 114, 115, 116, 117, 118, 119, 120, 121, 122]⟩ : ByteArray).extract n (n + 1) = tx (dg n) := by
  rw [Lib.extract_eq]
  match n, hn with
  | 0, _ | 1, _ | 2, _ | 3, _ | 4, _ | 5, _ | 6, _ | 7, _ | 8, _ | 9, _ => rfl
theorem small_any (n : Nat) (w : World) (hn : n < 10) :
    Calls Tryz.prog 205 #[.int .i64 (n : Int)] w fun e w' => e = .returned (.string (tx (dg n))) ∧ w = w' := by
  have hd := digit_at n hn
  match n, hn with
  | 0, _ | 1, _ | 2, _ | 3, _ | 4, _ | 5, _ | 6, _ | 7, _ | 8, _ | 9, _ =>
    rw [← hd]
    clear hd
    go_enter Tryz.func205, Tryz.ntmps205
    go_wp2
    go_ret
    exact ⟨rfl, rfl⟩
theorem format_any (n : Nat) (w : World) (hn : n < 10) :
    Calls Tryz.prog 171 #[.int .i64 (n : Int), .int .i64 10] w fun e w' => e = .returned (.string (tx (dg n))) ∧ w = w' := by
  have H := Lib.hid (small_any n w hn)
  generalize tx (dg n) = s at H ⊢
  go_enter Tryz.func171, Tryz.ntmps171
  go_wp2_with (go_at_call 205; (with_reducible refine H.out.mono ?_); rintro e w' ⟨rfl, rfl⟩)
  go_ret
  exact ⟨rfl, rfl⟩
theorem iitoa_any (n : Nat) (w : World) (hn : n < 10) :
    Calls Tryz.prog 121 #[.int .i64 (n : Int)] w fun e w' => e = .returned (.string (tx (dg n))) ∧ w = w' := by
  have H := Lib.hid (format_any n w hn)
  generalize tx (dg n) = s at H ⊢
  go_enter Tryz.func121, Tryz.ntmps121
  go_wp2_with (go_at_call 171; (with_reducible refine H.out.mono ?_); rintro e w' ⟨rfl, rfl⟩)
  go_ret
  exact ⟨rfl, rfl⟩
theorem itoa_any (n : Nat) (w : World) (hn : n < 10) :
    Calls Tryz.prog 70 #[.int .i64 (n : Int)] w fun e w' => e = .returned (.string (tx (dg n))) ∧ w = w' := by
  have H := Lib.hid (iitoa_any n w hn)
  generalize tx (dg n) = s at H ⊢
  go_enter Tryz.func70, Tryz.ntmps70
  go_wp2_with (go_at_call 121; (with_reducible refine H.out.mono ?_); rintro e w' ⟨rfl, rfl⟩)
  go_ret
  exact ⟨rfl, rfl⟩
end Go.Proofs.YtjekpmkghpjamaaGreatDoor
