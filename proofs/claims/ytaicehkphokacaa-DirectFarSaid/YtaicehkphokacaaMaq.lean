/- Small lemmas out of older texts. -/
/- The walks of number, place, validCoord and validPlace. -/
import Derived.Test.YtaicehkphokacaaMap
import Derived.Test.YtaicehkphokacaaMae
import Derived.Test.YtaicehkphokacaaMab
import Derived.Deep.OwnRows
import Derived.Deep.RegionHeldLaw
import Derived.Shelf.Abstract
import Derived.Test.YtaicehkphokacaaMah
import Derived.Test.YtaicehkphokacaaMaa
import Derived.Below
import Derived.BigQuiet
import Derived.Deep.AppendLies
import Derived.Deep.CutRange
import Derived.Deep.Draws
import Derived.Deep.QuietTactic
import Derived.IntWalk
import Derived.Laws.CopyOwn
import Derived.Laws.OwnMore
import Derived.Laws.Rows
import Derived.Lib.Hide
import Derived.Lib.SliceRun
import Derived.LoopN
import Derived.OwnWalk
import Derived.StillTail
import Derived.StillTailTactics
import Derived.Test.YtaicehkphokacaaRows
import Derived.WalkKit
import Derived.Test.YtaicehkphokacaaMag
import Derived.Test.YtaicehkphokacaaMai
import Derived.Maps.OwnOps
import Derived.DeepKeys4
import Derived.ArgAppend
import Derived.Test.YtaicehkphokacaaMaj
import Derived.Test.YtaicehkphokacaaMal
import Derived.Test.YtaicehkphokacaaMam
import Derived.Test.YtaicehkphokacaaMac
namespace Go.Proofs.Ytaicehkphokacaa
open Go.RowKit
/-- gates as cells -/
def cg (l : List C3) : List Value := l.flatMap fun g => [.int .i64 g.1, .int .i64 g.2.1, .int .i64 g.2.2]
theorem cg_len (l : List C3) : (cg l).length = l.length * 3 := by
  induction l with
  | nil => rfl
  | cons x l ih => simp only [cg, List.flatMap_cons, List.length_append, List.length_cons, List.length_nil] at ih ⊢; omega
/-- what a gate more turns -/
def gb (lb : Nat) (A : Option Addr) (k : Nat) : Prop := k = lb ∨ ob A k
theorem Try.info_intL : (Try.prog.info? 3).map (fun i => (i.zero, i.size, i.bytes)) = some (some (.int .i64 0), 1, 8) := by kernel_rfl
/-- a row's block is none of another type -/
theorem own_ob_ne {w : World} {base k n c gc : Nat} {e t : TypeId} {A : Option Addr} {xs : List Value} {cs : Array Value} (h : w.ownsRow base e k (.slice A n c) n xs) (hb : Blk w gc t cs) (hne : e ≠ t) : ¬ ob A gc := by
  intro ha
  rcases h.2 with ⟨hv, _⟩ | ⟨g, cap, cur, hv, _, hg, _⟩
  · injection hv with e1; subst e1; cases ha
  · injection hv with e1
    subst e1
    have q : g = gc := by simpa [ob, Value.ownBlock] using ha
    subst q
    rw [show w.heap[g]? = _ from hb] at hg
    injection hg with hg
    injection hg with _ ht
    exact hne ht.symm
/-- a binary digit -/
def bt (n k : Nat) : Bool := n / 2 ^ k % 2 == 1
/-- the wire of a literal -/
def liV (nots : List Int) (b i k : Nat) (one : Bool) : Int := if one then ((i * b + k : Nat) : Int) else ig nots (i * b + k)
def tr (nots : List Int) (b i s : Nat) : List Int := (List.range (b - 1)).map fun k => liV nots b i (k + 1) (bt s (k + 1))
/-- append of one value, and where the new row lies -/
theorem wpList_append1F {P : Program} {w : World} {ops : Array Oper} {rest : List Oper} {o : Oper} {a : Act} {Q : Exit → Act → World → Prop} (hgd : o.guard = none) (s x : Operand) (t : TypeId)
    (ho : o.op = .call { callee := .builtin .append, args := #[s, x], argTypes := #[t, t] })
    (base : Nat) (e : TypeId) (i : TypeInfo) (z : Value) (bytes : Nat) (ht : P.underlying t = some (.slice e)) (hi : P.info? e = some i) (hz : i.zero = some z)
    (hsize : i.size = 1) (hby : i.bytes = bytes) (hzs : z.cells.size = 1)
    (A : Option Addr) (n c : Nat) (xs : List Value) (hs : a.eval s = .slice A n c) (hown : w.ownsRow base e 1 (.slice A n c) n xs) (u : Value)
    (hx : a.eval x = .slice (some ⟨w.heap.size, 0, none⟩) 1 1) (h1 : u.oneCell' = true) (h63 : n + 1 ≤ maxLen) (hbytes : (n + 1) * bytes ≤ 140737488355328) (hbase : base ≤ w.heap.size)
    (h : ∀ g' c' w', w'.ownsRow base e 1 (.slice (some ⟨g', 0, none⟩) (n + 1) c') (n + 1) (xs ++ [u]) → Fr (ob A) w (ob (some ⟨g', 0, none⟩)) w' → wpList P ops Q rest (a.put o.dst (.slice (some ⟨g', 0, none⟩) (n + 1) c')) w') :
    wpList P ops Q (o :: rest) a (w.alloc (.cells #[u] e)) := by
  refine wpList_append_lies _ hgd s x t ho base e i z 1 bytes ht hi hz hsize hby hzs (by decide) _ n xs hs (hown.alloc _) ⟨w.heap.size, 0, none⟩ 1 1 [u] hx rfl ?_ ?_ (by decide) h63 hbytes (by simp; omega) (w.heap.size + 1) (by simp) ?_
  · intro j y hj
    match j, hj with
    | 0, hj => simp at hj; subst hj; simp [Addr.add]
  · intro y hy; simp at hy; subst hy; exact h1
  · intro g' c' w' hown' hg hat _
    have hs := hg.size
    rw [World.size_alloc] at hs
    refine h g' c' w' hown' ⟨hg.os, hg.tape, hg.output, by omega, fun k hk hn => ?_, fun k hk => ?_⟩
    · rw [hg.block k (by rw [World.size_alloc]; omega) (fun e => hn (ob_own.2 e.symm))]
      exact Below.heap_alloc w _ k hk
    · have e : g' = k := by simpa [ob, Value.ownBlock] using hk
      subst e
      rcases hat with q | q
      · exact .inl (ob_own.2 q)
      · right; omega
/-- a row that is owned from a bound on is owned from a lower one on -/
theorem own_lower {w : World} {base base' k n : Nat} {e : TypeId} {v : Value} {xs : List Value} (h : w.ownsRow base e k v n xs) (hb : base' ≤ base) : w.ownsRow base' e k v n xs := by
  refine ⟨h.1, ?_⟩
  rcases h.2 with hn | ⟨g, cap, cur, rfl, hbg, rest⟩
  · exact .inl hn
  · exact .inr ⟨g, cap, cur, rfl, by omega, rest⟩
/-- behind a value laid and an append onto a row -/
theorem fr_app1 {wa w7 : World} {V : Option Addr} {j v gg : Nat} {o : Obj} (hg : (wa.alloc o).grownBy w7 (Value.slice V j v).ownBlock) (hat : (Value.slice V j v).ownBlock = some gg ∨ gg = wa.heap.size + 1) : Fr (ob V) wa (ob (some ⟨gg, 0, none⟩)) w7 := by
  have h2 := hg.size
  rw [World.size_alloc] at h2
  refine ⟨hg.os, hg.tape, hg.output, by omega, fun k hk hn => ?_, fun k hk => ?_⟩
  · rw [hg.block k (by rw [World.size_alloc]; omega) (fun e => hn (ob_own.2 e.symm)), Below.heap_alloc _ _ k (by omega)]
  · have e : gg = k := by simpa [ob, Value.ownBlock] using hk
    subst e
    rcases hat with h | h
    · exact .inl (ob_own.2 h)
    · right; omega
theorem cg_at : ∀ (gs : List C3) (k : Nat), k < gs.length → (cg gs)[k * 3]? = some (.int .i64 (gs.getD k (0, 0, 0)).1) ∧ (cg gs)[k * 3 + 1]? = some (.int .i64 (gs.getD k (0, 0, 0)).2.1) ∧ (cg gs)[k * 3 + 2]? = some (.int .i64 (gs.getD k (0, 0, 0)).2.2)
  | [], _, h => absurd h (Nat.not_lt_zero _)
  | x :: r, 0, _ => by simp [cg]
  | x :: r, k + 1, h => by
    have h1 := cg_at r k (by simpa using h)
    have e : cg (x :: r) = .int .i64 x.1 :: .int .i64 x.2.1 :: .int .i64 x.2.2 :: cg r := by simp [cg]
    rw [e, show (k + 1) * 3 = k * 3 + 1 + 1 + 1 by omega]
    simpa using h1
/-- gates of a row, read -/
theorem creads_cg {w : World} {base : Nat} {e : TypeId} {A : Option Addr} {c : Nat} {gs : List C3} (h : w.ownsRow base e 3 (.slice A gs.length c) gs.length (cg gs)) : CReads w w.heap.size A gs.length (fun k => gs.getD k (0, 0, 0)) := fun hn => by
  obtain ⟨g, cap, hv, _, hg⟩ := h.form (by omega)
  injection hv with h1 _ h3
  subst h1 h3
  refine ⟨g, 0, rfl, (h.lt g rfl).2, fun k hk => ?_⟩
  obtain ⟨c1, c2, c3⟩ := cg_at gs k hk
  have hl := cg_len gs
  simp only [Nat.zero_add]
  refine ⟨?_, ?_, ?_⟩
  · rw [h.cellAt (k * 3) (by omega), c1]
  · rw [h.cellAt (k * 3 + 1) (by omega), c2]
  · rw [h.cellAt (k * 3 + 2) (by omega), c3]
/-- the 64 values of an operation -/
def rs (op a b : Int) : Int := if op = 1 then 18446744073709551615 else if op = 2 then bits .xor .u64 IntKind.u64.max a else if op = 3 then bits .and .u64 a b else if op = 4 then bits .or .u64 a b else if op = 5 then bits .xor .u64 a b else 0
theorem addz (g k : Nat) : ((⟨g, 0, none⟩ : Addr).add k) = ⟨g, k, none⟩ := by
  unfold Addr.add
  split
  · next e => subst e; rfl
  · simp
/-- where a row begins -/
theorem own_some {w : World} {b0 k n c : Nat} {e : TypeId} {ad : Addr} {xs : List Value} (h : w.ownsRow b0 e k (.slice (some ad) n c) n xs) : ∃ g, ad = ⟨g, 0, none⟩ ∧ n ≤ c ∧ b0 ≤ g ∧ g < w.heap.size := by
  rcases h.2 with ⟨hv, _⟩ | ⟨g, cap, cur, hv, hbg, hg, h3, _⟩
  · cases hv
  · injection hv with e1 e2 e3
    injection e1 with e1
    subst e1 e3
    exact ⟨g, rfl, h3, hbg, (Array.getElem?_eq_some_iff.1 hg).1⟩
theorem run_max2 {P : Program} (w : World) (ts : Array TypeId) (t : TypeId) (k : IntKind) (x y : Int) : (Builtin.max_ ts t #[.int k x, .int k y]).run P w = .ok (.int k (max x y)) w := by
  have e : (if y > x then y else x) = max x y := by split <;> omega
  simp [Builtin.max_, Builtin.max2, e]
theorem run_min2 {P : Program} (w : World) (ts : Array TypeId) (t : TypeId) (k : IntKind) (x y : Int) : (Builtin.min_ ts t #[.int k x, .int k y]).run P w = .ok (.int k (min x y)) w := by
  have e : (if y < x then y else x) = min x y := by split <;> omega
  simp [Builtin.min_, Builtin.min2, e]
theorem own_belowk {w w' : World} {base k : Nat} {e : TypeId} {v : Value} {n : Nat} {xs : List Value} (h : w.ownsRow base e k v n xs) (hb : Below w.heap.size w w') : w'.ownsRow base e k v n xs := (Fr.of_below (G := fun _ => False) hb).row h (fun _ _ h => h)
theorem grown_drew {w w' : World} {v : Option Nat} (h : w.drew.grownBy w' v) : w.grownBy w' v := ⟨h.os, h.tape, h.output, h.size, h.block⟩
theorem spot_of_cell {w : World} {a : Addr} {u : Value} (h : w.cell? a = some u) : a = ⟨a.block, a.off, none⟩ := by
  obtain ⟨b, o, s⟩ := a
  cases s with
  | none => rfl
  | some s =>
    unfold World.cell? at h
    split at h
    · simp at h
    · cases h
/-- numbers that fit -/
def Fits (T : Tr) : Prop := T.n < 9223372036854775808 ∧ T.m < 9223372036854775808 ∧ ∀ k, k < T.m → (T.nx k).length < 9223372036854775808
end Go.Proofs.Ytaicehkphokacaa
namespace Go.Proofs.Ytaicehkphokacaa
open Go.RowKit

theorem number_any (x y : Int) (w : World) (hx : -1048578 ≤ x ∧ x ≤ 1048578) (hy : -1048578 ≤ y ∧ y ≤ 1048578) :
    Calls Try.prog 72 #[.int .i64 x, .int .i64 y] w fun e w' => e = .returned (.int .i64 (nmb x y)) ∧ w = w' := by
  have e1 : IntKind.i64.wrap (y + 1048578) = y + 1048578 := IntWalk.i64_in _ ⟨by omega, by omega⟩
  have e2 : IntKind.i64.wrap ((y + 1048578) * 2097157) = (y + 1048578) * 2097157 := IntWalk.i64_in _ ⟨by omega, by omega⟩
  have e3 : IntKind.i64.wrap ((y + 1048578) * 2097157 + x) = (y + 1048578) * 2097157 + x := IntWalk.i64_in _ ⟨by omega, by omega⟩
  have e4 : IntKind.i64.wrap ((y + 1048578) * 2097157 + x + 1048578) = (y + 1048578) * 2097157 + x + 1048578 := IntWalk.i64_in _ ⟨by omega, by omega⟩
  go_enter Try.func72, Try.ntmps72
  go_wp2
  go_ret
  exact ⟨rfl, rfl⟩
theorem dplace_any (z : Nat) (w : World) (hz : z < PS) :
    Calls Try.prog 53 #[.int .i64 (z : Int)] w fun e w' => e = .returned (.tuple #[.int .i64 (plx z), .int .i64 (ply z)]) ∧ w = w' := by
  unfold PS at hz
  have e1 : (z : Int).tmod 2097157 = (z : Int) % 2097157 := Int.tmod_eq_emod_of_nonneg (by omega)
  have e2 : (z : Int).tdiv 2097157 = (z : Int) / 2097157 := Int.tdiv_eq_ediv_of_nonneg (by omega)
  have e3 : IntKind.i64.wrap ((z : Int) % 2097157) = (z : Int) % 2097157 := IntWalk.i64_in _ ⟨by omega, by omega⟩
  have e4 : IntKind.i64.wrap ((z : Int) / 2097157) = (z : Int) / 2097157 := IntWalk.i64_in _ ⟨by omega, by omega⟩
  have e5 : IntKind.i64.wrap ((z : Int) % 2097157 - 1048578) = plx z := IntWalk.i64_in _ ⟨by omega, by omega⟩
  have e6 : IntKind.i64.wrap ((z : Int) / 2097157 - 1048578) = ply z := IntWalk.i64_in _ ⟨by omega, by omega⟩
  go_enter Try.func53, Try.ntmps53
  go_wp2
  go_ret2
  exact ⟨by simp [plx, ply], rfl⟩
theorem vcoord_any (c : Int) (w : World) :
    Calls Try.prog 65 #[.int .i64 c] w fun e w' => e = .returned (.bool (decide (okc c))) ∧ w = w' := by
  by_cases h1 : -1048576 ≤ c
  · by_cases h2 : c ≤ 1048576
    · have h : okc c := ⟨h1, h2⟩
      rw [decide_eq_true h]
      clear h
      go_enter Try.func65, Try.ntmps65
      go_wp2
      go_ret
      exact ⟨ret_bool (by first | (simp; done) | (simp; omega)), rfl⟩
    · have h : ¬ okc c := fun h => h2 h.2
      rw [decide_eq_false h]
      clear h
      go_enter Try.func65, Try.ntmps65
      go_wp2
      go_ret
      exact ⟨ret_bool (by first | (simp; done) | (simp; omega)), rfl⟩
  · have h : ¬ okc c := fun h => h1 h.1
    rw [decide_eq_false h]
    clear h
    go_enter Try.func65, Try.ntmps65
    go_wp2
    go_ret
    exact ⟨ret_bool (by first | (simp; done) | (simp; omega)), rfl⟩
theorem dvplace_any (x y : Int) (w : World) :
    Calls Try.prog 44 #[.int .i64 x, .int .i64 y] w fun e w' => e = .returned (.bool (decide (okc x ∧ okc y))) ∧ w = w' := by
  have H1 := Lib.hid (fun w => vcoord_any x w)
  have H2 := Lib.hid (fun w => vcoord_any y w)
  have e : decide (okc x ∧ okc y) = (decide (okc x) && decide (okc y)) := by simp
  rw [e]
  generalize decide (okc x) = p at *
  generalize decide (okc y) = q at *
  clear e
  cases p with
  | true =>
    go_enter Try.func44, Try.ntmps44
    go_wp2_with (first
      | (go_at_call 65; (with_reducible refine (H2.out _).mono ?_); rintro e w2 ⟨rfl, rfl⟩)
      | (go_at_call 65; (with_reducible refine (H1.out _).mono ?_); rintro e w1 ⟨rfl, rfl⟩))
    go_ret
    exact ⟨ret_bool (by simp), rfl⟩
  | false =>
    go_enter Try.func44, Try.ntmps44
    go_wp2_with (go_at_call 65; (with_reducible refine (H1.out _).mono ?_); rintro e w1 ⟨rfl, rfl⟩)
    go_ret
    exact ⟨ret_bool (by simp), rfl⟩
end Go.Proofs.Ytaicehkphokacaa
