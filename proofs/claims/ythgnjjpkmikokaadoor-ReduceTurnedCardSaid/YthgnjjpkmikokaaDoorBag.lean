/- Rows that the call owns: appends, and a list of nodes that grows beside a struct that holds it. -/
/- A list of nodes that grows in a struct. -/
/- The walks of bits.Mul and slices.Repeat at the examples. -/
/- The walk of slices.Clone. -/
import Derived.Test.YthgnjjpkmikokaaDoorBaf
import Derived.Test.YthgnjjpkmikokaaDoorBac
import Derived.Deep.AppendLies
import Derived.LoopN
import Derived.Laws.CopyOwn
import Derived.Lib.SliceRun
import Derived.Test.YthgnjjpkmikokaaDoorBab
namespace Go.Proofs.YthgnjjpkmikokaaDoor
open Go.RowKit

theorem Tryd.info_int : (Tryd.prog.info? 3).map (fun i => (i.zero, i.size, i.bytes)) = some (some (.int .i64 0), 1, 8) := by kernel_rfl
theorem Tryd.info_node : (Tryd.prog.info? 44).map (fun i => (i.zero, i.size, i.bytes)) = some (some (.agg #[.int .i64 0, .slice none 0 0]), 2, 32) := by kernel_rfl
/-- append of one value onto a row of the call's own, and where the new row lies -/
theorem wpList_append1L {P : Program} {w : World} {ops : Array Oper} {rest : List Oper} {o : Oper} {a : Act} {Q : Exit → Act → World → Prop} (hgd : o.guard = none) (s x : Operand) (t : TypeId)
    (ho : o.op = .call { callee := .builtin .append, args := #[s, x], argTypes := #[t, t] })
    (base : Nat) (e : TypeId) (i : TypeInfo) (z : Value) (bytes : Nat) (ht : P.underlying t = some (.slice e)) (hi : P.info? e = some i) (hz : i.zero = some z)
    (hsize : i.size = 1) (hby : i.bytes = bytes) (hzs : z.cells.size = 1)
    (A : Option Addr) (n c : Nat) (xs : List Value) (hs : a.eval s = .slice A n c) (hown : w.ownsRow base e 1 (.slice A n c) n xs) (u : Value)
    (hx : a.eval x = .slice (some ⟨w.heap.size, 0, none⟩) 1 1) (h1 : u.oneCell' = true) (h63 : n + 1 ≤ maxLen) (hbytes : (n + 1) * bytes ≤ 140737488355328) (hbase : base ≤ w.heap.size)
    (h : ∀ g' c' w', w'.ownsRow base e 1 (.slice (some ⟨g', 0, none⟩) (n + 1) c') (n + 1) (xs ++ [u]) → Below base w w' → (w.alloc (.cells #[u] e)).grownBy w' (Value.slice A n c).ownBlock → ((Value.slice A n c).ownBlock = some g' ∨ g' = w.heap.size + 1) → wpList P ops Q rest (a.put o.dst (.slice (some ⟨g', 0, none⟩) (n + 1) c')) w') :
    wpList P ops Q (o :: rest) a (w.alloc (.cells #[u] e)) := by
  refine wpList_append_lies _ hgd s x t ho base e i z 1 bytes ht hi hz hsize hby hzs (by decide) _ n xs hs (hown.alloc _) ⟨w.heap.size, 0, none⟩ 1 1 [u] hx rfl ?_ ?_ (by decide) h63 hbytes (by simp; omega) (w.heap.size + 1) (by simp) ?_
  · intro j v hj
    match j, hj with
    | 0, hj => simp at hj; subst hj; simp [Addr.add]
  · intro v hv; simp at hv; subst hv; exact h1
  · intro g' c' w' hown' hg hat _
    refine h g' c' w' hown' (Below.grown ((Below.refl base w).alloc hbase _) hg (by simp; omega) ?_) hg hat
    intro k hk
    exact (hown.lt k hk).1
/-- append of one struct of two cells onto a row of the call's own, and where the new row lies -/
theorem wpList_append2L {P : Program} {w : World} {ops : Array Oper} {rest : List Oper} {o : Oper} {a : Act} {Q : Exit → Act → World → Prop} (hgd : o.guard = none) (s x : Operand) (t : TypeId)
    (ho : o.op = .call { callee := .builtin .append, args := #[s, x], argTypes := #[t, t] })
    (base : Nat) (e : TypeId) (i : TypeInfo) (z : Value) (bytes : Nat) (ht : P.underlying t = some (.slice e)) (hi : P.info? e = some i) (hz : i.zero = some z)
    (hsize : i.size = 2) (hby : i.bytes = bytes) (hzs : z.cells.size = 2)
    (A : Option Addr) (n c : Nat) (xs : List Value) (hs : a.eval s = .slice A n c) (hown : w.ownsRow base e 2 (.slice A n c) n xs) (u v : Value)
    (hx : a.eval x = .slice (some ⟨w.heap.size, 0, none⟩) 1 1) (h1 : u.oneCell' = true) (h2 : v.oneCell' = true) (h63 : n + 1 ≤ maxLen) (hbytes : (n + 1) * bytes ≤ 140737488355328) (hbase : base ≤ w.heap.size)
    (h : ∀ g' c' w', w'.ownsRow base e 2 (.slice (some ⟨g', 0, none⟩) (n + 1) c') (n + 1) (xs ++ [u, v]) → Below base w w' → (w.alloc (.cells #[u, v] e)).grownBy w' (Value.slice A n c).ownBlock → ((Value.slice A n c).ownBlock = some g' ∨ g' = w.heap.size + 1) → wpList P ops Q rest (a.put o.dst (.slice (some ⟨g', 0, none⟩) (n + 1) c')) w') :
    wpList P ops Q (o :: rest) a (w.alloc (.cells #[u, v] e)) := by
  refine wpList_append_lies _ hgd s x t ho base e i z 2 bytes ht hi hz hsize hby hzs (by decide) _ n xs hs (hown.alloc _) ⟨w.heap.size, 0, none⟩ 1 1 [u, v] hx rfl ?_ ?_ (by decide) h63 hbytes (by simp; omega) (w.heap.size + 1) (by simp) ?_
  · intro j y hj
    match j, hj with
    | 0, hj => simp at hj; subst hj; simp [Addr.add]
    | 1, hj => simp at hj; subst hj; simp [Addr.add]
  · intro y hy; simp at hy; rcases hy with rfl | rfl <;> assumption
  · intro g' c' w' hown' hg hat _
    refine h g' c' w' hown' (Below.grown ((Below.refl base w).alloc hbase _) hg (by simp; omega) ?_) hg hat
    intro k hk
    exact (hown.lt k hk).1
/-- what the call owns stays owned behind a store elsewhere -/
theorem own_set {w : World} {base k : Nat} {e : TypeId} {v : Value} {n : Nat} {xs : List Value} {p : Addr} (h : w.ownsRow base e k v n xs) (hp : v.ownBlock ≠ some p.block) (u : Value) : (w.setCell p u).ownsRow base e k v n xs := by
  refine ⟨h.1, ?_⟩
  rcases h.2 with hn | ⟨g, cap, cur, rfl, hb', hg, rest⟩
  · exact .inl hn
  · refine .inr ⟨g, cap, cur, rfl, hb', ?_, rest⟩
    have hne : g ≠ p.block := fun e => hp (by rw [e]; rfl)
    rw [Below.heap_setCell w p u g hne]; exact hg
/-- the cells xs are j nodes, whose elements lie in blocks other than G -/
def Inn (w : World) (G : Nat → Prop) (xs : List Value) (j : Nat) (lv : Nat → Int) (nx : Nat → List Int) : Prop :=
  ∀ k, k < j → ∃ A' c', xs[k * 2]? = some (.int .i64 (lv k)) ∧ xs[k * 2 + 1]? = some (.slice A' (nx k).length c') ∧ Reads w w.heap.size A' (nx k).length (il (nx k)) ∧ (0 < (nx k).length → ∀ ad, A' = some ad → ¬ G ad.block)
section
variable {w w' : World} {G G' : Nat → Prop} {xs : List Value} {j : Nat} {lv : Nat → Int} {nx : Nat → List Int}
theorem Inn.below (h : Inn w G xs j lv nx) (hb : Below w.heap.size w w') : Inn w' G xs j lv nx := fun k hk => by
  obtain ⟨A', c', h1, h2, h3, h4⟩ := h k hk
  exact ⟨A', c', h1, h2, h3.later hb, h4⟩
/-- behind what turns blocks of G alone -/
theorem Inn.far (h : Inn w G xs j lv nx) (hs : w.heap.size ≤ w'.heap.size) (hb : ∀ b, b < w.heap.size → ¬ G b → w'.heap[b]? = w.heap[b]?) (hG : ∀ b, b < w.heap.size → G' b → G b) : Inn w' G' xs j lv nx := fun k hk => by
  obtain ⟨A', c', h1, h2, h3, h4⟩ := h k hk
  refine ⟨A', c', h1, h2, ⟨h3.1, fun hn => ?_⟩, ?_⟩
  · obtain ⟨ad, e, hlt, hc⟩ := h3.2 hn
    refine ⟨ad, e, Nat.lt_of_lt_of_le hlt hs, fun i u hu => ?_⟩
    rw [← hc i u hu]
    exact World.cell?_of_block (by rw [block_of_add]; exact hb _ hlt (h4 hn ad e))
  · intro hn ad e hg
    obtain ⟨ad', e', hlt, _⟩ := h3.2 hn
    rw [e] at e'
    injection e' with e'
    subst e'
    exact h4 hn ad e (hG _ hlt hg)
theorem Inn.push (h : Inn w G xs j lv nx) (hl : xs.length = j * 2) {A : Option Addr} {c : Nat} (hr : Reads w w.heap.size A (nx j).length (il (nx j))) (hA : 0 < (nx j).length → ∀ ad, A = some ad → ¬ G ad.block) : Inn w G (xs ++ [.int .i64 (lv j), .slice A (nx j).length c]) (j + 1) lv nx := fun k hk => by
  by_cases e : k < j
  · obtain ⟨A', c', h1, h2, h3, h4⟩ := h k e
    exact ⟨A', c', by rw [List.getElem?_append_left (by omega)]; exact h1, by rw [List.getElem?_append_left (by omega)]; exact h2, h3, h4⟩
  · obtain rfl : k = j := by omega
    exact ⟨A, c, by rw [List.getElem?_append_right (by omega), hl]; simp, by rw [List.getElem?_append_right (by omega), hl]; simp, hr, hA⟩
theorem NR.of_own {base g c : Nat} {e : TypeId} (h : w.ownsRow base e 2 (.slice (some ⟨g, 0, none⟩) j c) j xs) (hi : Inn w G xs j lv nx) : NR w w.heap.size (some ⟨g, 0, none⟩) j lv nx := fun hj => by
  refine ⟨g, 0, rfl, (h.lt g rfl).2, fun k hk => ?_⟩
  have hl := h.1
  obtain ⟨A', c', h1, h2, h3, _⟩ := hi k hk
  refine ⟨A', c', ?_, ?_, h3⟩
  · rw [Nat.zero_add, h.cellAt (k * 2) (by omega), h1]
  · rw [Nat.zero_add, h.cellAt (k * 2 + 1) (by omega), h2]
end
end Go.Proofs.YthgnjjpkmikokaaDoor
namespace Go.Proofs.YthgnjjpkmikokaaDoor
open Go.RowKit

theorem Blk.three6 {w : World} {g : Nat} {t : TypeId} {a b c : Value} (h : Blk w g t #[a, b, c]) : w.cell? ⟨g, 0, none⟩ = some a ∧ w.cell? ⟨g, 1, none⟩ = some b ∧ w.cell? ⟨g, 2, none⟩ = some c ∧ w.frozen? ⟨g, 0, none⟩ = false ∧ w.frozen? ⟨g, 1, none⟩ = false ∧ w.frozen? ⟨g, 2, none⟩ = false ∧ g < w.heap.size :=
  ⟨by rw [h.cell]; rfl, by rw [h.cell]; rfl, by rw [h.cell]; rfl, h.frozen 0, h.frozen 1, h.frozen 2, h.lt⟩
/-- the cells of a make of states -/
def zs (S : Nat) : Array Value := (il (List.replicate S 0)).toArray
theorem mk_zs {S : Nat} (h1 : 2 ≤ S) (h2 : S ≤ 8) (w : World) : (Instr.makeSlice 26 (.int .i64 (S : Int)) (.int .i64 (S : Int))).run Tryd.prog w = .ok (.slice (some ⟨w.heap.size, 0, none⟩) S S) (w.alloc (.cells (zs S) 3)) := by
  obtain rfl | rfl | rfl | rfl | rfl | rfl | rfl : S = 2 ∨ S = 3 ∨ S = 4 ∨ S = 5 ∨ S = 6 ∨ S = 7 ∨ S = 8 := by omega
  all_goals kernel_rfl
/-- a growing list of nodes, in a struct -/
def UR (w : World) (base gu : Nat) (s h : Value) (j : Nat) (lv : Nat → Int) (nx : Nat → List Int) : Prop :=
  ∃ gn c xs, Blk w gu 25 #[s, h, .slice (some ⟨gn, 0, none⟩) j c] ∧ gn ≠ gu ∧ w.ownsRow base 44 2 (.slice (some ⟨gn, 0, none⟩) j c) j xs ∧ Inn w (fun b => b = gn ∨ b = gu) xs j lv nx
theorem UR.below {w w' : World} {base gu j : Nat} {s h : Value} {lv : Nat → Int} {nx : Nat → List Int} (hu : UR w base gu s h j lv nx) (hb : Below w.heap.size w w') : UR w' base gu s h j lv nx := by
  obtain ⟨gn, c, xs, h1, h2, h3, h4⟩ := hu
  exact ⟨gn, c, xs, h1.below hb h1.lt, h2, own_below2 h3 hb, h4.below hb⟩

theorem three_blks (w : World) (c1 c2 c3 : Array Value) (t1 t2 t3 : TypeId) :
    Blk (((w.alloc (.cells c1 t1)).alloc (.cells c2 t2)).alloc (.cells c3 t3)) w.heap.size t1 c1 ∧ Blk (((w.alloc (.cells c1 t1)).alloc (.cells c2 t2)).alloc (.cells c3 t3)) (w.heap.size + 1) t2 c2 ∧ Blk (((w.alloc (.cells c1 t1)).alloc (.cells c2 t2)).alloc (.cells c3 t3)) (w.heap.size + 1 + 1) t3 c3 ∧ Below w.heap.size w (((w.alloc (.cells c1 t1)).alloc (.cells c2 t2)).alloc (.cells c3 t3)) := by
  have k2 := Blk.new (w.alloc (.cells c1 t1)) t2 c2
  have k3 := Blk.new ((w.alloc (.cells c1 t1)).alloc (.cells c2 t2)) t3 c3
  simp only [World.size_alloc] at k2 k3
  exact ⟨((Blk.new w t1 c1).alloc _).alloc _, k2.alloc _, k3, (((Below.refl _ _).alloc (Nat.le_refl _) _).alloc (by simp) _).alloc (by simp; omega) _⟩
theorem UR.start {w : World} {base gu gn gz : Nat} {s h : Value} {S : Nat} {lv : Nat → Int} {nx : Nat → List Int} (hz : Blk w gz 3 (zs S)) (hn : Blk w gn 44 #[.int .i64 1, .slice (some ⟨gz, 0, none⟩) S S]) (hu : Blk w gu 25 #[s, h, .slice (some ⟨gn, 0, none⟩) 1 1])
    (hb : base ≤ gn) (h1 : gn ≠ gu) (h2 : gz ≠ gn) (h3 : gz ≠ gu) : UR w base gu s h 1 (lu lv) (xu S lv nx) := by
  refine ⟨gn, 1, [.int .i64 1, .slice (some ⟨gz, 0, none⟩) S S], hu, h1, ⟨by simp, .inr ⟨gn, 1, _, rfl, hb, hn, Nat.le_refl _, by unfold maxLen; omega, by simp, by simp⟩⟩, ?_⟩
  intro k hk
  obtain rfl : k = 0 := by omega
  have hl : (xu S lv nx 0).length = S := by simp [xu]
  rw [hl]
  refine ⟨some ⟨gz, 0, none⟩, S, rfl, rfl, ⟨by simp [il, xu], fun _ => ⟨⟨gz, 0, none⟩, rfl, hz.lt, fun j u hj => ?_⟩⟩, fun _ ad e => ?_⟩
  · have : (⟨gz, 0, none⟩ : Addr).add j = ⟨gz, j, none⟩ := by
      unfold Addr.add
      split
      · next h => subst h; rfl
      · simp
    rw [this, hz.cell, ← hj]
    simp [zs, xu]
  · injection e with e
    subst e
    simp only
    omega
theorem UR.grow {w w7 : World} {base gu gn c j g' c' c2 : Nat} {s h : Value} {lv : Nat → Int} {nx : Nat → List Int} {xs : List Value} {o : Obj} {A : Option Addr}
    (hK : Blk w gu 25 #[s, h, .slice (some ⟨gn, 0, none⟩) j c]) (hne : gn ≠ gu) (hown : w.ownsRow base 44 2 (.slice (some ⟨gn, 0, none⟩) j c) j xs) (hin : Inn w (fun b => b = gn ∨ b = gu) xs j lv nx)
    (hr : Reads w w.heap.size A (nx j).length (il (nx j))) (hA : 0 < (nx j).length → ∀ ad, A = some ad → ¬ (ad.block = gn ∨ ad.block = gu))
    (hown' : w7.ownsRow base 44 2 (.slice (some ⟨g', 0, none⟩) (j + 1) c') (j + 1) (xs ++ [.int .i64 (lv j), .slice A (nx j).length c2]))
    (hg : (w.alloc o).grownBy w7 (Value.slice (some ⟨gn, 0, none⟩) j c).ownBlock) (hat : (Value.slice (some ⟨gn, 0, none⟩) j c).ownBlock = some g' ∨ g' = w.heap.size + 1) :
    UR (w7.setCell ⟨gu, 2, none⟩ (.slice (some ⟨g', 0, none⟩) (j + 1) c')) base gu s h (j + 1) lv nx := by
  have hgn : (Value.slice (some ⟨gn, 0, none⟩) j c).ownBlock = some gn := by simp [Value.ownBlock]
  rw [hgn] at hg hat
  have hlt := hK.lt
  have hsz := hg.size
  simp only [World.size_alloc] at hsz
  have hg2 : g' ≠ gu := by
    rcases hat with e | e
    · injection e with e; omega
    · omega
  have K7 : Blk w7 gu 25 #[s, h, .slice (some ⟨gn, 0, none⟩) j c] := (hg.block gu (by simp; omega) (fun e => by injection e with e; omega)).trans (hK.alloc _)
  refine ⟨g', c', _, K7.set_ 2 _, hg2, own_set hown' (by simp [Value.ownBlock]; exact hg2) _, ?_⟩
  refine (hin.push (by have := hown.1; omega) hr hA).far (by simp [World.setCell]; omega) ?_ ?_
  · intro b hb hG
    rw [Below.heap_setCell _ _ _ _ (fun e => hG (.inr e))]
    rw [hg.block b (by simp; omega) (fun e => by injection e with e; exact hG (.inl e))]
    exact Below.heap_alloc _ _ _ hb
  · intro b hb hG
    rcases hG with e | e
    · subst e
      rcases hat with e | e
      · injection e with e; exact .inl e.symm
      · omega
    · exact .inr e
theorem il_take_succ {l : List Int} {s : Nat} (h : s < l.length) : il (l.take s) ++ [.int .i64 (ig l s)] = il (l.take (s + 1)) := by
  rw [← il_add, List.take_succ_eq_append_getElem h]
  simp [ig, h]
end Go.Proofs.YthgnjjpkmikokaaDoor
namespace Go.Proofs.YthgnjjpkmikokaaDoor
open Go.RowKit

theorem mul64_any (S : Nat) (hS : S = 2 ∨ S = 3) (w : World) : Calls Tryd.prog 84 #[.int .u64 1, .int .u64 (S : Int)] w fun e w' => e = .returned (.tuple #[.int .u64 0, .int .u64 (S : Int)]) ∧ w = w' := by
  rcases hS with rfl | rfl
  all_goals
    go_enter Tryd.func84, Tryd.ntmps84
    go_wp2
    go_ret2
    exact ⟨rfl, rfl⟩
theorem mul_any (S : Nat) (hS : S = 2 ∨ S = 3) (w : World) : Calls Tryd.prog 67 #[.int .u64 1, .int .u64 (S : Int)] w fun e w' => e = .returned (.tuple #[.int .u64 0, .int .u64 (S : Int)]) ∧ w = w' := by
  have M := Lib.hid (mul64_any S hS w)
  go_enter Tryd.func67, Tryd.ntmps67
  go_wp2_with (go_at_call 84; (with_reducible refine M.out.mono ?_); rintro e w' ⟨rfl, rfl⟩)
  go_ret2
  exact ⟨rfl, rfl⟩
/-- a copy of one number -/
theorem copy_at (w w0 : World) (g gs off dLen dCap sLen sCap B : Nat) (cur : List Value) (k : Int) (hg : Blk w g 3 cur.toArray) (hn : Nat.min sLen dLen = 1) (hc : w.cell? ⟨gs, 0, none⟩ = some (.int .i64 k)) (hf : off + 1 ≤ cur.length) (hb : Below B w0 w) (hB : B ≤ g) :
    ∃ w2, (Builtin.copy_ #[26, 26] 3 #[.slice (some ⟨g, off, none⟩) dLen dCap, .slice (some ⟨gs, 0, none⟩) sLen sCap]).run Tryd.prog w = .ok (.int .i64 1) w2 ∧ Blk w2 g 3 (cur.take off ++ [Value.int .i64 k] ++ cur.drop (off + 1)).toArray ∧ Below B w0 w2 := by
  obtain ⟨i0, hi, hz0, hz1, hz2⟩ := info_parts Tryd.info_int
  have hsz1 : (Tryd.prog.info? 3).map (·.size) = some 1 := by rw [hi]; simp [hz1]
  have h := run_copy_row (P := Tryd.prog) w 26 26 3 3 g off dLen dCap ⟨gs, 0, none⟩ sLen sCap cur.toArray 3 [.int .i64 k] Tryd.underlying26 hsz1 hg (by rw [hn]; rfl)
    (fun j v hj => by match j, hj with | 0, hj => simp at hj; subst hj; exact hc) (by simpa using hf) (fun v hv => by simp at hv; subst hv; rfl)
  exact ⟨_, h, (show _ = _ from by simpa using setRow_heap w g _ _ _ _ hg), below_setRow hb hB _⟩

set_option maxRecDepth 100000 in
set_option maxHeartbeats 1000000 in
theorem rep2 (k : Int) (gx : Nat) (w : World) (hx : gx < w.heap.size) (hc : w.cell? ⟨gx, 0, none⟩ = some (.int .i64 k)) :
    Calls Tryd.prog 41 #[.slice (some ⟨gx, 0, none⟩) 1 1, .int .i64 2] w fun e w' => e = .returned (.slice (some ⟨w.heap.size, 0, none⟩) 2 2) ∧ Blk w' w.heap.size 3 #[.int .i64 k, .int .i64 k] ∧ Below w.heap.size w w' := by
  have M := Lib.hid (fun w => show Calls Tryd.prog 67 #[.int .u64 1, .int .u64 2] w fun e w' => e = .returned (.tuple #[.int .u64 0, .int .u64 2]) ∧ w = w' from mul_any 2 (by omega) w)
  have mk := fun w => show (Instr.makeSlice 26 (.int .i64 2) (.int .i64 2)).run Tryd.prog w = .ok (.slice (some ⟨w.heap.size, 0, none⟩) 2 2) (w.alloc (.cells (zs 2) 3)) from mk_zs (S := 2) (by omega) (by omega) w
  have G := Lib.hid (show Blk (w.alloc (.cells (zs 2) 3)) w.heap.size 3 [.int .i64 0, .int .i64 0].toArray from Blk.new w _ _)
  have B0 := Lib.hid ((Below.refl w.heap.size w).alloc (Nat.le_refl _) (.cells (zs 2) 3))
  have C0 := Lib.hid ((World.cell?_alloc_lt w (.cells (zs 2) 3) ⟨gx, 0, none⟩ hx).trans hc)
  clear hc
  go_enter Tryd.func41, Tryd.ntmps41
  go_upto_region 7 with (go_at_call 67; (with_reducible refine (M.out _).mono ?_); rintro e w' ⟨rfl, rfl⟩)
  generalize w.alloc (.cells (zs 2) 3) = w0 at *
  obtain ⟨w1, run1, G1, B1⟩ := copy_at w0 w w.heap.size gx 0 2 2 1 1 w.heap.size _ k G.out rfl C0.out (by simp) B0.out (Nat.le_refl _)
  have G1 := Lib.hid (show Blk w1 w.heap.size 3 #[.int .i64 k, .int .i64 0] from G1)
  have B1 := Lib.hid B1
  clear G B0 C0 mk M
  go_wp2
  clear run1
  refine wp_loop_rounds 2 ?_
  rw [rounds_succ]
  obtain ⟨w2, run2, G2, B2⟩ := copy_at w1.drew w w.heap.size w.heap.size 1 1 1 1 2 w.heap.size [.int .i64 k, .int .i64 0] k G1.out rfl (G1.out.cell 0) (by simp) B1.out.drew (Nat.le_refl _)
  have G2 := Lib.hid (show Blk w2 w.heap.size 3 #[.int .i64 k, .int .i64 k] from G2)
  have B2 := Lib.hid B2
  go_wp2_with fail
  go_region
  go_wp2_with fail
  clear run2 G1 B1
  rw [rounds_succ]
  go_wp2
  go_ret
  exact ⟨rfl, G2.out, B2.out⟩

set_option maxRecDepth 100000 in
set_option maxHeartbeats 1000000 in
theorem rep3 (k : Int) (gx : Nat) (w : World) (hx : gx < w.heap.size) (hc : w.cell? ⟨gx, 0, none⟩ = some (.int .i64 k)) :
    Calls Tryd.prog 41 #[.slice (some ⟨gx, 0, none⟩) 1 1, .int .i64 3] w fun e w' => e = .returned (.slice (some ⟨w.heap.size, 0, none⟩) 3 3) ∧ Blk w' w.heap.size 3 #[.int .i64 k, .int .i64 k, .int .i64 k] ∧ Below w.heap.size w w' := by
  have M := Lib.hid (fun w => show Calls Tryd.prog 67 #[.int .u64 1, .int .u64 3] w fun e w' => e = .returned (.tuple #[.int .u64 0, .int .u64 3]) ∧ w = w' from mul_any 3 (by omega) w)
  have mk := fun w => show (Instr.makeSlice 26 (.int .i64 3) (.int .i64 3)).run Tryd.prog w = .ok (.slice (some ⟨w.heap.size, 0, none⟩) 3 3) (w.alloc (.cells (zs 3) 3)) from mk_zs (S := 3) (by omega) (by omega) w
  have G := Lib.hid (show Blk (w.alloc (.cells (zs 3) 3)) w.heap.size 3 [.int .i64 0, .int .i64 0, .int .i64 0].toArray from Blk.new w _ _)
  have B0 := Lib.hid ((Below.refl w.heap.size w).alloc (Nat.le_refl _) (.cells (zs 3) 3))
  have C0 := Lib.hid ((World.cell?_alloc_lt w (.cells (zs 3) 3) ⟨gx, 0, none⟩ hx).trans hc)
  clear hc
  go_enter Tryd.func41, Tryd.ntmps41
  go_upto_region 7 with (go_at_call 67; (with_reducible refine (M.out _).mono ?_); rintro e w' ⟨rfl, rfl⟩)
  generalize w.alloc (.cells (zs 3) 3) = w0 at *
  obtain ⟨w1, run1, G1, B1⟩ := copy_at w0 w w.heap.size gx 0 3 3 1 1 w.heap.size _ k G.out rfl C0.out (by simp) B0.out (Nat.le_refl _)
  have G1 := Lib.hid (show Blk w1 w.heap.size 3 #[.int .i64 k, .int .i64 0, .int .i64 0] from G1)
  have B1 := Lib.hid B1
  clear G B0 C0 mk M
  go_wp2
  clear run1
  refine wp_loop_rounds 3 ?_
  rw [rounds_succ]
  obtain ⟨w2, run2, G2, B2⟩ := copy_at w1.drew w w.heap.size w.heap.size 1 2 2 1 3 w.heap.size [.int .i64 k, .int .i64 0, .int .i64 0] k G1.out rfl (G1.out.cell 0) (by simp) B1.out.drew (Nat.le_refl _)
  have G2 := Lib.hid (show Blk w2 w.heap.size 3 #[.int .i64 k, .int .i64 k, .int .i64 0] from G2)
  have B2 := Lib.hid B2
  go_wp2_with fail
  go_region
  go_wp2_with fail
  clear run2 G1 B1
  rw [rounds_succ]
  obtain ⟨w3, run3, G3, B3⟩ := copy_at w2.drew w w.heap.size w.heap.size 2 1 1 2 3 w.heap.size [.int .i64 k, .int .i64 k, .int .i64 0] k G2.out rfl (G2.out.cell 0) (by simp) B2.out.drew (Nat.le_refl _)
  have G3 := Lib.hid (show Blk w3 w.heap.size 3 #[.int .i64 k, .int .i64 k, .int .i64 k] from G3)
  have B3 := Lib.hid B3
  go_wp2_with fail
  go_region
  go_wp2_with fail
  clear run3 G2 B2
  rw [rounds_succ]
  go_wp2
  go_ret
  exact ⟨rfl, G3.out, B3.out⟩
end Go.Proofs.YthgnjjpkmikokaaDoor
namespace Go.Proofs.YthgnjjpkmikokaaDoor
open Go.RowKit

theorem cells2_one (f : Nat → P2) (n : Nat) : ∀ u ∈ cells2 f n, u.oneCell' = true := by
  induction n with
  | zero => intro u hu; cases hu
  | succ n ih =>
    intro u hu
    rw [cells2, List.mem_append] at hu
    rcases hu with hu | hu
    · exact ih u hu
    · simp at hu
      rcases hu with rfl | rfl <;> rfl
theorem cells2_cell {w : World} {g o n : Nat} {f : Nat → P2} (h : ∀ k, k < n → w.cell? ⟨g, o + k * 2, none⟩ = some (.int .i64 (f k).1) ∧ w.cell? ⟨g, o + k * 2 + 1, none⟩ = some (.int .i64 (f k).2))
    (j : Nat) (u : Value) (hj : (cells2 f n)[j]? = some u) : w.cell? ((⟨g, o, none⟩ : Addr).add j) = some u := by
  have hl := cells2_len f n
  have hlt : j < n * 2 := by
    rcases Nat.lt_or_ge j (n * 2) with h | h
    · exact h
    · rw [List.getElem?_eq_none (by omega)] at hj; cases hj
  have hq : j / 2 < n := by omega
  obtain ⟨c1, c2⟩ := cells2_at f n (j / 2) hq
  obtain ⟨d1, d2⟩ := h (j / 2) hq
  have hadd : ((⟨g, o, none⟩ : Addr).add j) = ⟨g, o + j, none⟩ := by
    unfold Addr.add
    split
    · next e => subst e; rfl
    · rfl
  rw [hadd]
  have hm : j % 2 = 0 ∨ j % 2 = 1 := by omega
  rcases hm with hm | hm
  · have e : j / 2 * 2 = j := by omega
    rw [e] at c1 d1
    rw [c1] at hj
    rw [← hj]; exact d1
  · have e : j / 2 * 2 + 1 = j := by omega
    rw [Nat.add_assoc, e] at d2
    rw [e] at c2
    rw [c2] at hj
    rw [← hj]; exact d2

set_option maxRecDepth 100000 in
set_option maxHeartbeats 1000000 in
theorem clone_some (ad : Addr) (n c : Nat) (f : Nat → P2) (w : World) (h : QReads w w.heap.size (some ad) n f) (hn : n ≤ 5000) :
    Calls Tryd.prog 31 #[.slice (some ad) n c] w fun e w' => ∃ A' c', e = .returned (.slice A' n c') ∧ w'.ownsRow w.heap.size 40 2 (.slice A' n c') n (cells2 f n) ∧ Below w.heap.size w w' := by
  obtain ⟨i0, hi, hz0, hz1, hz2⟩ := info_parts Tryd.info_point
  have hnews : ∀ (j : Nat) (u : Value), (cells2 f n)[j]? = some u → (w.alloc (.cells #[] 40)).cell? (ad.add j) = some u := by
    intro j u hj
    have hlt : j < n * 2 := by
      rcases Nat.lt_or_ge j (n * 2) with h | h
      · exact h
      · rw [List.getElem?_eq_none (by rw [cells2_len]; omega)] at hj; cases hj
    obtain ⟨g, o, ha, hg, hc⟩ := h (by omega)
    injection ha with ha
    subst ha
    exact (World.cell?_alloc_lt w _ _ (by rw [block_of_add]; exact hg)).trans (cells2_cell hc j u hj)
  have HN := Lib.hid hnews
  have B1 := Lib.hid ((Below.refl w.heap.size w).alloc (Nat.le_refl _) (.cells #[] 40))
  have HO := Lib.hid (World.ownsRow_made (base := w.heap.size) (e := 40) (size := 2) w #[] 0 (Nat.le_refl _) (by unfold maxLen; omega) (by rfl))
  have s1 := B1.out.size
  have L := cells2_len f n
  have O := cells2_one f n
  generalize cells2 f n = xs at HN L O ⊢
  clear h hnews
  have q22 : ∀ (w : World) (a : Option Addr) (n c n' c' : Nat), (binOp .eql 22 (.slice a n c) (.slice none n' c')).run Tryd.prog w = .ok (.bool a.isNone) w := fun w a n c n' c' => Lib.run_eql_slice_nil w _ _ a n c n' c' Tryd.underlying22
  go_enter Tryd.func31, Tryd.ntmps31
  go_wp2_with (at_builtin; refine wpList_append_own _ rfl _ _ 22 rfl w.heap.size 40 i0 (.agg #[.int .i64 0, .int .i64 0]) 2 16 Tryd.underlying22 hi hz0 hz1 hz2 rfl (by decide) _ 0 [] rfl HO.out ad n c xs rfl L HN.out O (by unfold maxLen; omega) (by omega) s1 ?_; intro v' w2 hown2 hg2 hiff; have B2 := Lib.hid (B1.out.grown hg2 s1 (fun k hk => (HO.out.lt k hk).1)); have HO2 := Lib.hid hown2; clear hown2 hg2 hiff)
  have e : ∃ A' c', v' = .slice A' n c' := by
    have h := HO2.out
    rw [Nat.zero_add] at h
    rcases h.2 with ⟨h1, h2⟩ | ⟨g, cap, cur, h1, _⟩
    · subst h2; exact ⟨_, _, h1⟩
    · exact ⟨_, _, h1⟩
  obtain ⟨A', c', rfl⟩ := e
  go_ret
  have h := HO2.out
  rw [Nat.zero_add, List.nil_append] at h
  exact ⟨A', c', rfl, h, B2.out⟩
set_option maxRecDepth 100000 in
theorem clone_none (c : Nat) (w : World) :
    Calls Tryd.prog 31 #[.slice none 0 c] w fun e w' => e = .returned (.slice none 0 0) ∧ w = w' := by
  have q22 : ∀ (w : World) (a : Option Addr) (n c n' c' : Nat), (binOp .eql 22 (.slice a n c) (.slice none n' c')).run Tryd.prog w = .ok (.bool a.isNone) w := fun w a n c n' c' => Lib.run_eql_slice_nil w _ _ a n c n' c' Tryd.underlying22
  go_enter Tryd.func31, Tryd.ntmps31
  go_wp2
  go_ret
  exact ⟨rfl, rfl⟩
theorem clone_any (A : Option Addr) (n c : Nat) (f : Nat → P2) (w : World) (h : QReads w w.heap.size A n f) (hn : n ≤ 5000) :
    Calls Tryd.prog 31 #[.slice A n c] w fun e w' => ∃ A' c', e = .returned (.slice A' n c') ∧ w'.ownsRow w.heap.size 40 2 (.slice A' n c') n (cells2 f n) ∧ Below w.heap.size w w' := by
  cases A with
  | some ad => exact clone_some ad n c f w h hn
  | none =>
    have hn0 : n = 0 := by
      rcases Nat.eq_zero_or_pos n with e | e
      · exact e
      · obtain ⟨g, o, ha, _⟩ := h e; cases ha
    subst hn0
    exact (clone_none c w).mono fun e w' ⟨he, hw⟩ => ⟨none, 0, he, hw ▸ World.ownsRow_nil _ _ _ _, hw ▸ Below.refl _ _⟩
end Go.Proofs.YthgnjjpkmikokaaDoor
