/- Plain facts on memory: what a slice reads as, carried from world to world. -/
/- A region that draws its order: operations that are quiet in a class of worlds come first, in any order; a tail in one forced order follows. -/
/- Plain mathematics of the eight symmetries: composition, images of positions. -/
/- Lists of positions as cells: what a row reads as. -/
import Derived.Below
import Derived.Deep.AppendLies
import Derived.Deep.Draws
import Derived.Laws.OwnMore
import Derived.Laws.Rows
import Derived.Lib.Hide
import Derived.Test.YtcgkkppidkkjiaaGreatDoorRows
import Derived.WalkKit
import Derived.BigQuiet
import Derived.Deep.QuietTactic
import Derived.StillTail
import Derived.Laws.BitsLemmas
import Derived.IntWalk
import Derived.OwnWalk
namespace Go.Proofs.YtcgkkppidkkjiaaGreatDoor
open Go.RowKit
theorem block_of_add (a : Addr) (n : Nat) : (a.add n).block = a.block := by unfold Addr.add; split <;> rfl
/-- The slice value with address A and length n holds the cells xs, and lies below block B. -/
def Reads (w : World) (B : Nat) (A : Option Addr) (n : Nat) (xs : List Value) : Prop :=
  xs.length = n ∧ (0 < n → ∃ ad, A = some ad ∧ ad.block < B ∧ ∀ j u, xs[j]? = some u → w.cell? (ad.add j) = some u)

section
variable {w w' : World} {B B' n : Nat} {A : Option Addr} {xs : List Value}
theorem Reads.none_ : Reads w B A 0 [] := ⟨by simp, fun h => absurd h (by omega)⟩
theorem Reads.at_ {k : Nat} (h : Reads w B A n xs) (hk : k < n) : ∃ ad u, A = some ad ∧ ad.block < B ∧ xs[k]? = some u ∧ w.cell? (ad.add k) = some u := by
  obtain ⟨ad, e, hb, hc⟩ := h.2 (by omega)
  have hl : k < xs.length := by have := h.1; omega
  exact ⟨ad, xs[k], e, hb, List.getElem?_eq_getElem hl, hc k _ (List.getElem?_eq_getElem hl)⟩
theorem Reads.keep (h : Reads w B A n xs) (hk : ∀ p : Addr, p.block < B → w'.cell? p = w.cell? p) : Reads w' B A n xs :=
  ⟨h.1, fun hn => by
    obtain ⟨ad, e, hb, hc⟩ := h.2 hn
    exact ⟨ad, e, hb, fun j u hu => (hk _ (by rw [block_of_add]; exact hb)).trans (hc j u hu)⟩⟩
theorem Reads.more (h : Reads w B A n xs) (hB : B ≤ B') : Reads w B' A n xs :=
  ⟨h.1, fun hn => by
    obtain ⟨ad, e, hb, hc⟩ := h.2 hn
    exact ⟨ad, e, by omega, hc⟩⟩
theorem Reads.below (h : Reads w B A n xs) (hb : Below B w w') : Reads w' B A n xs := h.keep fun _ hp => hb.cell hp
theorem Reads.drew (h : Reads w B A n xs) : Reads w.drew B A n xs := h
theorem Reads.drewN (h : Reads w B A n xs) (k : Nat) : Reads (w.drewN k) B A n xs := h
theorem Reads.alloc (h : Reads w B A n xs) (hB : B ≤ w.heap.size) (o : Obj) : Reads (w.alloc o) B A n xs := h.keep fun p hp => World.cell?_alloc_lt w o p (by omega)
theorem Reads.setCell (h : Reads w B A n xs) {p : Addr} (hB : B ≤ p.block) (u : Value) : Reads (w.setCell p u) B A n xs :=
  h.keep fun q hq => World.cell?_setCell_other w p q u (fun e => by subst e; omega)
theorem Reads.far (h : Reads w B A n xs) {p : Addr} (hp : ∀ ad, 0 < n → A = some ad → ad.block ≠ p.block) (u : Value) : Reads (w.setCell p u) B A n xs :=
  ⟨h.1, fun hn => by
    obtain ⟨ad, e, hb, hc⟩ := h.2 hn
    exact ⟨ad, e, hb, fun j v hv => by
      rw [World.cell?_setCell_other w p _ u (fun e' => hp ad hn e (by rw [e', block_of_add]))]
      exact hc j v hv⟩⟩
theorem Reads.grown (h : Reads w B A n xs) {row : Option Nat} (hg : w.grownBy w' row) (hB : B ≤ w.heap.size) (hr : ∀ g, row = some g → B ≤ g) : Reads w' B A n xs :=
  h.keep fun p hp => World.cell?_of_block (hg.block p.block (by omega) (fun e => by have := hr _ e.symm; omega))
theorem Reads.take (h : Reads w B A n xs) {k : Nat} (hk : k ≤ n) : Reads w B A k (xs.take k) := by
  refine ⟨by rw [List.length_take, h.1]; omega, fun hn => ?_⟩
  obtain ⟨ad, e, hb, hc⟩ := h.2 (by omega)
  refine ⟨ad, e, hb, fun j u hu => hc j u ?_⟩
  rw [List.getElem?_take] at hu
  split at hu
  · exact hu
  · cases hu
theorem Reads.of_own {base : Nat} {e : TypeId} {c : Nat} (h : w.ownsRow base e 1 (.slice A n c) n xs) : Reads w w.heap.size A n xs := by
  refine ⟨by have := h.1; omega, fun hn => ?_⟩
  obtain ⟨g, cap, hv, _, hlt⟩ := h.form hn
  have hA : A = some ⟨g, 0, none⟩ := by injection hv
  subst hA
  exact ⟨_, rfl, hlt, h.cells (g := g) rfl⟩
end
def ints (l : List Nat) : List Value := l.map fun (d : Nat) => .int .i64 (d : Int)
/-- Block g is just the cells cs of element type t, none frozen. -/
def Blk (w : World) (g : Nat) (t : TypeId) (cs : Array Value) : Prop := w.heap[g]? = some (.cells cs t (0, 0))
section
variable {w w' : World} {g : Nat} {t : TypeId} {cs : Array Value}
theorem Blk.lt (h : Blk w g t cs) : g < w.heap.size := by
  rcases Nat.lt_or_ge g w.heap.size with hlt | hge
  · exact hlt
  · unfold Blk at h; rw [Array.getElem?_eq_none hge] at h; cases h
theorem Blk.cell (h : Blk w g t cs) (i : Nat) : w.cell? ⟨g, i, none⟩ = cs[i]? := cell_of_row w g i cs t (0, 0) h
theorem Blk.frozen (h : Blk w g t cs) (i : Nat) : w.frozen? ⟨g, i, none⟩ = false := by
  unfold Blk at h
  simp [World.frozen?, h]
theorem Blk.new (w : World) (t : TypeId) (cs : Array Value) : Blk (w.alloc (.cells cs t)) w.heap.size t cs := heap_alloc_new w _
theorem Blk.drew (h : Blk w g t cs) : Blk w.drew g t cs := h
theorem Blk.drewN (h : Blk w g t cs) (n : Nat) : Blk (w.drewN n) g t cs := h
theorem Blk.alloc (h : Blk w g t cs) (o : Obj) : Blk (w.alloc o) g t cs := (Below.heap_alloc w o g h.lt).trans h
theorem Blk.set_ (h : Blk w g t cs) (i : Nat) (u : Value) : Blk (w.setCell ⟨g, i, none⟩ u) g t (cs.setIfInBounds i u) := by
  unfold Blk at h ⊢
  simp [World.setCell, Array.getElem?_modify, h]
theorem Blk.far (h : Blk w g t cs) {p : Addr} (hp : g ≠ p.block) (u : Value) : Blk (w.setCell p u) g t cs := (Below.heap_setCell w p u g hp).trans h
theorem Blk.below {B : Nat} (h : Blk w g t cs) (hb : Below B w w') (hg : g < B) : Blk w' g t cs := (hb.block g hg).trans h
theorem Blk.two {a b : Value} (h : Blk w g t #[a, b]) : w.cell? ⟨g, 0, none⟩ = some a ∧ w.cell? ⟨g, 1, none⟩ = some b ∧ w.frozen? ⟨g, 0, none⟩ = false ∧ w.frozen? ⟨g, 1, none⟩ = false ∧ g < w.heap.size :=
  ⟨by rw [h.cell]; rfl, by rw [h.cell]; rfl, h.frozen 0, h.frozen 1, h.lt⟩
end
/-- append of one value onto a row of the call's own -/
theorem wpList_append1 {P : Program} {w : World} {ops : Array Oper} {rest : List Oper} {o : Oper} {a : Act} {Q : Exit → Act → World → Prop} (hgd : o.guard = none) (s x : Operand) (t : TypeId)
    (ho : o.op = .call { callee := .builtin .append, args := #[s, x], argTypes := #[t, t] })
    (base : Nat) (e : TypeId) (i : TypeInfo) (z : Value) (bytes : Nat) (ht : P.underlying t = some (.slice e)) (hi : P.info? e = some i) (hz : i.zero = some z)
    (hsize : i.size = 1) (hby : i.bytes = bytes) (hzs : z.cells.size = 1)
    (A : Option Addr) (n c : Nat) (xs : List Value) (hs : a.eval s = .slice A n c) (hown : w.ownsRow base e 1 (.slice A n c) n xs) (u : Value)
    (hx : a.eval x = .slice (some ⟨w.heap.size, 0, none⟩) 1 1) (h1 : u.oneCell' = true) (h63 : n + 1 ≤ maxLen) (hbytes : (n + 1) * bytes ≤ 140737488355328) (hbase : base ≤ w.heap.size)
    (h : ∀ g' c' w', w'.ownsRow base e 1 (.slice (some ⟨g', 0, none⟩) (n + 1) c') (n + 1) (xs ++ [u]) → Below base w w' → wpList P ops Q rest (a.put o.dst (.slice (some ⟨g', 0, none⟩) (n + 1) c')) w') :
    wpList P ops Q (o :: rest) a (w.alloc (.cells #[u] e)) := by
  refine wpList_append_own _ hgd s x t ho base e i z 1 bytes ht hi hz hsize hby hzs (by decide) _ n xs hs (hown.alloc _) ⟨w.heap.size, 0, none⟩ 1 1 [u] hx rfl ?_ ?_ h63 hbytes (by simp; omega) ?_
  · intro j v hj
    match j, hj with
    | 0, hj => simp at hj; subst hj; simp [Addr.add]
  · intro v hv; simp at hv; subst hv; exact h1
  · intro v' w' hown' hg _
    obtain ⟨g', c', hv, hg', hs'⟩ := hown'.form (by omega)
    subst hv
    refine h g' c' w' hown' (Below.grown ((Below.refl base w).alloc hbase _) hg (by simp; omega) ?_)
    intro k hk
    exact (hown.lt k hk).1

/-- what the call owns stays owned behind a contract that turns nothing below the heap's size -/
theorem own_below {w w' : World} {base : Nat} {e : TypeId} {v : Value} {n : Nat} {xs : List Value} (h : w.ownsRow base e 1 v n xs) (hb : Below w.heap.size w w') : w'.ownsRow base e 1 v n xs := by
  refine ⟨h.1, ?_⟩
  rcases h.2 with hn | ⟨g, cap, cur, rfl, hb', hg, rest⟩
  · exact .inl hn
  · refine .inr ⟨g, cap, cur, rfl, hb', ?_, rest⟩
    rw [hb.block g (Array.getElem?_eq_some_iff.1 hg).1]; exact hg
end Go.Proofs.YtcgkkppidkkjiaaGreatDoor
namespace Go.Proofs.YtcgkkppidkkjiaaGreatDoor
open Go.RowKit
section
variable {P : Program} {ops : Array Oper} {md : Region.Mode} {C : World → Prop}
/-- Whatever order is picked among the first n operations, each is quiet in the class; when none of them is left, L. -/
def HeadQ (P : Program) (md : Region.Mode) (ops : Array Oper) (C : World → Prop) (n : Nat) (L : Array Bool → Act → Prop) : Nat → Array Bool → Act → Prop
  | 0, done, a => L done a
  | f + 1, done, a => Region.ready md ops done ≠ [] ∧ ∀ i ∈ Region.ready md ops done, i < n ∧ qOp P ops C i (HeadQ P md ops C n L f (done.setIfInBounds i true)) a

theorem HeadQ.any {n g : Nat} {L : Array Bool → Act → Prop} {Q' : Exit → Act → World → Prop} (hL : ∀ done a w, C w → L done a → wpAny P md ops Q' g done a w) (f : Nat) :
    ∀ (done : Array Bool) (a : Act) (w : World), C w → HeadQ P md ops C n L f done a → wpAny P md ops Q' (f + g) done a w := by
  induction f with
  | zero => intro done a w hw h; rw [Nat.zero_add]; exact hL _ _ _ hw h
  | succ f ih =>
    intro done a w hw h
    rw [show f + 1 + g = (f + g) + 1 by omega]
    exact ⟨fun h0 => absurd h0 h.1, fun i hi => wpOp_of_qOp hw (fun a' w' hw' h' => ih _ a' w' hw' h') (h.2 i hi).2⟩

/-- what may be taken now and waits for nothing may be taken first -/
theorem HeadQ.first {n i : Nat} {oi : Oper} {v : Value} {L : Array Bool → Act → Prop} (hi : ops[i]? = some oi) (hsel : Region.noSelect ops = true)
    (hs : Region.sinkB md ops n = true) (hc : Region.chainB md ops n = true) (hn : n < ops.size) (hin : i < n) (hdone : ∀ done a, L done a → ∀ j ∈ Region.ready md ops done, n ≤ j) (f : Nat) :
    ∀ (done : Array Bool) (a : Act), HeadInv md ops n done →
      (∀ j oj, ops[j]? = some oj → j ≠ i → done.getD j true = false → (∀ e ∈ oj.after, Region.binds md e = true → e.on ≠ i) → oi.apart ops oj = true) →
      i ∈ Region.ready md ops done → YieldsIn P ops C oi v a → HeadQ P md ops C n L f (done.setIfInBounds i true) (a.put oi.dst v) → HeadQ P md ops C n L (f + 1) done a := by
  induction f with
  | zero =>
    intro done a inv _ hr hy H
    refine ⟨List.ne_nil_of_mem hr, fun j hj => ?_⟩
    have hjn : j < n := Nat.lt_of_not_le fun h => tail_waits hs hc hn inv _ i rfl hin (mem_ready.1 hr).1 j h hj
    refine ⟨hjn, ?_⟩
    by_cases hji : j = i
    · subst hji; exact hy.qOp hi H
    · exact absurd (hdone _ _ H j (ready_mono hj hji)) (by omega)
  | succ f ih =>
    intro done a inv hfree hr hy H
    refine ⟨List.ne_nil_of_mem hr, fun j hj => ?_⟩
    have hjn : j < n := Nat.lt_of_not_le fun h => tail_waits hs hc hn inv _ i rfl hin (mem_ready.1 hr).1 j h hj
    refine ⟨hjn, ?_⟩
    by_cases hji : j = i
    · subst hji; exact hy.qOp hi H
    · obtain ⟨hjun, oj, hoj, hall⟩ := mem_ready.1 hj
      have hnot : ∀ e ∈ oj.after, Region.binds md e = true → e.on ≠ i := fun e he hb heq => by
        have h1 := hall e he hb
        rw [heq, getD_both (mem_ready.1 hr).1] at h1
        cases h1
      have h2 := qOp_put hoj (hfree j oj hoj hji hjun hnot) (fun cs b => Region.noSelect_spec hsel i oi cs b hi) (fun cs b => Region.noSelect_spec hsel j oj cs b hoj) hy (H.2 j (ready_mono hj hji)).2
      refine qOp_mono (fun a' h3 => ih (done.setIfInBounds j true) a' (inv.set hj hjn) (fun k ok hk hki hun hno => hfree k ok hk hki ?_ hno) (ready_mono hr (Ne.symm hji)) h3.1 ?_) h2
      · by_cases hjk : j = k
        · subst hjk; exact hjun
        · rw [getD_set_ne true hjk] at hun; exact hun
      · rw [Array.setIfInBounds_comm _ _ hji]
        exact h3.2

theorem HeadQ.lex {n g : Nat} {Lq : Act → Prop} (hsel : Region.noSelect ops = true) (hs : Region.sinkB md ops n = true) (hc : Region.chainB md ops n = true) (hn : n < ops.size) :
    ∀ (l : List Oper) (k : Nat) (done : Array Bool) (a : Act), (∀ j, j < l.length → l[j]? = ops[k + j]?) → k + l.length = n → HeadInv md ops n done →
    Region.lexHead md ops g l.length k done = true → wpQuiet P ops C Lq l a → HeadQ P md ops C n (fun done' a' => Region.seqB md ops g n done' = true ∧ Lq a') l.length done a
  | [], k, done, a, _, hk, _, hB, h => by
    obtain rfl : k = n := by simpa using hk
    exact ⟨by simpa [Region.lexHead] using hB, h⟩
  | o :: l, k, done, a, hl, hk, inv, hB, h => by
    have h0 : ops[k]? = some o := by simpa using (hl 0 (by simp)).symm
    simp only [List.length_cons, Region.lexHead, Bool.and_eq_true] at hB hk
    obtain ⟨⟨hr, hf⟩, hB'⟩ := hB
    have hkn : k < n := by omega
    have hr' : k ∈ Region.ready md ops done := by simpa using hr
    obtain ⟨v, hy, hK⟩ := yieldsIn_of_qOp h0 (show qOp P ops C k (wpQuiet P ops C Lq l) a by unfold qOp; simp only [h0]; exact h)
    exact HeadQ.first h0 hsel hs hc hn hkn (fun _ _ hL => seqB_ready hL.1) l.length done a inv (Region.free_spec h0 hf) hr' hy
      (HeadQ.lex hsel hs hc hn l (k + 1) _ _ (fun j hj => by have := hl (j + 1) (by simp; omega); simpa [Nat.add_assoc, Nat.add_comm 1 j] using this) (by omega) (inv.set hr' hkn) hB' hK)

/-- THE LAW: n operations that are quiet in the class, then a tail in its one order, from any world of the class. -/
theorem wp_region_quiet_tail {id : Nat} {Q : Exit → Act → World → Prop} {a : Act} {w : World} {l : List Oper} (C : World → Prop) (n : Nat) (hm : P.follows .mixedOrders = true) (hB : Region.lexTailB .any l.toArray n = true) (hC : C w.drew)
    (h : wpQuiet P l.toArray C (fun a' => ∀ w', C w' → wpList P l.toArray Q (l.drop n) a' w') (l.take n) a) : (Code.region id l.toArray true).wp P Q a w := by
  simp only [Region.lexTailB, Bool.and_eq_true, decide_eq_true_eq] at hB
  obtain ⟨⟨⟨⟨hsel, hn⟩, hs⟩, hc⟩, hlex⟩ := hB
  have hn' : n < l.length := by simpa using hn
  have htl : (l.take n).length = n := by simp; omega
  have hdl : (l.drop n).length = l.toArray.size - n := by simp
  have inv0 : HeadInv .any l.toArray n (Array.replicate l.toArray.size false) :=
    ⟨by simp, fun j oj _ hl => (by rw [getD_replicate_false] at hl; cases hl), fun t _ ht => getD_in (by simpa using ht) (getD_replicate_false _ _)⟩
  have H := HeadQ.lex (md := .any) (g := l.toArray.size - n) hsel hs hc hn (l.take n) 0 _ a (fun j hj => by
    have hj' : j < n := by rw [htl] at hj; exact hj
    simp [hj']) (by simpa using htl) inv0 (by rw [htl]; exact hlex) h
  refine wp_region_any hm ?_
  have h2 := HeadQ.any (C := C) (Q' := Q) (g := l.toArray.size - n) (fun done a' w' hw' hL => by
    have h3 := wpAny_of_seq (md := .any) (Q' := Q) (l.drop n) n done a' w' (fun j => by simp [List.getElem?_drop]) (by rw [hdl]; exact hL.1) (hL.2 w' hw')
    rwa [hdl] at h3) _ _ _ _ hC H
  rw [htl, show n + (l.toArray.size - n) = l.toArray.size by omega] at h2
  exact h2
end
/-- a world below whose block B nothing has turned since w0 -/
structure LowW (B : Nat) (w0 : World) where
  w : World
  below : Below B w0 w

instance (B : Nat) (w0 : World) : Inhabited (LowW B w0) := ⟨⟨w0, Below.refl B w0⟩⟩
/-- what a callee leaves that turns nothing old is of the class -/
theorem LowW.of_call {P : Program} {B : Nat} {w0 : World} (p : LowW B w0) (hB : B ≤ w0.heap.size) {f : FuncId} {args : Array Value} {v : Value} (h : Calls P f args p.w fun e w' => e = .returned v ∧ Below p.w.heap.size p.w w') :
    Calls P f args p.w fun e w'' => e = .returned v ∧ ∃ q : LowW B w0, w'' = q.w :=
  h.mono fun _ w' ⟨he, hb⟩ => ⟨he, ⟨w', p.below.trans (hb.mono (Nat.le_trans hB p.below.size))⟩, rfl⟩
/-- a region that draws, whose operations only read and whose callees turn nothing old -/
theorem wp_region_low {P : Program} {id : Nat} {Q : Exit → Act → World → Prop} {a : Act} {w : World} {l : List Oper} (B : Nat) (w0 : World) (hm : P.follows .mixedOrders = true) (hB : Region.lexB .any l.toArray = true) (h0 : Below B w0 w)
    (h : wpQuiet P l.toArray (fun w' => ∃ p : LowW B w0, w' = p.w) (fun a' => ∀ w', (∃ p : LowW B w0, w' = p.w) → Q .normal a' w') l a) : (Code.region id l.toArray true).wp P Q a w :=
  wp_region_quiet (C := fun w' => ∃ p : LowW B w0, w' = p.w) hm hB ⟨⟨w.drew, h0.drew⟩, rfl⟩ (by simpa using h)
/-- .. and that ends in a tail of stores or of makings in one order -/
theorem wp_region_low_tail {P : Program} {id : Nat} {Q : Exit → Act → World → Prop} {a : Act} {w : World} {l : List Oper} (B : Nat) (w0 : World) (n : Nat) (hm : P.follows .mixedOrders = true) (hB : Region.lexTailB .any l.toArray n = true) (h0 : Below B w0 w)
    (h : wpQuiet P l.toArray (fun w' => ∃ p : LowW B w0, w' = p.w) (fun a' => ∀ w', (∃ p : LowW B w0, w' = p.w) → wpList P l.toArray Q (l.drop n) a' w') (l.take n) a) : (Code.region id l.toArray true).wp P Q a w :=
  wp_region_quiet_tail (fun w' => ∃ p : LowW B w0, w' = p.w) n hm hB ⟨⟨w.drew, h0.drew⟩, rfl⟩ h

theorem LowW.cell {B : Nat} {w0 : World} {a : Addr} {v : Value} (hb : a.block < B) (h : w0.cell? a = some v) (p : LowW B w0) : p.w.cell? a = some v := (p.below.cell hb).trans h
end Go.Proofs.YtcgkkppidkkjiaaGreatDoor
namespace Go.Proofs.YtcgkkppidkkjiaaGreatDoor
open Go.RowKit
theorem ret_bool {a b : Bool} (h : a = b) : Ending.returned (.bool a) = .returned (.bool b) := by rw [h]

/-- one direction of a valid box -/
def OkS (c n : Int) : Prop := -1048576 ≤ c ∧ c ≤ 1048576 ∧ 1 ≤ n ∧ n ≤ 1048577 - c
/-- a valid box -/
def Ok (x y w h : Int) : Prop := OkS x w ∧ OkS y h

theorem validCoord_yes (c : Int) (w : World) (h1 : -1048576 ≤ c) (h2 : c ≤ 1048576) :
    Calls Tryz.prog 128 #[.int .i64 c] w fun e w' => e = .returned (.bool true) ∧ w = w' := by
  go_enter Tryz.func128, Tryz.ntmps128
  go_wp2
  go_ret
  exact ⟨rfl, rfl⟩
theorem validSide_yes (c n : Int) (w : World) (h : OkS c n) :
    Calls Tryz.prog 108 #[.int .i64 c, .int .i64 n] w fun e w' => e = .returned (.bool true) ∧ w = w' := by
  obtain ⟨h1, h2, h3, h4⟩ := h
  have hc := validCoord_yes c w h1 h2
  have h5 : n ≤ 1048576 - c + 1 := by omega
  clear h4
  go_enter Tryz.func108, Tryz.ntmps108
  go_wp2_with (go_at_call 128; refine hc.mono ?_; rintro e w' ⟨rfl, rfl⟩)
  go_ret
  exact ⟨rfl, rfl⟩
theorem right_yes (x y ww hh : Int) (w : World) (h : Ok x y ww hh) :
    Calls Tryz.prog 88 #[.agg #[.int .i64 x, .int .i64 y, .int .i64 ww, .int .i64 hh]] w fun e w' => e = .returned (.bool true) ∧ Below w.heap.size w w' := by
  have hx := fun w => validSide_yes x ww w h.1
  have hy := fun w => validSide_yes y hh w h.2
  clear h
  go_enter Tryz.func88, Tryz.ntmps88
  go_wp2_with (first | (go_at_call 108; (with_reducible refine (hx _).mono ?_); rintro e w' ⟨rfl, rfl⟩) | (go_at_call 108; (with_reducible refine (hy _).mono ?_); rintro e w' ⟨rfl, rfl⟩))
  go_ret
  exact ⟨rfl, (Below.refl _ _).alloc (Nat.le_refl _) _⟩
end Go.Proofs.YtcgkkppidkkjiaaGreatDoor
namespace Go.Proofs.YtcgkkppidkkjiaaGreatDoor
open Go.RowKit
/-- the cells of a struct's block -/
theorem Blk.four {w : World} {g : Nat} {t : TypeId} {a b c d : Value} (h : Blk w g t #[a, b, c, d]) : w.cell? ⟨g, 0, none⟩ = some a ∧ w.cell? ⟨g, 1, none⟩ = some b ∧ w.cell? ⟨g, 2, none⟩ = some c ∧ w.cell? ⟨g, 3, none⟩ = some d ∧ g < w.heap.size :=
  ⟨by rw [h.cell]; rfl, by rw [h.cell]; rfl, by rw [h.cell]; rfl, by rw [h.cell]; rfl, h.lt⟩
end Go.Proofs.YtcgkkppidkkjiaaGreatDoor
namespace Go.Proofs.YtcgkkppidkkjiaaGreatDoor
/-- the number of a symmetry -/
def md (k : Int) : Nat := (k % 8).toNat
theorem md_lt (k : Int) : md k < 8 := by unfold md; omega


/-- the image of a position under a symmetry -/
def turnX (k : Nat) (x y : Int) : Int := match k with | 0 => x | 1 => -y | 2 => -x | 3 => y | 4 => -x | 5 => -y | 6 => x | _ => y
def turnY (k : Nat) (x y : Int) : Int := match k with | 0 => y | 1 => x | 2 => -y | 3 => -x | 4 => y | 5 => -x | 6 => -y | _ => x
theorem eight {P : Nat → Prop} (h0 : P 0) (h1 : P 1) (h2 : P 2) (h3 : P 3) (h4 : P 4) (h5 : P 5) (h6 : P 6) (h7 : P 7) (k : Nat) (h : k < 8) : P k := by
  match k, h with
  | 0, _ => exact h0
  | 1, _ => exact h1
  | 2, _ => exact h2
  | 3, _ => exact h3
  | 4, _ => exact h4
  | 5, _ => exact h5
  | 6, _ => exact h6
  | 7, _ => exact h7
  | k + 8, h => omega

end Go.Proofs.YtcgkkppidkkjiaaGreatDoor
namespace Go.Proofs.YtcgkkppidkkjiaaGreatDoor
open Go.RowKit
theorem and7 (n : Int) : bits .and .i64 n 7 = n % 8 := by
  have h7 : (BitVec.ofInt 64 7).toNat = 2 ^ 3 - 1 := by decide
  have key : (BitVec.ofInt 64 n &&& BitVec.ofInt 64 7).toNat = (n % ((2 ^ 64 : Nat) : Int)).toNat % 2 ^ 3 := by
    rw [BitVec.toNat_and, BitVec.toNat_ofInt, h7, Nat.and_two_pow_sub_one_eq_mod]
  show IntKind.i64.wrap ((BitVec.ofInt 64 n &&& BitVec.ofInt 64 7).toNat : Nat) = n % 8
  rw [key, IntKind.wrap_i64]
  omega
theorem md_nat (k : Nat) (h : k < 8) : md (k : Int) = k := by unfold md; omega
theorem md_mod (k : Int) : k % 8 = (md k : Nat) := by unfold md; omega
theorem number_any (k : Int) (w : World) :
    Calls Tryz.prog 112 #[.int .i64 k] w fun e w' => e = .returned (.int .i64 (md k : Nat)) ∧ w = w' := by
  go_enter Tryz.func112, Tryz.ntmps112
  go_wp2
  go_ret
  exact ⟨congrArg Ending.returned (congrArg (Value.int IntKind.i64) ((and7 k).trans (md_mod k))), rfl⟩
end Go.Proofs.YtcgkkppidkkjiaaGreatDoor
namespace Go.Proofs.YtcgkkppidkkjiaaGreatDoor
open Go.RowKit
/-- the matrices' numbers -/
def mxx (m : Nat) : Int := match m with | 0 => 1 | 1 => 0 | 2 => -1 | 3 => 0 | 4 => -1 | 5 => 0 | 6 => 1 | _ => 0
def mxy (m : Nat) : Int := match m with | 0 => 0 | 1 => -1 | 2 => 0 | 3 => 1 | 4 => 0 | 5 => -1 | 6 => 0 | _ => 1
def myx (m : Nat) : Int := match m with | 0 => 0 | 1 => 1 | 2 => 0 | 3 => -1 | 4 => 0 | 5 => -1 | 6 => 0 | _ => 1
def myy (m : Nat) : Int := match m with | 0 => 1 | 1 => 0 | 2 => -1 | 3 => 0 | 4 => 1 | 5 => 0 | 6 => -1 | _ => 0
/-- the matrices lie in block 0 -/
def Mat (w : World) : Prop := 0 < w.heap.size ∧ ∀ m : Nat, m < 8 → w.cell? ⟨0, m * 4, none⟩ = some (.int .i64 (mxx m)) ∧ w.cell? ⟨0, m * 4 + 1, none⟩ = some (.int .i64 (mxy m)) ∧ w.cell? ⟨0, m * 4 + 2, none⟩ = some (.int .i64 (myx m)) ∧ w.cell? ⟨0, m * 4 + 3, none⟩ = some (.int .i64 (myy m))
section
variable {w w' : World}
theorem Mat.below {B : Nat} (h : Mat w) (hb : Below B w w') (hB : 0 < B) : Mat w' :=
  ⟨Nat.lt_of_lt_of_le h.1 hb.size, fun m hm => ⟨(hb.cell (p := ⟨0, _, none⟩) hB).trans (h.2 m hm).1, (hb.cell (p := ⟨0, _, none⟩) hB).trans (h.2 m hm).2.1, (hb.cell (p := ⟨0, _, none⟩) hB).trans (h.2 m hm).2.2.1, (hb.cell (p := ⟨0, _, none⟩) hB).trans (h.2 m hm).2.2.2⟩⟩
theorem Mat.alloc (h : Mat w) (o : Obj) : Mat (w.alloc o) := h.below ((Below.refl w.heap.size w).alloc (Nat.le_refl _) o) h.1
theorem Mat.drew (h : Mat w) : Mat w.drew := h
end
theorem apply_val (m : Nat) (x y : Int) (hm : m < 8) (hx : -4194304 ≤ x) (hx' : x ≤ 4194304) (hy : -4194304 ≤ y) (hy' : y ≤ 4194304) :
    wrap64 (wrap64 (mxx m * x) + wrap64 (mxy m * y)) = turnX m x y ∧ wrap64 (wrap64 (myx m * x) + wrap64 (myy m * y)) = turnY m x y := by
  refine eight (P := fun m => wrap64 (wrap64 (mxx m * x) + wrap64 (mxy m * y)) = turnX m x y ∧ wrap64 (wrap64 (myx m * x) + wrap64 (myy m * y)) = turnY m x y) ?_ ?_ ?_ ?_ ?_ ?_ ?_ ?_ m hm <;> simp only [mxx, mxy, myx, myy, turnX, turnY, wrap64] <;> omega
theorem apply_any (k : Int) (x y : Int) (w : World) (hM : Mat w) (hx : -4194304 ≤ x) (hx' : x ≤ 4194304) (hy : -4194304 ≤ y) (hy' : y ≤ 4194304) :
    Calls Tryz.prog 96 #[.int .i64 k, .agg #[.int .i64 x, .int .i64 y]] w fun e w' => e = .returned (.agg #[.int .i64 (turnX (md k) x y), .int .i64 (turnY (md k) x y)]) ∧ Below w.heap.size w w' := by
  have H := Lib.hid (fun w => number_any k w)
  have hm := md_lt k
  have V := Lib.hid (apply_val (md k) x y hm hx hx' hy hy')
  generalize md k = m at H hm V ⊢
  obtain ⟨hz, hM⟩ := hM
  obtain ⟨m0, m1, m2, m3⟩ := hM m hm
  clear hx hx' hy hy' hM
  go_enter Tryz.func96, Tryz.ntmps96
  go_wp2_with (go_at_call 112; (with_reducible refine (H.out _).mono ?_); rintro e w' ⟨rfl, rfl⟩)
  exact bodyPost_ret (v := .agg #[.int .i64 (turnX m x y), .int .i64 (turnY m x y)]) (by simp [results, Tryz.results96, go_sem, V.out.1, V.out.2]) rfl ⟨rfl, (((Below.refl _ _).alloc (Nat.le_refl _) _).alloc (by simp) _).alloc (by simp; omega) _⟩
end Go.Proofs.YtcgkkppidkkjiaaGreatDoor
namespace Go.Proofs.YtcgkkppidkkjiaaGreatDoor
open Go.RowKit
/-- the cells of the first n positions of a list -/
def cells2 (f : Nat → Int × Int) : Nat → List Value
  | 0 => []
  | n + 1 => cells2 f n ++ [.int .i64 (f n).1, .int .i64 (f n).2]
theorem cells2_len (f : Nat → Int × Int) (n : Nat) : (cells2 f n).length = n * 2 := by
  induction n with
  | zero => rfl
  | succ n ih => simp [cells2, ih]; omega
theorem cells2_at (f : Nat → Int × Int) (n k : Nat) (hk : k < n) : (cells2 f n)[k * 2]? = some (.int .i64 (f k).1) ∧ (cells2 f n)[k * 2 + 1]? = some (.int .i64 (f k).2) := by
  induction n with
  | zero => omega
  | succ n ih =>
    by_cases h : k < n
    · have hl := cells2_len f n
      rw [cells2, List.getElem?_append_left (by omega), List.getElem?_append_left (by omega)]
      exact ih h
    · obtain rfl : k = n := by omega
      have hl := cells2_len f k
      rw [cells2, List.getElem?_append_right (by omega), List.getElem?_append_right (by omega), hl]
      simp

/-- block g, below B, holds the list from its first cell on -/
def PReads (w : World) (B g n : Nat) (f : Nat → Int × Int) : Prop :=
  g < B ∧ ∀ k, k < n → w.cell? ⟨g, k * 2, none⟩ = some (.int .i64 (f k).1) ∧ w.cell? ⟨g, k * 2 + 1, none⟩ = some (.int .i64 (f k).2)
section
variable {w w' : World} {B B' g n : Nat} {f : Nat → Int × Int}
theorem PReads.below (h : PReads w B g n f) (hb : Below B w w') : PReads w' B g n f :=
  ⟨h.1, fun k hk => ⟨(hb.cell h.1).trans (h.2 k hk).1, (hb.cell h.1).trans (h.2 k hk).2⟩⟩
theorem PReads.more (h : PReads w B g n f) (hB : B ≤ B') : PReads w B' g n f := ⟨Nat.lt_of_lt_of_le h.1 hB, h.2⟩
theorem PReads.of_own {base c : Nat} {e : TypeId} (h : w.ownsRow base e 2 (.slice (some ⟨g, 0, none⟩) n c) n (cells2 f n)) (hn : 0 < n) : PReads w w.heap.size g n f := by
  refine ⟨(h.lt g rfl).2, fun k hk => ?_⟩
  have hl := cells2_len f n
  obtain ⟨c1, c2⟩ := cells2_at f n k hk
  constructor
  · rw [h.cellAt (k * 2) (by omega), c1]
  · rw [h.cellAt (k * 2 + 1) (by omega), c2]
end
end Go.Proofs.YtcgkkppidkkjiaaGreatDoor
namespace Go.Proofs.YtcgkkppidkkjiaaGreatDoor
open Go.RowKit
/-- a position: x and y -/
abbrev P2 := Int × Int

/-- a list of n positions, f 0, f 1, .., at the address A, below block B -/
def QReads (w : World) (B : Nat) (A : Option Addr) (n : Nat) (f : Nat → P2) : Prop :=
  0 < n → ∃ g o, A = some ⟨g, o, none⟩ ∧ g < B ∧ ∀ k, k < n → w.cell? ⟨g, o + k * 2, none⟩ = some (.int .i64 (f k).1) ∧ w.cell? ⟨g, o + k * 2 + 1, none⟩ = some (.int .i64 (f k).2)
section
variable {w w' : World} {B B' n : Nat} {A : Option Addr} {f : Nat → P2}
theorem QReads.keep (h : QReads w B A n f) (hk : ∀ p : Addr, p.block < B → w'.cell? p = w.cell? p) : QReads w' B A n f := fun hn => by
  obtain ⟨g, o, e, hg, hc⟩ := h hn
  exact ⟨g, o, e, hg, fun k hk' => by rw [hk _ hg, hk _ hg]; exact hc k hk'⟩
theorem QReads.more (h : QReads w B A n f) (hB : B ≤ B') : QReads w B' A n f := fun hn => by
  obtain ⟨g, o, e, hg, hc⟩ := h hn
  exact ⟨g, o, e, Nat.lt_of_lt_of_le hg hB, hc⟩
theorem QReads.below (h : QReads w B A n f) (hb : Below B w w') : QReads w' B A n f := h.keep fun _ hp => hb.cell hp
theorem QReads.later (h : QReads w w.heap.size A n f) (hb : Below w.heap.size w w') : QReads w' w'.heap.size A n f := (h.below hb).more hb.size
theorem QReads.drew (h : QReads w B A n f) : QReads w.drew B A n f := h
theorem QReads.drewN (h : QReads w B A n f) (k : Nat) : QReads (w.drewN k) B A n f := h
theorem QReads.nil : QReads w B none 0 f := fun h => absurd h (by omega)
theorem QReads.of_p {g : Nat} (h : PReads w B g n f) : QReads w B (some ⟨g, 0, none⟩) n f := fun _ => ⟨g, 0, rfl, h.1, fun k hk => by
  rw [Nat.zero_add]; exact h.2 k hk⟩
theorem QReads.of_own {base c : Nat} {e : TypeId} (h : w.ownsRow base e 2 (.slice A n c) n (cells2 f n)) : QReads w w.heap.size A n f := fun hn => by
  obtain ⟨g, cap, hv, _, _⟩ := h.form hn
  injection hv with h1 h2 h3
  subst h1 h3
  exact QReads.of_p (PReads.of_own h hn) hn
theorem QReads.to {f' : Nat → P2} (h : QReads w B A n f) (e : ∀ k, k < n → f k = f' k) : QReads w B A n f' := fun hn => by
  obtain ⟨g, o, ha, hg, hc⟩ := h hn
  exact ⟨g, o, ha, hg, fun k hk => by rw [← e k hk]; exact hc k hk⟩
end
theorem below_drewN {B : Nat} {w w' : World} (h : Below B w w') (k : Nat) : Below B w (w'.drewN k) := ⟨h.os, h.tape, h.output, h.size, h.block⟩

/-- the order of numbers -/
def sg (a b : Int) : Int := if a < b then -1 else if b < a then 1 else 0
/-- the first that is not 0 -/
def or2 (u v : Int) : Int := if u = 0 then v else u
/-- the order of positions -/
def pc (a b : P2) : Int := or2 (sg a.2 b.2) (sg a.1 b.1)
theorem sg_lt (a b : Int) : sg a b < 0 ↔ a < b := by unfold sg; split <;> (try split) <;> omega
theorem sg_zero (a b : Int) : sg a b = 0 ↔ a = b := by unfold sg; split <;> (try split) <;> omega
theorem sg_gt (a b : Int) : 0 < sg a b ↔ b < a := by unfold sg; split <;> (try split) <;> omega
theorem pc_lt (a b : P2) : pc a b < 0 ↔ (a.2 < b.2 ∨ a.2 = b.2 ∧ a.1 < b.1) := by
  unfold pc or2
  have h1 := sg_lt a.2 b.2
  have h2 := sg_zero a.2 b.2
  have h3 := sg_lt a.1 b.1
  split <;> omega
theorem pc_gt (a b : P2) : 0 < pc a b ↔ pc b a < 0 := by
  rw [pc_lt]
  unfold pc or2
  have h1 := sg_gt a.2 b.2
  have h2 := sg_zero a.2 b.2
  have h3 := sg_gt a.1 b.1
  split <;> omega
theorem pc_zero (a b : P2) : pc a b = 0 ↔ a = b := by
  have h1 := pc_lt a b
  have h2 := pc_gt a b
  rw [pc_lt] at h2
  obtain ⟨x, y⟩ := a
  obtain ⟨u, v⟩ := b
  simp only [Prod.mk.injEq] at *
  omega

end Go.Proofs.YtcgkkppidkkjiaaGreatDoor
