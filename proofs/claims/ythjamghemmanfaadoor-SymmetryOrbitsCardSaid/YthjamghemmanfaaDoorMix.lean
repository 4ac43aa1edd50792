/- A region that draws its order: operations that only read or call, then new variables (blocks that may be made at any time), then a tail in one forced order. -/
import Derived.Test.YthjamghemmanfaaDoorTail
namespace Go.Proofs.YthjamghemmanfaaDoor
open Go.RowKit

/-- blocks: where, of which type, with which cells -/
abbrev Blocks := List (Nat × TypeId × Array Value)

section
variable {P : Program} {ops : Array Oper} {md : Region.Mode} {w0 : World}

/-- an operation, run in w, hands back v and turns nothing that is there -/
def GUpon (P : Program) (w : World) (v : Value) : Result Next → Prop
  | .ok (.value u) w' => w' = w ∧ u = v
  | .ok .skip w' => w' = w ∧ v = undef
  | .ok (.enter f args) w' => w' = w ∧ Calls P f args w (fun e w'' => e = .returned v ∧ Below w.heap.size w w'')
  | _ => False
def GDoes (P : Program) (w0 : World) (o : Oper) (a : Act) (v : Value) : Prop := ∀ p : LowW w0.heap.size w0, GUpon P p.w v ((execOp a.eval o).run P p.w)
/-- the walk in the text's order -/
def wpG (P : Program) (ops : Array Oper) (w0 : World) (Q : Act → Prop) : List Oper → Act → Prop
  | [], a => Q a
  | o :: rest, a => if Region.wanted o (yielded ops a.tmps) then ∃ v, GDoes P w0 o a v ∧ wpG P ops w0 Q rest (a.put o.dst v) else wpG P ops w0 Q rest (a.put o.dst undef)
theorem wpG_step {Q : Act → Prop} {a : Act} {o : Oper} {rest : List Oper}
    (h : ∀ K : Act → Prop, (∀ a, wpG P ops w0 Q rest a → K a) → if Region.wanted o (yielded ops a.tmps) then ∃ v, GDoes P w0 o a v ∧ K (a.put o.dst v) else K (a.put o.dst undef)) : wpG P ops w0 Q (o :: rest) a :=
  h _ (fun _ h => h)
theorem wpG_nil {Q : Act → Prop} {a : Act} (h : Q a) : wpG P ops w0 Q [] a := h

/-- operation o leaves v in its slot, whichever world of the class it meets -/
def GY (P : Program) (ops : Array Oper) (w0 : World) (o : Oper) (v : Value) (a : Act) : Prop :=
  (Region.wanted o (yielded ops a.tmps) = true ∧ GDoes P w0 o a v) ∨ (Region.wanted o (yielded ops a.tmps) = false ∧ v = undef)
theorem GY.of_same {o : Oper} {v : Value} {a a' : Act} (hy : GY P ops w0 o v a) (he : execOp a'.eval o = execOp a.eval o) (hw : Region.wanted o (yielded ops a'.tmps) = Region.wanted o (yielded ops a.tmps)) : GY P ops w0 o v a' := by
  unfold GY GDoes at *
  rw [he, hw]
  exact hy
/-- operation o is a new variable: a block of these cells -/
def AY (P : Program) (ops : Array Oper) (o : Oper) (t : TypeId) (cs : Array Value) : Prop :=
  (∀ a : Act, Region.wanted o (yielded ops a.tmps) = true) ∧ ∀ (a : Act) (w : World), (execOp a.eval o).run P w = .ok (.value (.pointer (some ⟨w.heap.size, 0, none⟩))) (w.alloc (.cells cs t))

/-- what is known of the world: old blocks are as they were, the new ones hold what they hold, no two are one -/
structure Wd (w0 : World) (A : Blocks) (w : World) : Prop where
  low : Below w0.heap.size w0 w
  blk : ∀ x ∈ A, Blk w x.1 x.2.1 x.2.2 ∧ w0.heap.size ≤ x.1
  apart : (A.map (·.1)).Nodup
theorem Wd.later {A : Blocks} {w w' : World} (h : Wd w0 A w) (hb : Below w.heap.size w w') : Wd w0 A w' :=
  ⟨h.low.trans (hb.mono h.low.size), fun x hx => ⟨(h.blk x hx).1.below hb (h.blk x hx).1.lt, (h.blk x hx).2⟩, h.apart⟩
theorem Wd.new {A : Blocks} {w : World} (h : Wd w0 A w) (t : TypeId) (cs : Array Value) : Wd w0 ((w.heap.size, t, cs) :: A) (w.alloc (.cells cs t)) := by
  have hb : Below w.heap.size w (w.alloc (.cells cs t)) := (Below.refl _ _).alloc (Nat.le_refl _) _
  refine ⟨(h.later hb).low, fun x hx => ?_, ?_⟩
  · rcases List.mem_cons.1 hx with rfl | hx
    · exact ⟨Blk.new w t cs, h.low.size⟩
    · exact (h.later hb).blk x hx
  · rw [List.map_cons, List.nodup_cons]
    refine ⟨fun hm => ?_, h.apart⟩
    obtain ⟨x, hx, he⟩ := List.mem_map.1 hm
    have := (h.blk x hx).1.lt
    simp only at he
    omega
theorem Wd.perm {A A' : Blocks} {w : World} (h : Wd w0 A' w) (hp : A.Perm A') : Wd w0 A w :=
  ⟨h.low, fun x hx => h.blk x (hp.mem_iff.1 hx), (hp.map _).nodup_iff.2 h.apart⟩

/-- whatever order is picked among the first e operations: those below n read or call, the others are new variables -/
def MixQ (P : Program) (md : Region.Mode) (ops : Array Oper) (w0 : World) (n e : Nat) (L : Array Bool → Blocks → Act → Prop) : Nat → Array Bool → Blocks → Act → Prop
  | 0, done, A, a => L done A a
  | f + 1, done, A, a => Region.ready md ops done ≠ [] ∧ ∀ i ∈ Region.ready md ops done, i < e ∧ ∃ o, ops[i]? = some o ∧
      ((i < n ∧ ∃ v, GY P ops w0 o v a ∧ MixQ P md ops w0 n e L f (done.setIfInBounds i true) A (a.put o.dst v)) ∨
       (n ≤ i ∧ ∃ t cs, AY P ops o t cs ∧ ∀ g, MixQ P md ops w0 n e L f (done.setIfInBounds i true) ((g, t, cs) :: A) (a.put o.dst (.pointer (some ⟨g, 0, none⟩)))))

theorem MixQ.perm {n e : Nat} {L : Array Bool → Blocks → Act → Prop} (hL : ∀ done A A' a, A.Perm A' → L done A a → L done A' a) (f : Nat) :
    ∀ done A A' a, A.Perm A' → MixQ P md ops w0 n e L f done A a → MixQ P md ops w0 n e L f done A' a := by
  induction f with
  | zero => exact hL
  | succ f ih =>
    intro done A A' a hp h
    refine ⟨h.1, fun i hi => ?_⟩
    obtain ⟨hie, o, ho, hc⟩ := h.2 i hi
    refine ⟨hie, o, ho, ?_⟩
    rcases hc with ⟨hin, v, hy, hk⟩ | ⟨hin, t, cs, hy, hk⟩
    · exact .inl ⟨hin, v, hy, ih _ _ _ _ hp hk⟩
    · exact .inr ⟨hin, t, cs, hy, fun g => ih _ _ _ _ (hp.cons _) (hk g)⟩

theorem wpOp_of_GY {i : Nat} {o : Oper} {v : Value} {A : Blocks} {a : Act} {K' : Act → World → Prop} {Q' : Exit → Act → World → Prop} {w : World} (ho : ops[i]? = some o) (hw : Wd w0 A w) (hy : GY P ops w0 o v a)
    (h : ∀ w', Wd w0 A w' → K' (a.put o.dst v) w') : wpOp P ops Q' i K' a w := by
  unfold wpOp
  simp only [ho]
  rcases hy with ⟨hwt, hd⟩ | ⟨hwt, rfl⟩
  · simp only [hwt, if_true]
    refine .inl ?_
    have h3 := hd ⟨w, hw.low⟩
    simp only at h3
    unfold Oper.wp
    generalize (execOp a.eval o).run P w = r at *
    cases r with
    | ok n w' =>
      cases n <;> simp only [GUpon] at h3 <;> simp only [Oper.upon]
      case value u =>
        obtain ⟨e1, e2⟩ := h3
        rw [e1, e2]
        exact h _ hw
      case skip =>
        obtain ⟨e1, e2⟩ := h3
        rw [e1, ← e2]
        exact h _ hw
      case enter f args =>
        obtain ⟨e1, hc⟩ := h3
        rw [e1]
        exact hc.mono fun e w'' ⟨he, hw''⟩ => by subst he; exact h _ (hw.later hw'')
    | halt x w' => simp only [GUpon] at h3
  · simp only [hwt]
    exact h _ hw
theorem wpOp_of_AY {i : Nat} {o : Oper} {t : TypeId} {cs : Array Value} {A : Blocks} {a : Act} {K' : Act → World → Prop} {Q' : Exit → Act → World → Prop} {w : World} (ho : ops[i]? = some o) (hw : Wd w0 A w) (hy : AY P ops o t cs)
    (h : ∀ g w', Wd w0 ((g, t, cs) :: A) w' → K' (a.put o.dst (.pointer (some ⟨g, 0, none⟩))) w') : wpOp P ops Q' i K' a w := by
  unfold wpOp
  simp only [ho, hy.1 a, if_true]
  refine .inl ?_
  unfold Oper.wp
  rw [hy.2 a w]
  simp only [Oper.upon]
  exact h _ _ (hw.new t cs)

theorem MixQ.any {n e g : Nat} {L : Array Bool → Blocks → Act → Prop} {Q' : Exit → Act → World → Prop} (hL : ∀ done A a w, Wd w0 A w → L done A a → wpAny P md ops Q' g done a w) (f : Nat) :
    ∀ done A a w, Wd w0 A w → MixQ P md ops w0 n e L f done A a → wpAny P md ops Q' (f + g) done a w := by
  induction f with
  | zero => intro done A a w hw h; rw [Nat.zero_add]; exact hL _ _ _ _ hw h
  | succ f ih =>
    intro done A a w hw h
    rw [show f + 1 + g = (f + g) + 1 by omega]
    refine ⟨fun h0 => absurd h0 h.1, fun i hi => ?_⟩
    obtain ⟨_, o, ho, hc⟩ := h.2 i hi
    rcases hc with ⟨_, v, hy, hk⟩ | ⟨_, t, cs, hy, hk⟩
    · exact wpOp_of_GY ho hw hy fun w' hw' => ih _ _ _ _ hw' hk
    · exact wpOp_of_AY ho hw hy fun g w' hw' => ih _ _ _ _ hw' (hk g)

theorem GY.put {oi oj : Oper} {v u : Value} {a : Act} (hsi : ∀ cs b, oi.op ≠ .select cs b) (hy : GY P ops w0 oi v a) (hap : oi.apart ops oj = true) : GY P ops w0 oi v (a.put oj.dst u) :=
  hy.of_same (execOp_put oi hsi a oj.dst u (Oper.apart_spec hap).2.2) (wanted_put oi a oj.dst u (Oper.apart_spec hap).2.2)
theorem GY.unput {oi oj : Oper} {v u : Value} {a : Act} (hsj : ∀ cs b, oj.op ≠ .select cs b) (hy : GY P ops w0 oj v (a.put oi.dst u)) (hap : oi.apart ops oj = true) : GY P ops w0 oj v a :=
  hy.of_same (execOp_put oj hsj a oi.dst u (Oper.apart_spec hap).1).symm (wanted_put oj a oi.dst u (Oper.apart_spec hap).1).symm

/-- what may be taken now may be taken first -/
theorem MixQ.first {n e i : Nat} {oi : Oper} {L : Array Bool → Blocks → Act → Prop} (hLp : ∀ done A A' a, A.Perm A' → L done A a → L done A' a) (hi : ops[i]? = some oi) (hsel : Region.noSelect ops = true)
    (hs : Region.sinkB md ops e = true) (hc : Region.chainB md ops e = true) (hn : e < ops.size) (hie : i < e) (hdone : ∀ done A a, L done A a → ∀ j ∈ Region.ready md ops done, e ≤ j) (f : Nat) :
    ∀ (done : Array Bool) (A : Blocks) (a : Act), HeadInv md ops e done →
      (∀ j oj, ops[j]? = some oj → j ≠ i → done.getD j true = false → (∀ e ∈ oj.after, Region.binds md e = true → e.on ≠ i) → oi.apart ops oj = true) →
      i ∈ Region.ready md ops done →
      ((i < n ∧ ∃ v, GY P ops w0 oi v a ∧ MixQ P md ops w0 n e L f (done.setIfInBounds i true) A (a.put oi.dst v)) ∨
       (n ≤ i ∧ (∀ k, k < n → done.getD k false = true) ∧ ∃ t cs, AY P ops oi t cs ∧ ∀ g, MixQ P md ops w0 n e L f (done.setIfInBounds i true) ((g, t, cs) :: A) (a.put oi.dst (.pointer (some ⟨g, 0, none⟩))))) →
      MixQ P md ops w0 n e L (f + 1) done A a := by
  induction f with
  | zero =>
    intro done A a inv _ hr H
    refine ⟨List.ne_nil_of_mem hr, fun j hj => ?_⟩
    have hjn : j < e := Nat.lt_of_not_le fun h => tail_waits hs hc hn inv _ i rfl hie (mem_ready.1 hr).1 j h hj
    refine ⟨hjn, ?_⟩
    by_cases hji : j = i
    · subst hji
      refine ⟨oi, hi, ?_⟩
      rcases H with ⟨h1, v, hy, hk⟩ | ⟨h1, _, t, cs, hy, hk⟩
      · exact .inl ⟨h1, v, hy, hk⟩
      · exact .inr ⟨h1, t, cs, hy, hk⟩
    · rcases H with ⟨h1, v, hy, hk⟩ | ⟨h1, _, t, cs, hy, hk⟩
      · exact absurd (hdone _ _ _ hk j (ready_mono hj hji)) (by omega)
      · exact absurd (hdone _ _ _ (hk 0) j (ready_mono hj hji)) (by omega)
  | succ f ih =>
    intro done A a inv hfree hr H
    refine ⟨List.ne_nil_of_mem hr, fun j hj => ?_⟩
    have hjn : j < e := Nat.lt_of_not_le fun h => tail_waits hs hc hn inv _ i rfl hie (mem_ready.1 hr).1 j h hj
    refine ⟨hjn, ?_⟩
    by_cases hji : j = i
    · subst hji
      refine ⟨oi, hi, ?_⟩
      rcases H with ⟨h1, v, hy, hk⟩ | ⟨h1, _, t, cs, hy, hk⟩
      · exact .inl ⟨h1, v, hy, hk⟩
      · exact .inr ⟨h1, t, cs, hy, hk⟩
    · obtain ⟨hjun, oj, hoj, hall⟩ := mem_ready.1 hj
      have hnot : ∀ e ∈ oj.after, Region.binds md e = true → e.on ≠ i := fun e he hb heq => by
        have h1 := hall e he hb
        rw [heq, getD_both (mem_ready.1 hr).1] at h1
        cases h1
      have hap := hfree j oj hoj hji hjun hnot
      have hfree' : ∀ k ok, ops[k]? = some ok → k ≠ i → (done.setIfInBounds j true).getD k true = false → (∀ e ∈ ok.after, Region.binds md e = true → e.on ≠ i) → oi.apart ops ok = true := fun k ok hk hki hun hno => by
        refine hfree k ok hk hki ?_ hno
        by_cases hjk : j = k
        · subst hjk; exact hjun
        · rw [getD_set_ne true hjk] at hun; exact hun
      have inv' := inv.set hj hjn
      have hr' := ready_mono hr (Ne.symm hji)
      have hsi := fun cs b => Region.noSelect_spec hsel i oi cs b hi
      have hsj := fun cs b => Region.noSelect_spec hsel j oj cs b hoj
      have hpc := fun v u => Act.put_comm a v u (Oper.apart_spec hap).2.1
      refine ⟨oj, hoj, ?_⟩
      rcases H with ⟨h1, v, hy, hk⟩ | ⟨h1, hall', t, cs, hy, hk⟩
      · obtain ⟨_, o', ho', hc'⟩ := hk.2 j (ready_mono hj hji)
        obtain rfl : oj = o' := Option.some.inj (hoj.symm.trans ho')
        rcases hc' with ⟨hjn', u, hyj, hkj⟩ | ⟨hjn', t', cs', hyj, hkj⟩
        · refine .inl ⟨hjn', u, hyj.unput hsj hap, ih _ _ _ inv' hfree' hr' (.inl ⟨h1, v, hy.put hsi hap, ?_⟩)⟩
          rw [Array.setIfInBounds_comm _ _ hji, ← hpc]
          exact hkj
        · refine .inr ⟨hjn', t', cs', hyj, fun g => ih _ _ _ inv' hfree' hr' (.inl ⟨h1, v, hy.put hsi hap, ?_⟩)⟩
          rw [Array.setIfInBounds_comm _ _ hji, ← hpc]
          exact hkj g
      · have hjn' : n ≤ j := Nat.le_of_not_lt fun h => by
          have h2 := hall' j h
          rw [getD_both hjun] at h2
          cases h2
        obtain ⟨_, o', ho', hc'⟩ := (hk 0).2 j (ready_mono hj hji)
        obtain rfl : oj = o' := Option.some.inj (hoj.symm.trans ho')
        rcases hc' with ⟨hjn2, _⟩ | ⟨_, t', cs', hyj, _⟩
        · omega
        · refine .inr ⟨hjn', t', cs', hyj, fun g => ih _ _ _ inv' hfree' hr' (.inr ⟨h1, fun k hk' => ?_, t, cs, hy, fun g' => ?_⟩)⟩
          · exact getD_set_true (hall' k hk')
          · obtain ⟨_, o', ho', hc'⟩ := (hk g').2 j (ready_mono hj hji)
            obtain rfl : oj = o' := Option.some.inj (hoj.symm.trans ho')
            rcases hc' with ⟨hjn2, _⟩ | ⟨_, t2, cs2, hyj2, hkj⟩
            · omega
            · have h3 := (hyj.2 a w0).symm.trans (hyj2.2 a w0)
              have h4 : (w0.alloc (.cells cs' t')).heap[w0.heap.size]? = (w0.alloc (.cells cs2 t2)).heap[w0.heap.size]? := by
                injection h3 with _ h3
                rw [h3]
              have h5 := (Blk.new w0 t' cs').symm.trans (h4.trans (Blk.new w0 t2 cs2))
              injection h5 with h5
              injection h5 with h6 h7
              subst h6 h7
              rw [Array.setIfInBounds_comm _ _ hji, ← hpc]
              exact MixQ.perm hLp _ _ _ _ _ (List.Perm.swap _ _ _) (hkj g)

/-- the new variables in the text's order -/
def wpN (P : Program) (ops : Array Oper) (Q : Blocks → Act → Prop) : List Oper → Blocks → Act → Prop
  | [], A, a => Q A a
  | o :: rest, A, a => ∃ t cs, AY P ops o t cs ∧ ∀ g, wpN P ops Q rest ((g, t, cs) :: A) (a.put o.dst (.pointer (some ⟨g, 0, none⟩)))

theorem MixQ.lexN {n e g : Nat} {Lq : Blocks → Act → Prop} (hLq : ∀ A A' a, A.Perm A' → Lq A a → Lq A' a) (hsel : Region.noSelect ops = true) (hs : Region.sinkB md ops e = true) (hc : Region.chainB md ops e = true) (hn : e < ops.size) :
    ∀ (l : List Oper) (k : Nat) (done : Array Bool) (A : Blocks) (a : Act), n ≤ k → (∀ i, i < k → done.getD i false = true) → (∀ j, j < l.length → l[j]? = ops[k + j]?) → k + l.length = e → HeadInv md ops e done →
    Region.lexHead md ops g l.length k done = true → wpN P ops Lq l A a → MixQ P md ops w0 n e (fun done' A' a' => Region.seqB md ops g e done' = true ∧ Lq A' a') l.length done A a
  | [], k, done, A, a, _, _, _, hk, _, hB, h => by
    obtain rfl : k = e := by simpa using hk
    exact ⟨by simpa [Region.lexHead] using hB, h⟩
  | o :: l, k, done, A, a, hnk, hdn, hl, hk, inv, hB, h => by
    have h0 : ops[k]? = some o := by simpa using (hl 0 (by simp)).symm
    simp only [List.length_cons, Region.lexHead, Bool.and_eq_true] at hB hk
    obtain ⟨⟨hr, hf⟩, hB'⟩ := hB
    have hke : k < e := by omega
    have hr' : k ∈ Region.ready md ops done := by simpa using hr
    have hks : k < done.size := by rw [inv.size]; omega
    obtain ⟨t, cs, hy, hK⟩ := h
    refine MixQ.first (fun _ _ _ _ hp h => ⟨h.1, hLq _ _ _ hp h.2⟩) h0 hsel hs hc hn hke (fun _ _ _ hL => seqB_ready hL.1) l.length done A a inv (Region.free_spec h0 hf) hr' (.inr ⟨hnk, fun i hi => hdn i (by omega), t, cs, hy, fun gg => ?_⟩)
    refine MixQ.lexN hLq hsel hs hc hn l (k + 1) _ _ _ (by omega) (fun i hi => ?_) (fun j hj => by have := hl (j + 1) (by simp; omega); simpa [Nat.add_assoc, Nat.add_comm 1 j] using this) (by omega) (inv.set hr' hke) hB' (hK gg)
    by_cases hik : i = k
    · subst hik; simp [hks]
    · exact getD_set_true (hdn i (by omega))

theorem MixQ.lexG {n e g : Nat} {Lq : Blocks → Act → Prop} (hLq : ∀ A A' a, A.Perm A' → Lq A a → Lq A' a) (hsel : Region.noSelect ops = true) (hs : Region.sinkB md ops e = true) (hc : Region.chainB md ops e = true) (hn : e < ops.size) (l2 : List Oper) :
    ∀ (l : List Oper) (k : Nat) (done : Array Bool) (a : Act), k + l.length = n → (∀ i, i < k → done.getD i false = true) → (∀ j, j < (l ++ l2).length → (l ++ l2)[j]? = ops[k + j]?) → n + l2.length = e → HeadInv md ops e done →
    Region.lexHead md ops g (l ++ l2).length k done = true → wpG P ops w0 (fun a' => wpN P ops Lq l2 [] a') l a → MixQ P md ops w0 n e (fun done' A' a' => Region.seqB md ops g e done' = true ∧ Lq A' a') (l ++ l2).length done [] a
  | [], k, done, a, hkn, hdn, hl, hk, inv, hB, h => by
    have hkn' : k = n := by simpa using hkn
    exact MixQ.lexN hLq hsel hs hc hn l2 k done [] a (by omega) hdn hl (by omega) inv hB h
  | o :: l, k, done, a, hkn, hdn, hl, hk, inv, hB, h => by
    have h0 : ops[k]? = some o := by simpa using (hl 0 (by simp)).symm
    simp only [List.cons_append, List.length_cons, Region.lexHead, Bool.and_eq_true] at hB hkn
    obtain ⟨⟨hr, hf⟩, hB'⟩ := hB
    have hke : k < e := by omega
    have hr' : k ∈ Region.ready md ops done := by simpa using hr
    have hks : k < done.size := by rw [inv.size]; omega
    have hy : ∃ v, GY P ops w0 o v a ∧ wpG P ops w0 (fun a' => wpN P ops Lq l2 [] a') l (a.put o.dst v) := by
      unfold wpG at h
      by_cases hw : Region.wanted o (yielded ops a.tmps) = true
      · simp only [hw, if_true] at h
        obtain ⟨v, h1, h2⟩ := h
        exact ⟨v, .inl ⟨hw, h1⟩, h2⟩
      · simp only [hw] at h
        exact ⟨undef, .inr ⟨by simpa using hw, rfl⟩, h⟩
    obtain ⟨v, hy, hK⟩ := hy
    refine MixQ.first (fun _ _ _ _ hp h => ⟨h.1, hLq _ _ _ hp h.2⟩) h0 hsel hs hc hn hke (fun _ _ _ hL => seqB_ready hL.1) (l ++ l2).length done [] a inv (Region.free_spec h0 hf) hr' (.inl ⟨by omega, v, hy, ?_⟩)
    refine MixQ.lexG hLq hsel hs hc hn l2 l (k + 1) _ _ (by omega) (fun i hi => ?_) (fun j hj => by have := hl (j + 1) (by simp at hj ⊢; omega); simpa [Nat.add_assoc, Nat.add_comm 1 j] using this) hk (inv.set hr' hke) hB' hK
    by_cases hik : i = k
    · subst hik; simp [hks]
    · exact getD_set_true (hdn i (by omega))

/-- THE LAW: n operations that read or call, m new variables, a tail in its one order. -/
theorem wp_region_mix {id : Nat} {Q : Exit → Act → World → Prop} {a : Act} {w : World} {l : List Oper} (n m : Nat) (hm : P.follows .mixedOrders = true) (hB : Region.lexTailB .any l.toArray (n + m) = true)
    (h : wpG P l.toArray w (fun a' => wpN P l.toArray (fun A a'' => ∀ w', Wd w A w' → wpList P l.toArray Q (l.drop (n + m)) a'' w') ((l.drop n).take m) [] a') (l.take n) a) : (Code.region id l.toArray true).wp P Q a w := by
  simp only [Region.lexTailB, Bool.and_eq_true, decide_eq_true_eq] at hB
  obtain ⟨⟨⟨⟨hsel, hn⟩, hs⟩, hc⟩, hlex⟩ := hB
  have hn' : n + m < l.length := by simpa using hn
  have htl : (l.take n).length = n := by simp; omega
  have hml : ((l.drop n).take m).length = m := by simp; omega
  have hsum : (l.take n ++ (l.drop n).take m) = l.take (n + m) := by rw [List.take_add]
  have hsl : (l.take n ++ (l.drop n).take m).length = n + m := by rw [List.length_append, htl, hml]
  have hdl : (l.drop (n + m)).length = l.toArray.size - (n + m) := by simp
  have inv0 : HeadInv .any l.toArray (n + m) (Array.replicate l.toArray.size false) :=
    ⟨by simp, fun j oj _ hl => (by rw [getD_replicate_false] at hl; cases hl), fun t _ ht => getD_in (by simpa using ht) (getD_replicate_false _ _)⟩
  have H := MixQ.lexG (md := .any) (w0 := w) (n := n) (e := n + m) (g := l.toArray.size - (n + m)) (fun A A' a'' hp h w' hw' => h w' (hw'.perm hp)) hsel hs hc hn ((l.drop n).take m) (l.take n) 0 _ a (by omega) (fun i hi => by omega)
    (fun j hj => by
      have hj' : j < n + m := by rw [hsl] at hj; exact hj
      rw [hsum]
      simp [hj']) (by omega) inv0 (by rw [hsl]; exact hlex) h
  refine wp_region_any hm ?_
  have h2 := MixQ.any (Q' := Q) (g := l.toArray.size - (n + m)) (fun done A a' w' hw' hL => by
    have h3 := wpAny_of_seq (md := .any) (Q' := Q) (l.drop (n + m)) (n + m) done a' w' (fun j => by simp [List.getElem?_drop]) (by rw [hdl]; exact hL.1) (hL.2 w' hw')
    rwa [hdl] at h3) _ _ _ _ w.drew (show Wd w [] w.drew from ⟨(Below.refl _ _).drew, fun x hx => (by cases hx), by simp⟩) H
  rw [hsl, show n + m + (l.toArray.size - (n + m)) = l.toArray.size by omega] at h2
  exact h2
end
end Go.Proofs.YthjamghemmanfaaDoor
