/- Rows that the call owns: appends, and a list of nodes that grows beside a struct that holds it. -/
import Derived.Test.YtkdcciajihoimaaSh
import Derived.Deep.AppendLies
namespace Go.Proofs.Ytkdcciajihoimaa
open Go.RowKit

theorem Try.info_int : (Try.prog.info? 3).map (fun i => (i.zero, i.size, i.bytes)) = some (some (.int .i64 0), 1, 8) := by kernel_rfl
theorem Try.info_node : (Try.prog.info? 30).map (fun i => (i.zero, i.size, i.bytes)) = some (some (.agg #[.int .i64 0, .slice none 0 0]), 2, 32) := by kernel_rfl
/-- append of one value onto a row of the call's own, and where the new row lies -/
theorem wpList_append1L {P : Program} {w : World} {ops : Array Oper} {rest : List Oper} {o : Oper} {a : Act} {Q : Exit → Act → World → Prop} (hgd : o.guard = none) (s x : Operand) (t : TypeId)
    (ho : o.op = .call { callee := .builtin .append, args := #[s, x], argTypes := #[t, t] })
    (base : Nat) (e : TypeId) (i : TypeInfo) (z : Value) (bytes : Nat) (ht : P.underlying t = some (.slice e)) (hi : P.info? e = some i) (hz : i.zero = some z)
    (hsize : i.size = 1) (hby : i.bytes = bytes) (hzs : z.cells.size = 1)
    (A : Option Addr) (n c : Nat) (xs : List Value) (hs : a.eval s = .slice A n c) (hown : w.ownsRow base e 1 (.slice A n c) n xs) (u : Value)
    (hx : a.eval x = .slice (some ⟨w.heap.size, 0, none⟩) 1 1) (h1 : u.oneCell' = true) (h63 : n + 1 ≤ maxLen) (hbytes : (n + 1) * bytes ≤ 140737488355328) (hbase : base ≤ w.heap.size)
    (h : ∀ g' c' w', w'.ownsRow base e 1 (.slice (some ⟨g', 0, none⟩) (n + 1) c') (n + 1) (xs ++ [u]) → Below base w w' → (w.alloc (.cells #[u] e)).grownBy w' (Value.slice A n c).ownBlock → ((Value.slice A n c).ownBlock = some g' ∨ g' = w.heap.size + 1) → wpList P ops Q rest (a.put o.dst (.slice (some ⟨g', 0, none⟩) (n + 1) c')) w') :
    wpList P ops Q (o :: rest) a (w.alloc (.cells #[u] e)) := by
  refine wpList_append_lies _ hgd s x t ho base e i z 1 bytes ht hi hz hsize hby hzs (by decide) _ n xs hs (hown.alloc _) ⟨w.heap.size, 0, none⟩ 1 1 [u] hx rfl ?_ ?_ (by decide) h63 hbytes (by simp; omega) (w.heap.size + 1) (by simp) ?_
  · intro j v hj
    match j, hj with
    | 0, hj => simp at hj; subst hj; simp [Addr.add]
  · intro v hv; simp at hv; subst hv; exact h1
  · intro g' c' w' hown' hg hat _
    refine h g' c' w' hown' (Below.grown ((Below.refl base w).alloc hbase _) hg (by simp; omega) ?_) hg hat
    intro k hk
    exact (hown.lt k hk).1
/-- append of one struct of two cells onto a row of the call's own, and where the new row lies -/
theorem wpList_append2L {P : Program} {w : World} {ops : Array Oper} {rest : List Oper} {o : Oper} {a : Act} {Q : Exit → Act → World → Prop} (hgd : o.guard = none) (s x : Operand) (t : TypeId)
    (ho : o.op = .call { callee := .builtin .append, args := #[s, x], argTypes := #[t, t] })
    (base : Nat) (e : TypeId) (i : TypeInfo) (z : Value) (bytes : Nat) (ht : P.underlying t = some (.slice e)) (hi : P.info? e = some i) (hz : i.zero = some z)
    (hsize : i.size = 2) (hby : i.bytes = bytes) (hzs : z.cells.size = 2)
    (A : Option Addr) (n c : Nat) (xs : List Value) (hs : a.eval s = .slice A n c) (hown : w.ownsRow base e 2 (.slice A n c) n xs) (u v : Value)
    (hx : a.eval x = .slice (some ⟨w.heap.size, 0, none⟩) 1 1) (h1 : u.oneCell' = true) (h2 : v.oneCell' = true) (h63 : n + 1 ≤ maxLen) (hbytes : (n + 1) * bytes ≤ 140737488355328) (hbase : base ≤ w.heap.size)
    (h : ∀ g' c' w', w'.ownsRow base e 2 (.slice (some ⟨g', 0, none⟩) (n + 1) c') (n + 1) (xs ++ [u, v]) → Below base w w' → (w.alloc (.cells #[u, v] e)).grownBy w' (Value.slice A n c).ownBlock → ((Value.slice A n c).ownBlock = some g' ∨ g' = w.heap.size + 1) → wpList P ops Q rest (a.put o.dst (.slice (some ⟨g', 0, none⟩) (n + 1) c')) w') :
    wpList P ops Q (o :: rest) a (w.alloc (.cells #[u, v] e)) := by
  refine wpList_append_lies _ hgd s x t ho base e i z 2 bytes ht hi hz hsize hby hzs (by decide) _ n xs hs (hown.alloc _) ⟨w.heap.size, 0, none⟩ 1 1 [u, v] hx rfl ?_ ?_ (by decide) h63 hbytes (by simp; omega) (w.heap.size + 1) (by simp) ?_
  · intro j y hj
    match j, hj with
    | 0, hj => simp at hj; subst hj; simp [Addr.add]
    | 1, hj => simp at hj; subst hj; simp [Addr.add]
  · intro y hy; simp at hy; rcases hy with rfl | rfl <;> assumption
  · intro g' c' w' hown' hg hat _
    refine h g' c' w' hown' (Below.grown ((Below.refl base w).alloc hbase _) hg (by simp; omega) ?_) hg hat
    intro k hk
    exact (hown.lt k hk).1
/-- what the call owns stays owned behind a contract that turns nothing below the heap's size -/
theorem own_below2 {w w' : World} {base : Nat} {e : TypeId} {v : Value} {n : Nat} {xs : List Value} (h : w.ownsRow base e 2 v n xs) (hb : Below w.heap.size w w') : w'.ownsRow base e 2 v n xs := by
  refine ⟨h.1, ?_⟩
  rcases h.2 with hn | ⟨g, cap, cur, rfl, hb', hg, rest⟩
  · exact .inl hn
  · refine .inr ⟨g, cap, cur, rfl, hb', ?_, rest⟩
    rw [hb.block g (Array.getElem?_eq_some_iff.1 hg).1]; exact hg
/-- what the call owns stays owned behind a store elsewhere -/
theorem own_set {w : World} {base k : Nat} {e : TypeId} {v : Value} {n : Nat} {xs : List Value} {p : Addr} (h : w.ownsRow base e k v n xs) (hp : v.ownBlock ≠ some p.block) (u : Value) : (w.setCell p u).ownsRow base e k v n xs := by
  refine ⟨h.1, ?_⟩
  rcases h.2 with hn | ⟨g, cap, cur, rfl, hb', hg, rest⟩
  · exact .inl hn
  · refine .inr ⟨g, cap, cur, rfl, hb', ?_, rest⟩
    have hne : g ≠ p.block := fun e => hp (by rw [e]; rfl)
    rw [Below.heap_setCell w p u g hne]; exact hg
theorem own_base {w : World} {base base' : Nat} {k : Nat} {e : TypeId} {v : Value} {n : Nat} {xs : List Value} (h : w.ownsRow base e k v n xs) (hb : base' ≤ base) : w.ownsRow base' e k v n xs := by
  refine ⟨h.1, ?_⟩
  rcases h.2 with hn | ⟨g, cap, cur, h1, h2, rest⟩
  · exact .inl hn
  · exact .inr ⟨g, cap, cur, h1, Nat.le_trans hb h2, rest⟩

/-- the cells xs are j nodes, whose elements lie in blocks other than G -/
def Inn (w : World) (G : Nat → Prop) (xs : List Value) (j : Nat) (lv : Nat → Int) (nx : Nat → List Int) : Prop :=
  ∀ k, k < j → ∃ A' c', xs[k * 2]? = some (.int .i64 (lv k)) ∧ xs[k * 2 + 1]? = some (.slice A' (nx k).length c') ∧ Reads w w.heap.size A' (nx k).length (il (nx k)) ∧ (0 < (nx k).length → ∀ ad, A' = some ad → ¬ G ad.block)
section
variable {w w' : World} {G G' : Nat → Prop} {xs : List Value} {j : Nat} {lv : Nat → Int} {nx : Nat → List Int}
theorem Inn.below (h : Inn w G xs j lv nx) (hb : Below w.heap.size w w') : Inn w' G xs j lv nx := fun k hk => by
  obtain ⟨A', c', h1, h2, h3, h4⟩ := h k hk
  exact ⟨A', c', h1, h2, h3.later hb, h4⟩
/-- behind what turns blocks of G alone -/
theorem Inn.far (h : Inn w G xs j lv nx) (hs : w.heap.size ≤ w'.heap.size) (hb : ∀ b, b < w.heap.size → ¬ G b → w'.heap[b]? = w.heap[b]?) (hG : ∀ b, b < w.heap.size → G' b → G b) : Inn w' G' xs j lv nx := fun k hk => by
  obtain ⟨A', c', h1, h2, h3, h4⟩ := h k hk
  refine ⟨A', c', h1, h2, ⟨h3.1, fun hn => ?_⟩, ?_⟩
  · obtain ⟨ad, e, hlt, hc⟩ := h3.2 hn
    refine ⟨ad, e, Nat.lt_of_lt_of_le hlt hs, fun i u hu => ?_⟩
    rw [← hc i u hu]
    exact World.cell?_of_block (by rw [block_of_add]; exact hb _ hlt (h4 hn ad e))
  · intro hn ad e hg
    obtain ⟨ad', e', hlt, _⟩ := h3.2 hn
    rw [e] at e'
    injection e' with e'
    subst e'
    exact h4 hn ad e (hG _ hlt hg)
theorem Inn.push (h : Inn w G xs j lv nx) (hl : xs.length = j * 2) {A : Option Addr} {c : Nat} (hr : Reads w w.heap.size A (nx j).length (il (nx j))) (hA : 0 < (nx j).length → ∀ ad, A = some ad → ¬ G ad.block) : Inn w G (xs ++ [.int .i64 (lv j), .slice A (nx j).length c]) (j + 1) lv nx := fun k hk => by
  by_cases e : k < j
  · obtain ⟨A', c', h1, h2, h3, h4⟩ := h k e
    exact ⟨A', c', by rw [List.getElem?_append_left (by omega)]; exact h1, by rw [List.getElem?_append_left (by omega)]; exact h2, h3, h4⟩
  · obtain rfl : k = j := by omega
    exact ⟨A, c, by rw [List.getElem?_append_right (by omega), hl]; simp, by rw [List.getElem?_append_right (by omega), hl]; simp, hr, hA⟩
theorem NR.of_own {base g c : Nat} {e : TypeId} (h : w.ownsRow base e 2 (.slice (some ⟨g, 0, none⟩) j c) j xs) (hi : Inn w G xs j lv nx) : NR w w.heap.size (some ⟨g, 0, none⟩) j lv nx := fun hj => by
  refine ⟨g, 0, rfl, (h.lt g rfl).2, fun k hk => ?_⟩
  have hl := h.1
  obtain ⟨A', c', h1, h2, h3, _⟩ := hi k hk
  refine ⟨A', c', ?_, ?_, h3⟩
  · rw [Nat.zero_add, h.cellAt (k * 2) (by omega), h1]
  · rw [Nat.zero_add, h.cellAt (k * 2 + 1) (by omega), h2]
end
end Go.Proofs.Ytkdcciajihoimaa
