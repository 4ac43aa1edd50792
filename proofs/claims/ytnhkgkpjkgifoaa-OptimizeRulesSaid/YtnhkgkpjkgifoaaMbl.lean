/- Append of one struct of three cells in the place of an old one. -/
import Derived.Test.YtnhkgkpjkgifoaaMbk
import Derived.ArgAppend
namespace Go.Proofs.Ytnhkgkpjkgifoaa
open Go.RowKit

theorem wpList_append_in3 {P : Program} {w : World} {ops : Array Oper} {rest : List Oper} {o : Oper} {a : Act} {Q : Exit → Act → World → Prop} (hgd : o.guard = none) (s x : Operand) (t : TypeId)
    (ho : o.op = .call { callee := .builtin .append, args := #[s, x], argTypes := #[t, t] })
    (base : Nat) (e : TypeId) (i : TypeInfo) (ht : P.underlying t = some (.slice e)) (hi : P.info? e = some i) (hsize : i.size = 3)
    (g n r c : Nat) (xs : List Value) (hs : a.eval s = .slice (some ⟨g, 0, none⟩) r c) (hown : w.ownsRow base e 3 (.slice (some ⟨g, 0, none⟩) n c) n xs) (hr : r < n) (u v y : Value)
    (hx : a.eval x = .slice (some ⟨w.heap.size, 0, none⟩) 1 1) (h1 : u.oneCell' = true) (h2 : v.oneCell' = true) (h3 : y.oneCell' = true)
    (h : wpList P ops Q rest (a.put o.dst (.slice (some ⟨g, 0, none⟩) (r + 1) c)) ((((w.alloc (.cells #[u, v, y] e)).setCell ⟨g, r * 3, none⟩ u).setCell ⟨g, r * 3 + 1, none⟩ v).setCell ⟨g, r * 3 + 2, none⟩ y)) :
    wpList P ops Q (o :: rest) a (w.alloc (.cells #[u, v, y] e)) := by
  refine wpList_plain hgd fun K hK' => ?_
  have hown2 := hown.alloc (.cells #[u, v, y] e)
  have hnc : n ≤ c := by
    rcases hown.2 with ⟨hv, _⟩ | ⟨g', cap', cur, hv, _, _, hnc, _⟩
    · simp at hv
    · simp only [Value.slice.injEq, Option.some.injEq, Addr.mk.injEq, and_true, true_and] at hv
      obtain ⟨_, rfl⟩ := hv
      exact hnc
  have hcell : ∀ j z, ([u, v, y] : List Value)[j]? = some z → (w.alloc (.cells #[u, v, y] e)).cell? ((⟨w.heap.size, 0, none⟩ : Addr).add j) = some z := by
    intro j z hj
    match j, hj with
    | 0, hj => simp at hj; subst hj; simp [Addr.add]
    | 1, hj => simp at hj; subst hj; simp [Addr.add]
    | 2, hj => simp at hj; subst hj; simp [Addr.add]
  have hone : ∀ z ∈ ([u, v, y] : List Value), z.oneCell' = true := by
    intro z hz; simp at hz; rcases hz with rfl | rfl | rfl <;> assumption
  have hr2 := run_append_room_cells (P := P) (w.alloc (.cells #[u, v, y] e)) t o.type e i ht hi g 0 r c ⟨w.heap.size, 0, none⟩ 1 1 [u, v, y] (by simp [hsize]) hcell hone (by omega)
    (fun j hj => by
      have hj : j < 3 := hj
      rw [hsize, hown2.cellAt (0 + r * 3 + j) (by omega)]
      have := hown2.1
      rw [List.getElem?_eq_getElem (by omega)]
      rfl)
    (fun j _ => hown2.frozenAt _)
  rw [hsize, Nat.zero_add] at hr2
  unfold Oper.wp
  simp [execOp, ho, resolve, invoke, builtin, hs, hx, hr2, Result.andThen]
  exact hK' _ _ h
end Go.Proofs.Ytnhkgkpjkgifoaa
