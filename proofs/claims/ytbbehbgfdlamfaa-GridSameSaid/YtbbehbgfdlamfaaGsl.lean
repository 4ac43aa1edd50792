/- Small lemmas on rows of cells, out of older texts. -/
import Derived.Test.YtbbehbgfdlamfaaFr
import Derived.Test.YtbbehbgfdlamfaaCPCell
import Derived.Deep.RegionHeldLaw
import Derived.Deep.OwnRows
namespace Go.Proofs.Ytbbehbgfdlamfaa
open Go.RowKit
/-- gates as cells -/
def cg (l : List C3) : List Value := l.flatMap fun g => [.int .i64 g.1, .int .i64 g.2.1, .int .i64 g.2.2]
theorem cg_len (l : List C3) : (cg l).length = l.length * 3 := by
  induction l with
  | nil => rfl
  | cons x l ih => simp only [cg, List.flatMap_cons, List.length_append, List.length_cons, List.length_nil] at ih ⊢; omega
/-- behind a value laid and an append onto a row -/
theorem fr_app1 {wa w7 : World} {V : Option Addr} {j v gg : Nat} {o : Obj} (hg : (wa.alloc o).grownBy w7 (Value.slice V j v).ownBlock) (hat : (Value.slice V j v).ownBlock = some gg ∨ gg = wa.heap.size + 1) : Fr (ob V) wa (ob (some ⟨gg, 0, none⟩)) w7 := by
  have h2 := hg.size
  rw [World.size_alloc] at h2
  refine ⟨hg.os, hg.tape, hg.output, by omega, fun k hk hn => ?_, fun k hk => ?_⟩
  · rw [hg.block k (by rw [World.size_alloc]; omega) (fun e => hn (ob_own.2 e.symm)), Below.heap_alloc _ _ k (by omega)]
  · have e : gg = k := by simpa [ob, Value.ownBlock] using hk
    subst e
    rcases hat with h | h
    · exact .inl (ob_own.2 h)
    · right; omega
theorem cg_at : ∀ (gs : List C3) (k : Nat), k < gs.length → (cg gs)[k * 3]? = some (.int .i64 (gs.getD k (0, 0, 0)).1) ∧ (cg gs)[k * 3 + 1]? = some (.int .i64 (gs.getD k (0, 0, 0)).2.1) ∧ (cg gs)[k * 3 + 2]? = some (.int .i64 (gs.getD k (0, 0, 0)).2.2)
  | [], _, h => absurd h (Nat.not_lt_zero _)
  | x :: r, 0, _ => by simp [cg]
  | x :: r, k + 1, h => by
    have h1 := cg_at r k (by simpa using h)
    have e : cg (x :: r) = .int .i64 x.1 :: .int .i64 x.2.1 :: .int .i64 x.2.2 :: cg r := by simp [cg]
    rw [e, show (k + 1) * 3 = k * 3 + 1 + 1 + 1 by omega]
    simpa using h1
/-- gates of a row, read -/
theorem creads_cg {w : World} {base : Nat} {e : TypeId} {A : Option Addr} {c : Nat} {gs : List C3} (h : w.ownsRow base e 3 (.slice A gs.length c) gs.length (cg gs)) : CReads w w.heap.size A gs.length (fun k => gs.getD k (0, 0, 0)) := fun hn => by
  obtain ⟨g, cap, hv, _, hg⟩ := h.form (by omega)
  injection hv with h1 _ h3
  subst h1 h3
  refine ⟨g, 0, rfl, (h.lt g rfl).2, fun k hk => ?_⟩
  obtain ⟨c1, c2, c3⟩ := cg_at gs k hk
  have hl := cg_len gs
  simp only [Nat.zero_add]
  refine ⟨?_, ?_, ?_⟩
  · rw [h.cellAt (k * 3) (by omega), c1]
  · rw [h.cellAt (k * 3 + 1) (by omega), c2]
  · rw [h.cellAt (k * 3 + 2) (by omega), c3]
theorem grown_drew {w w' : World} {v : Option Nat} (h : w.drew.grownBy w' v) : w.grownBy w' v := ⟨h.os, h.tape, h.output, h.size, h.block⟩
theorem own_drew {w : World} {base : Nat} {e : TypeId} {size : Nat} {v : Value} {n : Nat} {xs : List Value} (h : w.ownsRow base e size v n xs) : w.drew.ownsRow base e size v n xs := h
end Go.Proofs.Ytbbehbgfdlamfaa
