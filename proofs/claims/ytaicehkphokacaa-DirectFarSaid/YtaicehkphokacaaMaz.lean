/- Blocks laid one after the other. -/
import Derived.Test.YtaicehkphokacaaMaq
namespace Go.Proofs.Ytaicehkphokacaa
open Go.RowKit

/-- blocks laid one after the other -/
def lay : World → List (Array Value × TypeId) → World
  | w, [] => w
  | w, (c, t) :: r => lay (w.alloc (.cells c t)) r
theorem lay_keep {g : Nat} {t : TypeId} {c : Array Value} : ∀ (r : List (Array Value × TypeId)) (w : World), Blk w g t c → Blk (lay w r) g t c
  | [], _, h => h
  | (c, t) :: r, w, h => lay_keep r _ (h.alloc _)
theorem lay_blk {t : TypeId} {c : Array Value} : ∀ (r : List (Array Value × TypeId)) (w : World) (k : Nat), r[k]? = some (c, t) → Blk (lay w r) (w.heap.size + k) t c
  | [], _, _, h => by simp at h
  | (c', t') :: r, w, 0, h => by
    simp only [List.getElem?_cons_zero, Option.some.injEq, Prod.mk.injEq] at h
    obtain ⟨rfl, rfl⟩ := h
    exact lay_keep r _ (Blk.new w _ _)
  | (c', t') :: r, w, k + 1, h => by
    have := lay_blk r (w.alloc (.cells c' t')) k (by simpa using h)
    rw [World.size_alloc] at this
    rw [show w.heap.size + (k + 1) = w.heap.size + 1 + k by omega]
    exact this
theorem lay_below : ∀ (r : List (Array Value × TypeId)) (w : World), Below w.heap.size w (lay w r)
  | [], w => Below.refl _ _
  | (c, t) :: r, w => by
    have h := lay_below r (w.alloc (.cells c t))
    exact ((Below.refl _ w).alloc (Nat.le_refl _) _).trans (h.mono (by simp))
theorem balloc {w0 w : World} (h : Below w0.heap.size w0 w) (o : Obj) : Below w0.heap.size w0 (w.alloc o) := h.alloc h.size o
theorem blk2 (w : World) (c1 c2 : Array Value) (t1 t2 : TypeId) : Blk ((w.alloc (.cells c1 t1)).alloc (.cells c2 t2)) (w.heap.size + 1) t2 c2 := lay_blk [(c1, t1), (c2, t2)] w 1 rfl
end Go.Proofs.Ytaicehkphokacaa
