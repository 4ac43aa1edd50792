/- The walks of point.Compare, said so: it draws, it lays blocks, and it turns nothing else. -/
import Derived.Test.YtgnnemlnjflifaaDoorCmp
import Derived.Sort.Grow
namespace Go.Proofs.YtgnnemlnjflifaaDoor
open Go.RowKit

/-- w' is w some draws later, with some blocks laid behind it -/
def Grown (w w' : World) : Prop := ∃ q os, w' = Go.Sort.grow (w.drewN q) os
section
variable {w w1 w2 : World}
theorem Grown.refl (w : World) : Grown w w := ⟨0, #[], by rw [Go.Sort.grow_empty]; rfl⟩
theorem Grown.trans (h : Grown w w1) (h' : Grown w1 w2) : Grown w w2 := by
  obtain ⟨q, os, rfl⟩ := h
  obtain ⟨q', os', rfl⟩ := h'
  exact ⟨q + q', os ++ os', by show Go.Sort.grow (Go.Sort.grow ((w.drewN q).drewN q') os) os' = _; rw [Go.Sort.grow_grow, World.drewN_drewN]⟩
theorem Grown.alloc (h : Grown w w1) (o : Obj) : Grown w (w1.alloc o) := h.trans ⟨0, #[o], by rw [Go.Sort.alloc_eq_grow]; rfl⟩
theorem Grown.drew (h : Grown w w1) : Grown w w1.drew := h.trans ⟨1, #[], by rw [Go.Sort.grow_empty]; rfl⟩
theorem Grown.below (h : Grown w w1) : Below w.heap.size w w1 := by
  obtain ⟨q, os, rfl⟩ := h
  refine ⟨rfl, rfl, rfl, ?_, fun g hg => ?_⟩
  · rw [Go.Sort.size_grow]; exact Nat.le_add_right _ _
  · show ((w.drewN q).heap ++ os)[g]? = _
    rw [Array.getElem?_append_left (by exact hg)]
    rfl
end

/-- a world some draws and blocks behind w0 -/
structure GrW (w0 : World) where
  w : World
  grown : Grown w0 w
instance (w0 : World) : Inhabited (GrW w0) := ⟨⟨w0, Grown.refl w0⟩⟩
theorem GrW.of_call {P : Program} {w0 : World} (p : GrW w0) {f : FuncId} {args : Array Value} {v : Value} (h : Calls P f args p.w fun e w' => e = .returned v ∧ Grown p.w w') :
    Calls P f args p.w fun e w'' => e = .returned v ∧ ∃ q : GrW w0, w'' = q.w :=
  h.mono fun _ w' ⟨he, hb⟩ => ⟨he, ⟨w', p.grown.trans hb⟩, rfl⟩
theorem GrW.cell {w0 : World} {a : Addr} {v : Value} (hb : a.block < w0.heap.size) (h : w0.cell? a = some v) (p : GrW w0) : p.w.cell? a = some v := (p.grown.below.cell hb).trans h
theorem wp_region_grow {P : Program} {id : Nat} {Q : Exit → Act → World → Prop} {a : Act} {w : World} {l : List Oper} (w0 : World) (hm : P.follows .mixedOrders = true) (hB : Region.lexB .any l.toArray = true) (h0 : Grown w0 w)
    (h : wpQuiet P l.toArray (fun w' => ∃ p : GrW w0, w' = p.w) (fun a' => ∀ w', (∃ p : GrW w0, w' = p.w) → Q .normal a' w') l a) : (Code.region id l.toArray true).wp P Q a w :=
  wp_region_quiet (C := fun w' => ∃ p : GrW w0, w' = p.w) hm hB ⟨⟨w.drew, h0.drew⟩, rfl⟩ (by simpa using h)
theorem wp_region_grow_tail {P : Program} {id : Nat} {Q : Exit → Act → World → Prop} {a : Act} {w : World} {l : List Oper} (w0 : World) (n : Nat) (hm : P.follows .mixedOrders = true) (hB : Region.lexTailB .any l.toArray n = true) (h0 : Grown w0 w)
    (h : wpQuiet P l.toArray (fun w' => ∃ p : GrW w0, w' = p.w) (fun a' => ∀ w', (∃ p : GrW w0, w' = p.w) → wpList P l.toArray Q (l.drop n) a' w') (l.take n) a) : (Code.region id l.toArray true).wp P Q a w :=
  wp_region_quiet_tail (fun w' => ∃ p : GrW w0, w' = p.w) n hm hB ⟨⟨w.drew, h0.drew⟩, rfl⟩ h
theorem grown_quiet {P : Program} {f : FuncId} {args : Array Value} {w : World} {v : Value} (h : Calls P f args w fun e w' => e = .returned v ∧ w = w') : Calls P f args w fun e w' => e = .returned v ∧ Grown w w' :=
  h.mono fun _ _ ⟨he, hw⟩ => ⟨he, hw ▸ Grown.refl _⟩

set_option maxHeartbeats 1000000 in
theorem pcompare_grow (x y u v : Int) (w : World) :
    Calls Tryd.prog 24 #[.agg #[.int .i64 x, .int .i64 y], .agg #[.int .i64 u, .int .i64 v]] w fun e w' => e = .returned (.int .i64 (or2 (sg y v) (sg x u))) ∧ Grown w w' := by
  have K1 := (Blk.new w 27 #[.int .i64 x, .int .i64 y]).alloc (.cells #[.int .i64 u, .int .i64 v] 27)
  have K2 := Blk.new (w.alloc (.cells #[.int .i64 x, .int .i64 y] 27)) 27 #[.int .i64 u, .int .i64 v]
  rw [show (w.alloc (.cells #[.int .i64 x, .int .i64 y] 27)).heap.size = w.heap.size + 1 by simp] at K2
  have B2 : Grown w ((w.alloc (.cells #[.int .i64 x, .int .i64 y] 27)).alloc (.cells #[.int .i64 u, .int .i64 v] 27)) := ((Grown.refl _).alloc _).alloc _
  have C1 := Lib.hid cmp_any
  go_enter Tryd.func24, Tryd.ntmps24
  go_wp2_with fail
  generalize (w.alloc (.cells #[.int .i64 x, .int .i64 y] 27)).alloc (.cells #[.int .i64 u, .int .i64 v] 27) = w0 at K1 K2 B2 ⊢
  have k10 := fun p : GrW w0 => (K1.below p.grown.below K1.lt).two.1
  have k11 := fun p : GrW w0 => (K1.below p.grown.below K1.lt).two.2.1
  have k20 := fun p : GrW w0 => (K2.below p.grown.below K2.lt).two.1
  have k21 := fun p : GrW w0 => (K2.below p.grown.below K2.lt).two.2.1
  have B2 := Lib.hid B2
  clear K1 K2
  refine wp_region_grow_tail w0 10 (by kernel_rfl) (by kernel_rfl) (Grown.refl _) ?_
  simp only [List.take_succ_cons, List.take_zero, List.drop_succ_cons, List.drop_zero]
  repeat (quiet_step (first | (go_at_call 30; with_reducible exact GrW.of_call _ (grown_quiet (C1.out _ _ _)))))
  refine wpQuiet_nil ?_
  rintro w' ⟨p, rfl⟩
  have PB := Lib.hid p.grown
  clear k10 k11 k20 k21
  generalize p.w = w1 at PB ⊢
  go_wp2_with (go_at_call 29; refine (or_any _ _ _ 3 _ (Blk.new _ _ _)).mono ?_; rintro e w2 ⟨rfl, rfl⟩)
  go_ret
  exact ⟨rfl, (B2.out.trans PB.out).alloc _⟩

end Go.Proofs.YtgnnemlnjflifaaDoor
