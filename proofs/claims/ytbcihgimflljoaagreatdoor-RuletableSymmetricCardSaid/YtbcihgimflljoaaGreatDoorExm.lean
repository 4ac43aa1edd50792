/- The table of the first example, as a value. -/
import Derived.Test.YtbcihgimflljoaaGreatDoorAns
import Derived.Test.YtbcihgimflljoaaGreatDoorPrx
namespace Go.Proofs.YtbcihgimflljoaaGreatDoor
open Go.RowKit

/-- the table of the first example -/
def T0 : Tab := ⟨2, 0, 3, lf [(-1, 0), (0, 0), (1, 0)], 1, fun _ => [0, 1], 2, fun k => if k = 0 then [1, -1, 0] else [-1, 1, -1], fun k => if k = 0 then 1 else 0⟩
theorem t0_rt : rt T0 = true := by decide +kernel
theorem t0_1 : nx T0 [1, 0, 0] = 1 := by decide +kernel
theorem t0_2 : nx T0 [1, 1, 1] = 0 := by decide +kernel
theorem t0_3 : nx T0 [0, 0, 1] = 0 := by decide +kernel
theorem t0_4 : nx T0 [0, 1, 1] = 1 := by decide +kernel
theorem t0_5 : av T0 [0, 1, 0] (T0.ri 1) (T0.ro 1) = (0, true) := by decide +kernel
theorem t0_bd : Bd T0 := by
  refine ⟨by decide, by decide, by decide, fun k _ => (by decide : 2 ≤ 1000), fun k _ => ?_⟩
  show (if k = 0 then [(1 : Int), -1, 0] else [-1, 1, -1]).length ≤ 1000
  split <;> decide
/-- the table of one row that the examples build -/
def T1 : Tab := ⟨2, 1, 5, lf N1, 0, fun _ => [], 1, fun _ => [1, 0, 0, 0, 0], fun _ => 1⟩
theorem t1_rt : rt T1 = true := by decide +kernel
theorem t1_1 : nx T1 [0, 0, 0, 1, 0] = 1 := by decide +kernel
theorem t1_bd : Bd T1 := ⟨by decide, by decide, by decide, fun k hk => absurd hk (Nat.not_lt_zero k), fun k _ => (by decide : 5 ≤ 1000)⟩
/-- the empty table -/
def T2 : Tab := ⟨0, 0, 0, lf [], 0, fun _ => [], 0, fun _ => [], fun _ => 0⟩
theorem t2_rt : rt T2 = false := by decide +kernel
theorem reads_cells {w : World} {g : Nat} {t : TypeId} {u : Array Value} {xs : List Value} (h : Blk w g t u) (hx : ∀ (j : Nat) (v : Value), xs[j]? = some v → u[j]? = some v) : Reads w w.heap.size (some ⟨g, 0, none⟩) xs.length xs := by
  refine ⟨rfl, fun _ => ⟨_, rfl, h.lt, fun j v hv => ?_⟩⟩
  rw [show (⟨g, 0, none⟩ : Addr).add j = ⟨g, j, none⟩ by unfold Addr.add; split <;> simp_all, h.cell]
  exact hx j v hv
theorem made_tr {R H : Nat} {X : Va} {Y Z : Ra} {w : World} (h : Made R H X Y Z w) : TR w (some ⟨H, 0, none⟩) (some ⟨X.gV, 0, none⟩) (some ⟨Z.gW, 0, none⟩) T0 := by
  obtain ⟨_, u0, u1, u2, u3⟩ := h.vgood
  obtain ⟨_, y0, y1, y2⟩ := h.ygood
  obtain ⟨_, z0, z1, z2⟩ := h.zgood
  have hc := h.rows.cells (g := Z.gW) rfl
  have hl := (h.rows.lt Z.gW rfl).2
  have ad : ∀ j, (⟨Z.gW, 0, none⟩ : Addr).add j = ⟨Z.gW, j, none⟩ := fun j => by unfold Addr.add; split <;> simp_all
  refine ⟨reads_ln h.hood h.hood.lt, fun _ => ⟨_, rfl, h.var.2.2.lt, fun k hk => ?_⟩, fun _ => ⟨_, _, rfl, hl, fun k hk => ?_⟩⟩
  · have hk : k < 1 := hk
    obtain rfl : k = 0 := by omega
    refine ⟨some ⟨X.gS, 0, none⟩, X.cS, ?_, reads_cells (xs := il [0, 1]) h.var.1 (fun j v hv => ?_)⟩
    · rw [show (⟨X.gV, 0, none⟩ : Addr).add 0 = ⟨X.gV, 0, none⟩ by unfold Addr.add; split <;> simp_all, h.var.2.2.cell, u3]
      rfl
    · match j, hv with
      | 0, hv => rw [u0]; exact hv
      | 1, hv => rw [u1]; exact hv
  · have hk : k < 2 := hk
    match k, hk with
    | 0, _ =>
      refine ⟨some ⟨Y.gI, 0, none⟩, Y.cI, ?_, reads_cells (xs := il [1, -1, 0]) h.i1 (fun j v hv => ?_), ?_⟩
      · rw [← ad]; exact hc 0 _ rfl
      · match j, hv with
        | 0, hv => rw [y0]; exact hv
        | 1, hv => rw [y1]; exact hv
        | 2, hv => rw [y2]; exact hv
      · rw [← ad]; exact hc 1 _ rfl
    | 1, _ =>
      refine ⟨some ⟨Z.gI, 0, none⟩, Z.cI, ?_, reads_cells (xs := il [-1, 1, -1]) h.i2 (fun j v hv => ?_), ?_⟩
      · rw [← ad]; exact hc 2 _ rfl
      · match j, hv with
        | 0, hv => rw [z0]; exact hv
        | 1, hv => rw [z1]; exact hv
        | 2, hv => rw [z2]; exact hv
      · rw [← ad]; exact hc 3 _ rfl
end Go.Proofs.YtbcihgimflljoaaGreatDoor
