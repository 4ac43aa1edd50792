/- The walk of Apply. -/
import Derived.Test.YtgnnemlnjflifaaDoorNum
namespace Go.Proofs.YtgnnemlnjflifaaDoor
open Go.RowKit

/-- the matrices' numbers -/
def mxx (m : Nat) : Int := match m with | 0 => 1 | 1 => 0 | 2 => -1 | 3 => 0 | 4 => -1 | 5 => 0 | 6 => 1 | _ => 0
def mxy (m : Nat) : Int := match m with | 0 => 0 | 1 => -1 | 2 => 0 | 3 => 1 | 4 => 0 | 5 => -1 | 6 => 0 | _ => 1
def myx (m : Nat) : Int := match m with | 0 => 0 | 1 => 1 | 2 => 0 | 3 => -1 | 4 => 0 | 5 => -1 | 6 => 0 | _ => 1
def myy (m : Nat) : Int := match m with | 0 => 1 | 1 => 0 | 2 => -1 | 3 => 0 | 4 => 1 | 5 => 0 | 6 => -1 | _ => 0
/-- the matrices lie in block 0 -/
def Mat (w : World) : Prop := 0 < w.heap.size ∧ ∀ m : Nat, m < 8 → w.cell? ⟨0, m * 4, none⟩ = some (.int .i64 (mxx m)) ∧ w.cell? ⟨0, m * 4 + 1, none⟩ = some (.int .i64 (mxy m)) ∧ w.cell? ⟨0, m * 4 + 2, none⟩ = some (.int .i64 (myx m)) ∧ w.cell? ⟨0, m * 4 + 3, none⟩ = some (.int .i64 (myy m))
section
variable {w w' : World}
theorem Mat.below {B : Nat} (h : Mat w) (hb : Below B w w') (hB : 0 < B) : Mat w' :=
  ⟨Nat.lt_of_lt_of_le h.1 hb.size, fun m hm => ⟨(hb.cell (p := ⟨0, _, none⟩) hB).trans (h.2 m hm).1, (hb.cell (p := ⟨0, _, none⟩) hB).trans (h.2 m hm).2.1, (hb.cell (p := ⟨0, _, none⟩) hB).trans (h.2 m hm).2.2.1, (hb.cell (p := ⟨0, _, none⟩) hB).trans (h.2 m hm).2.2.2⟩⟩
theorem Mat.alloc (h : Mat w) (o : Obj) : Mat (w.alloc o) := h.below ((Below.refl w.heap.size w).alloc (Nat.le_refl _) o) h.1
theorem Mat.drew (h : Mat w) : Mat w.drew := h
end
theorem apply_val (m : Nat) (x y : Int) (hm : m < 8) (hx : -4194304 ≤ x) (hx' : x ≤ 4194304) (hy : -4194304 ≤ y) (hy' : y ≤ 4194304) :
    wrap64 (wrap64 (mxx m * x) + wrap64 (mxy m * y)) = turnX m x y ∧ wrap64 (wrap64 (myx m * x) + wrap64 (myy m * y)) = turnY m x y := by
  refine eight (P := fun m => wrap64 (wrap64 (mxx m * x) + wrap64 (mxy m * y)) = turnX m x y ∧ wrap64 (wrap64 (myx m * x) + wrap64 (myy m * y)) = turnY m x y) ?_ ?_ ?_ ?_ ?_ ?_ ?_ ?_ m hm <;> simp only [mxx, mxy, myx, myy, turnX, turnY, wrap64] <;> omega
theorem turn_bd (m : Nat) (x y b : Int) (hm : m < 8) (hx : -b ≤ x) (hx' : x ≤ b) (hy : -b ≤ y) (hy' : y ≤ b) : -b ≤ turnX m x y ∧ turnX m x y ≤ b ∧ -b ≤ turnY m x y ∧ turnY m x y ≤ b := by
  refine eight (P := fun m => -b ≤ turnX m x y ∧ turnX m x y ≤ b ∧ -b ≤ turnY m x y ∧ turnY m x y ≤ b) ?_ ?_ ?_ ?_ ?_ ?_ ?_ ?_ m hm <;> simp only [turnX, turnY] <;> omega

theorem two_blk (w : World) (c1 c2 : Array Value) (t1 t2 : TypeId) :
    Blk ((w.alloc (.cells c1 t1)).alloc (.cells c2 t2)) w.heap.size t1 c1 ∧ Blk ((w.alloc (.cells c1 t1)).alloc (.cells c2 t2)) (w.heap.size + 1) t2 c2 ∧ Below w.heap.size w ((w.alloc (.cells c1 t1)).alloc (.cells c2 t2)) := by
  have s1 : (w.alloc (.cells c1 t1)).heap.size = w.heap.size + 1 := by simp
  have h1 := Blk.new w t1 c1
  have h2 := Blk.new (w.alloc (.cells c1 t1)) t2 c2
  rw [s1] at h2
  exact ⟨h1.alloc _, h2, ((Below.refl _ _).alloc (Nat.le_refl _) _).alloc (by omega) _⟩

theorem apply_any (k : Int) (x y : Int) (w : World) (hM : Mat w) (hx : -4194304 ≤ x) (hx' : x ≤ 4194304) (hy : -4194304 ≤ y) (hy' : y ≤ 4194304) :
    Calls Tryd.prog 31 #[.int .i64 k, .agg #[.int .i64 x, .int .i64 y]] w fun e w' => e = .returned (.agg #[.int .i64 (turnX (md k) x y), .int .i64 (turnY (md k) x y)]) ∧ Below w.heap.size w w' := by
  have H := Lib.hid (fun w => number_any k w)
  have hm := md_lt k
  have V := Lib.hid (apply_val (md k) x y hm hx hx' hy hy')
  generalize md k = m at H hm V ⊢
  obtain ⟨hz, hM⟩ := hM
  obtain ⟨m0, m1, m2, m3⟩ := hM m hm
  clear hx hx' hy hy' hM
  go_enter Tryd.func31, Tryd.ntmps31
  go_wp2_with (go_at_call 35; (with_reducible refine (H.out _).mono ?_); rintro e w' ⟨rfl, rfl⟩)
  exact bodyPost_ret (v := .agg #[.int .i64 (turnX m x y), .int .i64 (turnY m x y)]) (by simp [results, Tryd.results31, go_sem, V.out.1, V.out.2]) rfl ⟨rfl, (((Below.refl _ _).alloc (Nat.le_refl _) _).alloc (by simp) _).alloc (by simp; omega) _⟩
end Go.Proofs.YtgnnemlnjflifaaDoor
