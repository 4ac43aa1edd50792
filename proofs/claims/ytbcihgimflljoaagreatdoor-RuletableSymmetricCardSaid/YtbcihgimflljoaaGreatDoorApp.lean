/- Plain mathematics of the eight symmetries: composition, images of positions. -/
/- The walks of the functions on numbers of symmetries. -/
/- The walk of Apply. -/
import Derived.Test.YtbcihgimflljoaaGreatDoorMem
import Derived.Test.YtbcihgimflljoaaGreatDoorSmall
import Derived.Laws.BitsLemmas
namespace Go.Proofs.YtbcihgimflljoaaGreatDoor

/-- the composition of two numbers from 0 to 7 -/
def comp (a b : Nat) : Nat := if b < 4 then (if a < 4 then (a + b) % 4 else 4 + (a - 4 + b) % 4) else (if a < 4 then 4 + (b - 4 + 4 - a) % 4 else (b - 4 + 8 - a) % 4)
theorem comp_lt : ∀ a, a < 8 → ∀ b, b < 8 → comp a b < 8 := by decide
theorem comp_zero : ∀ a, a < 8 → comp a 0 = a := by decide
theorem zero_comp : ∀ a, a < 8 → comp 0 a = a := by decide
theorem comp_assoc : ∀ a, a < 8 → ∀ b, b < 8 → ∀ c, c < 8 → comp (comp a b) c = comp a (comp b c) := by decide +kernel

/-- the number of a symmetry -/
def md (k : Int) : Nat := (k % 8).toNat
theorem md_lt (k : Int) : md k < 8 := by unfold md; omega


/-- the image of a position under a symmetry -/
def turnX (k : Nat) (x y : Int) : Int := match k with | 0 => x | 1 => -y | 2 => -x | 3 => y | 4 => -x | 5 => -y | 6 => x | _ => y
def turnY (k : Nat) (x y : Int) : Int := match k with | 0 => y | 1 => x | 2 => -y | 3 => -x | 4 => y | 5 => -x | 6 => -y | _ => x
theorem eight {P : Nat → Prop} (h0 : P 0) (h1 : P 1) (h2 : P 2) (h3 : P 3) (h4 : P 4) (h5 : P 5) (h6 : P 6) (h7 : P 7) (k : Nat) (h : k < 8) : P k := by
  match k, h with
  | 0, _ => exact h0
  | 1, _ => exact h1
  | 2, _ => exact h2
  | 3, _ => exact h3
  | 4, _ => exact h4
  | 5, _ => exact h5
  | 6, _ => exact h6
  | 7, _ => exact h7
  | k + 8, h => omega

end Go.Proofs.YtbcihgimflljoaaGreatDoor
namespace Go.Proofs.YtbcihgimflljoaaGreatDoor
open Go.RowKit

theorem and7 (n : Int) : bits .and .i64 n 7 = n % 8 := by
  have h7 : (BitVec.ofInt 64 7).toNat = 2 ^ 3 - 1 := by decide
  have key : (BitVec.ofInt 64 n &&& BitVec.ofInt 64 7).toNat = (n % ((2 ^ 64 : Nat) : Int)).toNat % 2 ^ 3 := by
    rw [BitVec.toNat_and, BitVec.toNat_ofInt, h7, Nat.and_two_pow_sub_one_eq_mod]
  show IntKind.i64.wrap ((BitVec.ofInt 64 n &&& BitVec.ofInt 64 7).toNat : Nat) = n % 8
  rw [key, IntKind.wrap_i64]
  omega
theorem md_nat (k : Nat) (h : k < 8) : md (k : Int) = k := by unfold md; omega
theorem md_mod (k : Int) : k % 8 = (md k : Nat) := by unfold md; omega
theorem number_any (k : Int) (w : World) :
    Calls Tryz.prog 26 #[.int .i64 k] w fun e w' => e = .returned (.int .i64 (md k : Nat)) ∧ w = w' := by
  go_enter Tryz.func26, Tryz.ntmps26
  go_wp2
  go_ret
  exact ⟨congrArg Ending.returned (congrArg (Value.int IntKind.i64) ((and7 k).trans (md_mod k))), rfl⟩
end Go.Proofs.YtbcihgimflljoaaGreatDoor
namespace Go.Proofs.YtbcihgimflljoaaGreatDoor
open Go.RowKit

/-- the matrices' numbers -/
def mxx (m : Nat) : Int := match m with | 0 => 1 | 1 => 0 | 2 => -1 | 3 => 0 | 4 => -1 | 5 => 0 | 6 => 1 | _ => 0
def mxy (m : Nat) : Int := match m with | 0 => 0 | 1 => -1 | 2 => 0 | 3 => 1 | 4 => 0 | 5 => -1 | 6 => 0 | _ => 1
def myx (m : Nat) : Int := match m with | 0 => 0 | 1 => 1 | 2 => 0 | 3 => -1 | 4 => 0 | 5 => -1 | 6 => 0 | _ => 1
def myy (m : Nat) : Int := match m with | 0 => 1 | 1 => 0 | 2 => -1 | 3 => 0 | 4 => 1 | 5 => 0 | 6 => -1 | _ => 0
/-- the matrices lie in block 0 -/
def Mat (w : World) : Prop := 0 < w.heap.size ∧ ∀ m : Nat, m < 8 → w.cell? ⟨0, m * 4, none⟩ = some (.int .i64 (mxx m)) ∧ w.cell? ⟨0, m * 4 + 1, none⟩ = some (.int .i64 (mxy m)) ∧ w.cell? ⟨0, m * 4 + 2, none⟩ = some (.int .i64 (myx m)) ∧ w.cell? ⟨0, m * 4 + 3, none⟩ = some (.int .i64 (myy m))
section
variable {w w' : World}
theorem Mat.below {B : Nat} (h : Mat w) (hb : Below B w w') (hB : 0 < B) : Mat w' :=
  ⟨Nat.lt_of_lt_of_le h.1 hb.size, fun m hm => ⟨(hb.cell (p := ⟨0, _, none⟩) hB).trans (h.2 m hm).1, (hb.cell (p := ⟨0, _, none⟩) hB).trans (h.2 m hm).2.1, (hb.cell (p := ⟨0, _, none⟩) hB).trans (h.2 m hm).2.2.1, (hb.cell (p := ⟨0, _, none⟩) hB).trans (h.2 m hm).2.2.2⟩⟩
theorem Mat.alloc (h : Mat w) (o : Obj) : Mat (w.alloc o) := h.below ((Below.refl w.heap.size w).alloc (Nat.le_refl _) o) h.1
theorem Mat.drew (h : Mat w) : Mat w.drew := h
end
theorem apply_val (m : Nat) (x y : Int) (hm : m < 8) (hx : -4194304 ≤ x) (hx' : x ≤ 4194304) (hy : -4194304 ≤ y) (hy' : y ≤ 4194304) :
    wrap64 (wrap64 (mxx m * x) + wrap64 (mxy m * y)) = turnX m x y ∧ wrap64 (wrap64 (myx m * x) + wrap64 (myy m * y)) = turnY m x y := by
  refine eight (P := fun m => wrap64 (wrap64 (mxx m * x) + wrap64 (mxy m * y)) = turnX m x y ∧ wrap64 (wrap64 (myx m * x) + wrap64 (myy m * y)) = turnY m x y) ?_ ?_ ?_ ?_ ?_ ?_ ?_ ?_ m hm <;> simp only [mxx, mxy, myx, myy, turnX, turnY, wrap64] <;> omega
theorem turn_bd (m : Nat) (x y b : Int) (hm : m < 8) (hx : -b ≤ x) (hx' : x ≤ b) (hy : -b ≤ y) (hy' : y ≤ b) : -b ≤ turnX m x y ∧ turnX m x y ≤ b ∧ -b ≤ turnY m x y ∧ turnY m x y ≤ b := by
  refine eight (P := fun m => -b ≤ turnX m x y ∧ turnX m x y ≤ b ∧ -b ≤ turnY m x y ∧ turnY m x y ≤ b) ?_ ?_ ?_ ?_ ?_ ?_ ?_ ?_ m hm <;> simp only [turnX, turnY] <;> omega

theorem two_blk (w : World) (c1 c2 : Array Value) (t1 t2 : TypeId) :
    Blk ((w.alloc (.cells c1 t1)).alloc (.cells c2 t2)) w.heap.size t1 c1 ∧ Blk ((w.alloc (.cells c1 t1)).alloc (.cells c2 t2)) (w.heap.size + 1) t2 c2 ∧ Below w.heap.size w ((w.alloc (.cells c1 t1)).alloc (.cells c2 t2)) := by
  have s1 : (w.alloc (.cells c1 t1)).heap.size = w.heap.size + 1 := by simp
  have h1 := Blk.new w t1 c1
  have h2 := Blk.new (w.alloc (.cells c1 t1)) t2 c2
  rw [s1] at h2
  exact ⟨h1.alloc _, h2, ((Below.refl _ _).alloc (Nat.le_refl _) _).alloc (by omega) _⟩

theorem apply_any (k : Int) (x y : Int) (w : World) (hM : Mat w) (hx : -4194304 ≤ x) (hx' : x ≤ 4194304) (hy : -4194304 ≤ y) (hy' : y ≤ 4194304) :
    Calls Tryz.prog 9 #[.int .i64 k, .agg #[.int .i64 x, .int .i64 y]] w fun e w' => e = .returned (.agg #[.int .i64 (turnX (md k) x y), .int .i64 (turnY (md k) x y)]) ∧ Below w.heap.size w w' := by
  have H := Lib.hid (fun w => number_any k w)
  have hm := md_lt k
  have V := Lib.hid (apply_val (md k) x y hm hx hx' hy hy')
  generalize md k = m at H hm V ⊢
  obtain ⟨hz, hM⟩ := hM
  obtain ⟨m0, m1, m2, m3⟩ := hM m hm
  clear hx hx' hy hy' hM
  go_enter Tryz.func9, Tryz.ntmps9
  go_wp2_with (go_at_call 26; (with_reducible refine (H.out _).mono ?_); rintro e w' ⟨rfl, rfl⟩)
  exact bodyPost_ret (v := .agg #[.int .i64 (turnX m x y), .int .i64 (turnY m x y)]) (by simp [results, Tryz.results9, go_sem, V.out.1, V.out.2]) rfl ⟨rfl, (((Below.refl _ _).alloc (Nat.le_refl _) _).alloc (by simp) _).alloc (by simp; omega) _⟩
end Go.Proofs.YtbcihgimflljoaaGreatDoor
