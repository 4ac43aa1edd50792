/- The walk of subtract. -/
import Derived.Test.YtckkbeknjipddaaDoorAdd
import Derived.Deep.RegionHeld3
import Derived.Deep.DrawnRows
namespace Go.Proofs.YtckkbeknjipddaaDoor
open Go.RowKit

attribute [local go_sem ↓] Go.wp_at_zero Go.wp_at_succ

def subC (xs ys : List Nat) : Nat → Nat
  | 0 => 1
  | i + 1 => (xs.getD i 0 + (4294967295 - ys.getD i 0) + subC xs ys i) / 4294967296
def subD (xs ys : List Nat) (i : Nat) : Nat := (xs.getD i 0 + (4294967295 - ys.getD i 0) + subC xs ys i) % 4294967296
theorem subC_lt {xs ys : List Nat} (hx : ∀ d ∈ xs, d < 4294967296) (i : Nat) : subC xs ys i < 2 := by
  induction i with
  | zero => unfold subC; omega
  | succ i ih =>
    have h1 := getD_lt (by decide) hx i
    unfold subC
    omega

theorem not_u32 (y : Nat) (hy : y < 4294967296) : bits BinOp.xor IntKind.u32 (if IntKind.u32.signed = true then -1 else IntKind.u32.max) (y : Int) = ((4294967295 - y : Nat) : Int) := by
  have h0 : (if IntKind.u32.signed = true then (-1 : Int) else IntKind.u32.max) = 4294967295 := by decide
  rw [h0]
  show IntKind.u32.wrap ((BitVec.ofInt 32 4294967295 ^^^ BitVec.ofInt 32 (y : Int)).toNat : Int) = _
  have h1 : BitVec.ofInt 32 4294967295 = BitVec.allOnes 32 := by decide
  have h2 : (BitVec.ofInt 32 (y : Int)).toNat = y := by
    rw [BitVec.ofInt_natCast, BitVec.toNat_ofNat]; exact Nat.mod_eq_of_lt hy
  rw [h1, BitVec.allOnes_xor, BitVec.toNat_not, h2]
  have h3 : 2 ^ 32 - 1 - y = 4294967295 - y := rfl
  rw [h3]
  exact IntWalk.u32_in _ (by omega)

set_option maxRecDepth 100000 in
set_option maxHeartbeats 1000000 in
theorem sub_any (A1 A2 : Option Addr) (n m c1 c2 B : Nat) (xs ys : List Nat) (w : World) (h1 : Reads w B A1 n (u32s xs)) (h2 : Reads w B A2 m (u32s ys)) (hB : B ≤ w.heap.size) (hn : n ≤ 1000) (hm : m ≤ 1000)
    (hx : ∀ d ∈ xs, d < 4294967296) (hy : ∀ d ∈ ys, d < 4294967296) :
    Calls Tryd.prog 34 #[.slice A1 n c1, .slice A2 m c2] w fun e w' => ∃ g, e = .returned (.slice (some ⟨g, 0, none⟩) n n) ∧
      w'.ownsRow w.heap.size 42 1 (.slice (some ⟨g, 0, none⟩) n n) n (u32s ((List.range n).map (subD xs ys))) ∧ Below w.heap.size w w' := by
  obtain ⟨i0, hi, hz0, hz1, hz2⟩ := info_parts Tryd.info_u32
  go_enter Tryd.func34, Tryd.ntmps34
  go_wp2_with (at_make; refine wpList_make_full _ rfl _ _ 22 rfl w.heap.size 42 i0 (.int .u32 0) 1 Tryd.underlying22 hi hz0 hz1 .i64 .i64 _ _ n rfl rfl (by omega) (by omega) (by rw [hz2]; omega) (by unfold maxLen; omega) (Nat.le_refl _) ?_; intro w1 hown1 hgrow1)
  go_loopw [6, 13] (fun cv iv wr => ∃ i : Nat, i ≤ n ∧ iv = .int .i64 i ∧ cv = .int .u64 (subC xs ys i : Nat) ∧ wr.ownsRow w.heap.size 42 1 (.slice (some ⟨w.heap.size, 0, none⟩) n n) n (u32s (fillRow (subD xs ys) n i)) ∧ Below w.heap.size w wr)
    (fun _ iv _ => n - (intOf iv).toNat)
  case atStart => exact ⟨0, Nat.zero_le _, rfl, rfl, by rw [fill_zero, ← made_u32]; exact hown1, (Below.refl _ _).grown hgrow1 (Nat.le_refl _) (fun k hk => by cases hk)⟩
  case round =>
    obtain ⟨i, hi2, rfl, rfl, hown, hbel⟩ := hrel
    by_cases hlt : i < n
    · have d2 := fun W hW => digitAt_any A2 m c2 B i ys W hW (by unfold maxLen; omega) (by unfold maxLen; omega)
      obtain ⟨ad, rfl, had, hca⟩ := u32s_at (h1.below (hbel.mono hB)) hlt
      have b1 := getD_lt (by decide) hx i
      have b2 := getD_lt (by decide) hy i
      have b3 := subC_lt (ys := ys) hx i
      have hfs := fill_set (subD xs ys) n i hlt
      have hD : subD xs ys i = (xs.getD i 0 + (4294967295 - ys.getD i 0) + subC xs ys i) % 4294967296 := rfl
      have hC : subC xs ys (i + 1) = (xs.getD i 0 + (4294967295 - ys.getD i 0) + subC xs ys i) / 4294967296 := rfl
      obtain ⟨x, hxe⟩ : ∃ x, x = xs.getD i 0 := ⟨_, rfl⟩
      obtain ⟨y, hye⟩ : ∃ y, y = ys.getD i 0 := ⟨_, rfl⟩
      obtain ⟨q, hqe⟩ : ∃ q, q = subC xs ys i := ⟨_, rfl⟩
      rw [← hxe] at b1 hD hC hca
      rw [← hye] at d2 b2 hD hC
      rw [← hqe] at b3 hD hC ⊢
      have hnot := not_u32 y b2
      obtain ⟨z, hze⟩ : ∃ z, z = 4294967295 - y := ⟨_, rfl⟩
      rw [← hze] at hnot hD hC
      have hzb : z < 4294967296 := by omega
      have hnw : IntKind.u64.wrap (z : Int) = (z : Int) := IntWalk.u64_in _ (by omega)
      have hxw : IntKind.u64.wrap (x : Int) = (x : Int) := IntWalk.u64_in _ (by omega)
      have D2 := Lib.hid d2
      have HD := Lib.hid hD
      have HC := Lib.hid hC
      have HFS := Lib.hid hfs
      have hcell := own_cell hown hlt
      have hfr : wr.frozen? ⟨w.heap.size, i, none⟩ = false := hown.frozenAt i
      have hgs : w.heap.size < wr.heap.size := (hown.lt w.heap.size rfl).2
      have HR2 := Lib.hid (h2.below (hbel.mono hB))
      have hi0 : (0 : Int) ≤ (i : Int) := Int.natCast_nonneg _
      have hi1 : (i : Int) < (n : Int) := by omega
      have hK : ∀ v o, ((wr.setCell ⟨w.heap.size, i, none⟩ v).alloc o).drew.cell? (ad.add i) = some (.int .u32 (x : Nat)) := by
        intro v o
        show ((wr.setCell ⟨w.heap.size, i, none⟩ v).alloc o).cell? (ad.add i) = _
        have hb : (ad.add i).block < w.heap.size := by rw [block_of_add]; omega
        rw [World.cell?_alloc_lt _ _ _ (by simp [World.setCell]; omega), World.cell?_setCell_other _ _ _ _ (by intro e; rw [← e] at hb; simp at hb), hca]
      have HK := Lib.hid hK
      clear d2 hxe hye hqe hD hC hfs hze hK
      go_wp2_with fail
      go_region_held3 (fun w' => w'.cell? (ad.add i) = some (.int .u32 (x : Nat))) (first | exact HK.out _ _ | go_keep)
        (first | (go_at_call 38; (with_reducible refine (D2.out _ ?_).mono ?_); (exact HR2.out); rintro e w' ⟨rfl, rfl⟩) | (go_at_call 41; (with_reducible refine (column_any _ _ _ (wr.heap.size + 1) [x, z, q] _ ?_ (by decide) ?_).mono ?_); (exact three_reads wr (x : Int) (z : Int) (q : Int) x z q rfl rfl rfl); (simp; omega); rintro e w' ⟨rfl, rfl⟩))
      go_wp2
      go_roundw
      case rel =>
        have hs := ((hown.stored i (.int .u32 ((subD xs ys i : Nat) : Int))).1.alloc (.cells #[.int .u64 (x : Int), .int .u64 (z : Int), .int .u64 (q : Int)] 53)).drew
        rw [u32s_set, HFS.out, HD.out] at hs
        refine ⟨i + 1, by omega, by go_num, ?_, ?_, ?_⟩
        · rw [HC.out]; exact congrArg (Value.int .u64) (by simp [Nat.add_assoc, Int.add_assoc])
        · simpa [Nat.add_assoc, Int.add_assoc] using hs
        · exact ((Below.setCell hbel (p := ⟨w.heap.size, i, none⟩) (Nat.le_refl _) _).alloc (by have := hbel.size; simpa [World.setCell] using this) _).drew
      case measure => simp [intOf]; omega
    · obtain rfl : i = n := by omega
      go_wp2
      go_ret
      exact ⟨w.heap.size, rfl, by rw [← fill_all]; exact hown, hbel⟩

end Go.Proofs.YtckkbeknjipddaaDoor
