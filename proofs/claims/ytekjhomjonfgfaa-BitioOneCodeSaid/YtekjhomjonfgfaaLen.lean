/- The walk of bits.Len64. -/
import Derived.Test.YtekjhomjonfgfaaSmall
import Derived.Lib.BitFns
namespace Go.Proofs.Ytekjhomjonfgfaa
open Go.RowKit

theorem tab_fold : (⟨(([0, 1, 2, 2, 3, 3, 3, 3, 4, 4, 4, 4, 4, 4, 4, 4, 5, 5, 5, 5, 5, 5, 5, 5, 5, 5, 5, 5, 5, 5, 5, 5, 6, 6, 6, 6, 6, 6, 6, 6, 6, 6, 6, 6, 6, 6, 6, 6, 6, 6, 6, 6, 6, 6, 6, 6, 6, 6, 6, 6, 6, 6, 6, 6].append [7, 7, 7, 7, 7, 7, 7, 7, 7, 7, 7, 7, 7, 7, 7, 7, 7, 7, 7, 7, 7, 7, 7, 7, 7, 7, 7, 7, 7, 7, 7, 7, 7, 7, 7, 7, 7, 7, 7, 7, 7, 7, 7, 7, 7, 7, 7, 7, 7, 7, 7, 7, 7, 7, 7, 7, 7, 7, 7, 7, 7, 7, 7, 7]).append ([8, 8, 8, 8, 8, 8, 8, 8, 8, 8, 8, 8, 8, 8, 8, 8, 8, 8, 8, 8, 8, 8, 8, 8, 8, 8, 8, 8, 8, 8, 8, 8, 8, 8, 8, 8, 8, 8, 8, 8, 8, 8, 8, 8, 8, 8, 8, 8, 8, 8, 8, 8, 8, 8, 8, 8, 8, 8, 8, 8, 8, 8, 8, 8].append [8, 8, 8, 8, 8, 8, 8, 8, 8, 8, 8, 8, 8, 8, 8, 8, 8, 8, 8, 8, 8, 8, 8, 8, 8, 8, 8, 8, 8, 8, 8, 8, 8, 8, 8, 8, 8, 8, 8, 8, 8, 8, 8, 8, 8, 8, 8, 8, 8, 8, 8, 8, 8, 8, 8, 8, 8, 8, 8, 8, 8, 8, 8, 8])).toArray⟩ : ByteArray) = Lib.len8tab := by kernel_rfl
theorem tab_at (i : Nat) (h : i < Lib.len8tab.size) : (Lib.len8tab[i].toNat : Int) = (Lib.bitLen i : Nat) ∧ Lib.bitLen i ≤ 8 := by
  have h2 := h
  rw [Lib.len8tab_size] at h2
  refine ⟨?_, Lib.bitLen_le8 ⟨i, h2⟩⟩
  have := Lib.len8_of (i : Int) (by omega) (by omega)
  rw [Int.toNat_natCast] at this
  rw [← this]
  simp [Lib.len8, h]
theorem len_end (x : Int) (k i : Nat) (h : i < Lib.len8tab.size) (hi : i = x.toNat / 2 ^ k) (hb : 2 ^ k ≤ x.toNat) (hx : x.toNat < 2 ^ 64) (hk : k ≤ 56) :
    wrap64 ((k : Int) + wrap64 (Lib.len8tab[i].toNat : Int)) = (Lib.bitLen x.toNat : Nat) := by
  obtain ⟨h1, h2⟩ := tab_at i h
  rw [h1, Lib.bitLen_shift k x.toNat hb hx, ← hi]
  unfold wrap64
  omega

attribute [local go_sem ↓] tab_fold
attribute [local go_sem] Lib.len8tab_size

set_option maxHeartbeats 4000000 in
set_option maxRecDepth 100000 in
theorem len64_int (x : Int) (w : World) (h0 : 0 ≤ x) (h1 : x ≤ 18446744073709551615) :
    Calls Try.prog 19 #[.int .u64 x] w fun e w' => e = .returned (.int .i64 (Lib.bitLen x.toNat : Nat)) ∧ w = w' := by
  go_enter Try.func19, Try.ntmps19
  go_wp2
  all_goals (go_ret; refine ⟨congrArg Ending.returned (congrArg (Value.int IntKind.i64) ?_), rfl⟩)
  · exact len_end x 56 _ _ (by omega) (by omega) (by omega) (by omega)
  · exact len_end x 48 _ _ (by omega) (by omega) (by omega) (by omega)
  · exact len_end x 40 _ _ (by omega) (by omega) (by omega) (by omega)
  · exact len_end x 32 _ _ (by omega) (by omega) (by omega) (by omega)
  · exact len_end x 24 _ _ (by omega) (by omega) (by omega) (by omega)
  · exact len_end x 16 _ _ (by omega) (by omega) (by omega) (by omega)
  · exact len_end x 8 _ _ (by omega) (by omega) (by omega) (by omega)
  · have hs : x.toNat < Lib.len8tab.size := by rw [Lib.len8tab_size]; omega
    obtain ⟨h1, h2⟩ := tab_at x.toNat hs
    rw [h1]
    unfold wrap64
    omega

theorem len64_any (v : Nat) (w : World) (hv : v < 18446744073709551616) :
    Calls Try.prog 19 #[.int .u64 (v : Nat)] w fun e w' => e = .returned (.int .i64 (Lib.bitLen v : Nat)) ∧ w = w' :=
  len64_int v w (by omega) (by omega)
theorem bitLen_eq (m z : Nat) (h1 : 2 ^ z ≤ m) (h2 : m < 2 ^ (z + 1)) (hz : z ≤ 63) : Lib.bitLen m = z + 1 := by
  have h3 : m < 2 ^ 64 := Nat.lt_of_lt_of_le h2 (Nat.pow_le_pow_right (by decide) (by omega))
  have h4 : m / 2 ^ z = 1 := by
    have hp : 0 < 2 ^ z := Nat.two_pow_pos z
    refine Nat.le_antisymm ?_ ((Nat.le_div_iff_mul_le hp).2 (by omega))
    have : m / 2 ^ z < 2 := (Nat.div_lt_iff_lt_mul hp).2 (by rw [Nat.pow_succ] at h2; omega)
    omega
  rw [Lib.bitLen_shift z m h1 h3, h4]
  have : Lib.bitLen 1 = 1 := by decide
  omega
end Go.Proofs.Ytekjhomjonfgfaa
