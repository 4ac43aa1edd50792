/- Mirror at every number of an elementary rule. -/
/- The bodies of the library's IndexByte, makeASCIISet and trimLeftASCII lie in this program as the library's own contracts ask: facts that the kernel compares, and nothing else. -/
import Derived.Test.YtjekpmkghpjamaaGreatDoorMax
import Derived.Test.YtjekpmkghpjamaaGreatDoorMay
import Derived.Below
import Derived.BigQuiet
import Derived.Deep.AppendLies
import Derived.Deep.Draws
import Derived.Deep.QuietTactic
import Derived.IntWalk
import Derived.Laws.OwnMore
import Derived.Laws.Rows
import Derived.Lib.Hide
import Derived.LoopN
import Derived.Shelf.Abstract
import Derived.Shelf.Lays
import Derived.StillTail
import Derived.StillTailTactics
import Derived.Test.YtjekpmkghpjamaaGreatDoorRows
import Derived.WalkKit
namespace Go.Proofs.YtjekpmkghpjamaaGreatDoor
open Go.RowKit

set_option maxRecDepth 100000 in
set_option maxHeartbeats 4000000 in
theorem reb_of (x : Int) (o : Nat → Int) (EL : ∀ w, Calls Tryz.prog 7 #[.int .i64 x] w fun e w' => e = .returned (.tuple #[.agg #[.int .i64 (o 0), .int .i64 (o 1), .int .i64 (o 2), .int .i64 (o 3), .int .i64 (o 4), .int .i64 (o 5), .int .i64 (o 6), .int .i64 (o 7)], .int .i64 0]) ∧ Below w.heap.size w w') (G : Nat) (v : Nat → Int) (k : Int) (w : World) (eg : ∀ args w, (callFunc G args).run Tryz.prog w = .ok (.enter G args) w)
    (F : ∀ (i : Nat), i < 8 → ∀ w : World, Calls Tryz.prog G #[.agg #[.int .i64 (o 0), .int .i64 (o 1), .int .i64 (o 2), .int .i64 (o 3), .int .i64 (o 4), .int .i64 (o 5), .int .i64 (o 6), .int .i64 (o 7)], .int .i64 (i : Int)] w fun e w' => e = .returned (.int .i64 (v i)) ∧ Below w.heap.size w w')
    (NM : ∀ w : World, Calls Tryz.prog 49 #[.agg (fst v 8)] w fun e w' => e = .returned (.tuple #[.int .i64 k, .int .i64 0]) ∧ Below w.heap.size w w') :
    Calls Tryz.prog 20 #[.int .i64 x, .func (.func G) #[] #[]] w fun e w' => e = .returned (.tuple #[.int .i64 k, .int .i64 0]) ∧ Below w.heap.size w w' := by
  have EL := Lib.hid (EL w)
  have GF := Lib.hid F
  have NN := Lib.hid NM
  clear F NM
  go_enter Tryz.func20, Tryz.ntmps20
  go_wp2_with (first
    | (go_at_call 7; (with_reducible refine EL.out.mono ?_); rintro e w1 ⟨rfl, hb⟩; have B1 := Lib.hid hb; clear hb)
    | fail)
  have KO := Lib.hid ((Blk.new w1 32 #[.int .i64 (o 0), .int .i64 (o 1), .int .i64 (o 2), .int .i64 (o 3), .int .i64 (o 4), .int .i64 (o 5), .int .i64 (o 6), .int .i64 (o 7)]).alloc (.cells #[.int .i64 0, .int .i64 0, .int .i64 0, .int .i64 0, .int .i64 0, .int .i64 0, .int .i64 0, .int .i64 0] 32))
  have KL := Lib.hid (Blk.new (w1.alloc (.cells #[.int .i64 (o 0), .int .i64 (o 1), .int .i64 (o 2), .int .i64 (o 3), .int .i64 (o 4), .int .i64 (o 5), .int .i64 (o 6), .int .i64 (o 7)] 32)) 32 #[.int .i64 0, .int .i64 0, .int .i64 0, .int .i64 0, .int .i64 0, .int .i64 0, .int .i64 0, .int .i64 0])
  have BB := Lib.hid ((B1.out.alloc B1.out.size (.cells #[.int .i64 (o 0), .int .i64 (o 1), .int .i64 (o 2), .int .i64 (o 3), .int .i64 (o 4), .int .i64 (o 5), .int .i64 (o 6), .int .i64 (o 7)] 32)).alloc (by have := B1.out.size; simp; omega) (.cells #[.int .i64 0, .int .i64 0, .int .i64 0, .int .i64 0, .int .i64 0, .int .i64 0, .int .i64 0, .int .i64 0] 32))
  have hsz := B1.out.size
  obtain ⟨go, hgo⟩ : ∃ go, go = w1.heap.size := ⟨_, rfl⟩
  obtain ⟨gl, hgl⟩ : ∃ gl, gl = w1.heap.size + 1 := ⟨_, rfl⟩
  rw [show (w1.alloc (.cells #[.int .i64 (o 0), .int .i64 (o 1), .int .i64 (o 2), .int .i64 (o 3), .int .i64 (o 4), .int .i64 (o 5), .int .i64 (o 6), .int .i64 (o 7)] 32)).heap.size = gl by rw [hgl]; simp] at KL
  rw [← hgl]
  rw [← hgo] at KO hgl hsz ⊢
  have hne : go ≠ gl := by omega
  have hgl2 : w.heap.size ≤ gl := by omega
  clear hgo hgl B1 EL
  generalize (w1.alloc (.cells #[.int .i64 (o 0), .int .i64 (o 1), .int .i64 (o 2), .int .i64 (o 3), .int .i64 (o 4), .int .i64 (o 5), .int .i64 (o 6), .int .i64 (o 7)] 32)).alloc (.cells #[.int .i64 0, .int .i64 0, .int .i64 0, .int .i64 0, .int .i64 0, .int .i64 0, .int .i64 0, .int .i64 0] 32) = w2 at KO KL BB ⊢
  go_loopw [18] (fun jv wr => ∃ j : Nat, j ≤ 8 ∧ jv = .int .i64 (j : Int) ∧ Blk wr go 32 #[.int .i64 (o 0), .int .i64 (o 1), .int .i64 (o 2), .int .i64 (o 3), .int .i64 (o 4), .int .i64 (o 5), .int .i64 (o 6), .int .i64 (o 7)] ∧ Blk wr gl 32 (fst v j) ∧ Below w.heap.size w wr) (fun jv _ => 8 - (intOf jv).toNat)
  case atStart => exact ⟨0, Nat.zero_le _, rfl, KO.out, KL.out, BB.out⟩
  case round =>
    obtain ⟨j, hj, rfl, ko, kl, hbel⟩ := hrel
    have HB := Lib.hid hbel
    have KO2 := Lib.hid ko
    have KL2 := Lib.hid kl
    clear KO KL BB kl hbel
    by_cases hj8 : j < 8
    · obtain ⟨c0, c1, c2, c3, c4, c5, c6, c7⟩ := ko.oct
      clear ko
      have FJ := GF.out j hj8
      generalize hx : v j = x at FJ
      have HX := Lib.hid hx
      clear hx
      have FH := Lib.hid FJ
      clear FJ
      go_wp2_with ((with_reducible refine (FH.out _).mono ?_); rintro e w3 ⟨rfl, hb⟩; have K3 := Lib.hid (KL2.out.below hb KL2.out.lt); have KO3 := Lib.hid (KO2.out.below hb KO2.out.lt); have B3 := Lib.hid (HB.out.trans (hb.mono HB.out.size)); have hfz := K3.out.frozen j; have hcl := (K3.out.cell j).trans (fst_at v j hj8); clear hb)
      go_roundw
      case rel =>
        refine ⟨j + 1, by omega, by go_num, KO3.out.far hne _, ?_, B3.out.setCell (p := ⟨gl, j, none⟩) hgl2 _⟩
        have h9 := K3.out.set_ j (.int .i64 x)
        rw [← HX.out, fst_set v j hj8, HX.out] at h9
        exact h9
      case measure => simp [intOf]; omega
    · obtain rfl : j = 8 := by omega
      clear ko hj hj8
      have N8 := Lib.hid (NN.out wr)
      have h8 := Lib.hid (show fst v 8 = #[.int .i64 (v 0), .int .i64 (v 1), .int .i64 (v 2), .int .i64 (v 3), .int .i64 (v 4), .int .i64 (v 5), .int .i64 (v 6), .int .i64 (v 7)] from rfl)
      rw [h8.out] at N8 KL2
      obtain ⟨c0, c1, c2, c3, c4, c5, c6, c7⟩ := KL2.out.oct
      go_wp2_with (go_at_call 49; (with_reducible refine N8.out.mono ?_); rintro e w3 ⟨rfl, hb⟩; have B3 := Lib.hid (HB.out.trans (hb.mono HB.out.size)); clear hb)
      go_ret2
      exact ⟨rfl, B3.out⟩
/-- the number of eight states -/
def nbN (v : Nat → Int) : Nat → Nat
  | 0 => 0
  | j + 1 => nbN v j + (v j).toNat * 2 ^ j
theorem nbN_lt {v : Nat → Int} (h : Bits8 v) : ∀ j, j ≤ 8 → nbN v j < 2 ^ j
  | 0, _ => by simp [nbN]
  | j + 1, hj => by
    have ih := nbN_lt h j (by omega)
    have hb := h j (by omega)
    rw [nbN, Nat.pow_succ]
    have : (v j).toNat ≤ 1 := by omega
    have := Nat.mul_le_mul_right (2 ^ j) this
    omega
theorem or_bit : ∀ j : Nat, j < 8 → ∀ n : Nat, n < 2 ^ j → bits .or .i64 (n : Int) ((2 ^ j : Nat) : Int) = ((n + 2 ^ j : Nat) : Int) := by decide +kernel
theorem or_zero : ∀ n : Nat, n < 256 → bits .or .i64 (n : Int) 0 = (n : Int) := by decide +kernel
set_option maxRecDepth 100000 in
set_option maxHeartbeats 4000000 in
theorem number_bits {v : Nat → Int} (h : Bits8 v) (w : World) :
    Calls Tryz.prog 49 #[.agg (b8 v)] w fun e w' => e = .returned (.tuple #[.int .i64 (nbN v 8 : Nat), .int .i64 0]) ∧ Below w.heap.size w w' := by
  have XX := Lib.hid (fun (j : Nat) (hj : j < 8) (w : World) => show (Instr.index 32 (.agg (b8 v)) (.int .i64 (j : Int))).run Tryz.prog w = .ok (.int .i64 (v j)) w from run_oct (b8 v) j hj (.int .i64 (v j)) (by
    match j, hj with
    | 0, _ | 1, _ | 2, _ | 3, _ | 4, _ | 5, _ | 6, _ | 7, _ => rfl) w)
  have HB := Lib.hid h
  have NL := Lib.hid (fun j hj => nbN_lt h j hj)
  have B0 := Lib.hid ((Below.refl w.heap.size w).alloc (Nat.le_refl _) (.cells (b8 v) 32))
  unfold b8 at XX B0 ⊢
  clear h
  go_enter Tryz.func49, Tryz.ntmps49
  go_wp2
  go_loopw [4, 8] (fun nv jv wr => ∃ (j n : Nat), j ≤ 8 ∧ jv = .int .i64 (j : Int) ∧ nv = .int .i64 (n : Int) ∧ Hid (n = nbN v j) ∧ Hid (Below w.heap.size w wr)) (fun _ jv _ => 8 - (intOf jv).toNat)
  case atStart => exact ⟨0, 0, Nat.zero_le _, rfl, rfl, Lib.hid rfl, B0⟩
  case round =>
    obtain ⟨j, n, hj, rfl, rfl, HN, HE⟩ := hrel
    by_cases h8 : j < 8
    · have hv := HB.out j h8
      have hlt : n < 2 ^ j := by rw [HN.out]; exact NL.out j hj
      have X1 := fun w => XX.out j h8 w
      have HS := Lib.hid (show nbN v (j + 1) = n + (v j).toNat * 2 ^ j by rw [HN.out]; rfl)
      generalize v j = y at hv X1 HS
      obtain rfl | rfl : y = 0 ∨ y = 1 := by omega
      · go_upto_region 7 with (fail)
        clear X1
        obtain rfl | rfl | rfl | rfl | rfl | rfl | rfl | rfl : j = 0 ∨ j = 1 ∨ j = 2 ∨ j = 3 ∨ j = 4 ∨ j = 5 ∨ j = 6 ∨ j = 7 := by omega
        · have q0 := or_zero n (by omega)
          have q1 : bits .or .i64 (n : Int) 1 = ((n + 1 : Nat) : Int) := or_bit 0 (by decide) n hlt
          clear hlt hv
          go_wp2
          go_roundw
          case rel => exact ⟨1, n, by omega, rfl, rfl, Lib.hid (by have := HS.out; simp at this; simp [this]), HE⟩
          case measure => simp [intOf]
        · have q0 := or_zero n (by omega)
          have q1 : bits .or .i64 (n : Int) 2 = ((n + 2 : Nat) : Int) := or_bit 1 (by decide) n hlt
          clear hlt hv
          go_wp2
          go_roundw
          case rel => exact ⟨2, n, by omega, rfl, rfl, Lib.hid (by have := HS.out; simp at this; simp [this]), HE⟩
          case measure => simp [intOf]
        · have q0 := or_zero n (by omega)
          have q1 : bits .or .i64 (n : Int) 4 = ((n + 4 : Nat) : Int) := or_bit 2 (by decide) n hlt
          clear hlt hv
          go_wp2
          go_roundw
          case rel => exact ⟨3, n, by omega, rfl, rfl, Lib.hid (by have := HS.out; simp at this; simp [this]), HE⟩
          case measure => simp [intOf]
        · have q0 := or_zero n (by omega)
          have q1 : bits .or .i64 (n : Int) 8 = ((n + 8 : Nat) : Int) := or_bit 3 (by decide) n hlt
          clear hlt hv
          go_wp2
          go_roundw
          case rel => exact ⟨4, n, by omega, rfl, rfl, Lib.hid (by have := HS.out; simp at this; simp [this]), HE⟩
          case measure => simp [intOf]
        · have q0 := or_zero n (by omega)
          have q1 : bits .or .i64 (n : Int) 16 = ((n + 16 : Nat) : Int) := or_bit 4 (by decide) n hlt
          clear hlt hv
          go_wp2
          go_roundw
          case rel => exact ⟨5, n, by omega, rfl, rfl, Lib.hid (by have := HS.out; simp at this; simp [this]), HE⟩
          case measure => simp [intOf]
        · have q0 := or_zero n (by omega)
          have q1 : bits .or .i64 (n : Int) 32 = ((n + 32 : Nat) : Int) := or_bit 5 (by decide) n hlt
          clear hlt hv
          go_wp2
          go_roundw
          case rel => exact ⟨6, n, by omega, rfl, rfl, Lib.hid (by have := HS.out; simp at this; simp [this]), HE⟩
          case measure => simp [intOf]
        · have q0 := or_zero n (by omega)
          have q1 : bits .or .i64 (n : Int) 64 = ((n + 64 : Nat) : Int) := or_bit 6 (by decide) n hlt
          clear hlt hv
          go_wp2
          go_roundw
          case rel => exact ⟨7, n, by omega, rfl, rfl, Lib.hid (by have := HS.out; simp at this; simp [this]), HE⟩
          case measure => simp [intOf]
        · have q0 := or_zero n (by omega)
          have q1 : bits .or .i64 (n : Int) 128 = ((n + 128 : Nat) : Int) := or_bit 7 (by decide) n hlt
          clear hlt hv
          go_wp2
          go_roundw
          case rel => exact ⟨8, n, by omega, rfl, rfl, Lib.hid (by have := HS.out; simp at this; simp [this]), HE⟩
          case measure => simp [intOf]
      · go_upto_region 7 with (fail)
        clear X1
        obtain rfl | rfl | rfl | rfl | rfl | rfl | rfl | rfl : j = 0 ∨ j = 1 ∨ j = 2 ∨ j = 3 ∨ j = 4 ∨ j = 5 ∨ j = 6 ∨ j = 7 := by omega
        · have q0 := or_zero n (by omega)
          have q1 : bits .or .i64 (n : Int) 1 = ((n + 1 : Nat) : Int) := or_bit 0 (by decide) n hlt
          clear hlt hv
          go_wp2
          go_roundw
          case rel => exact ⟨1, n + 1, by omega, rfl, rfl, Lib.hid (by have := HS.out; simp at this; simp [this]), HE⟩
          case measure => simp [intOf]
        · have q0 := or_zero n (by omega)
          have q1 : bits .or .i64 (n : Int) 2 = ((n + 2 : Nat) : Int) := or_bit 1 (by decide) n hlt
          clear hlt hv
          go_wp2
          go_roundw
          case rel => exact ⟨2, n + 2, by omega, rfl, rfl, Lib.hid (by have := HS.out; simp at this; simp [this]), HE⟩
          case measure => simp [intOf]
        · have q0 := or_zero n (by omega)
          have q1 : bits .or .i64 (n : Int) 4 = ((n + 4 : Nat) : Int) := or_bit 2 (by decide) n hlt
          clear hlt hv
          go_wp2
          go_roundw
          case rel => exact ⟨3, n + 4, by omega, rfl, rfl, Lib.hid (by have := HS.out; simp at this; simp [this]), HE⟩
          case measure => simp [intOf]
        · have q0 := or_zero n (by omega)
          have q1 : bits .or .i64 (n : Int) 8 = ((n + 8 : Nat) : Int) := or_bit 3 (by decide) n hlt
          clear hlt hv
          go_wp2
          go_roundw
          case rel => exact ⟨4, n + 8, by omega, rfl, rfl, Lib.hid (by have := HS.out; simp at this; simp [this]), HE⟩
          case measure => simp [intOf]
        · have q0 := or_zero n (by omega)
          have q1 : bits .or .i64 (n : Int) 16 = ((n + 16 : Nat) : Int) := or_bit 4 (by decide) n hlt
          clear hlt hv
          go_wp2
          go_roundw
          case rel => exact ⟨5, n + 16, by omega, rfl, rfl, Lib.hid (by have := HS.out; simp at this; simp [this]), HE⟩
          case measure => simp [intOf]
        · have q0 := or_zero n (by omega)
          have q1 : bits .or .i64 (n : Int) 32 = ((n + 32 : Nat) : Int) := or_bit 5 (by decide) n hlt
          clear hlt hv
          go_wp2
          go_roundw
          case rel => exact ⟨6, n + 32, by omega, rfl, rfl, Lib.hid (by have := HS.out; simp at this; simp [this]), HE⟩
          case measure => simp [intOf]
        · have q0 := or_zero n (by omega)
          have q1 : bits .or .i64 (n : Int) 64 = ((n + 64 : Nat) : Int) := or_bit 6 (by decide) n hlt
          clear hlt hv
          go_wp2
          go_roundw
          case rel => exact ⟨7, n + 64, by omega, rfl, rfl, Lib.hid (by have := HS.out; simp at this; simp [this]), HE⟩
          case measure => simp [intOf]
        · have q0 := or_zero n (by omega)
          have q1 : bits .or .i64 (n : Int) 128 = ((n + 128 : Nat) : Int) := or_bit 7 (by decide) n hlt
          clear hlt hv
          go_wp2
          go_roundw
          case rel => exact ⟨8, n + 128, by omega, rfl, rfl, Lib.hid (by have := HS.out; simp at this; simp [this]), HE⟩
          case measure => simp [intOf]
    · obtain rfl : j = 8 := by omega
      have hn := HN.out
      subst hn
      go_wp2
      go_ret2
      exact ⟨rfl, HE.out⟩
set_option maxRecDepth 100000 in
theorem fn_mir0 (o : Nat → Int) (w : World) :
    Calls Tryz.prog 21 #[.agg #[.int .i64 (o 0), .int .i64 (o 1), .int .i64 (o 2), .int .i64 (o 3), .int .i64 (o 4), .int .i64 (o 5), .int .i64 (o 6), .int .i64 (o 7)], .int .i64 0] w fun e w' => e = .returned (.int .i64 (o 0)) ∧ Below w.heap.size w w' := by
  have q0 : bits .and .i64 0 1 = 0 := by decide +kernel
  have q1 : bits .and .i64 0 1 = 0 := by decide +kernel
  have q2 : bits .or .i64 0 0 = 0 := by decide +kernel
  have q3 : bits .or .i64 0 0 = 0 := by decide +kernel
  go_enter Tryz.func21, Tryz.ntmps21
  go_wp2
  go_ret
  exact ⟨rfl, (Below.refl _ _).alloc (Nat.le_refl _) _⟩
set_option maxRecDepth 100000 in
theorem fn_mir1 (o : Nat → Int) (w : World) :
    Calls Tryz.prog 21 #[.agg #[.int .i64 (o 0), .int .i64 (o 1), .int .i64 (o 2), .int .i64 (o 3), .int .i64 (o 4), .int .i64 (o 5), .int .i64 (o 6), .int .i64 (o 7)], .int .i64 1] w fun e w' => e = .returned (.int .i64 (o 4)) ∧ Below w.heap.size w w' := by
  have q0 : bits .and .i64 0 1 = 0 := by decide +kernel
  have q1 : bits .and .i64 1 1 = 1 := by decide +kernel
  have q2 : bits .or .i64 4 0 = 4 := by decide +kernel
  have q3 : bits .or .i64 4 0 = 4 := by decide +kernel
  go_enter Tryz.func21, Tryz.ntmps21
  go_wp2
  go_ret
  exact ⟨rfl, (Below.refl _ _).alloc (Nat.le_refl _) _⟩
set_option maxRecDepth 100000 in
theorem fn_mir2 (o : Nat → Int) (w : World) :
    Calls Tryz.prog 21 #[.agg #[.int .i64 (o 0), .int .i64 (o 1), .int .i64 (o 2), .int .i64 (o 3), .int .i64 (o 4), .int .i64 (o 5), .int .i64 (o 6), .int .i64 (o 7)], .int .i64 2] w fun e w' => e = .returned (.int .i64 (o 2)) ∧ Below w.heap.size w w' := by
  have q0 : bits .and .i64 1 1 = 1 := by decide +kernel
  have q1 : bits .and .i64 2 1 = 0 := by decide +kernel
  have q2 : bits .or .i64 0 2 = 2 := by decide +kernel
  have q3 : bits .or .i64 2 0 = 2 := by decide +kernel
  go_enter Tryz.func21, Tryz.ntmps21
  go_wp2
  go_ret
  exact ⟨rfl, (Below.refl _ _).alloc (Nat.le_refl _) _⟩
set_option maxRecDepth 100000 in
theorem fn_mir3 (o : Nat → Int) (w : World) :
    Calls Tryz.prog 21 #[.agg #[.int .i64 (o 0), .int .i64 (o 1), .int .i64 (o 2), .int .i64 (o 3), .int .i64 (o 4), .int .i64 (o 5), .int .i64 (o 6), .int .i64 (o 7)], .int .i64 3] w fun e w' => e = .returned (.int .i64 (o 6)) ∧ Below w.heap.size w w' := by
  have q0 : bits .and .i64 1 1 = 1 := by decide +kernel
  have q1 : bits .and .i64 3 1 = 1 := by decide +kernel
  have q2 : bits .or .i64 4 2 = 6 := by decide +kernel
  have q3 : bits .or .i64 6 0 = 6 := by decide +kernel
  go_enter Tryz.func21, Tryz.ntmps21
  go_wp2
  go_ret
  exact ⟨rfl, (Below.refl _ _).alloc (Nat.le_refl _) _⟩
set_option maxRecDepth 100000 in
theorem fn_mir4 (o : Nat → Int) (w : World) :
    Calls Tryz.prog 21 #[.agg #[.int .i64 (o 0), .int .i64 (o 1), .int .i64 (o 2), .int .i64 (o 3), .int .i64 (o 4), .int .i64 (o 5), .int .i64 (o 6), .int .i64 (o 7)], .int .i64 4] w fun e w' => e = .returned (.int .i64 (o 1)) ∧ Below w.heap.size w w' := by
  have q0 : bits .and .i64 2 1 = 0 := by decide +kernel
  have q1 : bits .and .i64 4 1 = 0 := by decide +kernel
  have q2 : bits .or .i64 0 0 = 0 := by decide +kernel
  have q3 : bits .or .i64 0 1 = 1 := by decide +kernel
  go_enter Tryz.func21, Tryz.ntmps21
  go_wp2
  go_ret
  exact ⟨rfl, (Below.refl _ _).alloc (Nat.le_refl _) _⟩
set_option maxRecDepth 100000 in
theorem fn_mir5 (o : Nat → Int) (w : World) :
    Calls Tryz.prog 21 #[.agg #[.int .i64 (o 0), .int .i64 (o 1), .int .i64 (o 2), .int .i64 (o 3), .int .i64 (o 4), .int .i64 (o 5), .int .i64 (o 6), .int .i64 (o 7)], .int .i64 5] w fun e w' => e = .returned (.int .i64 (o 5)) ∧ Below w.heap.size w w' := by
  have q0 : bits .and .i64 2 1 = 0 := by decide +kernel
  have q1 : bits .and .i64 5 1 = 1 := by decide +kernel
  have q2 : bits .or .i64 4 0 = 4 := by decide +kernel
  have q3 : bits .or .i64 4 1 = 5 := by decide +kernel
  go_enter Tryz.func21, Tryz.ntmps21
  go_wp2
  go_ret
  exact ⟨rfl, (Below.refl _ _).alloc (Nat.le_refl _) _⟩
set_option maxRecDepth 100000 in
theorem fn_mir6 (o : Nat → Int) (w : World) :
    Calls Tryz.prog 21 #[.agg #[.int .i64 (o 0), .int .i64 (o 1), .int .i64 (o 2), .int .i64 (o 3), .int .i64 (o 4), .int .i64 (o 5), .int .i64 (o 6), .int .i64 (o 7)], .int .i64 6] w fun e w' => e = .returned (.int .i64 (o 3)) ∧ Below w.heap.size w w' := by
  have q0 : bits .and .i64 3 1 = 1 := by decide +kernel
  have q1 : bits .and .i64 6 1 = 0 := by decide +kernel
  have q2 : bits .or .i64 0 2 = 2 := by decide +kernel
  have q3 : bits .or .i64 2 1 = 3 := by decide +kernel
  go_enter Tryz.func21, Tryz.ntmps21
  go_wp2
  go_ret
  exact ⟨rfl, (Below.refl _ _).alloc (Nat.le_refl _) _⟩
set_option maxRecDepth 100000 in
theorem fn_mir7 (o : Nat → Int) (w : World) :
    Calls Tryz.prog 21 #[.agg #[.int .i64 (o 0), .int .i64 (o 1), .int .i64 (o 2), .int .i64 (o 3), .int .i64 (o 4), .int .i64 (o 5), .int .i64 (o 6), .int .i64 (o 7)], .int .i64 7] w fun e w' => e = .returned (.int .i64 (o 7)) ∧ Below w.heap.size w w' := by
  have q0 : bits .and .i64 3 1 = 1 := by decide +kernel
  have q1 : bits .and .i64 7 1 = 1 := by decide +kernel
  have q2 : bits .or .i64 4 2 = 6 := by decide +kernel
  have q3 : bits .or .i64 6 1 = 7 := by decide +kernel
  go_enter Tryz.func21, Tryz.ntmps21
  go_wp2
  go_ret
  exact ⟨rfl, (Below.refl _ _).alloc (Nat.le_refl _) _⟩
/-- the mirrored index -/
def mi (i : Nat) : Nat := ([0, 4, 2, 6, 1, 5, 3, 7] : List Nat).getD i 0
theorem fn_mir (o : Nat → Int) (i : Nat) (h : i < 8) (w : World) : Calls Tryz.prog 21 #[.agg #[.int .i64 (o 0), .int .i64 (o 1), .int .i64 (o 2), .int .i64 (o 3), .int .i64 (o 4), .int .i64 (o 5), .int .i64 (o 6), .int .i64 (o 7)], .int .i64 (i : Int)] w fun e w' => e = .returned (.int .i64 (o (mi i))) ∧ Below w.heap.size w w' := by
  match i, h with
  | 0, _ => exact fn_mir0 o w
  | 1, _ => exact fn_mir1 o w
  | 2, _ => exact fn_mir2 o w
  | 3, _ => exact fn_mir3 o w
  | 4, _ => exact fn_mir4 o w
  | 5, _ => exact fn_mir5 o w
  | 6, _ => exact fn_mir6 o w
  | 7, _ => exact fn_mir7 o w
/-- the new states of a number -/
def rbn (x i : Nat) : Int := ((x / 2 ^ i % 2 : Nat) : Int)
theorem bits_rbn (x : Nat) : Bits8 (rbn x) := fun k _ => by unfold rbn; omega
theorem and_rbn : ∀ y : Nat, y < 256 → bits .and .i64 (y : Int) 1 = ((y % 2 : Nat) : Int) := by decide +kernel
theorem eb_rbn {x : Nat} (h : x ≤ 255) : eb (x : Int) = b8 (rbn x) := by
  have hd : ∀ d : Nat, bits .and .i64 ((x : Int) / (d : Int)) 1 = ((x / d % 2 : Nat) : Int) := fun d => by
    rw [← Int.natCast_ediv]
    exact and_rbn _ (Nat.lt_of_le_of_lt (Nat.div_le_self x d) (by omega))
  have h0 := and_rbn x (by omega)
  have h1 : bits .and .i64 ((x : Int) / 2) 1 = ((x / 2 % 2 : Nat) : Int) := hd 2
  have h2 : bits .and .i64 ((x : Int) / 4) 1 = ((x / 4 % 2 : Nat) : Int) := hd 4
  have h3 : bits .and .i64 ((x : Int) / 8) 1 = ((x / 8 % 2 : Nat) : Int) := hd 8
  have h4 : bits .and .i64 ((x : Int) / 16) 1 = ((x / 16 % 2 : Nat) : Int) := hd 16
  have h5 : bits .and .i64 ((x : Int) / 32) 1 = ((x / 32 % 2 : Nat) : Int) := hd 32
  have h6 : bits .and .i64 ((x : Int) / 64) 1 = ((x / 64 % 2 : Nat) : Int) := hd 64
  have h7 : bits .and .i64 ((x : Int) / 128) 1 = ((x / 128 % 2 : Nat) : Int) := hd 128
  unfold eb octW b8 rbn
  rw [h0, h1, h2, h3, h4, h5, h6, h7]
  simp
theorem elem_rbn (x : Nat) (h : x ≤ 255) (w : World) : Calls Tryz.prog 7 #[.int .i64 (x : Int)] w fun e w' => e = .returned (.tuple #[.agg (b8 (rbn x)), .int .i64 0]) ∧ Below w.heap.size w w' := by
  have := elem_in x w h
  rwa [eb_rbn h] at this
theorem fst_b8 (v : Nat → Int) : fst v 8 = b8 v := rfl
set_option maxRecDepth 100000 in
theorem mirror_rbn (x : Nat) (h : x ≤ 255) (w : World) : Calls Tryz.prog 6 #[.int .i64 (x : Int)] w fun e w' => e = .returned (.tuple #[.int .i64 (nbN (fun i => rbn x (mi i)) 8 : Nat), .int .i64 0]) ∧ Below w.heap.size w w' := by
  have R := Lib.hid (reb_of (x : Int) (rbn x) (fun w => elem_rbn x h w) 21 (fun i => rbn x (mi i)) (nbN (fun i => rbn x (mi i)) 8 : Nat) w (enters_of Tryz.func21 (by kernel_rfl) rfl) (fun i hi w => fn_mir (rbn x) i hi w) (fun w => by rw [fst_b8]; exact number_bits (fun k hk => bits_rbn x (mi k) (by
    match k, hk with
    | 0, _ | 1, _ | 2, _ | 3, _ | 4, _ | 5, _ | 6, _ | 7, _ => decide)) w))
  go_enter Tryz.func6, Tryz.ntmps6
  go_wp2_with (go_at_call 20; (with_reducible refine R.out.mono ?_); rintro e w1 ⟨rfl, hb⟩; have B1 := Lib.hid hb; clear hb)
  go_ret2
  exact ⟨rfl, B1.out⟩
end Go.Proofs.YtjekpmkghpjamaaGreatDoor
namespace Go.Proofs.YtjekpmkghpjamaaGreatDoor
open Go.Shelf
def strRen : Go.Shelf.Ren := ⟨fun | 217 => 166 | 227 => 128 | 228 => 173 | 233 => 135 | 266 => 203 | _ => 0, fun | 0 => 0 | 3 => 3 | 4 => 4 | 5 => 5 | 9 => 9 | 116 => 177 | 124 => 181 | _ => 0, fun n => n⟩
theorem byteLays : Lays.n217 Tryz.prog strRen := {
  mixed := by kernel_rfl
  f217 := Tryz.func166.trans (congrArg some (by kernel_rfl))
  f266 := Tryz.func203.trans (congrArg some (by kernel_rfl))
  t3 := Tryz.underlying3
  a3 := Tryz.isAgg3
  z3 := Tryz.sizeOf3
  v3 := Tryz.zeroValue3
  t5 := Tryz.underlying5
  a5 := Tryz.isAgg5
  z5 := Tryz.sizeOf5
  v5 := Tryz.zeroValue5
  t9 := Tryz.underlying9
  a9 := Tryz.isAgg9
  z9 := Tryz.sizeOf9
  v9 := Tryz.zeroValue9
}
theorem setLays : Lays.n227 Tryz.prog strRen := {
  mixed := by kernel_rfl
  f227 := Tryz.func128.trans (congrArg some (by kernel_rfl))
  t0 := Tryz.underlying0
  a0 := Tryz.isAgg0
  z0 := Tryz.sizeOf0
  v0 := Tryz.zeroValue0
  t3 := Tryz.underlying3
  a3 := Tryz.isAgg3
  z3 := Tryz.sizeOf3
  v3 := Tryz.zeroValue3
  t4 := Tryz.underlying4
  a4 := Tryz.isAgg4
  z4 := Tryz.sizeOf4
  v4 := Tryz.zeroValue4
  t5 := Tryz.underlying5
  a5 := Tryz.isAgg5
  z5 := Tryz.sizeOf5
  v5 := Tryz.zeroValue5
  t9 := Tryz.underlying9
  a9 := Tryz.isAgg9
  z9 := Tryz.sizeOf9
  v9 := Tryz.zeroValue9
  t116 := Tryz.underlying177
  a116 := Tryz.isAgg177
  z116 := Tryz.sizeOf177
}
theorem leftLays : Lays.n233 Tryz.prog strRen := {
  mixed := by kernel_rfl
  f228 := Tryz.func173.trans (congrArg some (by kernel_rfl))
  f233 := Tryz.func135.trans (congrArg some (by kernel_rfl))
  t0 := Tryz.underlying0
  a0 := Tryz.isAgg0
  z0 := Tryz.sizeOf0
  v0 := Tryz.zeroValue0
  t3 := Tryz.underlying3
  a3 := Tryz.isAgg3
  z3 := Tryz.sizeOf3
  v3 := Tryz.zeroValue3
  t4 := Tryz.underlying4
  a4 := Tryz.isAgg4
  z4 := Tryz.sizeOf4
  v4 := Tryz.zeroValue4
  t5 := Tryz.underlying5
  a5 := Tryz.isAgg5
  z5 := Tryz.sizeOf5
  v5 := Tryz.zeroValue5
  t9 := Tryz.underlying9
  a9 := Tryz.isAgg9
  z9 := Tryz.sizeOf9
  v9 := Tryz.zeroValue9
  t116 := Tryz.underlying177
  a116 := Tryz.isAgg177
  z116 := Tryz.sizeOf177
  t124 := Tryz.underlying181
  a124 := Tryz.isAgg181
  z124 := Tryz.sizeOf181
  v124 := Tryz.zeroValue181
}
end Go.Proofs.YtjekpmkghpjamaaGreatDoor
