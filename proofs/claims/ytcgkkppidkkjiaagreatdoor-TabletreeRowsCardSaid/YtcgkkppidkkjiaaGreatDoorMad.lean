/- Plain mathematics of the eight symmetries: composition, images of positions. -/
/- The walks of hood's small functions: the absolute value, the square, and the three predicates. -/
/- The walks of last, In, and Right on valid neighbourhoods. -/
/- Rule trees as values: what a list of nodes and a tree read as; valid trees. -/
/- The walks of follow and Eval at valid trees. -/
import Derived.Test.YtcgkkppidkkjiaaGreatDoorMaa
import Derived.Below
import Derived.BigQuiet
import Derived.Deep.AppendLies
import Derived.Deep.Draws
import Derived.Deep.QuietTactic
import Derived.Laws.BitsLemmas
import Derived.Laws.OwnMore
import Derived.Laws.Rows
import Derived.Lib.Hide
import Derived.StillTail
import Derived.Test.YtcgkkppidkkjiaaGreatDoorRows
import Derived.WalkKit
import Derived.IntWalk
import Derived.LoopN
import Derived.OwnWalk
import Derived.StillTailTactics
import Derived.Test.YtcgkkppidkkjiaaGreatDoorMac
import Derived.Test.YtcgkkppidkkjiaaGreatDoorMab
import Derived.Deep.CutRange
import Derived.Sort.Statements
namespace Go.Proofs.YtcgkkppidkkjiaaGreatDoor
/-- the number of a symmetry -/
def md (k : Int) : Nat := (k % 8).toNat
theorem md_lt (k : Int) : md k < 8 := by unfold md; omega


/-- the image of a position under a symmetry -/
def turnX (k : Nat) (x y : Int) : Int := match k with | 0 => x | 1 => -y | 2 => -x | 3 => y | 4 => -x | 5 => -y | 6 => x | _ => y
def turnY (k : Nat) (x y : Int) : Int := match k with | 0 => y | 1 => x | 2 => -y | 3 => -x | 4 => y | 5 => -x | 6 => -y | _ => x
theorem eight {P : Nat → Prop} (h0 : P 0) (h1 : P 1) (h2 : P 2) (h3 : P 3) (h4 : P 4) (h5 : P 5) (h6 : P 6) (h7 : P 7) (k : Nat) (h : k < 8) : P k := by
  match k, h with
  | 0, _ => exact h0
  | 1, _ => exact h1
  | 2, _ => exact h2
  | 3, _ => exact h3
  | 4, _ => exact h4
  | 5, _ => exact h5
  | 6, _ => exact h6
  | 7, _ => exact h7
  | k + 8, h => omega

end Go.Proofs.YtcgkkppidkkjiaaGreatDoor
namespace Go.Proofs.YtcgkkppidkkjiaaGreatDoor
open Go.RowKit
theorem and7 (n : Int) : bits .and .i64 n 7 = n % 8 := by
  have h7 : (BitVec.ofInt 64 7).toNat = 2 ^ 3 - 1 := by decide
  have key : (BitVec.ofInt 64 n &&& BitVec.ofInt 64 7).toNat = (n % ((2 ^ 64 : Nat) : Int)).toNat % 2 ^ 3 := by
    rw [BitVec.toNat_and, BitVec.toNat_ofInt, h7, Nat.and_two_pow_sub_one_eq_mod]
  show IntKind.i64.wrap ((BitVec.ofInt 64 n &&& BitVec.ofInt 64 7).toNat : Nat) = n % 8
  rw [key, IntKind.wrap_i64]
  omega
theorem md_nat (k : Nat) (h : k < 8) : md (k : Int) = k := by unfold md; omega
theorem md_mod (k : Int) : k % 8 = (md k : Nat) := by unfold md; omega
theorem number_any (k : Int) (w : World) :
    Calls Tryz.prog 112 #[.int .i64 k] w fun e w' => e = .returned (.int .i64 (md k : Nat)) ∧ w = w' := by
  go_enter Tryz.func112, Tryz.ntmps112
  go_wp2
  go_ret
  exact ⟨congrArg Ending.returned (congrArg (Value.int IntKind.i64) ((and7 k).trans (md_mod k))), rfl⟩
end Go.Proofs.YtcgkkppidkkjiaaGreatDoor
namespace Go.Proofs.YtcgkkppidkkjiaaGreatDoor
open Go.RowKit
/-- the matrices' numbers -/
def mxx (m : Nat) : Int := match m with | 0 => 1 | 1 => 0 | 2 => -1 | 3 => 0 | 4 => -1 | 5 => 0 | 6 => 1 | _ => 0
def mxy (m : Nat) : Int := match m with | 0 => 0 | 1 => -1 | 2 => 0 | 3 => 1 | 4 => 0 | 5 => -1 | 6 => 0 | _ => 1
def myx (m : Nat) : Int := match m with | 0 => 0 | 1 => 1 | 2 => 0 | 3 => -1 | 4 => 0 | 5 => -1 | 6 => 0 | _ => 1
def myy (m : Nat) : Int := match m with | 0 => 1 | 1 => 0 | 2 => -1 | 3 => 0 | 4 => 1 | 5 => 0 | 6 => -1 | _ => 0
/-- the matrices lie in block 0 -/
def Mat (w : World) : Prop := 0 < w.heap.size ∧ ∀ m : Nat, m < 8 → w.cell? ⟨0, m * 4, none⟩ = some (.int .i64 (mxx m)) ∧ w.cell? ⟨0, m * 4 + 1, none⟩ = some (.int .i64 (mxy m)) ∧ w.cell? ⟨0, m * 4 + 2, none⟩ = some (.int .i64 (myx m)) ∧ w.cell? ⟨0, m * 4 + 3, none⟩ = some (.int .i64 (myy m))
section
variable {w w' : World}
theorem Mat.below {B : Nat} (h : Mat w) (hb : Below B w w') (hB : 0 < B) : Mat w' :=
  ⟨Nat.lt_of_lt_of_le h.1 hb.size, fun m hm => ⟨(hb.cell (p := ⟨0, _, none⟩) hB).trans (h.2 m hm).1, (hb.cell (p := ⟨0, _, none⟩) hB).trans (h.2 m hm).2.1, (hb.cell (p := ⟨0, _, none⟩) hB).trans (h.2 m hm).2.2.1, (hb.cell (p := ⟨0, _, none⟩) hB).trans (h.2 m hm).2.2.2⟩⟩
theorem Mat.alloc (h : Mat w) (o : Obj) : Mat (w.alloc o) := h.below ((Below.refl w.heap.size w).alloc (Nat.le_refl _) o) h.1
theorem Mat.drew (h : Mat w) : Mat w.drew := h
end
theorem apply_val (m : Nat) (x y : Int) (hm : m < 8) (hx : -4194304 ≤ x) (hx' : x ≤ 4194304) (hy : -4194304 ≤ y) (hy' : y ≤ 4194304) :
    wrap64 (wrap64 (mxx m * x) + wrap64 (mxy m * y)) = turnX m x y ∧ wrap64 (wrap64 (myx m * x) + wrap64 (myy m * y)) = turnY m x y := by
  refine eight (P := fun m => wrap64 (wrap64 (mxx m * x) + wrap64 (mxy m * y)) = turnX m x y ∧ wrap64 (wrap64 (myx m * x) + wrap64 (myy m * y)) = turnY m x y) ?_ ?_ ?_ ?_ ?_ ?_ ?_ ?_ m hm <;> simp only [mxx, mxy, myx, myy, turnX, turnY, wrap64] <;> omega
theorem apply_any (k : Int) (x y : Int) (w : World) (hM : Mat w) (hx : -4194304 ≤ x) (hx' : x ≤ 4194304) (hy : -4194304 ≤ y) (hy' : y ≤ 4194304) :
    Calls Tryz.prog 96 #[.int .i64 k, .agg #[.int .i64 x, .int .i64 y]] w fun e w' => e = .returned (.agg #[.int .i64 (turnX (md k) x y), .int .i64 (turnY (md k) x y)]) ∧ Below w.heap.size w w' := by
  have H := Lib.hid (fun w => number_any k w)
  have hm := md_lt k
  have V := Lib.hid (apply_val (md k) x y hm hx hx' hy hy')
  generalize md k = m at H hm V ⊢
  obtain ⟨hz, hM⟩ := hM
  obtain ⟨m0, m1, m2, m3⟩ := hM m hm
  clear hx hx' hy hy' hM
  go_enter Tryz.func96, Tryz.ntmps96
  go_wp2_with (go_at_call 112; (with_reducible refine (H.out _).mono ?_); rintro e w' ⟨rfl, rfl⟩)
  exact bodyPost_ret (v := .agg #[.int .i64 (turnX m x y), .int .i64 (turnY m x y)]) (by simp [results, Tryz.results96, go_sem, V.out.1, V.out.2]) rfl ⟨rfl, (((Below.refl _ _).alloc (Nat.le_refl _) _).alloc (by simp) _).alloc (by simp; omega) _⟩
end Go.Proofs.YtcgkkppidkkjiaaGreatDoor
namespace Go.Proofs.YtcgkkppidkkjiaaGreatDoor
open Go.RowKit
theorem square_any (r : Int) (n : Nat) (w : World) (h1 : 0 ≤ r) (h2 : r ≤ 2) (hn : 2 * r + 1 = (n : Int)) :
    Calls Tryz.prog 64 #[.int .i64 r] w fun e w' => e = .returned (.agg #[.int .i64 (-r), .int .i64 (-r), .int .i64 (n : Int), .int .i64 (n : Int)]) ∧ Below w.heap.size w w' := by
  go_enter Tryz.func64, Tryz.ntmps64
  go_wp2
  refine bodyPost_ret (v := .agg #[.int .i64 (-r), .int .i64 (-r), .int .i64 (n : Int), .int .i64 (n : Int)]) (by simp [results, Tryz.results64, go_sem, hn]) rfl ⟨rfl, ?_⟩
  exact (Below.refl _ _).alloc (Nat.le_refl _) _
end Go.Proofs.YtcgkkppidkkjiaaGreatDoor
namespace Go.Proofs.YtcgkkppidkkjiaaGreatDoor
open Go.RowKit
/-- a valid neighbourhood -/
def Hd (f : Nat → P2) (n : Nat) : Prop := (1 ≤ n ∧ n ≤ 25) ∧ (∀ i, i < n → -2 ≤ (f i).1 ∧ (f i).1 ≤ 2 ∧ -2 ≤ (f i).2 ∧ (f i).2 ≤ 2) ∧ ∀ i, i < n - 1 → pc (f i) (f (i + 1)) < 0
instance (f : Nat → P2) (n : Nat) : Decidable (Hd f n) := by unfold Hd; exact inferInstance
theorem last_any (x y ww hh : Int) (w : World) (hx : -1048576 ≤ x) (hx' : x ≤ 1048576) (hy : -1048576 ≤ y) (hy' : y ≤ 1048576) (h1 : 1 ≤ ww) (h2 : ww ≤ 2097153) (h3 : 1 ≤ hh) (h4 : hh ≤ 2097153) :
    Calls Tryz.prog 89 #[.agg #[.int .i64 x, .int .i64 y, .int .i64 ww, .int .i64 hh]] w fun e w' => e = .returned (.agg #[.int .i64 (x + ww - 1), .int .i64 (y + hh - 1)]) ∧ Below w.heap.size w w' := by
  go_enter Tryz.func89, Tryz.ntmps89
  go_wp2
  refine bodyPost_ret (v := .agg #[.int .i64 (x + ww - 1), .int .i64 (y + hh - 1)]) (by simp [results, Tryz.results89, go_sem]) rfl ⟨rfl, ?_⟩
  exact ((Below.refl _ _).alloc (Nat.le_refl _) _).alloc (by simp) _
set_option maxHeartbeats 1000000 in
theorem in_any (x y : Int) (w : World) (hx : -2 ≤ x) (hx' : x ≤ 2) (hy : -2 ≤ y) (hy' : y ≤ 2) :
    Calls Tryz.prog 63 #[.agg #[.int .i64 (-2), .int .i64 (-2), .int .i64 5, .int .i64 5], .agg #[.int .i64 x, .int .i64 y]] w fun e w' => e = .returned (.bool true) ∧ Below w.heap.size w w' := by
  have R := Lib.hid (fun w => right_yes (-2) (-2) 5 5 w (by unfold Ok OkS; omega))
  have L := Lib.hid (fun w => by have := last_any (-2) (-2) 5 5 w (by omega) (by omega) (by omega) (by omega) (by omega) (by omega) (by omega) (by omega); rwa [show (-2 : Int) + 5 - 1 = 2 by decide] at this)
  have K1 := (Blk.new w 107 #[.int .i64 (-2), .int .i64 (-2), .int .i64 5, .int .i64 5]).alloc (.cells #[.int .i64 x, .int .i64 y] 58)
  have K2 := Blk.new (w.alloc (.cells #[.int .i64 (-2), .int .i64 (-2), .int .i64 5, .int .i64 5] 107)) 58 #[.int .i64 x, .int .i64 y]
  rw [show (w.alloc (.cells #[.int .i64 (-2), .int .i64 (-2), .int .i64 5, .int .i64 5] 107)).heap.size = w.heap.size + 1 by simp] at K2
  have B2 : Below w.heap.size w ((w.alloc (.cells #[.int .i64 (-2), .int .i64 (-2), .int .i64 5, .int .i64 5] 107)).alloc (.cells #[.int .i64 x, .int .i64 y] 58)) := ((Below.refl _ _).alloc (Nat.le_refl _) _).alloc (by simp) _
  go_enter Tryz.func63, Tryz.ntmps63
  go_wp2_with fail
  generalize (w.alloc (.cells #[.int .i64 (-2), .int .i64 (-2), .int .i64 5, .int .i64 5] 107)).alloc (.cells #[.int .i64 x, .int .i64 y] 58) = w0 at K1 K2 B2 ⊢
  obtain ⟨a0, a1, a2, a3, a4⟩ := K1.four
  have K1 := Lib.hid K1
  have K2 := Lib.hid K2
  have B2 := Lib.hid B2
  go_wp2_with (first
    | (go_at_call 88; (with_reducible refine (R.out _).mono ?_); rintro e w1 ⟨rfl, hb⟩; have B3 := Lib.hid (B2.out.trans (hb.mono B2.out.size)); have C3 := Lib.hid hb; obtain ⟨b0, b1, b2, b3, b4⟩ := (K1.out.below hb K1.out.lt).four; clear hb)
    | (go_at_call 89; (with_reducible refine (L.out _).mono ?_); rintro e w2 ⟨rfl, hb⟩; have B4 := Lib.hid (B3.out.trans (hb.mono B3.out.size)); have C4 := C3.out.trans (hb.mono C3.out.size); obtain ⟨d0, d1, d2, d3, d4⟩ := ((K1.out.below C4 K1.out.lt).alloc (.cells #[.int .i64 2, .int .i64 2] 58)).four; obtain ⟨e0, e1, e2, e3, e4⟩ := ((K2.out.below C4 K2.out.lt).alloc (.cells #[.int .i64 2, .int .i64 2] 58)).two; have B5 := Lib.hid (B4.out.alloc B4.out.size (.cells #[.int .i64 2, .int .i64 2] 58)); clear hb C4))
  go_ret
  exact ⟨rfl, B5.out⟩
set_option maxRecDepth 100000 in
set_option maxHeartbeats 2000000 in
theorem hright_any (A : Option Addr) (n c : Nat) (f : Nat → P2) (w : World) (h : QReads w w.heap.size A n f) (hd : Hd f n) :
    Calls Tryz.prog 37 #[.slice A n c] w fun e w' => e = .returned (.bool true) ∧ Below w.heap.size w w' := by
  obtain ⟨⟨hn1, hn2⟩, hin, hup⟩ := hd
  have hl1 : ¬ ((n : Int) < 1) := by omega
  have hl2 : ¬ (25 < (n : Int)) := by omega
  have H := Lib.hid h
  have HI := Lib.hid hin
  have HU := Lib.hid hup
  have SQ := Lib.hid (fun w => square_any 2 5 w (by omega) (by omega) (by omega))
  clear h hin hup
  go_enter Tryz.func37, Tryz.ntmps37
  go_wp2
  go_loopw [15] (fun iv wr => ∃ j : Nat, j ≤ n ∧ iv = .int .i64 (j : Int) ∧ Below w.heap.size w wr) (fun iv _ => n - (intOf iv).toNat)
  case atStart => exact ⟨0, Nat.zero_le _, rfl, Below.refl _ _⟩
  case round =>
    obtain ⟨j, hj, rfl, hbel⟩ := hrel
    have R := H.out.below hbel
    have HB := Lib.hid hbel
    by_cases hjn : j < n
    · obtain ⟨g1, o1, rfl, hb1, hc1⟩ := R (by omega)
      have c1 := hc1 j hjn
      have hgw : g1 < wr.heap.size := Nat.lt_of_lt_of_le hb1 hbel.size
      have hx4 := HI.out j hjn
      clear hbel
      obtain ⟨⟨x1, x2⟩, hx⟩ : ∃ x, x = f j := ⟨_, rfl⟩
      rw [← hx] at c1 hx4
      obtain ⟨c10, c11⟩ := c1
      simp only at c10 c11 hx4
      have IN := Lib.hid (fun w => in_any x1 x2 w hx4.1 hx4.2.1 hx4.2.2.1 hx4.2.2.2)
      have K7 := Lib.hid (Blk.new wr 58 #[.int .i64 x1, .int .i64 x2])
      have B7 := Lib.hid (HB.out.alloc HB.out.size (.cells #[.int .i64 x1, .int .i64 x2] 58))
      have BW := Lib.hid ((Below.refl wr.heap.size wr).alloc (Nat.le_refl _) (.cells #[.int .i64 x1, .int .i64 x2] 58))
      have HX := Lib.hid hx
      have S7 : wr.heap.size < (wr.alloc (.cells #[.int .i64 x1, .int .i64 x2] 58)).heap.size := by simp
      by_cases hj0 : j = 0
      · subst hj0
        simp only [Nat.zero_mul, Nat.add_zero, Nat.zero_add] at c10 c11
        clear hc1 R hx hx4
        go_wp2_with fail
        generalize wr.alloc (.cells #[.int .i64 x1, .int .i64 x2] 58) = w1 at K7 B7 BW S7 ⊢
        have q0 := fun p : LowW w1.heap.size w1 => (K7.out.below p.below K7.out.lt).two.1
        have q1 := fun p : LowW w1.heap.size w1 => (K7.out.below p.below K7.out.lt).two.2.1
        refine wp_region_low w1.heap.size w1 (by kernel_rfl) (by kernel_rfl) (Below.refl _ _) ?_
        repeat (quiet_step (first | (go_at_call 64; with_reducible exact LowW.of_call _ (Nat.le_refl _) (SQ.out _)) | (go_at_call 63; with_reducible exact LowW.of_call _ (Nat.le_refl _) (IN.out _))))
        refine wpQuiet_nil ?_
        rintro w2 ⟨p, rfl⟩
        have B2 := Lib.hid (B7.out.trans (p.below.mono B7.out.size))
        clear q0 q1
        generalize p.w = w2 at B2 ⊢
        go_wp2_with fail
        go_region
        all_goals go_wp2
        all_goals go_roundw
        case rel => exact ⟨0 + 1, by omega, by go_num, B2.out.drew⟩
        case measure => simp [intOf]; omega
      · obtain ⟨i, hi⟩ : ∃ i, j = i + 1 := ⟨j - 1, by omega⟩
        have hin : i < n := by omega
        have e1 : (j : Int) - 1 = (i : Int) := by omega
        have hd1 : decide (0 < (j : Int)) = true := by rw [decide_eq_true_iff]; omega
        have hd2 : decide (0 < j) = true := by rw [decide_eq_true_iff]; omega
        have hw1 : IntKind.i64.wrap ((j : Int) - 1) = (i : Int) := by rw [e1]; exact IntWalk.i64_in _ (by omega)
        have c2 := hc1 i hin
        have hr := HU.out i (by omega)
        rw [← hi, ← hx] at hr
        obtain ⟨⟨y1, y2⟩, hy⟩ : ∃ y, y = f i := ⟨_, rfl⟩
        rw [← hy] at c2 hr
        have hr : or2 (sg y2 x2) (sg y1 x1) < 0 := hr
        have P := fun w => pcompare_any y1 y2 x1 x2 w
        generalize or2 (sg y2 x2) (sg y1 x1) = r at P hr
        have zz := Lib.hid P
        (try clear P)
        have P := zz
        clear zz
        have C2 := Lib.hid c2
        have hnr : ¬ (0 ≤ r) := by omega
        clear hc1 R hx hx4 hy hi hj0 c2 e1
        go_wp2_with fail
        generalize wr.alloc (.cells #[.int .i64 x1, .int .i64 x2] 58) = w1 at K7 B7 BW S7 ⊢
        have q0 := fun p : LowW w1.heap.size w1 => (K7.out.below p.below K7.out.lt).two.1
        have q1 := fun p : LowW w1.heap.size w1 => (K7.out.below p.below K7.out.lt).two.2.1
        refine wp_region_low w1.heap.size w1 (by kernel_rfl) (by kernel_rfl) (Below.refl _ _) ?_
        repeat (quiet_step (first | (go_at_call 64; with_reducible exact LowW.of_call _ (Nat.le_refl _) (SQ.out _)) | (go_at_call 63; with_reducible exact LowW.of_call _ (Nat.le_refl _) (IN.out _))))
        refine wpQuiet_nil ?_
        rintro w2 ⟨p, rfl⟩
        have B2 := Lib.hid (B7.out.trans (p.below.mono B7.out.size))
        have BX := Lib.hid (BW.out.trans (p.below.mono BW.out.size))
        have K8 := Lib.hid (K7.out.below p.below K7.out.lt)
        clear q0 q1
        generalize p.w = w2 at B2 BX K8 ⊢
        go_wp2_with fail
        have d0 := fun p : LowW w2.heap.size w2 => LowW.cell (a := ⟨g1, o1 + i * 2, none⟩) (Nat.lt_of_lt_of_le hgw BX.out.size) ((BX.out.cell hgw).trans C2.out.1) p
        have d1 := fun p : LowW w2.heap.size w2 => LowW.cell (a := ⟨g1, o1 + i * 2 + 1, none⟩) (Nat.lt_of_lt_of_le hgw BX.out.size) ((BX.out.cell hgw).trans C2.out.2) p
        have q0 := fun p : LowW w2.heap.size w2 => (K8.out.below p.below K8.out.lt).two.1
        have q1 := fun p : LowW w2.heap.size w2 => (K8.out.below p.below K8.out.lt).two.2.1
        clear c10 c11
        refine wp_region_low w2.heap.size w2 (by kernel_rfl) (by kernel_rfl) (Below.refl _ _) ?_
        repeat (quiet_step (first | (go_at_call 65; with_reducible exact LowW.of_call _ (Nat.le_refl _) (P.out _))))
        refine wpQuiet_nil ?_
        rintro w3 ⟨p, rfl⟩
        have B3 := Lib.hid (B2.out.trans (p.below.mono B2.out.size))
        clear d0 d1 q0 q1 hw1
        generalize p.w = w3 at B3 ⊢
        go_wp2
        go_roundw
        case rel => exact ⟨j + 1, by omega, by go_num, B3.out⟩
        case measure => simp [intOf]; omega
    · obtain rfl : j = n := by omega
      clear R hbel
      go_wp2
      go_ret
      exact ⟨rfl, HB.out⟩
end Go.Proofs.YtcgkkppidkkjiaaGreatDoor
namespace Go.Proofs.YtcgkkppidkkjiaaGreatDoor
open Go.RowKit
/-- a list of nodes -/
def NR (w : World) (B : Nat) (A : Option Addr) (m : Nat) (lv : Nat → Int) (nx : Nat → List Int) : Prop :=
  0 < m → ∃ g o, A = some ⟨g, o, none⟩ ∧ g < B ∧ ∀ k, k < m → ∃ A' c', w.cell? ⟨g, o + k * 2, none⟩ = some (.int .i64 (lv k)) ∧ w.cell? ⟨g, o + k * 2 + 1, none⟩ = some (.slice A' (nx k).length c') ∧ Reads w B A' (nx k).length (il (nx k))
section
variable {w w' : World} {B B' m : Nat} {A : Option Addr} {lv : Nat → Int} {nx : Nat → List Int}
theorem NR.below (h : NR w B A m lv nx) (hb : Below B w w') : NR w' B A m lv nx := fun hn => by
  obtain ⟨g, o, e, hg, hc⟩ := h hn
  exact ⟨g, o, e, hg, fun k hk => by
    obtain ⟨A', c', h1, h2, h3⟩ := hc k hk
    exact ⟨A', c', (hb.cell (p := ⟨g, _, none⟩) hg).trans h1, (hb.cell (p := ⟨g, _, none⟩) hg).trans h2, h3.below hb⟩⟩
theorem NR.more (h : NR w B A m lv nx) (hB : B ≤ B') : NR w B' A m lv nx := fun hn => by
  obtain ⟨g, o, e, hg, hc⟩ := h hn
  exact ⟨g, o, e, Nat.lt_of_lt_of_le hg hB, fun k hk => by
    obtain ⟨A', c', h1, h2, h3⟩ := hc k hk
    exact ⟨A', c', h1, h2, h3.more hB⟩⟩
theorem NR.later (h : NR w w.heap.size A m lv nx) (hb : Below w.heap.size w w') : NR w' w'.heap.size A m lv nx := (h.below hb).more hb.size
end
/-- a rule tree -/
structure Tr where
  st : Int
  n : Nat
  f : Nat → P2
  m : Nat
  lv : Nat → Int
  nx : Nat → List Int
/-- what its lists read as -/
def TS (w : World) (AH AN : Option Addr) (T : Tr) : Prop := QReads w w.heap.size AH T.n T.f ∧ NR w w.heap.size AN T.m T.lv T.nx
theorem TS.later {w w' : World} {AH AN : Option Addr} {T : Tr} (h : TS w AH AN T) (hb : Below w.heap.size w w') : TS w' AH AN T := ⟨h.1.later hb, h.2.later hb⟩

/-- an element of a node with the index i and the level l -/
def El (st : Int) (lv : Nat → Int) (i : Nat) (l k : Int) : Prop := 0 ≤ k ∧ (l = 1 → k < st) ∧ (1 < l → k < (i : Int) ∧ lv k.toNat = l - 1)
/-- a node with the index i -/
def Nd (st : Int) (n : Nat) (lv : Nat → Int) (i : Nat) (l : Int) (e : List Int) : Prop := 1 ≤ l ∧ l ≤ (n : Int) ∧ (e.length : Int) = st ∧ ∀ s, s < e.length → El st lv i l (ig e s)
/-- a valid tree -/
structure Rtt (T : Tr) : Prop where
  s1 : 2 ≤ T.st
  s2 : T.st ≤ 8
  hd : Hd T.f T.n
  m1 : 1 ≤ T.m
  m2 : T.m ≤ 4096
  nd : ∀ i, i < T.m → Nd T.st T.n T.lv i (T.lv i) (T.nx i)
  top : T.lv (T.m - 1) = (T.n : Int)
theorem Blk.three {w : World} {g : Nat} {t : TypeId} {a b c : Value} (h : Blk w g t #[a, b, c]) : w.cell? ⟨g, 0, none⟩ = some a ∧ w.cell? ⟨g, 1, none⟩ = some b ∧ w.cell? ⟨g, 2, none⟩ = some c ∧ g < w.heap.size :=
  ⟨by rw [h.cell]; rfl, by rw [h.cell]; rfl, by rw [h.cell]; rfl, h.lt⟩

end Go.Proofs.YtcgkkppidkkjiaaGreatDoor
namespace Go.Proofs.YtcgkkppidkkjiaaGreatDoor
open Go.RowKit
/-- the value to which states lead from an index -/
def fo (nx : Nat → List Int) : Int → List Int → Int
  | k, [] => k
  | k, s :: r => fo nx (ig (nx k.toNat) s.toNat) r
theorem fo_step (nx : Nat → List Int) (k : Int) {l : List Int} {j : Nat} (hj : j < l.length) : fo nx k (l.drop j) = fo nx (ig (nx k.toNat) (ig l j).toNat) (l.drop (j + 1)) := by
  rw [List.drop_eq_getElem_cons hj, fo]
  congr 1
  simp [ig, hj]

section
variable (AH : Option Addr) (cH : Nat) (AN : Option Addr) (cN : Nat) (T : Tr) (AI : Option Addr) (cI : Nat) (l : List Int) (w : World)
/-- what Eval answers, where V is the value to which the states lead -/
def ev (st : Int) (n : Nat) (l : List Int) (V : Int) : Int × Int := if l.length = n then (if als st l = true then (V, 0) else (0, 10)) else (0, 2)
end
end Go.Proofs.YtcgkkppidkkjiaaGreatDoor
