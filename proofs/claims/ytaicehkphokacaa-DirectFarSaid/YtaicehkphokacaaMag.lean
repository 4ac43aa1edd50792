/- The walks of last, In, and Right on valid neighbourhoods. -/
/- The walk of hood.Right on any list. -/
/- A list of nodes that grows in a struct. -/
/- Rows that the call owns: appends, and a list of nodes that grows beside a struct that holds it. -/
import Derived.Test.YtaicehkphokacaaMad
import Derived.Test.YtaicehkphokacaaMaf
import Derived.Test.YtaicehkphokacaaMaa
import Derived.Test.YtaicehkphokacaaMab
import Derived.Below
import Derived.BigQuiet
import Derived.Deep.AppendLies
import Derived.Deep.Draws
import Derived.Deep.QuietTactic
import Derived.IntWalk
import Derived.Laws.OwnMore
import Derived.Laws.Rows
import Derived.Lib.Hide
import Derived.LoopN
import Derived.OwnWalk
import Derived.StillTail
import Derived.StillTailTactics
import Derived.Test.YtaicehkphokacaaRows
import Derived.WalkKit
import Derived.Deep.CutRange
namespace Go.Proofs.Ytaicehkphokacaa
open Go.RowKit
/-- a valid neighbourhood -/
def Hd (f : Nat → P2) (n : Nat) : Prop := (1 ≤ n ∧ n ≤ 25) ∧ (∀ i, i < n → -2 ≤ (f i).1 ∧ (f i).1 ≤ 2 ∧ -2 ≤ (f i).2 ∧ (f i).2 ≤ 2) ∧ ∀ i, i < n - 1 → pc (f i) (f (i + 1)) < 0
instance (f : Nat → P2) (n : Nat) : Decidable (Hd f n) := by unfold Hd; exact inferInstance
theorem last_any (x y ww hh : Int) (w : World) (hx : -1048576 ≤ x) (hx' : x ≤ 1048576) (hy : -1048576 ≤ y) (hy' : y ≤ 1048576) (h1 : 1 ≤ ww) (h2 : ww ≤ 2097153) (h3 : 1 ≤ hh) (h4 : hh ≤ 2097153) :
    Calls Try.prog 90 #[.agg #[.int .i64 x, .int .i64 y, .int .i64 ww, .int .i64 hh]] w fun e w' => e = .returned (.agg #[.int .i64 (x + ww - 1), .int .i64 (y + hh - 1)]) ∧ Below w.heap.size w w' := by
  go_enter Try.func90, Try.ntmps90
  go_wp2
  refine bodyPost_ret (v := .agg #[.int .i64 (x + ww - 1), .int .i64 (y + hh - 1)]) (by simp [results, Try.results90, go_sem]) rfl ⟨rfl, ?_⟩
  exact ((Below.refl _ _).alloc (Nat.le_refl _) _).alloc (by simp) _
set_option maxHeartbeats 1000000 in
theorem in_any (x y : Int) (w : World) (hx : -2 ≤ x) (hx' : x ≤ 2) (hy : -2 ≤ y) (hy' : y ≤ 2) :
    Calls Try.prog 86 #[.agg #[.int .i64 (-2), .int .i64 (-2), .int .i64 5, .int .i64 5], .agg #[.int .i64 x, .int .i64 y]] w fun e w' => e = .returned (.bool true) ∧ Below w.heap.size w w' := by
  have R := Lib.hid (fun w => right_yes (-2) (-2) 5 5 w (by unfold Ok OkS; omega))
  have L := Lib.hid (fun w => by have := last_any (-2) (-2) 5 5 w (by omega) (by omega) (by omega) (by omega) (by omega) (by omega) (by omega) (by omega); rwa [show (-2 : Int) + 5 - 1 = 2 by decide] at this)
  have K1 := (Blk.new w 109 #[.int .i64 (-2), .int .i64 (-2), .int .i64 5, .int .i64 5]).alloc (.cells #[.int .i64 x, .int .i64 y] 52)
  have K2 := Blk.new (w.alloc (.cells #[.int .i64 (-2), .int .i64 (-2), .int .i64 5, .int .i64 5] 109)) 52 #[.int .i64 x, .int .i64 y]
  rw [show (w.alloc (.cells #[.int .i64 (-2), .int .i64 (-2), .int .i64 5, .int .i64 5] 109)).heap.size = w.heap.size + 1 by simp] at K2
  have B2 : Below w.heap.size w ((w.alloc (.cells #[.int .i64 (-2), .int .i64 (-2), .int .i64 5, .int .i64 5] 109)).alloc (.cells #[.int .i64 x, .int .i64 y] 52)) := ((Below.refl _ _).alloc (Nat.le_refl _) _).alloc (by simp) _
  go_enter Try.func86, Try.ntmps86
  go_wp2_with fail
  generalize (w.alloc (.cells #[.int .i64 (-2), .int .i64 (-2), .int .i64 5, .int .i64 5] 109)).alloc (.cells #[.int .i64 x, .int .i64 y] 52) = w0 at K1 K2 B2 ⊢
  obtain ⟨a0, a1, a2, a3, a4⟩ := K1.four
  have K1 := Lib.hid K1
  have K2 := Lib.hid K2
  have B2 := Lib.hid B2
  go_wp2_with (first
    | (go_at_call 83; (with_reducible refine (R.out _).mono ?_); rintro e w1 ⟨rfl, hb⟩; have B3 := Lib.hid (B2.out.trans (hb.mono B2.out.size)); have C3 := Lib.hid hb; obtain ⟨b0, b1, b2, b3, b4⟩ := (K1.out.below hb K1.out.lt).four; clear hb)
    | (go_at_call 90; (with_reducible refine (L.out _).mono ?_); rintro e w2 ⟨rfl, hb⟩; have B4 := Lib.hid (B3.out.trans (hb.mono B3.out.size)); have C4 := C3.out.trans (hb.mono C3.out.size); obtain ⟨d0, d1, d2, d3, d4⟩ := ((K1.out.below C4 K1.out.lt).alloc (.cells #[.int .i64 2, .int .i64 2] 52)).four; obtain ⟨e0, e1, e2, e3, e4⟩ := ((K2.out.below C4 K2.out.lt).alloc (.cells #[.int .i64 2, .int .i64 2] 52)).two; have B5 := Lib.hid (B4.out.alloc B4.out.size (.cells #[.int .i64 2, .int .i64 2] 52)); clear hb C4))
  go_ret
  exact ⟨rfl, B5.out⟩
set_option maxRecDepth 100000 in
set_option maxHeartbeats 2000000 in
theorem hright_any (A : Option Addr) (n c : Nat) (f : Nat → P2) (w : World) (h : QReads w w.heap.size A n f) (hd : Hd f n) :
    Calls Try.prog 82 #[.slice A n c] w fun e w' => e = .returned (.bool true) ∧ Below w.heap.size w w' := by
  obtain ⟨⟨hn1, hn2⟩, hin, hup⟩ := hd
  have hl1 : ¬ ((n : Int) < 1) := by omega
  have hl2 : ¬ (25 < (n : Int)) := by omega
  have H := Lib.hid h
  have HI := Lib.hid hin
  have HU := Lib.hid hup
  have SQ := Lib.hid (fun w => square_any 2 5 w (by omega) (by omega) (by omega))
  clear h hin hup
  go_enter Try.func82, Try.ntmps82
  go_wp2
  go_loopw [15] (fun iv wr => ∃ j : Nat, j ≤ n ∧ iv = .int .i64 (j : Int) ∧ Below w.heap.size w wr) (fun iv _ => n - (intOf iv).toNat)
  case atStart => exact ⟨0, Nat.zero_le _, rfl, Below.refl _ _⟩
  case round =>
    obtain ⟨j, hj, rfl, hbel⟩ := hrel
    have R := H.out.below hbel
    have HB := Lib.hid hbel
    by_cases hjn : j < n
    · obtain ⟨g1, o1, rfl, hb1, hc1⟩ := R (by omega)
      have c1 := hc1 j hjn
      have hgw : g1 < wr.heap.size := Nat.lt_of_lt_of_le hb1 hbel.size
      have hx4 := HI.out j hjn
      clear hbel
      obtain ⟨⟨x1, x2⟩, hx⟩ : ∃ x, x = f j := ⟨_, rfl⟩
      rw [← hx] at c1 hx4
      obtain ⟨c10, c11⟩ := c1
      simp only at c10 c11 hx4
      have IN := Lib.hid (fun w => in_any x1 x2 w hx4.1 hx4.2.1 hx4.2.2.1 hx4.2.2.2)
      have K7 := Lib.hid (Blk.new wr 52 #[.int .i64 x1, .int .i64 x2])
      have B7 := Lib.hid (HB.out.alloc HB.out.size (.cells #[.int .i64 x1, .int .i64 x2] 52))
      have BW := Lib.hid ((Below.refl wr.heap.size wr).alloc (Nat.le_refl _) (.cells #[.int .i64 x1, .int .i64 x2] 52))
      have HX := Lib.hid hx
      have S7 : wr.heap.size < (wr.alloc (.cells #[.int .i64 x1, .int .i64 x2] 52)).heap.size := by simp
      by_cases hj0 : j = 0
      · subst hj0
        simp only [Nat.zero_mul, Nat.add_zero, Nat.zero_add] at c10 c11
        clear hc1 R hx hx4
        go_wp2_with fail
        generalize wr.alloc (.cells #[.int .i64 x1, .int .i64 x2] 52) = w1 at K7 B7 BW S7 ⊢
        have q0 := fun p : LowW w1.heap.size w1 => (K7.out.below p.below K7.out.lt).two.1
        have q1 := fun p : LowW w1.heap.size w1 => (K7.out.below p.below K7.out.lt).two.2.1
        refine wp_region_low w1.heap.size w1 (by kernel_rfl) (by kernel_rfl) (Below.refl _ _) ?_
        repeat (quiet_step (first | (go_at_call 87; with_reducible exact LowW.of_call _ (Nat.le_refl _) (SQ.out _)) | (go_at_call 86; with_reducible exact LowW.of_call _ (Nat.le_refl _) (IN.out _))))
        refine wpQuiet_nil ?_
        rintro w2 ⟨p, rfl⟩
        have B2 := Lib.hid (B7.out.trans (p.below.mono B7.out.size))
        clear q0 q1
        generalize p.w = w2 at B2 ⊢
        go_wp2_with fail
        go_region
        all_goals go_wp2
        all_goals go_roundw
        case rel => exact ⟨0 + 1, by omega, by go_num, B2.out.drew⟩
        case measure => simp [intOf]; omega
      · obtain ⟨i, hi⟩ : ∃ i, j = i + 1 := ⟨j - 1, by omega⟩
        have hin : i < n := by omega
        have e1 : (j : Int) - 1 = (i : Int) := by omega
        have hd1 : decide (0 < (j : Int)) = true := by rw [decide_eq_true_iff]; omega
        have hd2 : decide (0 < j) = true := by rw [decide_eq_true_iff]; omega
        have hw1 : IntKind.i64.wrap ((j : Int) - 1) = (i : Int) := by rw [e1]; exact IntWalk.i64_in _ (by omega)
        have c2 := hc1 i hin
        have hr := HU.out i (by omega)
        rw [← hi, ← hx] at hr
        obtain ⟨⟨y1, y2⟩, hy⟩ : ∃ y, y = f i := ⟨_, rfl⟩
        rw [← hy] at c2 hr
        have hr : or2 (sg y2 x2) (sg y1 x1) < 0 := hr
        have P := fun w => pcompare_any y1 y2 x1 x2 w
        generalize or2 (sg y2 x2) (sg y1 x1) = r at P hr
        have zz := Lib.hid P
        (try clear P)
        have P := zz
        clear zz
        have C2 := Lib.hid c2
        have hnr : ¬ (0 ≤ r) := by omega
        clear hc1 R hx hx4 hy hi hj0 c2 e1
        go_wp2_with fail
        generalize wr.alloc (.cells #[.int .i64 x1, .int .i64 x2] 52) = w1 at K7 B7 BW S7 ⊢
        have q0 := fun p : LowW w1.heap.size w1 => (K7.out.below p.below K7.out.lt).two.1
        have q1 := fun p : LowW w1.heap.size w1 => (K7.out.below p.below K7.out.lt).two.2.1
        refine wp_region_low w1.heap.size w1 (by kernel_rfl) (by kernel_rfl) (Below.refl _ _) ?_
        repeat (quiet_step (first | (go_at_call 87; with_reducible exact LowW.of_call _ (Nat.le_refl _) (SQ.out _)) | (go_at_call 86; with_reducible exact LowW.of_call _ (Nat.le_refl _) (IN.out _))))
        refine wpQuiet_nil ?_
        rintro w2 ⟨p, rfl⟩
        have B2 := Lib.hid (B7.out.trans (p.below.mono B7.out.size))
        have BX := Lib.hid (BW.out.trans (p.below.mono BW.out.size))
        have K8 := Lib.hid (K7.out.below p.below K7.out.lt)
        clear q0 q1
        generalize p.w = w2 at B2 BX K8 ⊢
        go_wp2_with fail
        have d0 := fun p : LowW w2.heap.size w2 => LowW.cell (a := ⟨g1, o1 + i * 2, none⟩) (Nat.lt_of_lt_of_le hgw BX.out.size) ((BX.out.cell hgw).trans C2.out.1) p
        have d1 := fun p : LowW w2.heap.size w2 => LowW.cell (a := ⟨g1, o1 + i * 2 + 1, none⟩) (Nat.lt_of_lt_of_le hgw BX.out.size) ((BX.out.cell hgw).trans C2.out.2) p
        have q0 := fun p : LowW w2.heap.size w2 => (K8.out.below p.below K8.out.lt).two.1
        have q1 := fun p : LowW w2.heap.size w2 => (K8.out.below p.below K8.out.lt).two.2.1
        clear c10 c11
        refine wp_region_low w2.heap.size w2 (by kernel_rfl) (by kernel_rfl) (Below.refl _ _) ?_
        repeat (quiet_step (first | (go_at_call 80; with_reducible exact LowW.of_call _ (Nat.le_refl _) (P.out _))))
        refine wpQuiet_nil ?_
        rintro w3 ⟨p, rfl⟩
        have B3 := Lib.hid (B2.out.trans (p.below.mono B2.out.size))
        clear d0 d1 q0 q1 hw1
        generalize p.w = w3 at B3 ⊢
        go_wp2
        go_roundw
        case rel => exact ⟨j + 1, by omega, by go_num, B3.out⟩
        case measure => simp [intOf]; omega
    · obtain rfl : j = n := by omega
      clear R hbel
      go_wp2
      go_ret
      exact ⟨rfl, HB.out⟩
end Go.Proofs.Ytaicehkphokacaa
namespace Go.Proofs.Ytaicehkphokacaa
open Go.RowKit
/-- an offset -/
def ofs (p : P2) : Prop := -2 ≤ p.1 ∧ p.1 ≤ 2 ∧ -2 ≤ p.2 ∧ p.2 ≤ 2
instance (p : P2) : Decidable (ofs p) := by unfold ofs; exact inferInstance
end Go.Proofs.Ytaicehkphokacaa
namespace Go.Proofs.Ytaicehkphokacaa
open Go.RowKit
theorem Blk.three6 {w : World} {g : Nat} {t : TypeId} {a b c : Value} (h : Blk w g t #[a, b, c]) : w.cell? ⟨g, 0, none⟩ = some a ∧ w.cell? ⟨g, 1, none⟩ = some b ∧ w.cell? ⟨g, 2, none⟩ = some c ∧ w.frozen? ⟨g, 0, none⟩ = false ∧ w.frozen? ⟨g, 1, none⟩ = false ∧ w.frozen? ⟨g, 2, none⟩ = false ∧ g < w.heap.size :=
  ⟨by rw [h.cell]; rfl, by rw [h.cell]; rfl, by rw [h.cell]; rfl, h.frozen 0, h.frozen 1, h.frozen 2, h.lt⟩
end Go.Proofs.Ytaicehkphokacaa
namespace Go.Proofs.Ytaicehkphokacaa
open Go.RowKit
/-- what the call owns stays owned behind a store elsewhere -/
theorem own_set {w : World} {base k : Nat} {e : TypeId} {v : Value} {n : Nat} {xs : List Value} {p : Addr} (h : w.ownsRow base e k v n xs) (hp : v.ownBlock ≠ some p.block) (u : Value) : (w.setCell p u).ownsRow base e k v n xs := by
  refine ⟨h.1, ?_⟩
  rcases h.2 with hn | ⟨g, cap, cur, rfl, hb', hg, rest⟩
  · exact .inl hn
  · refine .inr ⟨g, cap, cur, rfl, hb', ?_, rest⟩
    have hne : g ≠ p.block := fun e => hp (by rw [e]; rfl)
    rw [Below.heap_setCell w p u g hne]; exact hg
section
variable {w w' : World} {G G' : Nat → Prop} {xs : List Value} {j : Nat} {lv : Nat → Int} {nx : Nat → List Int}
end
end Go.Proofs.Ytaicehkphokacaa
