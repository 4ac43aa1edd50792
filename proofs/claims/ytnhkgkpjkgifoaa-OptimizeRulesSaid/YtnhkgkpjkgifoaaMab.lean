/- Lists of positions as cells: what a row reads as. -/
/- Lists of numbers: what they read as; their comparison. -/
/- The walks of cmp.Compare, cmp.Or, point.Compare. -/
/- The walk of hood's square. -/
/- The walks of last, In, and Right on valid neighbourhoods. -/
import Derived.Test.YtnhkgkpjkgifoaaMaa
import Derived.Below
import Derived.BigQuiet
import Derived.Deep.AppendLies
import Derived.Deep.Draws
import Derived.Deep.QuietTactic
import Derived.IntWalk
import Derived.Laws.OwnMore
import Derived.Laws.Rows
import Derived.Lib.Hide
import Derived.OwnWalk
import Derived.StillTail
import Derived.Test.YtnhkgkpjkgifoaaRows
import Derived.WalkKit
import Derived.LoopN
import Derived.StillTailTactics
namespace Go.Proofs.Ytnhkgkpjkgifoaa
open Go.RowKit
/-- block g, below B, holds the list from its first cell on -/
def PReads (w : World) (B g n : Nat) (f : Nat → Int × Int) : Prop :=
  g < B ∧ ∀ k, k < n → w.cell? ⟨g, k * 2, none⟩ = some (.int .i64 (f k).1) ∧ w.cell? ⟨g, k * 2 + 1, none⟩ = some (.int .i64 (f k).2)
section
variable {w w' : World} {B B' g n : Nat} {f : Nat → Int × Int}
theorem PReads.below (h : PReads w B g n f) (hb : Below B w w') : PReads w' B g n f :=
  ⟨h.1, fun k hk => ⟨(hb.cell h.1).trans (h.2 k hk).1, (hb.cell h.1).trans (h.2 k hk).2⟩⟩
theorem PReads.more (h : PReads w B g n f) (hB : B ≤ B') : PReads w B' g n f := ⟨Nat.lt_of_lt_of_le h.1 hB, h.2⟩
end
end Go.Proofs.Ytnhkgkpjkgifoaa
namespace Go.Proofs.Ytnhkgkpjkgifoaa
open Go.RowKit
/-- a position: x and y -/
abbrev P2 := Int × Int

/-- a list of n positions, f 0, f 1, .., at the address A, below block B -/
def QReads (w : World) (B : Nat) (A : Option Addr) (n : Nat) (f : Nat → P2) : Prop :=
  0 < n → ∃ g o, A = some ⟨g, o, none⟩ ∧ g < B ∧ ∀ k, k < n → w.cell? ⟨g, o + k * 2, none⟩ = some (.int .i64 (f k).1) ∧ w.cell? ⟨g, o + k * 2 + 1, none⟩ = some (.int .i64 (f k).2)
section
variable {w w' : World} {B B' n : Nat} {A : Option Addr} {f : Nat → P2}
theorem QReads.keep (h : QReads w B A n f) (hk : ∀ p : Addr, p.block < B → w'.cell? p = w.cell? p) : QReads w' B A n f := fun hn => by
  obtain ⟨g, o, e, hg, hc⟩ := h hn
  exact ⟨g, o, e, hg, fun k hk' => by rw [hk _ hg, hk _ hg]; exact hc k hk'⟩
theorem QReads.more (h : QReads w B A n f) (hB : B ≤ B') : QReads w B' A n f := fun hn => by
  obtain ⟨g, o, e, hg, hc⟩ := h hn
  exact ⟨g, o, e, Nat.lt_of_lt_of_le hg hB, hc⟩
theorem QReads.below (h : QReads w B A n f) (hb : Below B w w') : QReads w' B A n f := h.keep fun _ hp => hb.cell hp
theorem QReads.later (h : QReads w w.heap.size A n f) (hb : Below w.heap.size w w') : QReads w' w'.heap.size A n f := (h.below hb).more hb.size
theorem QReads.drew (h : QReads w B A n f) : QReads w.drew B A n f := h
theorem QReads.drewN (h : QReads w B A n f) (k : Nat) : QReads (w.drewN k) B A n f := h
end
theorem below_drewN {B : Nat} {w w' : World} (h : Below B w w') (k : Nat) : Below B w (w'.drewN k) := ⟨h.os, h.tape, h.output, h.size, h.block⟩

/-- the order of numbers -/
def sg (a b : Int) : Int := if a < b then -1 else if b < a then 1 else 0
/-- the first that is not 0 -/
def or2 (u v : Int) : Int := if u = 0 then v else u
/-- the order of positions -/
def pc (a b : P2) : Int := or2 (sg a.2 b.2) (sg a.1 b.1)
theorem sg_lt (a b : Int) : sg a b < 0 ↔ a < b := by unfold sg; split <;> (try split) <;> omega
theorem sg_zero (a b : Int) : sg a b = 0 ↔ a = b := by unfold sg; split <;> (try split) <;> omega
theorem pc_lt (a b : P2) : pc a b < 0 ↔ (a.2 < b.2 ∨ a.2 = b.2 ∧ a.1 < b.1) := by
  unfold pc or2
  have h1 := sg_lt a.2 b.2
  have h2 := sg_zero a.2 b.2
  have h3 := sg_lt a.1 b.1
  split <;> omega
end Go.Proofs.Ytnhkgkpjkgifoaa
namespace Go.Proofs.Ytnhkgkpjkgifoaa
open Go.RowKit
/-- a list of numbers as cells -/
def il (l : List Int) : List Value := l.map fun x => .int .i64 x
/-- number k of a list -/
def ig (l : List Int) (k : Nat) : Int := l.getD k 0
theorem Reads.later {w w' : World} {A : Option Addr} {n : Nat} {xs : List Value} (h : Reads w w.heap.size A n xs) (hb : Below w.heap.size w w') : Reads w' w'.heap.size A n xs := (h.below hb).more hb.size
theorem il_at {w : World} {B n : Nat} {A : Option Addr} {l : List Int} (h : Reads w B A n (il l)) {k : Nat} (hk : k < n) :
    ∃ ad, A = some ad ∧ ad.block < B ∧ w.cell? (ad.add k) = some (.int .i64 (ig l k)) := by
  obtain ⟨ad, u, e, hb, hx, hc⟩ := h.at_ hk
  refine ⟨ad, e, hb, ?_⟩
  rw [hc, ← hx]
  simp only [il, List.getElem?_map, ig, List.getD] at hx ⊢
  cases h' : l[k]? with
  | none => rw [h'] at hx; cases hx
  | some d => simp
theorem reads_len {w : World} {B n : Nat} {A : Option Addr} {l : List Int} (h : Reads w B A n (il l)) : l.length = n := by simpa [il] using h.1
end Go.Proofs.Ytnhkgkpjkgifoaa
namespace Go.Proofs.Ytnhkgkpjkgifoaa
open Go.RowKit
theorem isnan_any (a : Int) (w : World) : Calls Try.prog 129 #[.int .i64 a] w fun e w' => e = .returned (.bool false) ∧ w = w' := by
  go_enter Try.func129, Try.ntmps129
  go_wp2
  go_ret
  exact ⟨rfl, rfl⟩
theorem cmp_any (a b : Int) (w : World) : Calls Try.prog 127 #[.int .i64 a, .int .i64 b] w fun e w' => e = .returned (.int .i64 (sg a b)) ∧ w = w' := by
  unfold sg
  split
  · next h =>
    go_enter Try.func127, Try.ntmps127
    go_wp2_with (go_at_call 129; refine (isnan_any _ _).mono ?_; rintro e w' ⟨rfl, rfl⟩)
    go_ret
    exact ⟨rfl, rfl⟩
  · next h =>
    split
    · next h2 =>
      go_enter Try.func127, Try.ntmps127
      go_wp2_with (go_at_call 129; refine (isnan_any _ _).mono ?_; rintro e w' ⟨rfl, rfl⟩)
      go_ret
      exact ⟨rfl, rfl⟩
    · next h2 =>
      go_enter Try.func127, Try.ntmps127
      go_wp2_with (go_at_call 129; refine (isnan_any _ _).mono ?_; rintro e w' ⟨rfl, rfl⟩)
      go_ret
      exact ⟨rfl, rfl⟩

theorem or_any (u v : Int) (g : Nat) (t : TypeId) (w : World) (h : Blk w g t #[.int .i64 u, .int .i64 v]) :
    Calls Try.prog 126 #[.slice (some ⟨g, 0, none⟩) 2 2] w fun e w' => e = .returned (.int .i64 (or2 u v)) ∧ w = w' := by
  obtain ⟨k0, k1, k2, k3, k4⟩ := h.two
  clear h
  unfold or2
  split
  · next e =>
    subst e
    by_cases e : v = 0
    · subst e
      go_enter Try.func126, Try.ntmps126
      go_wp2
      refine wp_loop_rounds 3 ?_
      rw [rounds_succ]
      go_wp2
      rw [rounds_succ]
      go_wp2
      rw [rounds_succ]
      go_wp2
      go_ret
      exact ⟨rfl, rfl⟩
    · have hz : (v == 0) = false := by rw [beq_eq_false_iff_ne]; exact e
      go_enter Try.func126, Try.ntmps126
      go_wp2
      refine wp_loop_rounds 2 ?_
      rw [rounds_succ]
      go_wp2
      rw [rounds_succ]
      go_wp2
      go_ret
      exact ⟨rfl, rfl⟩
  · next e =>
    have hz : (u == 0) = false := by rw [beq_eq_false_iff_ne]; exact e
    go_enter Try.func126, Try.ntmps126
    go_wp2
    refine wp_loop_rounds 1 ?_
    rw [rounds_succ]
    go_wp2
    go_ret
    exact ⟨rfl, rfl⟩

theorem below_quiet {P : Program} {f : FuncId} {args : Array Value} {w : World} {v : Value} (h : Calls P f args w fun e w' => e = .returned v ∧ w = w') : Calls P f args w fun e w' => e = .returned v ∧ Below w.heap.size w w' :=
  h.mono fun _ _ ⟨he, hw⟩ => ⟨he, hw ▸ Below.refl _ _⟩
set_option maxHeartbeats 1000000 in
theorem pcompare_any (x y u v : Int) (w : World) :
    Calls Try.prog 119 #[.agg #[.int .i64 x, .int .i64 y], .agg #[.int .i64 u, .int .i64 v]] w fun e w' => e = .returned (.int .i64 (or2 (sg y v) (sg x u))) ∧ Below w.heap.size w w' := by
  have K1 := (Blk.new w 80 #[.int .i64 x, .int .i64 y]).alloc (.cells #[.int .i64 u, .int .i64 v] 80)
  have K2 := Blk.new (w.alloc (.cells #[.int .i64 x, .int .i64 y] 80)) 80 #[.int .i64 u, .int .i64 v]
  rw [show (w.alloc (.cells #[.int .i64 x, .int .i64 y] 80)).heap.size = w.heap.size + 1 by simp] at K2
  have B2 : Below w.heap.size w ((w.alloc (.cells #[.int .i64 x, .int .i64 y] 80)).alloc (.cells #[.int .i64 u, .int .i64 v] 80)) := ((Below.refl _ _).alloc (Nat.le_refl _) _).alloc (by simp) _
  have C1 := Lib.hid cmp_any
  go_enter Try.func119, Try.ntmps119
  go_wp2_with fail
  generalize (w.alloc (.cells #[.int .i64 x, .int .i64 y] 80)).alloc (.cells #[.int .i64 u, .int .i64 v] 80) = w0 at K1 K2 B2 ⊢
  have k10 := fun p : LowW w0.heap.size w0 => (K1.below p.below K1.lt).two.1
  have k11 := fun p : LowW w0.heap.size w0 => (K1.below p.below K1.lt).two.2.1
  have k20 := fun p : LowW w0.heap.size w0 => (K2.below p.below K2.lt).two.1
  have k21 := fun p : LowW w0.heap.size w0 => (K2.below p.below K2.lt).two.2.1
  have B2 := Lib.hid B2
  clear K1 K2
  refine wp_region_low_tail w0.heap.size w0 10 (by kernel_rfl) (by kernel_rfl) (Below.refl _ _) ?_
  simp only [List.take_succ_cons, List.take_zero, List.drop_succ_cons, List.drop_zero]
  repeat (quiet_step (first | (go_at_call 127; with_reducible exact LowW.of_call _ (Nat.le_refl _) (below_quiet (C1.out _ _ _)))))
  refine wpQuiet_nil ?_
  rintro w' ⟨p, rfl⟩
  have PB := Lib.hid p.below
  clear k10 k11 k20 k21
  generalize p.w = w1 at PB ⊢
  go_wp2_with (go_at_call 126; refine (or_any _ _ _ 3 _ (Blk.new _ _ _)).mono ?_; rintro e w2 ⟨rfl, rfl⟩)
  go_ret
  exact ⟨rfl, (B2.out.trans (PB.out.mono B2.out.size)).alloc (Nat.le_trans B2.out.size PB.out.size) _⟩

end Go.Proofs.Ytnhkgkpjkgifoaa
namespace Go.Proofs.Ytnhkgkpjkgifoaa
open Go.RowKit
theorem square_any (r : Int) (n : Nat) (w : World) (h1 : 0 ≤ r) (h2 : r ≤ 2) (hn : 2 * r + 1 = (n : Int)) :
    Calls Try.prog 118 #[.int .i64 r] w fun e w' => e = .returned (.agg #[.int .i64 (-r), .int .i64 (-r), .int .i64 (n : Int), .int .i64 (n : Int)]) ∧ Below w.heap.size w w' := by
  go_enter Try.func118, Try.ntmps118
  go_wp2
  refine bodyPost_ret (v := .agg #[.int .i64 (-r), .int .i64 (-r), .int .i64 (n : Int), .int .i64 (n : Int)]) (by simp [results, Try.results118, go_sem, hn]) rfl ⟨rfl, ?_⟩
  exact (Below.refl _ _).alloc (Nat.le_refl _) _
end Go.Proofs.Ytnhkgkpjkgifoaa
namespace Go.Proofs.Ytnhkgkpjkgifoaa
open Go.RowKit
/-- a valid neighbourhood -/
def Hd (f : Nat → P2) (n : Nat) : Prop := (1 ≤ n ∧ n ≤ 25) ∧ (∀ i, i < n → -2 ≤ (f i).1 ∧ (f i).1 ≤ 2 ∧ -2 ≤ (f i).2 ∧ (f i).2 ≤ 2) ∧ ∀ i, i < n - 1 → pc (f i) (f (i + 1)) < 0
instance (f : Nat → P2) (n : Nat) : Decidable (Hd f n) := by unfold Hd; exact inferInstance
theorem last_any (x y ww hh : Int) (w : World) (hx : -1048576 ≤ x) (hx' : x ≤ 1048576) (hy : -1048576 ≤ y) (hy' : y ≤ 1048576) (h1 : 1 ≤ ww) (h2 : ww ≤ 2097153) (h3 : 1 ≤ hh) (h4 : hh ≤ 2097153) :
    Calls Try.prog 125 #[.agg #[.int .i64 x, .int .i64 y, .int .i64 ww, .int .i64 hh]] w fun e w' => e = .returned (.agg #[.int .i64 (x + ww - 1), .int .i64 (y + hh - 1)]) ∧ Below w.heap.size w w' := by
  go_enter Try.func125, Try.ntmps125
  go_wp2
  refine bodyPost_ret (v := .agg #[.int .i64 (x + ww - 1), .int .i64 (y + hh - 1)]) (by simp [results, Try.results125, go_sem]) rfl ⟨rfl, ?_⟩
  exact ((Below.refl _ _).alloc (Nat.le_refl _) _).alloc (by simp) _
set_option maxHeartbeats 1000000 in
theorem in_any (x y : Int) (w : World) (hx : -2 ≤ x) (hx' : x ≤ 2) (hy : -2 ≤ y) (hy' : y ≤ 2) :
    Calls Try.prog 117 #[.agg #[.int .i64 (-2), .int .i64 (-2), .int .i64 5, .int .i64 5], .agg #[.int .i64 x, .int .i64 y]] w fun e w' => e = .returned (.bool true) ∧ Below w.heap.size w w' := by
  have R := Lib.hid (fun w => right_yes (-2) (-2) 5 5 w (by unfold Ok OkS; omega))
  have L := Lib.hid (fun w => by have := last_any (-2) (-2) 5 5 w (by omega) (by omega) (by omega) (by omega) (by omega) (by omega) (by omega) (by omega); rwa [show (-2 : Int) + 5 - 1 = 2 by decide] at this)
  have K1 := (Blk.new w 148 #[.int .i64 (-2), .int .i64 (-2), .int .i64 5, .int .i64 5]).alloc (.cells #[.int .i64 x, .int .i64 y] 80)
  have K2 := Blk.new (w.alloc (.cells #[.int .i64 (-2), .int .i64 (-2), .int .i64 5, .int .i64 5] 148)) 80 #[.int .i64 x, .int .i64 y]
  rw [show (w.alloc (.cells #[.int .i64 (-2), .int .i64 (-2), .int .i64 5, .int .i64 5] 148)).heap.size = w.heap.size + 1 by simp] at K2
  have B2 : Below w.heap.size w ((w.alloc (.cells #[.int .i64 (-2), .int .i64 (-2), .int .i64 5, .int .i64 5] 148)).alloc (.cells #[.int .i64 x, .int .i64 y] 80)) := ((Below.refl _ _).alloc (Nat.le_refl _) _).alloc (by simp) _
  go_enter Try.func117, Try.ntmps117
  go_wp2_with fail
  generalize (w.alloc (.cells #[.int .i64 (-2), .int .i64 (-2), .int .i64 5, .int .i64 5] 148)).alloc (.cells #[.int .i64 x, .int .i64 y] 80) = w0 at K1 K2 B2 ⊢
  obtain ⟨a0, a1, a2, a3, a4⟩ := K1.four
  have K1 := Lib.hid K1
  have K2 := Lib.hid K2
  have B2 := Lib.hid B2
  go_wp2_with (first
    | (go_at_call 124; (with_reducible refine (R.out _).mono ?_); rintro e w1 ⟨rfl, hb⟩; have B3 := Lib.hid (B2.out.trans (hb.mono B2.out.size)); have C3 := Lib.hid hb; obtain ⟨b0, b1, b2, b3, b4⟩ := (K1.out.below hb K1.out.lt).four; clear hb)
    | (go_at_call 125; (with_reducible refine (L.out _).mono ?_); rintro e w2 ⟨rfl, hb⟩; have B4 := Lib.hid (B3.out.trans (hb.mono B3.out.size)); have C4 := C3.out.trans (hb.mono C3.out.size); obtain ⟨d0, d1, d2, d3, d4⟩ := ((K1.out.below C4 K1.out.lt).alloc (.cells #[.int .i64 2, .int .i64 2] 80)).four; obtain ⟨e0, e1, e2, e3, e4⟩ := ((K2.out.below C4 K2.out.lt).alloc (.cells #[.int .i64 2, .int .i64 2] 80)).two; have B5 := Lib.hid (B4.out.alloc B4.out.size (.cells #[.int .i64 2, .int .i64 2] 80)); clear hb C4))
  go_ret
  exact ⟨rfl, B5.out⟩
set_option maxRecDepth 100000 in
set_option maxHeartbeats 2000000 in
theorem hright_any (A : Option Addr) (n c : Nat) (f : Nat → P2) (w : World) (h : QReads w w.heap.size A n f) (hd : Hd f n) :
    Calls Try.prog 95 #[.slice A n c] w fun e w' => e = .returned (.bool true) ∧ Below w.heap.size w w' := by
  obtain ⟨⟨hn1, hn2⟩, hin, hup⟩ := hd
  have hl1 : ¬ ((n : Int) < 1) := by omega
  have hl2 : ¬ (25 < (n : Int)) := by omega
  have H := Lib.hid h
  have HI := Lib.hid hin
  have HU := Lib.hid hup
  have SQ := Lib.hid (fun w => square_any 2 5 w (by omega) (by omega) (by omega))
  clear h hin hup
  go_enter Try.func95, Try.ntmps95
  go_wp2
  go_loopw [15] (fun iv wr => ∃ j : Nat, j ≤ n ∧ iv = .int .i64 (j : Int) ∧ Below w.heap.size w wr) (fun iv _ => n - (intOf iv).toNat)
  case atStart => exact ⟨0, Nat.zero_le _, rfl, Below.refl _ _⟩
  case round =>
    obtain ⟨j, hj, rfl, hbel⟩ := hrel
    have R := H.out.below hbel
    have HB := Lib.hid hbel
    by_cases hjn : j < n
    · obtain ⟨g1, o1, rfl, hb1, hc1⟩ := R (by omega)
      have c1 := hc1 j hjn
      have hgw : g1 < wr.heap.size := Nat.lt_of_lt_of_le hb1 hbel.size
      have hx4 := HI.out j hjn
      clear hbel
      obtain ⟨⟨x1, x2⟩, hx⟩ : ∃ x, x = f j := ⟨_, rfl⟩
      rw [← hx] at c1 hx4
      obtain ⟨c10, c11⟩ := c1
      simp only at c10 c11 hx4
      have IN := Lib.hid (fun w => in_any x1 x2 w hx4.1 hx4.2.1 hx4.2.2.1 hx4.2.2.2)
      have K7 := Lib.hid (Blk.new wr 80 #[.int .i64 x1, .int .i64 x2])
      have B7 := Lib.hid (HB.out.alloc HB.out.size (.cells #[.int .i64 x1, .int .i64 x2] 80))
      have BW := Lib.hid ((Below.refl wr.heap.size wr).alloc (Nat.le_refl _) (.cells #[.int .i64 x1, .int .i64 x2] 80))
      have HX := Lib.hid hx
      have S7 : wr.heap.size < (wr.alloc (.cells #[.int .i64 x1, .int .i64 x2] 80)).heap.size := by simp
      by_cases hj0 : j = 0
      · subst hj0
        simp only [Nat.zero_mul, Nat.add_zero, Nat.zero_add] at c10 c11
        clear hc1 R hx hx4
        go_wp2_with fail
        generalize wr.alloc (.cells #[.int .i64 x1, .int .i64 x2] 80) = w1 at K7 B7 BW S7 ⊢
        have q0 := fun p : LowW w1.heap.size w1 => (K7.out.below p.below K7.out.lt).two.1
        have q1 := fun p : LowW w1.heap.size w1 => (K7.out.below p.below K7.out.lt).two.2.1
        refine wp_region_low w1.heap.size w1 (by kernel_rfl) (by kernel_rfl) (Below.refl _ _) ?_
        repeat (quiet_step (first | (go_at_call 118; with_reducible exact LowW.of_call _ (Nat.le_refl _) (SQ.out _)) | (go_at_call 117; with_reducible exact LowW.of_call _ (Nat.le_refl _) (IN.out _))))
        refine wpQuiet_nil ?_
        rintro w2 ⟨p, rfl⟩
        have B2 := Lib.hid (B7.out.trans (p.below.mono B7.out.size))
        clear q0 q1
        generalize p.w = w2 at B2 ⊢
        go_wp2_with fail
        go_region
        all_goals go_wp2
        all_goals go_roundw
        case rel => exact ⟨0 + 1, by omega, by go_num, B2.out.drew⟩
        case measure => simp [intOf]; omega
      · obtain ⟨i, hi⟩ : ∃ i, j = i + 1 := ⟨j - 1, by omega⟩
        have hin : i < n := by omega
        have e1 : (j : Int) - 1 = (i : Int) := by omega
        have hd1 : decide (0 < (j : Int)) = true := by rw [decide_eq_true_iff]; omega
        have hd2 : decide (0 < j) = true := by rw [decide_eq_true_iff]; omega
        have hw1 : IntKind.i64.wrap ((j : Int) - 1) = (i : Int) := by rw [e1]; exact IntWalk.i64_in _ (by omega)
        have c2 := hc1 i hin
        have hr := HU.out i (by omega)
        rw [← hi, ← hx] at hr
        obtain ⟨⟨y1, y2⟩, hy⟩ : ∃ y, y = f i := ⟨_, rfl⟩
        rw [← hy] at c2 hr
        have hr : or2 (sg y2 x2) (sg y1 x1) < 0 := hr
        have P := fun w => pcompare_any y1 y2 x1 x2 w
        generalize or2 (sg y2 x2) (sg y1 x1) = r at P hr
        have zz := Lib.hid P
        (try clear P)
        have P := zz
        clear zz
        have C2 := Lib.hid c2
        have hnr : ¬ (0 ≤ r) := by omega
        clear hc1 R hx hx4 hy hi hj0 c2 e1
        go_wp2_with fail
        generalize wr.alloc (.cells #[.int .i64 x1, .int .i64 x2] 80) = w1 at K7 B7 BW S7 ⊢
        have q0 := fun p : LowW w1.heap.size w1 => (K7.out.below p.below K7.out.lt).two.1
        have q1 := fun p : LowW w1.heap.size w1 => (K7.out.below p.below K7.out.lt).two.2.1
        refine wp_region_low w1.heap.size w1 (by kernel_rfl) (by kernel_rfl) (Below.refl _ _) ?_
        repeat (quiet_step (first | (go_at_call 118; with_reducible exact LowW.of_call _ (Nat.le_refl _) (SQ.out _)) | (go_at_call 117; with_reducible exact LowW.of_call _ (Nat.le_refl _) (IN.out _))))
        refine wpQuiet_nil ?_
        rintro w2 ⟨p, rfl⟩
        have B2 := Lib.hid (B7.out.trans (p.below.mono B7.out.size))
        have BX := Lib.hid (BW.out.trans (p.below.mono BW.out.size))
        have K8 := Lib.hid (K7.out.below p.below K7.out.lt)
        clear q0 q1
        generalize p.w = w2 at B2 BX K8 ⊢
        go_wp2_with fail
        have d0 := fun p : LowW w2.heap.size w2 => LowW.cell (a := ⟨g1, o1 + i * 2, none⟩) (Nat.lt_of_lt_of_le hgw BX.out.size) ((BX.out.cell hgw).trans C2.out.1) p
        have d1 := fun p : LowW w2.heap.size w2 => LowW.cell (a := ⟨g1, o1 + i * 2 + 1, none⟩) (Nat.lt_of_lt_of_le hgw BX.out.size) ((BX.out.cell hgw).trans C2.out.2) p
        have q0 := fun p : LowW w2.heap.size w2 => (K8.out.below p.below K8.out.lt).two.1
        have q1 := fun p : LowW w2.heap.size w2 => (K8.out.below p.below K8.out.lt).two.2.1
        clear c10 c11
        refine wp_region_low w2.heap.size w2 (by kernel_rfl) (by kernel_rfl) (Below.refl _ _) ?_
        repeat (quiet_step (first | (go_at_call 119; with_reducible exact LowW.of_call _ (Nat.le_refl _) (P.out _))))
        refine wpQuiet_nil ?_
        rintro w3 ⟨p, rfl⟩
        have B3 := Lib.hid (B2.out.trans (p.below.mono B2.out.size))
        clear d0 d1 q0 q1 hw1
        generalize p.w = w3 at B3 ⊢
        go_wp2
        go_roundw
        case rel => exact ⟨j + 1, by omega, by go_num, B3.out⟩
        case measure => simp [intOf]; omega
    · obtain rfl : j = n := by omega
      clear R hbel
      go_wp2
      go_ret
      exact ⟨rfl, HB.out⟩
end Go.Proofs.Ytnhkgkpjkgifoaa
