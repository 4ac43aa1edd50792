/- The walk of nodesOf. -/
/- The tree that collect lays. -/
/- The walk of rightRow. -/
import Derived.Test.YtcgkkppidkkjiaaGreatDoorMad
import Derived.Test.YtcgkkppidkkjiaaGreatDoorMaa
import Derived.Test.YtcgkkppidkkjiaaGreatDoorMae
import Derived.Test.YtcgkkppidkkjiaaGreatDoorMac
import Derived.Test.YtcgkkppidkkjiaaGreatDoorMab
import Derived.Test.YtcgkkppidkkjiaaGreatDoorMai
import Derived.Test.YtcgkkppidkkjiaaGreatDoorMah
import Derived.Test.YtcgkkppidkkjiaaGreatDoorMag
import Derived.Below
import Derived.BigQuiet
import Derived.Carry
import Derived.Deep.AppendLies
import Derived.Deep.CutRange
import Derived.Deep.Draws
import Derived.Deep.OwnRows
import Derived.Deep.QuietTactic
import Derived.DeepKeys4
import Derived.IntWalk
import Derived.Laws.BitsLemmas
import Derived.Laws.OwnMore
import Derived.Laws.Rows
import Derived.Lib.Hide
import Derived.Lib.SliceRun
import Derived.LoopIn
import Derived.LoopN
import Derived.LoopNIn
import Derived.Maps.AppendAt
import Derived.Maps.OwnOps
import Derived.OpenShut
import Derived.OwnWalk
import Derived.OwnWalkIn
import Derived.RangeFuncBound
import Derived.RangeFuncCalls
import Derived.RangeFuncLeaves
import Derived.RangeFuncNested
import Derived.Shelf.Abstract
import Derived.Shelf.RegionOpen
import Derived.Shelf.SlIterI.Sorted
import Derived.Shelf.SlLaysF0
import Derived.Shelf.Slices.Clone
import Derived.Shelf.Slices.Delete
import Derived.Shelf.Sort.Plain
import Derived.Shelf.Spec.SlicesInsert
import Derived.Sort.Grow
import Derived.Sort.OwnSortedInts
import Derived.Sort.Statements
import Derived.StillTail
import Derived.StillTailTactics
import Derived.StringKeys
import Derived.TacticsInMore
import Derived.Test.YtcgkkppidkkjiaaGreatDoorRows
import Derived.WalkKit
namespace Go.Proofs.YtcgkkppidkkjiaaGreatDoor
open Go.RowKit
/-- a list of finished nodes, all of it at base or behind -/
def NL (w : World) (base : Nat) (A : Option Addr) (c : Nat) (out : List (Int × List Int)) : Prop :=
  ∃ xs, w.ownsRow base 66 2 (.slice A out.length c) out.length xs ∧ Inn w (fun k => k < base) xs out.length (lvO out) (nxO out)
theorem NL.nr {w : World} {base : Nat} {A : Option Addr} {c : Nat} {out : List (Int × List Int)} (h : NL w base A c out) : NR w w.heap.size A out.length (lvO out) (nxO out) := fun hj => by
  obtain ⟨xs, h1, h2⟩ := h
  obtain ⟨g, cap, hv1, _, _⟩ := h1.form hj
  injection hv1 with hv1 hv2 hv3
  subst hv1 hv3
  exact NR.of_own h1 h2 hj
theorem NL.keep {w w' : World} {base : Nat} {A : Option Addr} {c : Nat} {out : List (Int × List Int)} {H H' : Nat → Prop} (h : NL w base A c out) (hf : Fr H w H' w') (hd : ∀ k, H k → k < base) : NL w' base A c out := by
  obtain ⟨xs, h1, h2⟩ := h
  exact ⟨xs, hf.row h1 (fun g hg hH => by have := (h1.lt g hg).1; have := hd g hH; omega), h2.far hf.size (fun k hk hn => hf.block k hk (fun hH => hn (hd k hH))) (fun k _ hk => hk)⟩
theorem run_store_fn {P : Program} {w : World} {a : Addr} {m : Mode} (f : Fn) (ts cb : Array Value) : (store a (.func f ts cb) m).run P w = stored P w a (.func f ts cb) m := run_store P w a _ m rfl
attribute [local go_sem] run_store_fn
/-- what nodesOf promises: the nodes of a tree that leads to the bytes of a text -/
def NdsOut (S n : Nat) (f : List Int → Int) (w : World) (e : Ending) (w' : World) : Prop :=
  ∃ A c out, e = .returned (.slice A out.length c) ∧ NL w' w.heap.size A c out ∧ Gd S n out ∧ 1 ≤ out.length ∧ Mn S out n f ((out.length : Int) - 1) ∧ (out.length ≤ 1000000 ∧ out.length + 1 ≤ 2 * S ^ n) ∧ Below w.heap.size w w'
def visV (xm xs xv xn : Nat) : Value := .func (.func 70) #[] #[.pointer (some ⟨xm, 0, none⟩), .pointer (some ⟨xs, 0, none⟩), .pointer (some ⟨xv, 0, none⟩), .pointer (some ⟨xn, 0, none⟩)]
set_option maxRecDepth 100000 in
set_option maxHeartbeats 2000000 in
theorem nodesOf_any (S n : Nat) (rest : ByteArray) (w : World) (hs1 : 2 ≤ S) (hs2 : S ≤ 8) (hn : 1 ≤ n) (hn2 : n ≤ 1000) (hp : S ^ n ≤ 65536) (hz : rest.size = S ^ n) (hb : ∀ k, k < rest.size → byt rest k < S) :
    Calls Tryz.prog 42 #[.int .i64 (S : Int), .int .i64 (n : Int), .string rest] w (NdsOut S n (fun p => byt rest (nm S p)) w) := by
  obtain ⟨l, hl⟩ : ∃ l, n = l + 1 := ⟨n - 1, by omega⟩
  obtain ⟨w4, hw4⟩ : ∃ w4, w4 = (((w.alloc (.cells #[.int .i64 (S : Int)] 3)).alloc (.cells #[.slice none 0 0] 30)).alloc (.map #[] 0)).alloc (.cells #[.map (some (w.heap.size + 1 + 1))] 114) := ⟨_, rfl⟩
  have hs4 : w4.heap.size = w.heap.size + 1 + 1 + 1 + 1 := by rw [hw4]; simp
  have c5 := (Blk.new w4 115 #[.nilFunc]).one
  rw [hs4, hw4] at c5
  obtain ⟨c50, c51, c52⟩ := c5
  have K1 := Blk.new w 3 #[.int .i64 (S : Int)]
  have K2 := Blk.new (w.alloc (.cells #[.int .i64 (S : Int)] 3)) 30 #[.slice none 0 0]
  have K3 := MapOf.new Tryz.prog ((w.alloc (.cells #[.int .i64 (S : Int)] 3)).alloc (.cells #[.slice none 0 0] 30)) 9 (α := ByteArray) (β := Int) Value.string (fun x => .int .i64 x)
  have K4 := Blk.new (((w.alloc (.cells #[.int .i64 (S : Int)] 3)).alloc (.cells #[.slice none 0 0] 30)).alloc (.map #[] 0)) 114 #[.map (some (w.heap.size + 1 + 1))]
  have K5 := Blk.new w4 115 #[visV (w.heap.size + 1 + 1 + 1) w.heap.size (w.heap.size + 1 + 1 + 1 + 1) (w.heap.size + 1)]
  have B5 : Below w.heap.size w (w4.alloc (.cells #[visV (w.heap.size + 1 + 1 + 1) w.heap.size (w.heap.size + 1 + 1 + 1 + 1) (w.heap.size + 1)] 115)) := by
    rw [hw4]
    exact (((((Below.refl _ _).alloc (Nat.le_refl _) _).alloc (by simp) _).alloc (by simp; omega) _).alloc (by simp; omega) _).alloc (by simp; omega) _
  simp only [World.size_alloc] at K2 K3 K4
  rw [hs4] at K5
  have hW : Wst S (w.heap.size + 1 + 1 + 1) w.heap.size (w.heap.size + 1 + 1 + 1 + 1) (w.heap.size + 1) (w.heap.size + 1 + 1) w.heap.size (visV (w.heap.size + 1 + 1 + 1) w.heap.size (w.heap.size + 1 + 1 + 1 + 1) (w.heap.size + 1))
      (w4.alloc (.cells #[visV (w.heap.size + 1 + 1 + 1) w.heap.size (w.heap.size + 1 + 1 + 1 + 1) (w.heap.size + 1)] 115)) (fun k => k = w.heap.size + 1 ∨ k = w.heap.size + 1 + 1) (fun k => k < w.heap.size + 5) [] (fun _ => none) := by
    have hsz : (w4.alloc (.cells #[visV (w.heap.size + 1 + 1 + 1) w.heap.size (w.heap.size + 1 + 1 + 1 + 1) (w.heap.size + 1)] 115)).heap.size = w.heap.size + 5 := by rw [World.size_alloc, hs4]
    refine ⟨?_, ?_, K5, ⟨fun h => by rcases h with h | h <;> omega, fun h => by rcases h with h | h <;> omega, fun h => by rcases h with h | h <;> omega⟩, fun k hk => by rcases hk with hk | hk <;> omega, fun k hk => by rw [hsz]; exact hk, by rw [hsz]; omega, ?_, .inr rfl, .inl rfl, none, 0, [], ?_, World.ownsRow_nil _ _ _ _, fun g hg => by simp [Value.ownBlock] at hg, fun k hk => absurd hk (by simp)⟩
    · rw [hw4]; exact K4.alloc _
    · rw [hw4]; exact (((K1.alloc _).alloc _).alloc _).alloc _
    · rw [hw4]
      exact (K3.of_block (Below.heap_alloc _ _ _ (by simp))).of_block (Below.heap_alloc _ _ _ (by simp))
    · rw [hw4]; exact ((K2.alloc _).alloc _).alloc _
  have CC := Lib.hid ((vis_go (S := S) (L := n) (xm := w.heap.size + 1 + 1 + 1) (xs := w.heap.size) (xv := w.heap.size + 1 + 1 + 1 + 1) (xn := w.heap.size + 1) (mb := w.heap.size + 1 + 1) (bs := w.heap.size) (l := l) (lv := n) (gV := 70) (rest := rest) hl (Nat.le_refl n) hn2 hs1 hs2 hz hp (enters_of Tryz.func70 (by kernel_rfl) rfl)
    (fun x w T U out M h1 h2 h3 h4 h5 h6 => vis_any hn2 hs1 hs2 l x w T U out M (by omega) (Nat.le_trans (Nat.pow_le_pow_right (by omega) (by omega)) hp) h1 h2 h3 h4 h5 h6) hW (fun i hi => absurd hi (by simp)) (fun x k hx => by cases hx) rfl hb (by simp; omega)).mono (R' := fun e w' => ∃ v, e = .returned (.int .i64 v) ∧ ∃ A c out, Blk w' (w.heap.size + 1) 30 #[.slice A out.length c] ∧ NL w' w.heap.size A c out ∧ Gd S n out ∧ 1 ≤ out.length ∧ Mn S out n (fun p => byt rest (nm S p)) ((out.length : Int) - 1) ∧ (out.length ≤ 1000000 ∧ out.length + 1 ≤ 2 * S ^ n) ∧ Below w.heap.size w w') fun e w' ⟨T', out', M', h1, h2, h3, h4, h5, _, _, h6, h7⟩ => by
      obtain ⟨A, c, ys, r1, r2, r3, r4⟩ := h3.rest
      simp only [List.length_nil, Nat.zero_add] at h7
      exact ⟨_, h1, A, c, out', r1, ⟨ys, r2, r4.sub fun k _ hk => .inl (by show k < w.heap.size + 5; omega)⟩, h5, h2, h6, ⟨by omega, h7⟩, B5.trans (h4.below (fun k hk => by rcases hk with hk | hk <;> omega) (by have := B5.size; exact this))⟩)
  obtain ⟨y0, y1, y2⟩ := K5.one
  have y0 := y0
  rw [hw4] at CC y0
  unfold visV at CC y0
  clear K1 K2 K3 K4 K5 B5 hW hs4 hw4 hl
  have hmm := @run_makeMap Tryz.prog
  go_enter Tryz.func42, Tryz.ntmps42
  go_wp2_with (with_reducible refine (CC.out).mono ?_; rintro e w5 ⟨v, rfl, A, c, out, r1, r2, r3, r4, r5, r6, r7⟩; obtain ⟨q0, q1, q2⟩ := r1.one; have R2 := Lib.hid r2; have R3 := Lib.hid r3; have R4 := Lib.hid r4; have R5 := Lib.hid r5; have R6 := Lib.hid r6; have R7 := Lib.hid r7; clear r1 r2 r3 r4 r5 r6 r7)
  go_ret
  exact ⟨A, c, out, rfl, R2.out, R3.out, R4.out, R5.out, R6.out, R7.out⟩
end Go.Proofs.YtcgkkppidkkjiaaGreatDoor
namespace Go.Proofs.YtcgkkppidkkjiaaGreatDoor
open Go.RowKit
/-- the tree of some nodes -/
def trO (S n : Nat) (f : Nat → P2) (out : List (Int × List Int)) : Tr := ⟨(S : Int), n, f, out.length, lvO out, nxO out⟩
theorem Fr.set3 (w : World) (g : Nat) (a b c : Value) : Fr (fun k => k = g) w (fun k => k = g) (((w.setCell ⟨g, 0, none⟩ a).setCell ⟨g, 1, none⟩ b).setCell ⟨g, 2, none⟩ c) :=
  ((Fr.set_ (G := fun k => k = g) w (p := ⟨g, 0, none⟩) a rfl).trans (Fr.set_ _ (p := ⟨g, 1, none⟩) b rfl)).trans (Fr.set_ _ (p := ⟨g, 2, none⟩) c rfl)
theorem NL.low {w : World} {base base' : Nat} {A : Option Addr} {c : Nat} {out : List (Int × List Int)} (h : NL w base A c out) (hb : base' ≤ base) : NL w base' A c out := by
  obtain ⟨xs, h1, h2⟩ := h
  exact ⟨xs, own_base h1 hb, h2.sub fun k _ hk => Nat.lt_of_lt_of_le hk hb⟩
/-- the lists of a tree, at base or behind -/
def TL (w : World) (base n : Nat) (f : Nat → P2) (AI : Option Addr) (cI : Nat) (AN : Option Addr) (cN : Nat) (out : List (Int × List Int)) : Prop := w.ownsRow base 58 2 (.slice AI n cI) n (cells2 f n) ∧ NL w base AN cN out
theorem TL.low {w : World} {base base' n cI cN : Nat} {f : Nat → P2} {AI AN : Option Addr} {out : List (Int × List Int)} (h : TL w base n f AI cI AN cN out) (hb : base' ≤ base) : TL w base' n f AI cI AN cN out := ⟨own_base h.1 hb, h.2.low hb⟩
theorem TL.keep {w w' : World} {base n cI cN : Nat} {f : Nat → P2} {AI AN : Option Addr} {out : List (Int × List Int)} {H H' : Nat → Prop} (h : TL w base n f AI cI AN cN out) (hf : Fr H w H' w') (hd : ∀ k, H k → k < base) : TL w' base n f AI cI AN cN out :=
  ⟨hf.row h.1 (fun g hg hH => by have := (h.1.lt g hg).1; have := hd g hH; omega), h.2.keep hf hd⟩
/-- stores into a tree's own block -/
theorem tree_set {w wa : World} {n gT b0 b1 base cI cN : Nat} {f : Nat → P2} {out : List (Int × List Int)} {AI AN : Option Addr} {a b c : Value} (hk : Blk w gT 32 #[a, b, c])
    (ho : wa.ownsRow b1 58 2 (.slice AI n cI) n (cells2 f n)) (hb : Below wa.heap.size wa w) (hne : ∀ g, (Value.slice AI n cI).ownBlock = some g → g ≠ gT)
    (hn : NL w base AN cN out) (hg : gT < base) (h1 : b0 ≤ b1) (h2 : b0 ≤ base) (st h x : Value) :
    Blk (((w.setCell ⟨gT, 0, none⟩ st).setCell ⟨gT, 1, none⟩ h).setCell ⟨gT, 2, none⟩ x) gT 32 #[st, h, x] ∧ TL (((w.setCell ⟨gT, 0, none⟩ st).setCell ⟨gT, 1, none⟩ h).setCell ⟨gT, 2, none⟩ x) b0 n f AI cI AN cN out := by
  have F := Fr.set3 w gT st h x
  have F0 : Fr (fun _ => False) wa (fun _ => False) w := Fr.of_below hb
  refine ⟨by simpa using ((hk.set_ 0 st).set_ 1 h).set_ 2 x, own_base (F.row (F0.row ho (fun _ _ h => h)) (fun g hg' e => hne g hg' e)) h1, (hn.keep F (fun k hk' => by subst hk'; exact hg)).low h2⟩
/-- a tree's block, laid behind its lists -/
theorem tree_new {w wa wx : World} {n b0 b1 base cI cN : Nat} {f : Nat → P2} {out : List (Int × List Int)} {AI AN : Option Addr}
    (ho : wa.ownsRow b1 58 2 (.slice AI n cI) n (cells2 f n)) (hb : Below wa.heap.size wa w) (hn : NL w base AN cN out) (h1 : b0 ≤ b1) (h2 : b0 ≤ base) (hx : Below w.heap.size w wx) : TL wx b0 n f AI cI AN cN out := by
  have F0 : Fr (fun _ => False) wa (fun _ => False) wx := Fr.of_below (hb.trans (hx.mono hb.size))
  have F1 : Fr (fun _ => False) w (fun _ => False) wx := Fr.of_below hx
  exact ⟨own_base (F0.row ho (fun _ _ h => h)) h1, (hn.keep F1 (fun k hk' => hk'.elim)).low h2⟩
end Go.Proofs.YtcgkkppidkkjiaaGreatDoor
namespace Go.Proofs.YtcgkkppidkkjiaaGreatDoor
open Go.RowKit
/-- the elements of a row are states or variables -/
def els (st : Int) (nv : Nat) (l : List Int) : Bool := (List.range l.length).all fun i => decide (-(nv : Int) ≤ ig l i) && decide (ig l i < st)
theorem els_iff (st : Int) (nv : Nat) (l : List Int) : els st nv l = true ↔ ∀ i, i < l.length → -(nv : Int) ≤ ig l i ∧ ig l i < st := by
  simp only [els, List.all_eq_true, List.mem_range, Bool.and_eq_true, decide_eq_true_eq]
/-- a row of a table -/
def rr (n : Nat) (st : Int) (nv : Nat) (l : List Int) (o : Int) : Bool := decide (l.length = n) && els st nv l && (sta st o || decide (o ∈ l))

set_option maxRecDepth 100000 in
set_option maxHeartbeats 2000000 in
theorem rightRow_any (st k : Int) (AH : Option Addr) (n cH : Nat) (AV : Option Addr) (nv cV : Nat) (AR : Option Addr) (nr cR : Nat) (AI : Option Addr) (m cI : Nat) (l : List Int) (o : Int) (w : World)
    (h : Reads w w.heap.size AI m (il l)) (hm : m < 9223372036854775808) (hn : n ≤ 1000) (hv : nv ≤ 1000) (hs1 : 0 ≤ st) (hs2 : st ≤ 8) :
    Calls Tryz.prog 41 #[.agg #[.int .i64 st, .int .i64 k, .slice AH n cH, .slice AV nv cV, .slice AR nr cR], .agg #[.slice AI m cI, .int .i64 o]] w fun e w' => e = .returned (.bool (rr n st nv l o)) ∧ Below w.heap.size w w' := by
  have HL := Lib.hid (reads_len h)
  have K1 := (Blk.new w 26 #[.int .i64 st, .int .i64 k, .slice AH n cH, .slice AV nv cV, .slice AR nr cR]).alloc (.cells #[.slice AI m cI, .int .i64 o] 41)
  have K2 := Blk.new (w.alloc (.cells #[.int .i64 st, .int .i64 k, .slice AH n cH, .slice AV nv cV, .slice AR nr cR] 26)) 41 #[.slice AI m cI, .int .i64 o]
  rw [show (w.alloc (.cells #[.int .i64 st, .int .i64 k, .slice AH n cH, .slice AV nv cV, .slice AR nr cR] 26)).heap.size = w.heap.size + 1 by simp] at K2
  have B2 : Below w.heap.size w ((w.alloc (.cells #[.int .i64 st, .int .i64 k, .slice AH n cH, .slice AV nv cV, .slice AR nr cR] 26)).alloc (.cells #[.slice AI m cI, .int .i64 o] 41)) := ((Below.refl _ _).alloc (Nat.le_refl _) _).alloc (by simp) _
  by_cases hmn : m = n
  · subst hmn
    have RB := Lib.hid (show rr m st nv l o = (els st nv l && (sta st o || decide (o ∈ l))) by rw [rr, HL.out, decide_eq_true rfl]; simp)
    have IS := Lib.hid (fun w => isState_any st o w)
    have CO := fun w (h : Reads w w.heap.size AI m (il l)) => contains_any AI m cI _ l o w h (by omega)
    generalize hq : sta st o = q at RB IS
    generalize hp : decide (o ∈ l) = p at RB CO
    have CO := Lib.hid CO
    have H := Lib.hid h
    clear h hq hp
    go_enter Tryz.func41, Tryz.ntmps41
    go_wp2_with fail
    generalize (w.alloc (.cells #[.int .i64 st, .int .i64 k, .slice AH m cH, .slice AV nv cV, .slice AR nr cR] 26)).alloc (.cells #[.slice AI m cI, .int .i64 o] 41) = w0 at K1 K2 B2 ⊢
    obtain ⟨a0, a1, a2, a3, a4, a5⟩ := K1.five
    obtain ⟨b0, b1, b2, b3, b4⟩ := K2.two
    have R := H.out.below B2
    have R0 := Lib.hid ((H.out.below B2).more B2.size)
    have B2 := Lib.hid B2
    clear K1 K2
    go_wp2
    go_loop [17] (fun iv => ∃ j : Nat, j ≤ m ∧ iv = .int .i64 (j : Int) ∧ ∀ i, i < j → -(nv : Int) ≤ ig l i ∧ ig l i < st) (fun iv => m - (intOf iv).toNat)
    case atStart => exact ⟨0, Nat.zero_le _, rfl, fun i hi => absurd hi (by omega)⟩
    case round =>
      obtain ⟨j, hj, rfl, hno⟩ := hrel
      have HN := Lib.hid hno
      clear hno
      by_cases hlt : j < m
      · obtain ⟨ad, rfl, hb, hc⟩ := il_at R hlt
        have HF := Lib.hid (show ¬ (-(nv : Int) ≤ ig l j ∧ ig l j < st) → rr m st nv l o = false from fun h => by
          rw [RB.out, show els st nv l = false by rw [← Bool.not_eq_true, els_iff]; exact fun h' => h (h' j (by rw [HL.out]; exact hlt))]
          rfl)
        obtain ⟨x, hx⟩ : ∃ x, x = ig l j := ⟨_, rfl⟩
        rw [← hx] at hc HF
        have HX := Lib.hid hx
        clear hx R
        by_cases h1 : -(nv : Int) ≤ x
        · by_cases h2 : x < st
          · have HQ := Lib.hid (show -(nv : Int) ≤ x ∧ x < st from ⟨h1, h2⟩)
            go_wp2
            go_round
            case rel => exact ⟨j + 1, by omega, by go_num, fun i hi => by
              by_cases e : i < j
              · exact HN.out i e
              · obtain rfl : i = j := by omega
                rw [← HX.out]; exact HQ.out⟩
            case measure => simp [intOf]; omega
          · have HG := Lib.hid (HF.out fun h => h2 h.2)
            have d := decide_eq_false h2
            have d2 : decide (st ≤ x) = true := by rw [decide_eq_true_iff]; omega
            go_wp2
            go_ret
            exact ⟨ret_bool HG.out.symm, B2.out⟩
        · have HG := Lib.hid (HF.out fun h => h1 h.1)
          have d2 : decide (x < -(nv : Int)) = true := by rw [decide_eq_true_iff]; omega
          go_wp2
          go_ret
          exact ⟨ret_bool HG.out.symm, B2.out⟩
      · obtain rfl : j = m := by omega
        have HG := Lib.hid (show rr j st nv l o = (q || p) by rw [RB.out, show els st nv l = true by rw [els_iff, HL.out]; exact HN.out]; rfl)
        have CW := Lib.hid (CO.out w0 R0.out)
        clear R
        cases q with
        | true =>
          go_wp2_with (go_at_call 69; (with_reducible refine (IS.out _).mono ?_); rintro e w' ⟨rfl, rfl⟩)
          go_ret
          exact ⟨ret_bool HG.out.symm, B2.out⟩
        | false =>
          go_wp2_with (first
            | (go_at_call 69; (with_reducible refine (IS.out _).mono ?_); rintro e w' ⟨rfl, rfl⟩)
            | (go_at_call 68; (with_reducible refine CW.out.mono ?_); rintro e w' ⟨rfl, rfl⟩))
          go_ret
          exact ⟨ret_bool HG.out.symm, B2.out⟩
  · have HF := Lib.hid (show rr n st nv l o = false by rw [rr, HL.out, decide_eq_false hmn]; rfl)
    have e1 : ((m : Int) != (n : Int)) = true := by rw [bne_iff_ne]; omega
    clear h
    go_enter Tryz.func41, Tryz.ntmps41
    go_wp2_with fail
    generalize (w.alloc (.cells #[.int .i64 st, .int .i64 k, .slice AH n cH, .slice AV nv cV, .slice AR nr cR] 26)).alloc (.cells #[.slice AI m cI, .int .i64 o] 41) = w0 at K1 K2 B2 ⊢
    obtain ⟨a0, a1, a2, a3, a4, a5⟩ := K1.five
    obtain ⟨b0, b1, b2, b3, b4⟩ := K2.two
    have B2 := Lib.hid B2
    clear K1 K2
    go_wp2
    go_ret
    exact ⟨ret_bool HF.out.symm, B2.out⟩
end Go.Proofs.YtcgkkppidkkjiaaGreatDoor
