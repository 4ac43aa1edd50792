/- The walks of Next where it answers an error, and of the new state that Tree asks for. -/
/- What a row answers, as plain mathematics; a table with one of its rows. -/
/- The walk of nodesOf. -/
/- The tree that collect lays. -/
/- The walk of walk, around its visits. -/
import Derived.Test.YtcgkkppidkkjiaaGreatDoorMar
import Derived.Test.YtcgkkppidkkjiaaGreatDoorMaa
import Derived.Test.YtcgkkppidkkjiaaGreatDoorMad
import Derived.Test.YtcgkkppidkkjiaaGreatDoorMab
import Derived.Test.YtcgkkppidkkjiaaGreatDoorMbb
import Derived.Test.YtcgkkppidkkjiaaGreatDoorMam
import Derived.Test.YtcgkkppidkkjiaaGreatDoorMac
import Derived.Test.YtcgkkppidkkjiaaGreatDoorMak
import Derived.Below
import Derived.BigQuiet
import Derived.Deep.AppendLies
import Derived.Deep.CutRange
import Derived.Deep.Draws
import Derived.Deep.QuietTactic
import Derived.Deep.RegionHeld3
import Derived.Deep.RegionHeldLaw
import Derived.Deep.RegionLaw
import Derived.DeepKeys
import Derived.IntWalk
import Derived.Laws.BitsLemmas
import Derived.Laws.OwnMore
import Derived.Laws.Rows
import Derived.Lib.Hide
import Derived.Lib.SliceRun
import Derived.LoopIn
import Derived.LoopN
import Derived.LoopNIn
import Derived.Maps.AppendAt
import Derived.OpenShut
import Derived.OwnWalk
import Derived.OwnWalkIn
import Derived.RangeFuncBound
import Derived.RangeFuncCalls
import Derived.RangeFuncLeaves
import Derived.RangeFuncNested
import Derived.Shelf.Abstract
import Derived.Shelf.RegionOpen
import Derived.Shelf.SlIterI.Sorted
import Derived.Shelf.SlLaysF0
import Derived.Shelf.Slices.Clone
import Derived.Shelf.Slices.Delete
import Derived.Shelf.Sort.Plain
import Derived.Shelf.Spec.SlicesInsert
import Derived.Sort.Grow
import Derived.Sort.OwnSortedInts
import Derived.Sort.Statements
import Derived.StillTail
import Derived.StillTailTactics
import Derived.TacticsInMore
import Derived.Test.YtcgkkppidkkjiaaGreatDoorRows
import Derived.WalkKit
import Derived.Test.YtcgkkppidkkjiaaGreatDoorMaz
import Derived.Test.YtcgkkppidkkjiaaGreatDoorMas
import Derived.Test.YtcgkkppidkkjiaaGreatDoorMax
import Derived.Test.YtcgkkppidkkjiaaGreatDoorMaf
import Derived.Test.YtcgkkppidkkjiaaGreatDoorMan
import Derived.Test.YtcgkkppidkkjiaaGreatDoorMaj
import Derived.Test.YtcgkkppidkkjiaaGreatDoorMaw
import Derived.Test.YtcgkkppidkkjiaaGreatDoorMao
import Derived.Carry
import Derived.Deep.OwnRows
import Derived.DeepKeys4
import Derived.Maps.OwnOps
import Derived.StringKeys
import Derived.Test.YtcgkkppidkkjiaaGreatDoorMae
import Derived.Test.YtcgkkppidkkjiaaGreatDoorMat
import Derived.Test.YtcgkkppidkkjiaaGreatDoorMau
namespace Go.Proofs.YtcgkkppidkkjiaaGreatDoor
open Go.RowKit
/-- the new state, as Tree asks for it -/
theorem tree1_any (AH : Option Addr) (cH : Nat) (AV : Option Addr) (cV : Nat) (AR : Option Addr) (cR : Nat) (T : Tab) (A : Option Addr) (c tb : Nat) (m : List Int) (w : World) (hM : Mat w) (h : TR w AH AV AR T) (hb : Bd T) (ht : Rt T) (hI : Reads w w.heap.size A T.n (il m)) (hc : T.n ≤ c) (hst : als T.st m = true)
    (hk : Blk w tb 26 #[.int .i64 T.st, .int .i64 T.sy, .slice AH T.n cH, .slice AV T.nv cV, .slice AR T.nr cR]) :
    Calls Tryz.prog 19 #[.slice A T.n c, .pointer (some ⟨tb, 0, none⟩)] w fun e w' => e = .returned (.int .i64 (((nx T m).toNat : Nat) : Int)) ∧ Below w.heap.size w w' := by
  have NX := Lib.hid (next_ok AH cH AV cV AR cR T A c m w hM h hb ht hI hc hst)
  have hnx := nx_st ht (reads_len hI) hst
  have e : nx T m = (((nx T m).toNat : Nat) : Int) := by omega
  rw [e] at NX
  generalize (nx T m).toNat = y at NX ⊢
  obtain ⟨t0, t1, t2, t3, t4, t5⟩ := hk.five
  clear hM h hb ht hI hc hst hk hnx e
  go_enter Tryz.func19, Tryz.ntmps19
  go_wp2_with (go_at_call 20; (with_reducible refine NX.out.mono ?_); rintro e w1 ⟨rfl, hb⟩; have B1 := Lib.hid hb; clear hb)
  go_ret
  exact ⟨rfl, B1.out⟩
end Go.Proofs.YtcgkkppidkkjiaaGreatDoor
namespace Go.Proofs.YtcgkkppidkkjiaaGreatDoor
open Go.RowKit

theorem ch_out {v : Nat → List Int} {l : List Int} {o ce sc : Int} (h : 0 ≤ o) {k : Nat} (hk : k < (ch v l o ce sc).length) : ig (ch v l o ce sc) k = o := by
  have h0 : ch0 v o = [o] := by rw [ch0, if_neg (by omega)]
  have one : ∀ {x : Int} {k : Nat}, k < [x].length → ig [x] k = x := fun {x k} hk => by
    have : k = 0 := by simpa using hk
    subst this
    rfl
  unfold ch at hk ⊢
  rw [h0] at hk ⊢
  split at hk
  · rename_i hce
    rw [if_pos hce]
    exact one hk
  · rename_i hce
    rw [if_neg hce]
    split at hk
    · rename_i hl
      rw [if_pos hl]
      split at hk
      · rename_i hs
        rw [if_pos hs]
        have : sc = o := by simpa using hs
        rw [this] at hk ⊢
        exact one hk
      · simp at hk
    · rename_i hl
      rw [if_neg hl]
      exact one hk
theorem tl_out {st : Int} {v : Nat → List Int} {l : List Int} {o : Int} {vs : Nat → List Int} (h : 0 ≤ o) (m : Nat) : tl st v l o vs m = st ∨ tl st v l o vs m = o := by
  induction m with
  | zero => exact .inl rfl
  | succ m ih =>
    have hs : so l o (vs m) = o := by rw [so, if_neg (by omega)]
    rw [tl, hs]
    split
    · split
      · exact .inr rfl
      · exact ih
    · exact ih
/-- a row whose new state is a state leads to this state -/
theorem av_out {T : Tab} {l r : List Int} {o : Int} (h : 0 ≤ o) (h2 : (av T l r o).2 = true) : (av T l r o).1 = o := by
  by_cases h3 : T.sy = 3
  · unfold av at *
    rw [if_pos h3] at *
    unfold pm at *
    split at h2
    · cases h2
    · rename_i hne
      rw [if_neg hne]
      split at h2
      · rename_i h0
        rw [if_pos h0]
        rcases fx_cases (pg T.v r o (px T.f T.n (0, 0)) (ig l (px T.f T.n (0, 0)).toNat) (pf T.v r o (px T.f T.n (0, 0)) (ig l (px T.f T.n (0, 0)).toNat) (cl8 l T.n) r.length)) (ch T.v r o (px T.f T.n (0, 0)) (ig l (px T.f T.n (0, 0)).toNat)).length with ⟨j, hj, e, _⟩ | ⟨e, _⟩
        · rw [e, show ((j : Int)).toNat = j from rfl]
          exact ch_out h hj
        · rw [e] at h0
          omega
      · cases h2
  · unfold av at *
    rw [if_neg h3] at *
    unfold ta at *
    split at h2
    · cases h2
    · rename_i hne
      rw [if_neg hne]
      rcases tl_out (st := T.st) (v := T.v) (l := r) (vs := fun k => vw T.f T.n l k T.n) h (nwv T.sy) with e | e
      · exact absurd e hne
      · exact e
theorem av_eqv {T : Tab} (h3 : T.sy = 3) {l m : List Int} (hl : l.length = T.n) (h : Eqv T.n T.f l m) (r : List Int) (o : Int) : av T m r o = av T l r o := by
  have hm : m.length = T.n := h.1.length_eq.trans hl
  have h8 : cl8 m T.n = cl8 l T.n := by
    have e : ∀ k, cnt m k T.n = cnt l k T.n := fun k => by
      have h1 := cnt_count m k
      have h2 := cnt_count l k
      rw [hm] at h1
      rw [hl] at h2
      rw [h1, h2, h.1.count_eq]
    simp only [cl8, e]
  unfold av
  rw [if_pos h3, if_pos h3, h8]
  by_cases h0 : 0 ≤ px T.f T.n (0, 0)
  · rw [h.2 h0]
  · exact pm_neg _ _ _ _ _ _ _ (by omega)
/-- the table with one of its rows alone -/
def alone (T : Tab) (i : Nat) : Tab := { T with nr := 1, ri := fun _ => T.ri i, ro := fun _ => T.ro i }
theorem alone_rt {T : Tab} {i : Nat} (h : Rt T) (hi : i < T.nr) : Rt (alone T i) := ⟨h.s1, h.s2, h.hd, h.pm, h.v1, by show 1 ≤ 400; decide, h.vs, fun _ _ => h.rs i hi⟩
theorem alone_bd {T : Tab} {i : Nat} (h : Bd T) (hi : i < T.nr) : Bd (alone T i) := ⟨h.1, h.2.1, by show 1 ≤ 1000; decide, h.2.2.2.1, fun _ _ => h.2.2.2.2 i hi⟩
theorem alone_tr {w : World} {AH AV : Option Addr} {g o i : Nat} {T : Tab} (h : TR w AH AV (some ⟨g, o, none⟩) T) (hi : i < T.nr) : TR w AH AV (some ⟨g, o + i * 2, none⟩) (alone T i) :=
  ⟨h.1, h.2.1, fun _ => by
    obtain ⟨g', o', e, hg, hc⟩ := h.2.2 (by omega)
    injection e with e
    injection e with e1 e2
    subst e1 e2
    refine ⟨g, o + i * 2, rfl, hg, fun k hk => ?_⟩
    obtain rfl : k = 0 := by have : k < 1 := hk; omega
    obtain ⟨A', c', h1, h2, h3⟩ := hc i hi
    exact ⟨A', c', by rw [Nat.zero_mul, Nat.add_zero]; exact h1, h2, by rw [Nat.zero_mul, Nat.add_zero]; exact h3⟩⟩
end Go.Proofs.YtcgkkppidkkjiaaGreatDoor
namespace Go.Proofs.YtcgkkppidkkjiaaGreatDoor
open Go.RowKit
/-- a list of finished nodes, all of it at base or behind -/
def NL (w : World) (base : Nat) (A : Option Addr) (c : Nat) (out : List (Int × List Int)) : Prop :=
  ∃ xs, w.ownsRow base 66 2 (.slice A out.length c) out.length xs ∧ Inn w (fun k => k < base) xs out.length (lvO out) (nxO out)
theorem NL.nr {w : World} {base : Nat} {A : Option Addr} {c : Nat} {out : List (Int × List Int)} (h : NL w base A c out) : NR w w.heap.size A out.length (lvO out) (nxO out) := fun hj => by
  obtain ⟨xs, h1, h2⟩ := h
  obtain ⟨g, cap, hv1, _, _⟩ := h1.form hj
  injection hv1 with hv1 hv2 hv3
  subst hv1 hv3
  exact NR.of_own h1 h2 hj
theorem NL.keep {w w' : World} {base : Nat} {A : Option Addr} {c : Nat} {out : List (Int × List Int)} {H H' : Nat → Prop} (h : NL w base A c out) (hf : Fr H w H' w') (hd : ∀ k, H k → k < base) : NL w' base A c out := by
  obtain ⟨xs, h1, h2⟩ := h
  exact ⟨xs, hf.row h1 (fun g hg hH => by have := (h1.lt g hg).1; have := hd g hH; omega), h2.far hf.size (fun k hk hn => hf.block k hk (fun hH => hn (hd k hH))) (fun k _ hk => hk)⟩
theorem run_store_fn {P : Program} {w : World} {a : Addr} {m : Mode} (f : Fn) (ts cb : Array Value) : (store a (.func f ts cb) m).run P w = stored P w a (.func f ts cb) m := run_store P w a _ m rfl
attribute [local go_sem] run_store_fn
/-- what nodesOf promises: the nodes of a tree that leads to the bytes of a text -/
def NdsOut (S n : Nat) (f : List Int → Int) (w : World) (e : Ending) (w' : World) : Prop :=
  ∃ A c out, e = .returned (.slice A out.length c) ∧ NL w' w.heap.size A c out ∧ Gd S n out ∧ 1 ≤ out.length ∧ Mn S out n f ((out.length : Int) - 1) ∧ (out.length ≤ 1000000 ∧ out.length + 1 ≤ 2 * S ^ n) ∧ Below w.heap.size w w'
def visV (xm xs xv xn : Nat) : Value := .func (.func 70) #[] #[.pointer (some ⟨xm, 0, none⟩), .pointer (some ⟨xs, 0, none⟩), .pointer (some ⟨xv, 0, none⟩), .pointer (some ⟨xn, 0, none⟩)]
set_option maxRecDepth 100000 in
set_option maxHeartbeats 2000000 in
theorem nodesOf_any (S n : Nat) (rest : ByteArray) (w : World) (hs1 : 2 ≤ S) (hs2 : S ≤ 8) (hn : 1 ≤ n) (hn2 : n ≤ 1000) (hp : S ^ n ≤ 65536) (hz : rest.size = S ^ n) (hb : ∀ k, k < rest.size → byt rest k < S) :
    Calls Tryz.prog 42 #[.int .i64 (S : Int), .int .i64 (n : Int), .string rest] w (NdsOut S n (fun p => byt rest (nm S p)) w) := by
  obtain ⟨l, hl⟩ : ∃ l, n = l + 1 := ⟨n - 1, by omega⟩
  obtain ⟨w4, hw4⟩ : ∃ w4, w4 = (((w.alloc (.cells #[.int .i64 (S : Int)] 3)).alloc (.cells #[.slice none 0 0] 30)).alloc (.map #[] 0)).alloc (.cells #[.map (some (w.heap.size + 1 + 1))] 114) := ⟨_, rfl⟩
  have hs4 : w4.heap.size = w.heap.size + 1 + 1 + 1 + 1 := by rw [hw4]; simp
  have c5 := (Blk.new w4 115 #[.nilFunc]).one
  rw [hs4, hw4] at c5
  obtain ⟨c50, c51, c52⟩ := c5
  have K1 := Blk.new w 3 #[.int .i64 (S : Int)]
  have K2 := Blk.new (w.alloc (.cells #[.int .i64 (S : Int)] 3)) 30 #[.slice none 0 0]
  have K3 := MapOf.new Tryz.prog ((w.alloc (.cells #[.int .i64 (S : Int)] 3)).alloc (.cells #[.slice none 0 0] 30)) 9 (α := ByteArray) (β := Int) Value.string (fun x => .int .i64 x)
  have K4 := Blk.new (((w.alloc (.cells #[.int .i64 (S : Int)] 3)).alloc (.cells #[.slice none 0 0] 30)).alloc (.map #[] 0)) 114 #[.map (some (w.heap.size + 1 + 1))]
  have K5 := Blk.new w4 115 #[visV (w.heap.size + 1 + 1 + 1) w.heap.size (w.heap.size + 1 + 1 + 1 + 1) (w.heap.size + 1)]
  have B5 : Below w.heap.size w (w4.alloc (.cells #[visV (w.heap.size + 1 + 1 + 1) w.heap.size (w.heap.size + 1 + 1 + 1 + 1) (w.heap.size + 1)] 115)) := by
    rw [hw4]
    exact (((((Below.refl _ _).alloc (Nat.le_refl _) _).alloc (by simp) _).alloc (by simp; omega) _).alloc (by simp; omega) _).alloc (by simp; omega) _
  simp only [World.size_alloc] at K2 K3 K4
  rw [hs4] at K5
  have hW : Wst S (w.heap.size + 1 + 1 + 1) w.heap.size (w.heap.size + 1 + 1 + 1 + 1) (w.heap.size + 1) (w.heap.size + 1 + 1) w.heap.size (visV (w.heap.size + 1 + 1 + 1) w.heap.size (w.heap.size + 1 + 1 + 1 + 1) (w.heap.size + 1))
      (w4.alloc (.cells #[visV (w.heap.size + 1 + 1 + 1) w.heap.size (w.heap.size + 1 + 1 + 1 + 1) (w.heap.size + 1)] 115)) (fun k => k = w.heap.size + 1 ∨ k = w.heap.size + 1 + 1) (fun k => k < w.heap.size + 5) [] (fun _ => none) := by
    have hsz : (w4.alloc (.cells #[visV (w.heap.size + 1 + 1 + 1) w.heap.size (w.heap.size + 1 + 1 + 1 + 1) (w.heap.size + 1)] 115)).heap.size = w.heap.size + 5 := by rw [World.size_alloc, hs4]
    refine ⟨?_, ?_, K5, ⟨fun h => by rcases h with h | h <;> omega, fun h => by rcases h with h | h <;> omega, fun h => by rcases h with h | h <;> omega⟩, fun k hk => by rcases hk with hk | hk <;> omega, fun k hk => by rw [hsz]; exact hk, by rw [hsz]; omega, ?_, .inr rfl, .inl rfl, none, 0, [], ?_, World.ownsRow_nil _ _ _ _, fun g hg => by simp [Value.ownBlock] at hg, fun k hk => absurd hk (by simp)⟩
    · rw [hw4]; exact K4.alloc _
    · rw [hw4]; exact (((K1.alloc _).alloc _).alloc _).alloc _
    · rw [hw4]
      exact (K3.of_block (Below.heap_alloc _ _ _ (by simp))).of_block (Below.heap_alloc _ _ _ (by simp))
    · rw [hw4]; exact ((K2.alloc _).alloc _).alloc _
  have CC := Lib.hid ((vis_go (S := S) (L := n) (xm := w.heap.size + 1 + 1 + 1) (xs := w.heap.size) (xv := w.heap.size + 1 + 1 + 1 + 1) (xn := w.heap.size + 1) (mb := w.heap.size + 1 + 1) (bs := w.heap.size) (l := l) (lv := n) (gV := 70) (rest := rest) hl (Nat.le_refl n) hn2 hs1 hs2 hz hp (enters_of Tryz.func70 (by kernel_rfl) rfl)
    (fun x w T U out M h1 h2 h3 h4 h5 h6 => vis_any hn2 hs1 hs2 l x w T U out M (by omega) (Nat.le_trans (Nat.pow_le_pow_right (by omega) (by omega)) hp) h1 h2 h3 h4 h5 h6) hW (fun i hi => absurd hi (by simp)) (fun x k hx => by cases hx) rfl hb (by simp; omega)).mono (R' := fun e w' => ∃ v, e = .returned (.int .i64 v) ∧ ∃ A c out, Blk w' (w.heap.size + 1) 30 #[.slice A out.length c] ∧ NL w' w.heap.size A c out ∧ Gd S n out ∧ 1 ≤ out.length ∧ Mn S out n (fun p => byt rest (nm S p)) ((out.length : Int) - 1) ∧ (out.length ≤ 1000000 ∧ out.length + 1 ≤ 2 * S ^ n) ∧ Below w.heap.size w w') fun e w' ⟨T', out', M', h1, h2, h3, h4, h5, _, _, h6, h7⟩ => by
      obtain ⟨A, c, ys, r1, r2, r3, r4⟩ := h3.rest
      simp only [List.length_nil, Nat.zero_add] at h7
      exact ⟨_, h1, A, c, out', r1, ⟨ys, r2, r4.sub fun k _ hk => .inl (by show k < w.heap.size + 5; omega)⟩, h5, h2, h6, ⟨by omega, h7⟩, B5.trans (h4.below (fun k hk => by rcases hk with hk | hk <;> omega) (by have := B5.size; exact this))⟩)
  obtain ⟨y0, y1, y2⟩ := K5.one
  have y0 := y0
  rw [hw4] at CC y0
  unfold visV at CC y0
  clear K1 K2 K3 K4 K5 B5 hW hs4 hw4 hl
  have hmm := @run_makeMap Tryz.prog
  go_enter Tryz.func42, Tryz.ntmps42
  go_wp2_with (with_reducible refine (CC.out).mono ?_; rintro e w5 ⟨v, rfl, A, c, out, r1, r2, r3, r4, r5, r6, r7⟩; obtain ⟨q0, q1, q2⟩ := r1.one; have R2 := Lib.hid r2; have R3 := Lib.hid r3; have R4 := Lib.hid r4; have R5 := Lib.hid r5; have R6 := Lib.hid r6; have R7 := Lib.hid r7; clear r1 r2 r3 r4 r5 r6 r7)
  go_ret
  exact ⟨A, c, out, rfl, R2.out, R3.out, R4.out, R5.out, R6.out, R7.out⟩
end Go.Proofs.YtcgkkppidkkjiaaGreatDoor
namespace Go.Proofs.YtcgkkppidkkjiaaGreatDoor
open Go.RowKit
/-- the tree of some nodes -/
def trO (S n : Nat) (f : Nat → P2) (out : List (Int × List Int)) : Tr := ⟨(S : Int), n, f, out.length, lvO out, nxO out⟩
theorem Fr.set3 (w : World) (g : Nat) (a b c : Value) : Fr (fun k => k = g) w (fun k => k = g) (((w.setCell ⟨g, 0, none⟩ a).setCell ⟨g, 1, none⟩ b).setCell ⟨g, 2, none⟩ c) :=
  ((Fr.set_ (G := fun k => k = g) w (p := ⟨g, 0, none⟩) a rfl).trans (Fr.set_ _ (p := ⟨g, 1, none⟩) b rfl)).trans (Fr.set_ _ (p := ⟨g, 2, none⟩) c rfl)
theorem NL.low {w : World} {base base' : Nat} {A : Option Addr} {c : Nat} {out : List (Int × List Int)} (h : NL w base A c out) (hb : base' ≤ base) : NL w base' A c out := by
  obtain ⟨xs, h1, h2⟩ := h
  exact ⟨xs, own_base h1 hb, h2.sub fun k _ hk => Nat.lt_of_lt_of_le hk hb⟩
/-- the lists of a tree, at base or behind -/
def TL (w : World) (base n : Nat) (f : Nat → P2) (AI : Option Addr) (cI : Nat) (AN : Option Addr) (cN : Nat) (out : List (Int × List Int)) : Prop := w.ownsRow base 58 2 (.slice AI n cI) n (cells2 f n) ∧ NL w base AN cN out
theorem TL.low {w : World} {base base' n cI cN : Nat} {f : Nat → P2} {AI AN : Option Addr} {out : List (Int × List Int)} (h : TL w base n f AI cI AN cN out) (hb : base' ≤ base) : TL w base' n f AI cI AN cN out := ⟨own_base h.1 hb, h.2.low hb⟩
theorem TL.keep {w w' : World} {base n cI cN : Nat} {f : Nat → P2} {AI AN : Option Addr} {out : List (Int × List Int)} {H H' : Nat → Prop} (h : TL w base n f AI cI AN cN out) (hf : Fr H w H' w') (hd : ∀ k, H k → k < base) : TL w' base n f AI cI AN cN out :=
  ⟨hf.row h.1 (fun g hg hH => by have := (h.1.lt g hg).1; have := hd g hH; omega), h.2.keep hf hd⟩
/-- stores into a tree's own block -/
theorem tree_set {w wa : World} {n gT b0 b1 base cI cN : Nat} {f : Nat → P2} {out : List (Int × List Int)} {AI AN : Option Addr} {a b c : Value} (hk : Blk w gT 32 #[a, b, c])
    (ho : wa.ownsRow b1 58 2 (.slice AI n cI) n (cells2 f n)) (hb : Below wa.heap.size wa w) (hne : ∀ g, (Value.slice AI n cI).ownBlock = some g → g ≠ gT)
    (hn : NL w base AN cN out) (hg : gT < base) (h1 : b0 ≤ b1) (h2 : b0 ≤ base) (st h x : Value) :
    Blk (((w.setCell ⟨gT, 0, none⟩ st).setCell ⟨gT, 1, none⟩ h).setCell ⟨gT, 2, none⟩ x) gT 32 #[st, h, x] ∧ TL (((w.setCell ⟨gT, 0, none⟩ st).setCell ⟨gT, 1, none⟩ h).setCell ⟨gT, 2, none⟩ x) b0 n f AI cI AN cN out := by
  have F := Fr.set3 w gT st h x
  have F0 : Fr (fun _ => False) wa (fun _ => False) w := Fr.of_below hb
  refine ⟨by simpa using ((hk.set_ 0 st).set_ 1 h).set_ 2 x, own_base (F.row (F0.row ho (fun _ _ h => h)) (fun g hg' e => hne g hg' e)) h1, (hn.keep F (fun k hk' => by subst hk'; exact hg)).low h2⟩
/-- a tree's block, laid behind its lists -/
theorem tree_new {w wa wx : World} {n b0 b1 base cI cN : Nat} {f : Nat → P2} {out : List (Int × List Int)} {AI AN : Option Addr}
    (ho : wa.ownsRow b1 58 2 (.slice AI n cI) n (cells2 f n)) (hb : Below wa.heap.size wa w) (hn : NL w base AN cN out) (h1 : b0 ≤ b1) (h2 : b0 ≤ base) (hx : Below w.heap.size w wx) : TL wx b0 n f AI cI AN cN out := by
  have F0 : Fr (fun _ => False) wa (fun _ => False) wx := Fr.of_below (hb.trans (hx.mono hb.size))
  have F1 : Fr (fun _ => False) w (fun _ => False) wx := Fr.of_below hx
  exact ⟨own_base (F0.row ho (fun _ _ h => h)) h1, (hn.keep F1 (fun k hk' => hk'.elim)).low h2⟩
end Go.Proofs.YtcgkkppidkkjiaaGreatDoor
namespace Go.Proofs.YtcgkkppidkkjiaaGreatDoor
open Go.RowKit
attribute [local go_sem] run_store_fn
set_option maxRecDepth 100000 in
set_option maxHeartbeats 4000000 in
theorem walk_any {σ : Type} {sn lm : Nat} {St : World → (Nat → Prop) → σ → Prop} {el : σ → Int → Nat → Option (List Int × σ)} {fb : Nat} {gE : FuncId} {cb : Array Value} {w : World} {G : Nat → Prop} {s : σ} {l : Nat} {n r : Int} {S' : Wk σ}
    (hlm : lm ≤ 100) (hs1 : 2 ≤ sn) (hs2 : sn ≤ 8) (E : ∀ xf xn xp xe xv mb bs, Els sn St el ⟨xf, xn, xp, xe, xv, mb, fb, .func (.func gE) #[] cb, visVR xf xn xp xe xv, bs⟩ lm gE cb) (eg : ∀ args w, (callFunc gE args).run Tryz.prog w = .ok (.enter gE args) w)
    (hl : l ≤ lm) (hn : I32 n) (hv : visitF sn el l n ⟨s, [], []⟩ = some (r, S')) (h : St w G s) :
    Calls Tryz.prog 84 #[.pointer (some ⟨fb, 0, none⟩), .int .i32 n, .int .i64 (l : Int), .func (.func gE) #[] cb] w fun e w' =>
      ∃ A c G', e = .returned (.slice A S'.out.length c) ∧ NL w' w.heap.size A c S'.out ∧ St w' G' S'.s ∧ Fr G w G' w' := by
  have E0 := E 0 0 0 0 0 0 0
  have hlt := E0.lt h
  obtain ⟨w5, hw5⟩ : ∃ w5, w5 = ((((w.alloc (.cells #[.pointer (some ⟨fb, 0, none⟩)] 101)).alloc (.cells #[.func (.func gE) #[] cb] 136)).alloc (.cells #[.slice none 0 0] 30)).alloc (.map #[] 0)).alloc (.cells #[.map (some (w.heap.size + 1 + 1 + 1))] 158) := ⟨_, rfl⟩
  have hs5 : w5.heap.size = w.heap.size + 1 + 1 + 1 + 1 + 1 := by rw [hw5]; simp
  have c5 := (Blk.new w5 159 #[.nilFunc]).one
  rw [hs5, hw5] at c5
  obtain ⟨c50, c51, c52⟩ := c5
  have K1 := Blk.new w 101 #[.pointer (some ⟨fb, 0, none⟩)]
  have K2 := Blk.new (w.alloc (.cells #[.pointer (some ⟨fb, 0, none⟩)] 101)) 136 #[.func (.func gE) #[] cb]
  have K3 := Blk.new ((w.alloc (.cells #[.pointer (some ⟨fb, 0, none⟩)] 101)).alloc (.cells #[.func (.func gE) #[] cb] 136)) 30 #[.slice none 0 0]
  have K4 := MapOf.new Tryz.prog (((w.alloc (.cells #[.pointer (some ⟨fb, 0, none⟩)] 101)).alloc (.cells #[.func (.func gE) #[] cb] 136)).alloc (.cells #[.slice none 0 0] 30)) 21 (α := Int) (β := Int) (fun x => .int .i32 x) (fun x => .int .i64 x)
  have K5 := Blk.new ((((w.alloc (.cells #[.pointer (some ⟨fb, 0, none⟩)] 101)).alloc (.cells #[.func (.func gE) #[] cb] 136)).alloc (.cells #[.slice none 0 0] 30)).alloc (.map #[] 0)) 158 #[.map (some (w.heap.size + 1 + 1 + 1))]
  have K6 := Blk.new w5 159 #[visVR (w.heap.size + 1 + 1 + 1 + 1) (w.heap.size + 1 + 1) w.heap.size (w.heap.size + 1) (w.heap.size + 1 + 1 + 1 + 1 + 1)]
  have B6 : Below w.heap.size w (w5.alloc (.cells #[visVR (w.heap.size + 1 + 1 + 1 + 1) (w.heap.size + 1 + 1) w.heap.size (w.heap.size + 1) (w.heap.size + 1 + 1 + 1 + 1 + 1)] 159)) := by
    rw [hw5]
    exact ((((((Below.refl _ _).alloc (Nat.le_refl _) _).alloc (by simp) _).alloc (by simp; omega) _).alloc (by simp; omega) _).alloc (by simp; omega) _).alloc (by simp; omega) _
  simp only [World.size_alloc] at K2 K3 K4 K5
  rw [hs5] at K6
  have hW : WstR (sn : Int) St ⟨w.heap.size + 1 + 1 + 1 + 1, w.heap.size + 1 + 1, w.heap.size, w.heap.size + 1, w.heap.size + 1 + 1 + 1 + 1 + 1, w.heap.size + 1 + 1 + 1, fb, .func (.func gE) #[] cb, visVR (w.heap.size + 1 + 1 + 1 + 1) (w.heap.size + 1 + 1) w.heap.size (w.heap.size + 1) (w.heap.size + 1 + 1 + 1 + 1 + 1), w.heap.size⟩
      (w5.alloc (.cells #[visVR (w.heap.size + 1 + 1 + 1 + 1) (w.heap.size + 1 + 1) w.heap.size (w.heap.size + 1) (w.heap.size + 1 + 1 + 1 + 1 + 1)] 159)) (fun k => (k = w.heap.size + 1 + 1 ∨ k = w.heap.size + 1 + 1 + 1) ∨ G k) (fun k => k < w.heap.size + 6) ⟨s, [], []⟩ := by
    have hsz : (w5.alloc (.cells #[visVR (w.heap.size + 1 + 1 + 1 + 1) (w.heap.size + 1 + 1) w.heap.size (w.heap.size + 1) (w.heap.size + 1 + 1 + 1 + 1 + 1)] 159)).heap.size = w.heap.size + 6 := by rw [World.size_alloc, hs5]
    refine ⟨?_, ?_, ?_, K6, ?_, ?_, ?_, by rw [hsz]; show w.heap.size ≤ _; omega, ?_, .inl (.inr rfl), .inl (.inl rfl), G, none, 0, [], E0.keep h (Fr.of_below (G := fun _ => False) B6) (fun _ _ h => h), ?_, ?_, World.ownsRow_nil _ _ _ _, ?_, ?_⟩
    · rw [hw5]; exact K5.alloc _
    · rw [hw5]; exact ((((K1.alloc _).alloc _).alloc _).alloc _).alloc _
    · rw [hw5]; exact (((K2.alloc _).alloc _).alloc _).alloc _
    · intro k hk hT
      rcases hk with rfl | rfl | rfl | rfl <;> rcases hT with (hT | hT) | hT <;> first | (simp only at hT; omega) | (have := hlt _ hT; simp only at this; omega)
    · intro k hk
      rcases hk with (hk | hk) | hk
      · omega
      · omega
      · have := hlt _ hk; omega
    · intro k hk
      rw [hsz]
      exact hk
    · rw [hw5]
      exact (K4.of_block ((Below.heap_alloc _ _ _ (by simp)))).of_block (Below.heap_alloc _ _ _ (by simp))
    · intro k hk
      have := hlt k hk
      exact ⟨.inr hk, by simp only; omega, by simp only; omega, by simp [Value.ownBlock]⟩
    · rw [hw5]; exact (((K3.alloc _).alloc _).alloc _)
    · intro g hg; simp [Value.ownBlock] at hg
    · intro k hk; exact absurd hk (by simp)
  have V := Lib.hid (visit_any hlm hs1 hs2 (E _ _ _ _ _ _ _) eg l hl n r ⟨s, [], []⟩ S' _ _ _ hn hv hW)
  have HB6 := Lib.hid B6
  have HLT := Lib.hid hlt
  have HE := Lib.hid E0
  have HS5 := Lib.hid hs5
  rw [hw5] at V HB6 HS5
  clear K1 K2 K3 K4 K5 K6 hW B6 hlt E0 E h hv hw5 hs5
  have hmm := @run_makeMap Tryz.prog
  go_enter Tryz.func84, Tryz.ntmps84
  go_wp2_with ((with_reducible refine (V.out).mono ?_); rintro e w' ⟨T', rfl, hW', hF'⟩; have HW' := Lib.hid hW'; have HF' := Lib.hid hF'; clear hW' hF'; obtain ⟨G', A, c, xs, a1, a2, a3, a4, a5, a6⟩ := HW'.out.rest; obtain ⟨y0, y1, y2⟩ := a3.one; have A1 := Lib.hid a1; have A2 := Lib.hid a2; have A4 := Lib.hid a4; have A6 := Lib.hid a6; clear a1 a2 a3 a4 a5 a6)
  go_ret
  have hs6 := HB6.out.size
  refine ⟨A, c, G', rfl, ⟨xs, A4.out, A6.out.sub fun k _ hk => .inl (by omega)⟩, A1.out, ?_⟩
  · have hF := (Fr.of_below (G := G) HB6.out)
    have hN := HF'.out.new
    refine ⟨HF'.out.os.trans hF.os, HF'.out.tape.trans hF.tape, HF'.out.output.trans hF.output, Nat.le_trans hF.size HF'.out.size, fun k hk hG => ?_, fun k hk => ?_⟩
    · rw [HF'.out.block k (by simp; omega) (fun h => by
        rcases h with (h | h) | h
        · omega
        · omega
        · exact hG h)]
      exact HB6.out.block k hk
    · rcases hN k (A2.out k hk).1 with ((h | h) | h) | h
      · exact .inr (by omega)
      · exact .inr (by omega)
      · exact .inl h
      · exact .inr (Nat.le_trans hs6 h)
end Go.Proofs.YtcgkkppidkkjiaaGreatDoor
