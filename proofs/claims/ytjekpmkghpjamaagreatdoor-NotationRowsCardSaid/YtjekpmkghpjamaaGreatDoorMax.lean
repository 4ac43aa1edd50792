/- The walk of nodesOf$1: what a visit promises, and its easy ways. -/
/- The tree that collect lays. -/
/- A made tree as a value; the walk of awakeTree. -/
/- The symmetries of a made tree of two states, by its new states at all lists of states. -/
/- The walks of Elementary. -/
/- The walk of rebuilt at the number 110, with any function; Mirror and Conjugate there. -/
/- The walks of Number, of Mirror's and Conjugate's functions, of rebuilt, at the chapter's examples. -/
import Derived.Test.YtjekpmkghpjamaaGreatDoorMaw
import Derived.Test.YtjekpmkghpjamaaGreatDoorMae
import Derived.Test.YtjekpmkghpjamaaGreatDoorMad
import Derived.Test.YtjekpmkghpjamaaGreatDoorMah
import Derived.Below
import Derived.BigQuiet
import Derived.Deep.AppendLies
import Derived.Deep.CutRange
import Derived.Deep.Draws
import Derived.Deep.QuietTactic
import Derived.DeepKeys4
import Derived.IntWalk
import Derived.Laws.BitsLemmas
import Derived.Laws.OwnMore
import Derived.Laws.Rows
import Derived.Lib.Hide
import Derived.Lib.SliceRun
import Derived.LoopN
import Derived.Maps.OwnOps
import Derived.OwnWalk
import Derived.Shelf.SlLaysF0
import Derived.Sort.Grow
import Derived.Sort.Statements
import Derived.StillTail
import Derived.StillTailTactics
import Derived.StringKeys
import Derived.Test.YtjekpmkghpjamaaGreatDoorRows
import Derived.WalkKit
import Derived.Test.YtjekpmkghpjamaaGreatDoorMab
import Derived.Test.YtjekpmkghpjamaaGreatDoorMag
import Derived.Test.YtjekpmkghpjamaaGreatDoorMaa
import Derived.Test.YtjekpmkghpjamaaGreatDoorMap
import Derived.Test.YtjekpmkghpjamaaGreatDoorMac
import Derived.Test.YtjekpmkghpjamaaGreatDoorMaj
import Derived.Carry
import Derived.Deep.OwnRows
import Derived.LoopIn
import Derived.LoopNIn
import Derived.Maps.AppendAt
import Derived.OpenShut
import Derived.OwnWalkIn
import Derived.Shelf.Abstract
import Derived.Shelf.Slices.Clone
import Derived.TacticsInMore
import Derived.Deep.RegionHeld3
import Derived.Deep.RegionHeldLaw
import Derived.Deep.RegionLaw
import Derived.DeepKeys
import Derived.DeepKeys5
import Derived.Laws.IdiomStrings
import Derived.Test.YtjekpmkghpjamaaGreatDoorMav
namespace Go.Proofs.YtjekpmkghpjamaaGreatDoor
open Go.RowKit
theorem Mn.congr {S : Nat} {out : List (Int × List Int)} {l : Nat} {f g : List Int → Int} {r : Int} (h : Mn S out l f r) (e : ∀ p, p.length = l → Sts S p → f p = g p) : Mn S out l g r := ⟨h.1, fun p hp hs => (h.2 p hp hs).trans (e p hp hs)⟩
theorem Pre.refl (a : List (Int × List Int)) : Pre a a := ⟨[], by simp⟩
theorem Pre.trans {a b c : List (Int × List Int)} (h : Pre a b) (k : Pre b c) : Pre a c := by
  obtain ⟨x, rfl⟩ := h
  obtain ⟨y, rfl⟩ := k
  exact ⟨x ++ y, by simp⟩
theorem Pre.push (a : List (Int × List Int)) (e : Int × List Int) : Pre a (a ++ [e]) := ⟨[e], rfl⟩
section
variable {S L xm xs xv xn mb bs : Nat} {vv : Value} {w : World} {T U : Nat → Prop} {out : List (Int × List Int)} {M : ByteArray → Option Int}
end
end Go.Proofs.YtjekpmkghpjamaaGreatDoor
namespace Go.Proofs.YtjekpmkghpjamaaGreatDoor
open Go.RowKit
theorem Fr.set3 (w : World) (g : Nat) (a b c : Value) : Fr (fun k => k = g) w (fun k => k = g) (((w.setCell ⟨g, 0, none⟩ a).setCell ⟨g, 1, none⟩ b).setCell ⟨g, 2, none⟩ c) :=
  ((Fr.set_ (G := fun k => k = g) w (p := ⟨g, 0, none⟩) a rfl).trans (Fr.set_ _ (p := ⟨g, 1, none⟩) b rfl)).trans (Fr.set_ _ (p := ⟨g, 2, none⟩) c rfl)
/-- the lists of a tree, at base or behind -/
def TL (w : World) (base n : Nat) (f : Nat → P2) (AI : Option Addr) (cI : Nat) (AN : Option Addr) (cN : Nat) (out : List (Int × List Int)) : Prop := w.ownsRow base 140 2 (.slice AI n cI) n (cells2 f n) ∧ NL w base AN cN out
theorem TL.ts {w : World} {base n cI cN : Nat} {f : Nat → P2} {AI AN : Option Addr} {out : List (Int × List Int)} (h : TL w base n f AI cI AN cN out) (S : Nat) : TS w AI AN (trO S n f out) := ⟨QReads.of_own h.1, h.2.nr⟩
theorem TL.low {w : World} {base base' n cI cN : Nat} {f : Nat → P2} {AI AN : Option Addr} {out : List (Int × List Int)} (h : TL w base n f AI cI AN cN out) (hb : base' ≤ base) : TL w base' n f AI cI AN cN out := ⟨own_base h.1 hb, h.2.low hb⟩
theorem TL.keep {w w' : World} {base n cI cN : Nat} {f : Nat → P2} {AI AN : Option Addr} {out : List (Int × List Int)} {H H' : Nat → Prop} (h : TL w base n f AI cI AN cN out) (hf : Fr H w H' w') (hd : ∀ k, H k → k < base) : TL w' base n f AI cI AN cN out :=
  ⟨hf.row h.1 (fun g hg hH => by have := (h.1.lt g hg).1; have := hd g hH; omega), h.2.keep hf hd⟩
end Go.Proofs.YtjekpmkghpjamaaGreatDoor
namespace Go.Proofs.YtjekpmkghpjamaaGreatDoor
open Go.RowKit
theorem rtt_out {S n : Nat} {f : Nat → P2} {out : List (Int × List Int)} {F : List Int → Int} (h1 : 2 ≤ S) (h2 : S ≤ 8) (hd : Hd f n) (hg : Gd S n out) (hm1 : 1 ≤ out.length) (hm2 : out.length ≤ 4096) (hmn : Mn S out n F ((out.length : Int) - 1)) : Rt (trO S n f out) := by
  refine ⟨by show (2 : Int) ≤ (S : Int); omega, by show (S : Int) ≤ 8; omega, hd, hm1, hm2, hg, ?_⟩
  have := (hmn.1.2.2 (by have := hd.1.1; omega)).2
  have e : ((out.length : Int) - 1).toNat = out.length - 1 := by omega
  rw [e] at this
  exact this
theorem ev_out {S n : Nat} {out : List (Int × List Int)} {F : List Int → Int} (hm1 : 1 ≤ out.length) (hmn : Mn S out n F ((out.length : Int) - 1)) (l : List Int) :
    ev (S : Int) n l (fo (nxO out) ((out.length - 1 : Nat) : Int) l) = ev (S : Int) n l (F l) := by
  unfold ev
  split
  · next hl =>
    split
    · next ha =>
      have e : ((out.length - 1 : Nat) : Int) = (out.length : Int) - 1 := by omega
      have hs : Sts S l := sts_als.2 ha
      rw [e, hmn.2 l hl hs]
    · rfl
  · rfl
/-- Eval at a made tree -/
theorem eval_out {S n : Nat} {f : Nat → P2} {out : List (Int × List Int)} {F : List Int → Int} {AI : Option Addr} {cI : Nat} {AN : Option Addr} {cN base : Nat} {w : World} (hT : TL w base n f AI cI AN cN out) (h1 : 2 ≤ S) (h2 : S ≤ 8) (hd : Hd f n) (hg : Gd S n out) (hm1 : 1 ≤ out.length) (hm2 : out.length ≤ 4096) (hmn : Mn S out n F ((out.length : Int) - 1))
    (q : Nat) (A : Option Addr) (c : Nat) (l : List Int) (w' : World) (hb : Below w.heap.size w w') (hI : Reads w' w'.heap.size A q (il l)) (hq : q ≤ 1000000) :
    Calls Tryz.prog 8 #[.agg #[.int .i64 (S : Int), .slice AI n cI, .slice AN out.length cN], .slice A q c] w' fun e w'' => e = .returned (.tuple #[.int .i64 (ev (S : Int) n l (F l)).1, .int .i64 (ev (S : Int) n l (F l)).2]) ∧ Below w'.heap.size w' w'' := by
  have h := eval_any (AH := AI) (cH := cI) (AN := AN) (cN := cN) (T := trO S n f out) (AI := A) (cI := c) (l := l) (w := w') q ((hT.ts S).later hb) (rtt_out h1 h2 hd hg hm1 hm2 hmn) hI hq
  have e := ev_out hm1 hmn l
  refine h.mono ?_
  rintro e' w'' ⟨rfl, hb'⟩
  refine ⟨?_, hb'⟩
  show Ending.returned (.tuple #[.int .i64 (ev (S : Int) n l (fo (nxO out) ((out.length - 1 : Nat) : Int) l)).1, .int .i64 (ev (S : Int) n l (fo (nxO out) ((out.length - 1 : Nat) : Int) l)).2]) = _
  rw [e]
end Go.Proofs.YtjekpmkghpjamaaGreatDoor
namespace Go.Proofs.YtjekpmkghpjamaaGreatDoor
open Go.RowKit

/-- the states that an environment gives to the positions -/
def pth {sn : Nat} : Nat → Env sn → List Int
  | 0, _ => []
  | l + 1, e => ((e (l + 1)).val : Int) :: pth l e
theorem tvx_fo {sn : Nat} (nx : Nat → List Int) : ∀ (l : Nat) (i : Int) (e : Env sn), tvx nx l i e = fo nx i (pth l e)
  | 0, _, _ => rfl
  | l + 1, i, e => by
    rw [tvx, pth, fo, Int.toNat_natCast]
    exact tvx_fo nx l _ e
theorem pth_map {sn : Nat} (e : Env sn) : ∀ n, pth n e = (List.range n).map fun i => ((e (n - i)).val : Int)
  | 0 => rfl
  | n + 1 => by
    rw [pth, pth_map e n, List.range_succ_eq_map, List.map_cons, List.map_map]
    congr 1
    apply List.map_congr_left
    intro i _
    show _ = ((e (n + 1 - (i + 1))).val : Int)
    rw [Nat.add_sub_add_right]
theorem pth_len {sn : Nat} (e : Env sn) (n : Nat) : (pth n e).length = n := by rw [pth_map]; simp
theorem pth_sts (e : Env 2) (n : Nat) : Sts 2 (pth n e) := fun x hx => by
  rw [pth_map] at hx
  obtain ⟨i, _, rfl⟩ := List.mem_map.1 hx
  have := (e (n - i)).isLt
  omega
theorem pth_ig {sn : Nat} (e : Env sn) {n j : Nat} (h : j < n) : ig (pth n e) j = ((e (n - j)).val : Int) := by
  rw [pth_map]
  simp [ig, List.getD, h]
/-- the states in another order -/
def per (os : List Int) (n : Nat) (xs : List Int) : List Int := (List.range n).map fun (i : Nat) => ig xs (os.idxOf (i : Int))
theorem pth_eT {sn : Nat} {os : List Int} {n : Nat} (hl : os.length = n) (hm : ∀ i : Int, 0 ≤ i → i < (n : Int) → i ∈ os) (e : Env sn) : pth n (eT (rhoOf n os) e) = per os n (pth n e) := by
  rw [pth_map, per]
  apply List.map_congr_left
  intro i hi
  have hi : i < n := List.mem_range.1 hi
  have hx : os.idxOf (i : Int) < n := by
    rw [← hl]
    exact List.idxOf_lt_length_of_mem (hm _ (by omega) (by omega))
  rw [pth_ig e hx]
  show ((e (rhoOf n os ((n - i : Nat) : Int))).val : Int) = _
  rw [rhoOf, show (n : Int) - ((n - i : Nat) : Int) = (i : Int) by omega]
/-- all lists of two states -/
def alls : Nat → List (List Int)
  | 0 => [[]]
  | n + 1 => (alls n).flatMap fun p => [0 :: p, 1 :: p]
theorem mem_alls : ∀ {p : List Int}, Sts 2 p → p ∈ alls p.length
  | [], _ => by simp [alls]
  | x :: p, h => by
    have ih := mem_alls (p := p) (fun y hy => h y (List.mem_cons_of_mem _ hy))
    have hx := h x List.mem_cons_self
    rw [List.length_cons, alls, List.mem_flatMap]
    refine ⟨p, ih, ?_⟩
    obtain rfl | rfl : x = 0 ∨ x = 1 := by omega
    · simp
    · simp
theorem alls_sts : ∀ {n : Nat} {p : List Int}, p ∈ alls n → p.length = n ∧ Sts 2 p
  | 0, p, h => by
    simp [alls] at h
    subst h
    exact ⟨rfl, fun x hx => by simp at hx⟩
  | n + 1, p, h => by
    rw [alls, List.mem_flatMap] at h
    obtain ⟨q, hq, hp⟩ := h
    obtain ⟨h1, h2⟩ := alls_sts hq
    simp at hp
    rcases hp with rfl | rfl
    · exact ⟨by simp [h1], fun x hx => by
        rcases List.mem_cons.1 hx with rfl | h
        · omega
        · exact h2 x h⟩
    · exact ⟨by simp [h1], fun x hx => by
        rcases List.mem_cons.1 hx with rfl | h
        · omega
        · exact h2 x h⟩
theorem pth_of {xs : List Int} (h : Sts 2 xs) : ∃ e : Env 2, pth xs.length e = xs := by
  refine ⟨fun l => ⟨(ig xs (xs.length - l)).toNat % 2, Nat.mod_lt _ (by omega)⟩, ?_⟩
  rw [pth_map]
  apply List.ext_getElem
  · simp
  · intro i h1 h2
    simp only [List.getElem_map, List.getElem_range]
    have hi : i < xs.length := h2
    rw [show xs.length - (xs.length - i) = i by omega]
    have hg : ig xs i = xs[i] := by simp [ig, List.getD, hi]
    rw [hg]
    have := h _ (List.getElem_mem hi)
    omega
/-- whether a rule has a symmetry -/
def sqy (F : List Int → Int) (f : Nat → P2) (n k : Nat) : Bool := sm (lf (imgs f n k)) n f n && (alls n).all fun xs => decide (F (per (orgs f n k) n xs) = F xs)
theorem syq_of {n : Nat} {f : Nat → P2} {out : List (Int × List Int)} {F : List Int → Int} (hd : Hd f n) (h1 : 1 ≤ out.length) (hmn : Mn 2 out n F ((out.length : Int) - 1)) : SyQ 2 (trO 2 n f out) (sqy F f n) := by
  intro k hk
  have hp : ∀ e : Env 2, Phi (trO 2 n f out) e = F (pth n e) := fun e => by
    show tvx (nxO out) n ((out.length - 1 : Nat) : Int) e = _
    rw [tvx_fo, show ((out.length - 1 : Nat) : Int) = (out.length : Int) - 1 by omega]
    exact hmn.2 _ (pth_len e n) (pth_sts e n)
  have ho := (ord_of (orgs_len hd hk) (orgs_nodup hd hk) (orgs_bd hd hk)).2
  have hpe : ∀ e : Env 2, pth n (eT (rhoOf n (orgs f n k)) e) = per (orgs f n k) n (pth n e) := fun e => pth_eT (orgs_len hd hk) ho e
  show sqy F f n k = true ↔ sm (lf (imgs f n k)) n f n = true ∧ ∀ e : Env 2, Phi (trO 2 n f out) (eT (rhoOf n (orgs f n k)) e) = Phi (trO 2 n f out) e
  unfold sqy
  rw [Bool.and_eq_true, List.all_eq_true]
  refine ⟨fun ⟨a, b⟩ => ⟨a, fun e => ?_⟩, fun ⟨a, b⟩ => ⟨a, fun xs hx => ?_⟩⟩
  · rw [hp, hp, hpe]
    have := b (pth n e) (by have := mem_alls (pth_sts e n); rwa [pth_len] at this)
    simpa using this
  · obtain ⟨h2, h3⟩ := alls_sts hx
    obtain ⟨e, he⟩ := pth_of h3
    rw [h2] at he
    have := b e
    rw [hp, hp, hpe, he] at this
    simpa using this
end Go.Proofs.YtjekpmkghpjamaaGreatDoor
namespace Go.Proofs.YtjekpmkghpjamaaGreatDoor
open Go.RowKit
/-- eight numbers as cells -/
def octW (a0 a1 a2 a3 a4 a5 a6 a7 : Int) : Array Value := #[.int .i64 a0, .int .i64 a1, .int .i64 a2, .int .i64 a3, .int .i64 a4, .int .i64 a5, .int .i64 a6, .int .i64 a7]
/-- the new states of the rule n -/
def eb (n : Int) : Array Value := octW (bits .and .i64 n 1) (bits .and .i64 (n / 2) 1) (bits .and .i64 (n / 4) 1) (bits .and .i64 (n / 8) 1) (bits .and .i64 (n / 16) 1) (bits .and .i64 (n / 32) 1) (bits .and .i64 (n / 64) 1) (bits .and .i64 (n / 128) 1)
theorem Blk.oct {w : World} {g : Nat} {t : TypeId} {c0 c1 c2 c3 c4 c5 c6 c7 : Value} (h : Blk w g t #[c0, c1, c2, c3, c4, c5, c6, c7]) :
    w.cell? ⟨g, 0, none⟩ = some c0 ∧ w.cell? ⟨g, 1, none⟩ = some c1 ∧ w.cell? ⟨g, 2, none⟩ = some c2 ∧ w.cell? ⟨g, 3, none⟩ = some c3 ∧ w.cell? ⟨g, 4, none⟩ = some c4 ∧ w.cell? ⟨g, 5, none⟩ = some c5 ∧ w.cell? ⟨g, 6, none⟩ = some c6 ∧ w.cell? ⟨g, 7, none⟩ = some c7 :=
  ⟨by rw [h.cell]; rfl, by rw [h.cell]; rfl, by rw [h.cell]; rfl, by rw [h.cell]; rfl, by rw [h.cell]; rfl, by rw [h.cell]; rfl, by rw [h.cell]; rfl, by rw [h.cell]; rfl⟩
set_option maxRecDepth 100000 in
theorem elem_out (n : Int) (w : World) (h : ¬ (0 ≤ n ∧ n ≤ 255)) :
    Calls Tryz.prog 7 #[.int .i64 n] w fun e w' => e = .returned (.tuple #[.agg (octW 0 0 0 0 0 0 0 0), .int .i64 5]) ∧ Below w.heap.size w w' := by
  unfold octW
  by_cases h1 : 0 ≤ n
  · have h2 : ¬ n ≤ 255 := fun h2 => h ⟨h1, h2⟩
    clear h
    go_enter Tryz.func7, Tryz.ntmps7
    go_wp2
    obtain ⟨j0, j1, j2, j3, j4, j5, j6, j7⟩ := ((Blk.new w 32 #[.int .i64 0, .int .i64 0, .int .i64 0, .int .i64 0, .int .i64 0, .int .i64 0, .int .i64 0, .int .i64 0]).alloc (.cells #[.int .i64 0, .int .i64 0, .int .i64 0, .int .i64 0, .int .i64 0, .int .i64 0, .int .i64 0, .int .i64 0] 32)).oct
    exact bodyPost_ret (v := .tuple #[.agg #[.int .i64 0, .int .i64 0, .int .i64 0, .int .i64 0, .int .i64 0, .int .i64 0, .int .i64 0, .int .i64 0], .int .i64 5]) (by simp [results, Tryz.results7, go_sem, j0, j1, j2, j3, j4, j5, j6, j7]) rfl ⟨rfl, ((Below.refl _ _).alloc (Nat.le_refl _) _).alloc (by simp) _⟩
  · clear h
    go_enter Tryz.func7, Tryz.ntmps7
    go_wp2
    obtain ⟨j0, j1, j2, j3, j4, j5, j6, j7⟩ := ((Blk.new w 32 #[.int .i64 0, .int .i64 0, .int .i64 0, .int .i64 0, .int .i64 0, .int .i64 0, .int .i64 0, .int .i64 0]).alloc (.cells #[.int .i64 0, .int .i64 0, .int .i64 0, .int .i64 0, .int .i64 0, .int .i64 0, .int .i64 0, .int .i64 0] 32)).oct
    exact bodyPost_ret (v := .tuple #[.agg #[.int .i64 0, .int .i64 0, .int .i64 0, .int .i64 0, .int .i64 0, .int .i64 0, .int .i64 0, .int .i64 0], .int .i64 5]) (by simp [results, Tryz.results7, go_sem, j0, j1, j2, j3, j4, j5, j6, j7]) rfl ⟨rfl, ((Below.refl _ _).alloc (Nat.le_refl _) _).alloc (by simp) _⟩
set_option maxRecDepth 100000 in
set_option maxHeartbeats 2000000 in
theorem elem_in (n : Nat) (w : World) (h : n ≤ 255) :
    Calls Tryz.prog 7 #[.int .i64 (n : Int)] w fun e w' => e = .returned (.tuple #[.agg (eb n), .int .i64 0]) ∧ Below w.heap.size w w' := by
  unfold eb octW
  go_enter Tryz.func7, Tryz.ntmps7
  go_wp2
  refine wp_loop_rounds 9 ?_
  rw [rounds_succ]
  go_wp2
  rw [rounds_succ]
  go_wp2
  rw [rounds_succ]
  go_wp2
  rw [rounds_succ]
  go_wp2
  rw [rounds_succ]
  go_wp2
  rw [rounds_succ]
  go_wp2
  rw [rounds_succ]
  go_wp2
  rw [rounds_succ]
  go_wp2
  rw [rounds_succ]
  go_wp2
  generalize bits .and .i64 (n : Int) 1 = b0
  generalize bits .and .i64 ((n : Int) / 2) 1 = b1
  generalize bits .and .i64 ((n : Int) / 4) 1 = b2
  generalize bits .and .i64 ((n : Int) / 8) 1 = b3
  generalize bits .and .i64 ((n : Int) / 16) 1 = b4
  generalize bits .and .i64 ((n : Int) / 32) 1 = b5
  generalize bits .and .i64 ((n : Int) / 64) 1 = b6
  generalize bits .and .i64 ((n : Int) / 128) 1 = b7
  obtain ⟨j0, j1, j2, j3, j4, j5, j6, j7⟩ := ((Blk.new w 32 #[.int .i64 b0, .int .i64 b1, .int .i64 b2, .int .i64 b3, .int .i64 b4, .int .i64 b5, .int .i64 b6, .int .i64 b7]).alloc (.cells #[.int .i64 b0, .int .i64 b1, .int .i64 b2, .int .i64 b3, .int .i64 b4, .int .i64 b5, .int .i64 b6, .int .i64 b7] 32)).oct
  exact bodyPost_ret (v := .tuple #[.agg #[.int .i64 b0, .int .i64 b1, .int .i64 b2, .int .i64 b3, .int .i64 b4, .int .i64 b5, .int .i64 b6, .int .i64 b7], .int .i64 0]) (by simp [results, Tryz.results7, go_sem, j0, j1, j2, j3, j4, j5, j6, j7]) rfl ⟨rfl, ((Below.refl _ _).alloc (Nat.le_refl _) _).alloc (by simp) _⟩
end Go.Proofs.YtjekpmkghpjamaaGreatDoor
namespace Go.Proofs.YtjekpmkghpjamaaGreatDoor
open Go.RowKit
/-- the first j of eight numbers, zeros behind them -/
def fst (v : Nat → Int) (j : Nat) : Array Value := octW (if 0 < j then v 0 else 0) (if 1 < j then v 1 else 0) (if 2 < j then v 2 else 0) (if 3 < j then v 3 else 0) (if 4 < j then v 4 else 0) (if 5 < j then v 5 else 0) (if 6 < j then v 6 else 0) (if 7 < j then v 7 else 0)
theorem fst_at (v : Nat → Int) (j : Nat) (h : j < 8) : (fst v j)[j]? = some (.int .i64 0) := by
  match j, h with
  | 0, _ | 1, _ | 2, _ | 3, _ | 4, _ | 5, _ | 6, _ | 7, _ => rfl
theorem fst_set (v : Nat → Int) (j : Nat) (h : j < 8) : (fst v j).setIfInBounds j (.int .i64 (v j)) = fst v (j + 1) := by
  match j, h with
  | 0, _ | 1, _ | 2, _ | 3, _ | 4, _ | 5, _ | 6, _ | 7, _ => rfl
theorem eb110 : eb 110 = octW 0 1 1 1 0 1 1 0 := by kernel_rfl
theorem elem110 (w : World) : Calls Tryz.prog 7 #[.int .i64 110] w fun e w' => e = .returned (.tuple #[.agg (octW 0 1 1 1 0 1 1 0), .int .i64 0]) ∧ Below w.heap.size w w' := by
  have h := elem_in 110 w (by decide)
  rw [show ((110 : Nat) : Int) = 110 from rfl, eb110] at h
  exact h
set_option maxRecDepth 100000 in
set_option maxHeartbeats 4000000 in
theorem reb_any (G : Nat) (v : Nat → Int) (k : Int) (w : World) (eg : ∀ args w, (callFunc G args).run Tryz.prog w = .ok (.enter G args) w)
    (F : ∀ (i : Nat), i < 8 → ∀ w : World, Calls Tryz.prog G #[.agg #[.int .i64 0, .int .i64 1, .int .i64 1, .int .i64 1, .int .i64 0, .int .i64 1, .int .i64 1, .int .i64 0], .int .i64 (i : Int)] w fun e w' => e = .returned (.int .i64 (v i)) ∧ Below w.heap.size w w')
    (NM : ∀ w : World, Calls Tryz.prog 49 #[.agg (fst v 8)] w fun e w' => e = .returned (.tuple #[.int .i64 k, .int .i64 0]) ∧ Below w.heap.size w w') :
    Calls Tryz.prog 20 #[.int .i64 110, .func (.func G) #[] #[]] w fun e w' => e = .returned (.tuple #[.int .i64 k, .int .i64 0]) ∧ Below w.heap.size w w' := by
  have EL := Lib.hid (elem110 w)
  unfold octW at EL
  have GF := Lib.hid F
  have NN := Lib.hid NM
  clear F NM
  go_enter Tryz.func20, Tryz.ntmps20
  go_wp2_with (first
    | (go_at_call 7; (with_reducible refine EL.out.mono ?_); rintro e w1 ⟨rfl, hb⟩; have B1 := Lib.hid hb; clear hb)
    | fail)
  have KO := Lib.hid ((Blk.new w1 32 #[.int .i64 0, .int .i64 1, .int .i64 1, .int .i64 1, .int .i64 0, .int .i64 1, .int .i64 1, .int .i64 0]).alloc (.cells #[.int .i64 0, .int .i64 0, .int .i64 0, .int .i64 0, .int .i64 0, .int .i64 0, .int .i64 0, .int .i64 0] 32))
  have KL := Lib.hid (Blk.new (w1.alloc (.cells #[.int .i64 0, .int .i64 1, .int .i64 1, .int .i64 1, .int .i64 0, .int .i64 1, .int .i64 1, .int .i64 0] 32)) 32 #[.int .i64 0, .int .i64 0, .int .i64 0, .int .i64 0, .int .i64 0, .int .i64 0, .int .i64 0, .int .i64 0])
  have BB := Lib.hid ((B1.out.alloc B1.out.size (.cells #[.int .i64 0, .int .i64 1, .int .i64 1, .int .i64 1, .int .i64 0, .int .i64 1, .int .i64 1, .int .i64 0] 32)).alloc (by have := B1.out.size; simp; omega) (.cells #[.int .i64 0, .int .i64 0, .int .i64 0, .int .i64 0, .int .i64 0, .int .i64 0, .int .i64 0, .int .i64 0] 32))
  have hsz := B1.out.size
  obtain ⟨go, hgo⟩ : ∃ go, go = w1.heap.size := ⟨_, rfl⟩
  obtain ⟨gl, hgl⟩ : ∃ gl, gl = w1.heap.size + 1 := ⟨_, rfl⟩
  rw [show (w1.alloc (.cells #[.int .i64 0, .int .i64 1, .int .i64 1, .int .i64 1, .int .i64 0, .int .i64 1, .int .i64 1, .int .i64 0] 32)).heap.size = gl by rw [hgl]; simp] at KL
  rw [← hgl]
  rw [← hgo] at KO hgl hsz ⊢
  have hne : go ≠ gl := by omega
  have hgl2 : w.heap.size ≤ gl := by omega
  clear hgo hgl B1 EL
  generalize (w1.alloc (.cells #[.int .i64 0, .int .i64 1, .int .i64 1, .int .i64 1, .int .i64 0, .int .i64 1, .int .i64 1, .int .i64 0] 32)).alloc (.cells #[.int .i64 0, .int .i64 0, .int .i64 0, .int .i64 0, .int .i64 0, .int .i64 0, .int .i64 0, .int .i64 0] 32) = w2 at KO KL BB ⊢
  go_loopw [18] (fun jv wr => ∃ j : Nat, j ≤ 8 ∧ jv = .int .i64 (j : Int) ∧ Blk wr go 32 #[.int .i64 0, .int .i64 1, .int .i64 1, .int .i64 1, .int .i64 0, .int .i64 1, .int .i64 1, .int .i64 0] ∧ Blk wr gl 32 (fst v j) ∧ Below w.heap.size w wr) (fun jv _ => 8 - (intOf jv).toNat)
  case atStart => exact ⟨0, Nat.zero_le _, rfl, KO.out, KL.out, BB.out⟩
  case round =>
    obtain ⟨j, hj, rfl, ko, kl, hbel⟩ := hrel
    have HB := Lib.hid hbel
    have KO2 := Lib.hid ko
    have KL2 := Lib.hid kl
    clear KO KL BB kl hbel
    by_cases hj8 : j < 8
    · obtain ⟨c0, c1, c2, c3, c4, c5, c6, c7⟩ := ko.oct
      clear ko
      have FJ := GF.out j hj8
      generalize hx : v j = x at FJ
      have HX := Lib.hid hx
      clear hx
      have FH := Lib.hid FJ
      clear FJ
      go_wp2_with ((with_reducible refine (FH.out _).mono ?_); rintro e w3 ⟨rfl, hb⟩; have K3 := Lib.hid (KL2.out.below hb KL2.out.lt); have KO3 := Lib.hid (KO2.out.below hb KO2.out.lt); have B3 := Lib.hid (HB.out.trans (hb.mono HB.out.size)); have hfz := K3.out.frozen j; have hcl := (K3.out.cell j).trans (fst_at v j hj8); clear hb)
      go_roundw
      case rel =>
        refine ⟨j + 1, by omega, by go_num, KO3.out.far hne _, ?_, B3.out.setCell (p := ⟨gl, j, none⟩) hgl2 _⟩
        have h9 := K3.out.set_ j (.int .i64 x)
        rw [← HX.out, fst_set v j hj8, HX.out] at h9
        exact h9
      case measure => simp [intOf]; omega
    · obtain rfl : j = 8 := by omega
      clear ko hj hj8
      have N8 := Lib.hid (NN.out wr)
      have h8 := Lib.hid (show fst v 8 = #[.int .i64 (v 0), .int .i64 (v 1), .int .i64 (v 2), .int .i64 (v 3), .int .i64 (v 4), .int .i64 (v 5), .int .i64 (v 6), .int .i64 (v 7)] from rfl)
      rw [h8.out] at N8 KL2
      obtain ⟨c0, c1, c2, c3, c4, c5, c6, c7⟩ := KL2.out.oct
      go_wp2_with (go_at_call 49; (with_reducible refine N8.out.mono ?_); rintro e w3 ⟨rfl, hb⟩; have B3 := Lib.hid (HB.out.trans (hb.mono HB.out.size)); clear hb)
      go_ret2
      exact ⟨rfl, B3.out⟩
end Go.Proofs.YtjekpmkghpjamaaGreatDoor
namespace Go.Proofs.YtjekpmkghpjamaaGreatDoor
open Go.RowKit
theorem run_oct (cs : Array Value) (i : Nat) (h : i < 8) (v : Value) (hv : cs[i]? = some v) (w : World) : (Instr.index 32 (.agg cs) (.int .i64 (i : Int))).run Tryz.prog w = .ok v w := by
  obtain ⟨i0, hi, hz0, hz1, hz2⟩ := info_parts Tryz.info_int
  exact run_index_one Tryz.underlying32 (run_isAgg_plain Tryz.underlying3 rfl) hi hz1 w cs .i64 i h v hv
end Go.Proofs.YtjekpmkghpjamaaGreatDoor
