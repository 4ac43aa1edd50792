/- totaltree's visit at every level; the walk's first memory. -/
/- The walk of totaltree's collect at an elementary rule. -/
import Derived.Test.YtjekpmkghpjamaaGreatDoorMbl
import Derived.Test.YtjekpmkghpjamaaGreatDoorMay
import Derived.Test.YtjekpmkghpjamaaGreatDoorMbm
import Derived.Test.YtjekpmkghpjamaaGreatDoorMaw
import Derived.Test.YtjekpmkghpjamaaGreatDoorMaa
import Derived.Test.YtjekpmkghpjamaaGreatDoorMae
import Derived.Below
import Derived.BigQuiet
import Derived.Deep.AppendLies
import Derived.Deep.CutRange
import Derived.Deep.Draws
import Derived.Deep.QuietTactic
import Derived.Deep.RegionHeldLaw
import Derived.Deep.RegionLaw
import Derived.DeepKeys
import Derived.DeepKeys4
import Derived.DeepKeys5
import Derived.IntWalk
import Derived.Laws.BitsLemmas
import Derived.Laws.OwnMore
import Derived.Laws.Rows
import Derived.Lib.Hide
import Derived.Lib.SliceRun
import Derived.LoopIn
import Derived.LoopN
import Derived.LoopNIn
import Derived.Maps.AppendAt
import Derived.Maps.OwnOps
import Derived.OpenShut
import Derived.OwnWalk
import Derived.OwnWalkIn
import Derived.Shelf.Abstract
import Derived.Shelf.SlLaysF0
import Derived.Shelf.Slices.Clone
import Derived.Sort.Grow
import Derived.Sort.Statements
import Derived.StillTail
import Derived.StillTailTactics
import Derived.StringKeys
import Derived.TacticsInMore
import Derived.Test.YtjekpmkghpjamaaGreatDoorRows
import Derived.WalkKit
import Derived.Test.YtjekpmkghpjamaaGreatDoorMbb
import Derived.Test.YtjekpmkghpjamaaGreatDoorMbk
import Derived.Test.YtjekpmkghpjamaaGreatDoorMax
import Derived.Test.YtjekpmkghpjamaaGreatDoorMab
import Derived.Test.YtjekpmkghpjamaaGreatDoorMag
import Derived.Test.YtjekpmkghpjamaaGreatDoorMad
import Derived.Test.YtjekpmkghpjamaaGreatDoorMac
import Derived.Test.YtjekpmkghpjamaaGreatDoorMah
import Derived.Test.YtjekpmkghpjamaaGreatDoorMaj
import Derived.Carry
import Derived.Deep.OwnRows
import Derived.Deep.RegionHeld3
import Derived.Laws.IdiomStrings
namespace Go.Proofs.YtjekpmkghpjamaaGreatDoor
open Go.RowKit
section
variable {p : EP}
/-- visit at every level -/
theorem vise_any : ∀ (l s : Nat) (w : World) (T U : Nat → Prop) (out : List (Int × List Int)) (N : Int × Int × Int → Option Int) (M : Int × Int → Option Int), l ≤ 3 → s + 2 ^ l ≤ 8 → Tst p w T U out N M → Gd 2 3 out → NOK out N → VOK p.rb out M → out.length + 2 * 2 ^ l ≤ 100000 →
      Calls Tryz.prog 119 #[.int .i64 (l : Int), .int .i64 (s : Int), .pointer (some ⟨p.xR, 0, none⟩), .pointer (some ⟨p.xV, 0, none⟩), .pointer (some ⟨p.xS, 0, none⟩), .pointer (some ⟨p.xF, 0, none⟩), .pointer (some ⟨p.xM, 0, none⟩), .pointer (some ⟨p.xL, 0, none⟩), .pointer (some ⟨p.xA, 0, none⟩)] w (VisE p w T U out l s)
  | 0, s, w, T, U, out, N, M, _, hs, h, hg, hn, hm, _ => vise_zero (by simp at hs; omega) h hg hn hm
  | l + 1, s, w, T, U, out, N, M, hl, hs, h, hg, hn, hm, hc => by
    cases hf : M (((l + 1 : Nat) : Int), (s : Int)) with
    | some i => exact vise_found (by omega) hl (by have := Nat.pow_pos (n := l + 1) (show 0 < 2 by omega); omega) h hg hn hm hf
    | none =>
      refine (vise_go rfl hl hs h hg hn hm hf hc (fun s w T U out N M h1 h2 h3 h4 h5 h6 => vise_any l s w T U out N M (by omega) h1 h2 h3 h4 h5 h6)).mono ?_
      rintro e w' ⟨T', out', N', M', r, h1, h2, h3, h4, h5, h6, h7, h8, h9, h10, _⟩
      exact ⟨T', out', N', M', r, h1, h2, h3, h4, h5, h6, h7, h8, h9, h10⟩
end
def epOf (n gT xS xL xM xR gr g8 base : Nat) (AH : Option Addr) (cH : Nat) (AI : Option Addr) (cI : Nat) (f : Nat → Int) : EP := ⟨n + 1, gT, xS, n + 1 + 1 + 1 + 1 + 1, xM, xR, xL, n + 1 + 1, n + 1 + 1 + 1 + 1, gr, g8, n, n + 1 + 1 + 1, base, AH, cH, AI, cI, f⟩
def w8o (wx : World) (gT xS : Nat) : World := ((((wx.alloc (.map #[] 0)).alloc (.cells #[.map (some wx.heap.size)] 165)).alloc (.cells #[.func (.func 117) #[] #[.pointer (some ⟨wx.heap.size + 1, 0, none⟩), .pointer (some ⟨gT, 0, none⟩), .pointer (some ⟨xS, 0, none⟩)]] 169)).alloc (.map #[] 0)).alloc (.cells #[.map (some (wx.heap.size + 1 + 1 + 1))] 170)
theorem start_any {wx : World} {gT xS xL xM xR gr g8 base : Nat} {AH : Option Addr} {cH : Nat} {AI : Option Addr} {cI : Nat} {rb : Nat → Int} (hb8 : Bits8 rb) (hS : Blk wx xS 3 #[.int .i64 2]) (hL : Blk wx xL 22 #[.slice AH 3 cH])
    (hM : Blk wx xM 114 #[.func (.func 82) #[] #[.pointer (some ⟨gr, 0, none⟩)]]) (hR : Blk wx xR 117 #[.func (.func 83) #[] #[.pointer (some ⟨g8, 0, none⟩)]])
    (hG : Blk wx gr 22 #[.slice AH 3 cH]) (h8 : Blk wx g8 32 (b8 rb))
    (hX : Blk wx gT 25 #[.int .i64 2, .slice AI 3 cI, .slice none 0 0]) (hlt : xS < base ∧ xL < base ∧ xM < base ∧ xR < base ∧ gr < base ∧ g8 < base) (hb : base ≤ gT) :
    Tst (epOf wx.heap.size gT xS xL xM xR gr g8 base AH cH AI cI rb) ((w8o wx gT xS).alloc (.cells #[fnVisit (epOf wx.heap.size gT xS xL xM xR gr g8 base AH cH AI cI rb)] 114)) (fun k => k = wx.heap.size ∨ k = wx.heap.size + 1 + 1 + 1 ∨ k = gT) (fun k => k < wx.heap.size + 6) [] (fun _ => none) (fun _ => none) := by
  obtain ⟨q1, q2, q3, q4, q5, q6⟩ := hlt
  have hgl := hX.lt
  have hs8 : (w8o wx gT xS).heap.size = wx.heap.size + 1 + 1 + 1 + 1 + 1 := by simp [w8o]
  have KF := Blk.new (w8o wx gT xS) 114 #[fnVisit (epOf wx.heap.size gT xS xL xM xR gr g8 base AH cH AI cI rb)]
  rw [hs8] at KF
  have M1 := MapOf.new Tryz.prog wx 167 (α := Int × Int × Int) (β := Int) nodV2 (fun x => .int .i64 x)
  have K1 := Blk.new (wx.alloc (.map #[] 0)) 165 #[.map (some wx.heap.size)]
  have K2 := Blk.new ((wx.alloc (.map #[] 0)).alloc (.cells #[.map (some wx.heap.size)] 165)) 169 #[.func (.func 117) #[] #[.pointer (some ⟨wx.heap.size + 1, 0, none⟩), .pointer (some ⟨gT, 0, none⟩), .pointer (some ⟨xS, 0, none⟩)]]
  have M2 := MapOf.new Tryz.prog (((wx.alloc (.map #[] 0)).alloc (.cells #[.map (some wx.heap.size)] 165)).alloc (.cells #[.func (.func 117) #[] #[.pointer (some ⟨wx.heap.size + 1, 0, none⟩), .pointer (some ⟨gT, 0, none⟩), .pointer (some ⟨xS, 0, none⟩)]] 169)) 171 (α := Int × Int) (β := Int) parV (fun x => .int .i64 x)
  have K4 := Blk.new ((((wx.alloc (.map #[] 0)).alloc (.cells #[.map (some wx.heap.size)] 165)).alloc (.cells #[.func (.func 117) #[] #[.pointer (some ⟨wx.heap.size + 1, 0, none⟩), .pointer (some ⟨gT, 0, none⟩), .pointer (some ⟨xS, 0, none⟩)]] 169)).alloc (.map #[] 0)) 170 #[.map (some (wx.heap.size + 1 + 1 + 1))]
  simp only [World.size_alloc] at K1 K2 M2 K4
  have hsz : ((w8o wx gT xS).alloc (.cells #[fnVisit (epOf wx.heap.size gT xS xL xM xR gr g8 base AH cH AI cI rb)] 114)).heap.size = wx.heap.size + 6 := by rw [World.size_alloc, hs8]
  have L8 : ∀ {g : Nat} {t : TypeId} {cs : Array Value}, Blk wx g t cs → Blk ((w8o wx gT xS).alloc (.cells #[fnVisit (epOf wx.heap.size gT xS xL xM xR gr g8 base AH cH AI cI rb)] 114)) g t cs := fun h => (((((h.alloc _).alloc _).alloc _).alloc _).alloc _).alloc _
  refine ⟨⟨?_, L8 hS, KF, L8 hM, L8 hR, L8 hL, ?_, ?_, L8 hG, L8 h8, hb8⟩, ?_, ?_, fun k hk => by rw [hsz]; exact hk, ?_, ?_, ?_, .inl rfl, .inr (.inl rfl), .inr (.inr rfl), ?_, none, 0, [], L8 hX, World.ownsRow_nil _ _ _ _, fun g hg => by simp [Value.ownBlock] at hg, fun k hk => absurd hk (by simp)⟩
  · exact (((K1.alloc _).alloc _).alloc _).alloc _
  · exact ((K2.alloc _).alloc _).alloc _
  · exact K4.alloc _
  · intro k hk hT
    rcases hk with rfl | rfl | rfl | rfl | rfl | rfl | rfl | rfl | rfl | rfl <;> (try dsimp only [epOf] at hT) <;> rcases hT with hT | hT | hT <;> (try dsimp only [epOf] at hT) <;> omega
  · intro k hk
    rcases hk with rfl | rfl | rfl <;> show _ < _ <;> omega
  · rw [hsz]; show base ≤ _; omega
  · exact ((((M1.of_block (Below.heap_alloc _ _ _ (by simp))).of_block (Below.heap_alloc _ _ _ (by simp; omega))).of_block (Below.heap_alloc _ _ _ (by simp; omega))).of_block (Below.heap_alloc _ _ _ (by simp; omega))).of_block (Below.heap_alloc _ _ _ (by rw [hs8]; show wx.heap.size < _; omega))
  · exact (M2.of_block (Below.heap_alloc _ _ _ (by simp))).of_block (Below.heap_alloc _ _ _ (by rw [hs8]; show wx.heap.size + 1 + 1 + 1 < _; omega))
  · show wx.heap.size ≠ wx.heap.size + 1 + 1 + 1
    omega
end Go.Proofs.YtjekpmkghpjamaaGreatDoor
namespace Go.Proofs.YtjekpmkghpjamaaGreatDoor
open Go.RowKit
attribute [local go_sem] run_store_fn
/-- the tree of the elementary rule -/
def ElemOut (rb : Nat → Int) (f : Nat → P2) (w : World) (e : Ending) (w' : World) : Prop :=
  ∃ AI cI AN cN out, e = .returned (.agg #[.int .i64 2, .slice AI 3 cI, .slice AN out.length cN]) ∧ TL w' w.heap.size 3 f AI cI AN cN out ∧ Gd 2 3 out ∧ 1 ≤ out.length ∧ out.length ≤ 8 ∧ Mn 2 out 3 (fun q => rb (nm 2 q)) ((out.length : Int) - 1) ∧ Below w.heap.size w w'
/-- what the first visit leaves -/
def VisTop (rb : Nat → Int) (gT b : Nat) (f : Nat → P2) (AI : Option Addr) (cI : Nat) (w0 w : World) (t : Nat) (e : Ending) (w' : World) : Prop :=
  ∃ r AN cN out, e = .returned (.int .i64 r) ∧ Blk w' gT 25 #[.int .i64 2, .slice AI 3 cI, .slice AN out.length cN] ∧ TL w' b 3 f AI cI AN cN out ∧ Gd 2 3 out ∧ 1 ≤ out.length ∧ out.length ≤ 8 ∧ Mn 2 out 3 (fun q => rb (nm 2 q)) ((out.length : Int) - 1) ∧ Below b w0 w' ∧ Blk w' t 25 #[.int .i64 0, .slice none 0 0, .slice none 0 0]
theorem visit_top {w0 wx : World} {gT xS xL xM xR gr g8 base t : Nat} {AH : Option Addr} {cH : Nat} {AI : Option Addr} {cI : Nat} {f : Nat → P2} {rb : Nat → Int} (hb8 : Bits8 rb) (hS : Blk wx xS 3 #[.int .i64 2]) (hL : Blk wx xL 22 #[.slice AH 3 cH])
    (hM : Blk wx xM 114 #[.func (.func 82) #[] #[.pointer (some ⟨gr, 0, none⟩)]]) (hR : Blk wx xR 117 #[.func (.func 83) #[] #[.pointer (some ⟨g8, 0, none⟩)]])
    (hG : Blk wx gr 22 #[.slice AH 3 cH]) (h8 : Blk wx g8 32 (b8 rb))
    (hX : Blk wx gT 25 #[.int .i64 2, .slice AI 3 cI, .slice none 0 0]) (hlt : xS < base ∧ xL < base ∧ xM < base ∧ xR < base ∧ gr < base ∧ g8 < base) (hb : base ≤ gT)
    (hI : wx.ownsRow base 140 2 (.slice AI 3 cI) 3 (cells2 f 3)) (hIg : ∀ g, (Value.slice AI 3 cI).ownBlock = some g → g ≠ gT) (hB : Below base w0 wx) (ht : Blk wx t 25 #[.int .i64 0, .slice none 0 0, .slice none 0 0]) (htl : t < base) :
    Calls Tryz.prog 119 #[.int .i64 3, .int .i64 0, .pointer (some ⟨xR, 0, none⟩), .pointer (some ⟨wx.heap.size + 1 + 1 + 1 + 1, 0, none⟩), .pointer (some ⟨xS, 0, none⟩), .pointer (some ⟨wx.heap.size + 1 + 1 + 1 + 1 + 1, 0, none⟩), .pointer (some ⟨xM, 0, none⟩), .pointer (some ⟨xL, 0, none⟩), .pointer (some ⟨wx.heap.size + 1 + 1, 0, none⟩)]
      ((w8o wx gT xS).alloc (.cells #[fnVisit (epOf wx.heap.size gT xS xL xM xR gr g8 base AH cH AI cI rb)] 114)) (VisTop rb gT base f AI cI w0 wx t) := by
  have hst := start_any hb8 hS hL hM hR hG h8 hX hlt hb
  have hs8 : (w8o wx gT xS).heap.size = wx.heap.size + 1 + 1 + 1 + 1 + 1 := by simp [w8o]
  have hgl := hX.lt
  have htl2 := ht.lt
  have B9 : Below wx.heap.size wx ((w8o wx gT xS).alloc (.cells #[fnVisit (epOf wx.heap.size gT xS xL xM xR gr g8 base AH cH AI cI rb)] 114)) :=
    (((((((Below.refl _ _).alloc (Nat.le_refl _) _).alloc (by simp) _).alloc (by simp; omega) _).alloc (by simp; omega) _).alloc (by simp; omega) _)).alloc (by simp; omega) _
  have hz9 : ((w8o wx gT xS).alloc (.cells #[fnVisit (epOf wx.heap.size gT xS xL xM xR gr g8 base AH cH AI cI rb)] 114)).heap.size = wx.heap.size + 6 := by rw [World.size_alloc, hs8]
  refine (vise_go (p := epOf wx.heap.size gT xS xL xM xR gr g8 base AH cH AI cI rb) (s := 0) (l := 2) (lv := 3) rfl (by omega) (by decide) hst (fun i hi => absurd hi (by simp)) (fun x k hx => by cases hx) (fun x k hx => by cases hx) rfl (by simp) (fun s w T U out N M h1 h2 h3 h4 h5 h6 => vise_any 2 s w T U out N M (by omega) h1 h2 h3 h4 h5 h6)).mono ?_
  rintro e w' ⟨T', out', N', M', r, h1, h2, h3, h4, _, _, _, h8', _, h10, h11⟩
  obtain ⟨A, c, ys, r1, r2, r3, r4⟩ := h2.rest
  have hr := h11 rfl
  have hr0 := h8'.1.1
  simp only [List.length_nil, Nat.zero_add] at h10
  have F9 : Fr (fun _ => False) wx (fun _ => False) ((w8o wx gT xS).alloc (.cells #[fnVisit (epOf wx.heap.size gT xS xL xM xR gr g8 base AH cH AI cI rb)] 114)) := Fr.of_below B9
  have hIl := hI.lt
  refine ⟨r, A, c, out', h1, r1, ⟨?_, ys, r2, r4.sub fun k _ hk => .inl (by show k < wx.heap.size + 6; omega)⟩, h4, by omega, by omega, ?_, ?_, ?_⟩
  · refine h3.row (F9.row hI (fun _ _ h => h)) (fun g hg hT => ?_)
    have h5 := (hIl g hg).2
    rcases hT with e | e | e
    · omega
    · omega
    · exact hIg g hg e
  · have : (out'.length : Int) - 1 = r := by omega
    rw [this]
    exact h8'.congr fun q _ _ => by rw [Nat.zero_add]; rfl
  · exact (hB.trans (B9.mono (by omega))).trans (h3.below (fun k hk => by rcases hk with e | e | e <;> omega) (by rw [hz9]; omega))
  · exact h3.blk (F9.blk ht (fun h => h)) (fun hT => by rcases hT with e | e | e <;> omega)
theorem L8' {wx : World} (xS gT : Nat) (v : Value) {g : Nat} {t : TypeId} {cs : Array Value} (h : Blk wx g t cs) : Blk ((w8o wx gT xS).alloc (.cells #[v] 114)) g t cs := (((((h.alloc _).alloc _).alloc _).alloc _).alloc _).alloc _
set_option maxRecDepth 100000 in
set_option maxHeartbeats 4000000 in
theorem ecollect {rb : Nat → Int} (hb8 : Bits8 rb) {f : Nat → P2} {AH : Option Addr} {cH gr g8 : Nat} {w : World} (hG : Blk w gr 22 #[.slice AH 3 cH]) (h8 : Blk w g8 32 (b8 rb)) (hH : QReads w w.heap.size AH 3 f) :
    Calls Tryz.prog 66 #[.int .i64 2, .slice AH 3 cH, .func (.func 82) #[] #[.pointer (some ⟨gr, 0, none⟩)], .func (.func 83) #[] #[.pointer (some ⟨g8, 0, none⟩)]] w (ElemOut rb f w) := by
  obtain ⟨w1, hw1⟩ : ∃ w1, w1 = w.alloc (.cells #[.int .i64 2] 3) := ⟨_, rfl⟩
  obtain ⟨w2, hw2⟩ : ∃ w2, w2 = w1.alloc (.cells #[.slice AH 3 cH] 22) := ⟨_, rfl⟩
  obtain ⟨w3, hw3⟩ : ∃ w3, w3 = w2.alloc (.cells #[.func (.func 82) #[] #[.pointer (some ⟨gr, 0, none⟩)]] 114) := ⟨_, rfl⟩
  obtain ⟨w4, hw4⟩ : ∃ w4, w4 = w3.alloc (.cells #[.func (.func 83) #[] #[.pointer (some ⟨g8, 0, none⟩)]] 117) := ⟨_, rfl⟩
  obtain ⟨w5, hw5⟩ : ∃ w5, w5 = w4.alloc (.cells #[.int .i64 0, .slice none 0 0, .slice none 0 0] 25) := ⟨_, rfl⟩
  have s1 : w1.heap.size = w.heap.size + 1 := by rw [hw1]; simp
  have s2 : w2.heap.size = w.heap.size + 1 + 1 := by rw [hw2, World.size_alloc, s1]
  have s3 : w3.heap.size = w.heap.size + 1 + 1 + 1 := by rw [hw3, World.size_alloc, s2]
  have s4 : w4.heap.size = w.heap.size + 1 + 1 + 1 + 1 := by rw [hw4, World.size_alloc, s3]
  have s5 : w5.heap.size = w.heap.size + 1 + 1 + 1 + 1 + 1 := by rw [hw5, World.size_alloc, s4]
  have KS : Blk w5 w.heap.size 3 #[.int .i64 2] := by rw [hw5, hw4, hw3, hw2, hw1]; exact ((((Blk.new w _ _).alloc _).alloc _).alloc _).alloc _
  have KL : Blk w5 (w.heap.size + 1) 22 #[.slice AH 3 cH] := by rw [hw5, hw4, hw3, hw2, ← s1]; exact (((Blk.new w1 _ _).alloc _).alloc _).alloc _
  have KM : Blk w5 (w.heap.size + 1 + 1) 114 #[.func (.func 82) #[] #[.pointer (some ⟨gr, 0, none⟩)]] := by rw [hw5, hw4, hw3, ← s2]; exact ((Blk.new w2 _ _).alloc _).alloc _
  have KR : Blk w5 (w.heap.size + 1 + 1 + 1) 117 #[.func (.func 83) #[] #[.pointer (some ⟨g8, 0, none⟩)]] := by rw [hw5, hw4, ← s3]; exact (Blk.new w3 _ _).alloc _
  have KT : Blk w5 (w.heap.size + 1 + 1 + 1 + 1) 25 #[.int .i64 0, .slice none 0 0, .slice none 0 0] := by rw [hw5, ← s4]; exact Blk.new w4 _ _
  have B5 : Below w.heap.size w w5 := by
    rw [hw5, hw4, hw3, hw2, hw1]
    exact (((((Below.refl _ _).alloc (Nat.le_refl _) _).alloc (by simp) _).alloc (by simp; omega) _).alloc (by simp; omega) _).alloc (by simp; omega) _
  have KG := hG.below B5 hG.lt
  have K8 := h8.below B5 h8.lt
  have hgr := hG.lt
  have hg8 := h8.lt
  have CL := Lib.hid (fun W (hb : Below w5.heap.size w5 W) => clone_any AH 3 cH f W (hH.later (B5.trans (hb.mono B5.size))) (by omega))
  have KP := Lib.hid (fun W (hb : Below w5.heap.size w5 W) => show W.cell? ⟨w.heap.size, 0, none⟩ = some (.int .i64 2) ∧ W.cell? ⟨w.heap.size + 1, 0, none⟩ = some (.slice AH 3 cH) from ⟨(KS.below hb KS.lt).one.1, (KL.below hb KL.lt).one.1⟩)
  have KS := Lib.hid KS
  have KL := Lib.hid KL
  have KM := Lib.hid KM
  have KR := Lib.hid KR
  have KT := Lib.hid KT
  have KG := Lib.hid KG
  have K8 := Lib.hid K8
  have B5 := Lib.hid B5
  have hmm := @run_makeMap Tryz.prog
  rw [hw4, hw3, hw2, hw1] at hw5
  have hl5 : w.heap.size + 1 + 1 + 1 + 1 < w5.heap.size := by omega
  clear hG h8 hH hw1 hw2 hw3 hw4 s1 s2 s3 s4 s5
  go_enter Tryz.func66, Tryz.ntmps66
  go_upto_region 1 with (fail)
  rw [← hw5]
  clear hw5
  have S0 := KP.out w5 (Below.refl _ _)
  go_cut [9] from 14 to 17 (fun s9 wx => ∃ (gT : Nat) (AI : Option Addr) (cI : Nat), s9 = .pointer (some ⟨gT, 0, none⟩) ∧ Blk wx gT 25 #[.int .i64 2, .slice AI 3 cI, .slice none 0 0] ∧ wx.ownsRow w5.heap.size 140 2 (.slice AI 3 cI) 3 (cells2 f 3) ∧ (∀ g, (Value.slice AI 3 cI).ownBlock = some g → g ≠ gT) ∧ w5.heap.size ≤ gT ∧ Below w5.heap.size w5 wx)
  case first =>
    go_region_held_law (fun w' => w'.cell? ⟨w.heap.size, 0, none⟩ = some (.int .i64 2) ∧ w'.cell? ⟨w.heap.size + 1, 0, none⟩ = some (.slice AH 3 cH))
      (first | assumption | (refine KP.out _ ?_; (with_reducible (repeat (first | assumption | exact Below.refl _ _ | refine Below.drew' ?_ | refine Below.alloc' ?_ _ | refine Below.set1 ?_ ?_ _ | exact Nat.le_refl _))); done) | go_keep)
      (first
      | (go_at_call 116; (with_reducible refine (CL.out _ ?_).mono ?_); (with_reducible (repeat (first | assumption | exact Below.refl _ _ | refine Below.drew' ?_ | refine Below.alloc' ?_ _))); rintro e wa ⟨AI, cI, rfl, ho, hb⟩; have HO := Lib.hid ho; have hba : Below w5.heap.size w5 wa := b_via (by with_reducible (repeat (first | exact Below.refl _ _ | refine Below.drew' ?_ | refine Below.alloc' ?_ _))) hb; have hsa : w5.heap.size ≤ wa.heap.size := hba.size; (try (have hk := Blk.below' (by first | exact Blk.new _ 25 #[.int .i64 0, .slice none 0 0, .slice none 0 0]) hb; obtain ⟨z0, z1, z2, z3, z4, z5, z6⟩ := hk.three6; (try simp [World.drew] at z0 z1 z2 z3 z4 z5 z6))); clear ho hb))
    all_goals
      go_wp2_with fail
      go_meet
      first
        | exact ⟨_, AI, cI, rfl, Blk.new wa _ _, own_base ((Fr.of_below (G := fun _ => False) ((Below.refl _ _).alloc (Nat.le_refl _) _)).row HO.out (fun _ _ h => h)) (Nat.le_refl _), fun g hg e => by have := (HO.out.lt g hg).2; omega, hsa, hba.alloc hsa _⟩
        | exact ⟨_, AI, cI, rfl, (by simpa using ((hk.set_ 0 (.int .i64 2)).set_ 1 (.slice AI 3 cI)).set_ 2 (.slice none 0 0)), own_base ((Fr.set3 wa w5.heap.size (.int .i64 2) (.slice AI 3 cI) (.slice none 0 0)).row HO.out (fun g hg e => by have := (HO.out.lt g hg).1; simp [World.drew] at this; omega)) (by simp [World.drew]), fun g hg e => by have := (HO.out.lt g hg).1; simp [World.drew] at this; omega, Nat.le_refl _, below_set3 hba (Nat.le_refl _) _ _ _⟩
  case rest =>
    obtain ⟨gT, AI, cI, rfl, hX, hO, hne, hgT, hB⟩ := hcut
    have hgl := hX.lt
    have VT := Lib.hid (visit_top (f := f) hb8 (KS.out.below hB KS.out.lt) (KL.out.below hB KL.out.lt) (KM.out.below hB KM.out.lt) (KR.out.below hB KR.out.lt) (KG.out.below hB KG.out.lt) (K8.out.below hB K8.out.lt) hX ⟨by omega, by omega, by omega, by omega, by omega, by omega⟩ hgT hO hne hB (KT.out.below hB KT.out.lt) hl5)
    have hs8 : (w8o wc gT w.heap.size).heap.size = wc.heap.size + 1 + 1 + 1 + 1 + 1 := by simp [w8o]
    have c5 := (Blk.new (w8o wc gT w.heap.size) 114 #[.nilFunc]).one
    have K5 := (Blk.new (w8o wc gT w.heap.size) 114 #[fnVisit (epOf wc.heap.size gT w.heap.size (w.heap.size + 1) (w.heap.size + 1 + 1) (w.heap.size + 1 + 1 + 1) gr g8 w5.heap.size AH cH AI cI rb)]).one
    have L5 := (L8' (w.heap.size) gT (fnVisit (epOf wc.heap.size gT w.heap.size (w.heap.size + 1) (w.heap.size + 1 + 1) (w.heap.size + 1 + 1 + 1) gr g8 w5.heap.size AH cH AI cI rb)) (KL.out.below hB KL.out.lt)).one
    rw [hs8] at c5 K5
    unfold w8o at c5 K5 VT L5
    unfold fnVisit epOf at K5 VT L5
    dsimp only at c5 K5 VT L5
    obtain ⟨c50, c51, c52⟩ := c5
    obtain ⟨y0, y1, y2⟩ := K5
    obtain ⟨x0, x1, x2⟩ := L5
    have HT := Lib.hid hgT
    clear hs8 hX hO hne hB S0
    go_wp2_with ((with_reducible refine (VT.out).mono ?_); rintro e w7 ⟨r, AN, cN, out, rfl, hX, hTL, hg, h1, h8, hmn, hb, ht⟩; have XX := Lib.hid hX; have TL7 := Lib.hid hTL; have G7 := Lib.hid hg; have H17 := Lib.hid h1; have H87 := Lib.hid h8; have M7 := Lib.hid hmn; have B7 := Lib.hid hb; have T7 := Lib.hid ht; obtain ⟨q0, q1, q2, q3⟩ := hX.three; obtain ⟨r0, r1, r2, r3, r4, r5, r6⟩ := ht.three6; clear hX hTL hg h1 h8 hmn hb ht)
    have KZ : Blk (((w7.setCell ⟨w.heap.size + 1 + 1 + 1 + 1, 0, none⟩ (.int .i64 2)).setCell ⟨w.heap.size + 1 + 1 + 1 + 1, 1, none⟩ (.slice AI 3 cI)).setCell ⟨w.heap.size + 1 + 1 + 1 + 1, 2, none⟩ (.slice AN out.length cN)) (w.heap.size + 1 + 1 + 1 + 1) 25 #[.int .i64 2, .slice AI 3 cI, .slice AN out.length cN] := by simpa using ((T7.out.set_ 0 (.int .i64 2)).set_ 1 (.slice AI 3 cI)).set_ 2 (.slice AN out.length cN)
    have TZ := TL7.out.keep (Fr.set3 w7 (w.heap.size + 1 + 1 + 1 + 1) (.int .i64 2) (.slice AI 3 cI) (.slice AN out.length cN)) (fun k hk => by subst hk; exact hl5)
    have BZ := below_set3 (g := w.heap.size + 1 + 1 + 1 + 1) (B5.out.trans (B7.out.mono (by omega))) (by omega) (.int .i64 2) (.slice AI 3 cI) (.slice AN out.length cN)
    obtain ⟨v0, v1, v2, v3⟩ := KZ.three
    exact bodyPost_ret (v := .agg #[.int .i64 2, .slice AI 3 cI, .slice AN out.length cN]) (by simp [results, Tryz.results66, go_sem, v0, v1, v2]) rfl ⟨AI, cI, AN, cN, out, rfl, TZ.low (by omega), G7.out, H17.out, H87.out, M7.out, BZ⟩
end Go.Proofs.YtjekpmkghpjamaaGreatDoor
