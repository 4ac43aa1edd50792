/- The walks of wolfram.Elementary at 110 and of totaltree's row. -/
/- The walk of totaltree's collect at an elementary rule. -/
import Derived.Test.YtedjjhaopohibaaGreatDoorCol
import Derived.Test.YtedjjhaopohibaaGreatDoorMq
namespace Go.Proofs.YtedjjhaopohibaaGreatDoor
open Go.RowKit

theorem row_any (w : World) : Calls Tryz.prog 21 #[] w fun e w' => ∃ A c, e = .returned (.slice A 3 c) ∧ QReads w' w'.heap.size A 3 (fun k => ((k : Int) - 1, 0)) ∧ Below w.heap.size w w' := by
  go_enter Tryz.func21, Tryz.ntmps21
  go_wp2
  go_ret
  refine ⟨_, 3, rfl, fun _ => ⟨w.heap.size, 0, rfl, by simp, fun k hk => ?_⟩, (Below.refl w.heap.size w).alloc (Nat.le_refl _) _⟩
  have K := Blk.new w 74 #[.int .i64 (-1), .int .i64 0, .int .i64 0, .int .i64 0, .int .i64 1, .int .i64 0]
  obtain rfl | rfl | rfl : k = 0 ∨ k = 1 ∨ k = 2 := by omega
  · exact ⟨by rw [K.cell]; rfl, by rw [K.cell]; rfl⟩
  · exact ⟨by rw [K.cell]; rfl, by rw [K.cell]; rfl⟩
  · exact ⟨by rw [K.cell]; rfl, by rw [K.cell]; rfl⟩
theorem Blk.cast {w : World} {g : Nat} {t : TypeId} {cs ds : Array Value} (h : Blk w g t cs) (e : cs = ds) : Blk w g t ds := e ▸ h
theorem Blk.ei8 {w : World} {g : Nat} {t : TypeId} {a b c d e f x y : Value} (h : Blk w g t #[a, b, c, d, e, f, x, y]) : w.cell? ⟨g, 0, none⟩ = some a ∧ w.cell? ⟨g, 1, none⟩ = some b ∧ w.cell? ⟨g, 2, none⟩ = some c ∧ w.cell? ⟨g, 3, none⟩ = some d ∧ w.cell? ⟨g, 4, none⟩ = some e ∧ w.cell? ⟨g, 5, none⟩ = some f ∧ w.cell? ⟨g, 6, none⟩ = some x ∧ w.cell? ⟨g, 7, none⟩ = some y :=
  ⟨by rw [h.cell]; rfl, by rw [h.cell]; rfl, by rw [h.cell]; rfl, by rw [h.cell]; rfl, by rw [h.cell]; rfl, by rw [h.cell]; rfl, by rw [h.cell]; rfl, by rw [h.cell]; rfl⟩
theorem Blk.set8 {w : World} {g : Nat} {t : TypeId} {a b c d e f x y : Value} (h : Blk w g t #[a, b, c, d, e, f, x, y]) (s0 s1 s2 s3 s4 s5 s6 s7 : Value) :
    Blk ((((((((w.setCell ⟨g, 0, none⟩ s0).setCell ⟨g, 1, none⟩ s1).setCell ⟨g, 2, none⟩ s2).setCell ⟨g, 3, none⟩ s3).setCell ⟨g, 4, none⟩ s4).setCell ⟨g, 5, none⟩ s5).setCell ⟨g, 6, none⟩ s6).setCell ⟨g, 7, none⟩ s7) g t #[s0, s1, s2, s3, s4, s5, s6, s7] := by
  simpa using (((((((h.set_ 0 s0).set_ 1 s1).set_ 2 s2).set_ 3 s3).set_ 4 s4).set_ 5 s5).set_ 6 s6).set_ 7 s7
/-- the array behind j rounds -/
def a110 (j : Nat) : Array Value := ((List.range 8).map fun i => Value.int .i64 (if i < j then ([0, 1, 1, 1, 0, 1, 1, 0] : List Int).getD i 0 else 0)).toArray
set_option maxRecDepth 100000 in
set_option maxHeartbeats 2000000 in
theorem elem_110 (w : World) : Calls Tryz.prog 20 #[.int .i64 110] w fun e w' => e = .returned (.tuple #[.agg #[.int .i64 0, .int .i64 1, .int .i64 1, .int .i64 1, .int .i64 0, .int .i64 1, .int .i64 1, .int .i64 0], .int .i64 0]) ∧ Below w.heap.size w w' := by
  have K0 := (Blk.new w 57 (a110 0)).alloc (.cells (a110 0) 57)
  have K1 := Blk.new (w.alloc (.cells (a110 0) 57)) 57 (a110 0)
  rw [World.size_alloc] at K1
  have B0 := ((Below.refl w.heap.size w).alloc (Nat.le_refl _) (.cells (a110 0) 57)).alloc (by simp) (.cells (a110 0) 57)
  have K0 := Lib.hid K0
  have K1 := Lib.hid K1
  have B0 := Lib.hid B0
  go_enter Tryz.func20, Tryz.ntmps20
  go_wp2
  go_loopw [13] (fun jv wr => ∃ j : Nat, j ≤ 8 ∧ jv = .int .i64 (j : Int) ∧ Hid (Blk wr w.heap.size 57 (a110 0)) ∧ Hid (Blk wr (w.heap.size + 1) 57 (a110 j)) ∧ Hid (Below w.heap.size w wr)) (fun jv _ => 8 - (intOf jv).toNat)
  case atStart => exact ⟨0, by omega, rfl, K0, K1, B0⟩
  case round =>
    obtain ⟨j, hj, rfl, HK0, HK1, HB⟩ := hrel
    have hl0 := HK0.out.lt
    have hl1 := HK1.out.lt
    obtain rfl | rfl | rfl | rfl | rfl | rfl | rfl | rfl | rfl : j = 0 ∨ j = 1 ∨ j = 2 ∨ j = 3 ∨ j = 4 ∨ j = 5 ∨ j = 6 ∨ j = 7 ∨ j = 8 := by omega
    · have z0 := HK1.out.cell 0
      have z1 := HK1.out.frozen 0
      simp [a110] at z0
      go_wp2
      go_roundw
      case rel => exact ⟨1, by omega, rfl, Lib.hid (HK0.out.far (p := ⟨w.heap.size + 1, 0, none⟩) (by show w.heap.size ≠ w.heap.size + 1; omega) _), Lib.hid (Blk.cast (HK1.out.set_ 0 _) (by kernel_rfl)), Lib.hid (HB.out.setCell (p := ⟨w.heap.size + 1, 0, none⟩) (by show w.heap.size ≤ w.heap.size + 1; omega) _)⟩
      case measure => simp [intOf]
    · have z0 := HK1.out.cell 1
      have z1 := HK1.out.frozen 1
      simp [a110] at z0
      go_wp2
      go_roundw
      case rel => exact ⟨2, by omega, rfl, Lib.hid (HK0.out.far (p := ⟨w.heap.size + 1, 1, none⟩) (by show w.heap.size ≠ w.heap.size + 1; omega) _), Lib.hid (Blk.cast (HK1.out.set_ 1 _) (by kernel_rfl)), Lib.hid (HB.out.setCell (p := ⟨w.heap.size + 1, 1, none⟩) (by show w.heap.size ≤ w.heap.size + 1; omega) _)⟩
      case measure => simp [intOf]
    · have z0 := HK1.out.cell 2
      have z1 := HK1.out.frozen 2
      simp [a110] at z0
      go_wp2
      go_roundw
      case rel => exact ⟨3, by omega, rfl, Lib.hid (HK0.out.far (p := ⟨w.heap.size + 1, 2, none⟩) (by show w.heap.size ≠ w.heap.size + 1; omega) _), Lib.hid (Blk.cast (HK1.out.set_ 2 _) (by kernel_rfl)), Lib.hid (HB.out.setCell (p := ⟨w.heap.size + 1, 2, none⟩) (by show w.heap.size ≤ w.heap.size + 1; omega) _)⟩
      case measure => simp [intOf]
    · have z0 := HK1.out.cell 3
      have z1 := HK1.out.frozen 3
      simp [a110] at z0
      go_wp2
      go_roundw
      case rel => exact ⟨4, by omega, rfl, Lib.hid (HK0.out.far (p := ⟨w.heap.size + 1, 3, none⟩) (by show w.heap.size ≠ w.heap.size + 1; omega) _), Lib.hid (Blk.cast (HK1.out.set_ 3 _) (by kernel_rfl)), Lib.hid (HB.out.setCell (p := ⟨w.heap.size + 1, 3, none⟩) (by show w.heap.size ≤ w.heap.size + 1; omega) _)⟩
      case measure => simp [intOf]
    · have z0 := HK1.out.cell 4
      have z1 := HK1.out.frozen 4
      simp [a110] at z0
      go_wp2
      go_roundw
      case rel => exact ⟨5, by omega, rfl, Lib.hid (HK0.out.far (p := ⟨w.heap.size + 1, 4, none⟩) (by show w.heap.size ≠ w.heap.size + 1; omega) _), Lib.hid (Blk.cast (HK1.out.set_ 4 _) (by kernel_rfl)), Lib.hid (HB.out.setCell (p := ⟨w.heap.size + 1, 4, none⟩) (by show w.heap.size ≤ w.heap.size + 1; omega) _)⟩
      case measure => simp [intOf]
    · have z0 := HK1.out.cell 5
      have z1 := HK1.out.frozen 5
      simp [a110] at z0
      go_wp2
      go_roundw
      case rel => exact ⟨6, by omega, rfl, Lib.hid (HK0.out.far (p := ⟨w.heap.size + 1, 5, none⟩) (by show w.heap.size ≠ w.heap.size + 1; omega) _), Lib.hid (Blk.cast (HK1.out.set_ 5 _) (by kernel_rfl)), Lib.hid (HB.out.setCell (p := ⟨w.heap.size + 1, 5, none⟩) (by show w.heap.size ≤ w.heap.size + 1; omega) _)⟩
      case measure => simp [intOf]
    · have z0 := HK1.out.cell 6
      have z1 := HK1.out.frozen 6
      simp [a110] at z0
      go_wp2
      go_roundw
      case rel => exact ⟨7, by omega, rfl, Lib.hid (HK0.out.far (p := ⟨w.heap.size + 1, 6, none⟩) (by show w.heap.size ≠ w.heap.size + 1; omega) _), Lib.hid (Blk.cast (HK1.out.set_ 6 _) (by kernel_rfl)), Lib.hid (HB.out.setCell (p := ⟨w.heap.size + 1, 6, none⟩) (by show w.heap.size ≤ w.heap.size + 1; omega) _)⟩
      case measure => simp [intOf]
    · have z0 := HK1.out.cell 7
      have z1 := HK1.out.frozen 7
      simp [a110] at z0
      go_wp2
      go_roundw
      case rel => exact ⟨8, by omega, rfl, Lib.hid (HK0.out.far (p := ⟨w.heap.size + 1, 7, none⟩) (by show w.heap.size ≠ w.heap.size + 1; omega) _), Lib.hid (Blk.cast (HK1.out.set_ 7 _) (by kernel_rfl)), Lib.hid (HB.out.setCell (p := ⟨w.heap.size + 1, 7, none⟩) (by show w.heap.size ≤ w.heap.size + 1; omega) _)⟩
      case measure => simp [intOf]
    · have k1 : Blk wr (w.heap.size + 1) 57 #[.int .i64 0, .int .i64 1, .int .i64 1, .int .i64 1, .int .i64 0, .int .i64 1, .int .i64 1, .int .i64 0] := HK1.out
      have k0 : Blk wr w.heap.size 57 #[.int .i64 0, .int .i64 0, .int .i64 0, .int .i64 0, .int .i64 0, .int .i64 0, .int .i64 0, .int .i64 0] := HK0.out
      obtain ⟨c0, c1, c2, c3, c4, c5, c6, c7⟩ := k1.ei8
      obtain ⟨d0, d1, d2, d3, d4, d5, d6, d7⟩ := k0.ei8
      have f0 := k0.frozen 0
      have f1 := k0.frozen 1
      have f2 := k0.frozen 2
      have f3 := k0.frozen 3
      have f4 := k0.frozen 4
      have f5 := k0.frozen 5
      have f6 := k0.frozen 6
      have f7 := k0.frozen 7
      have HK := Lib.hid k0
      clear k0 k1
      go_wp2
      have KZ := HK.out.set8 (.int .i64 0) (.int .i64 1) (.int .i64 1) (.int .i64 1) (.int .i64 0) (.int .i64 1) (.int .i64 1) (.int .i64 0)
      obtain ⟨y0, y1, y2, y3, y4, y5, y6, y7⟩ := KZ.ei8
      have hz := Nat.le_refl w.heap.size
      exact bodyPost_ret (v := .tuple #[.agg #[.int .i64 0, .int .i64 1, .int .i64 1, .int .i64 1, .int .i64 0, .int .i64 1, .int .i64 1, .int .i64 0], .int .i64 0]) (by simp [results, Tryz.results20, go_sem, y0, y1, y2, y3, y4, y5, y6, y7]) rfl ⟨rfl, Below.set1 (Below.set1 (Below.set1 (Below.set1 (Below.set1 (Below.set1 (Below.set1 (Below.set1 HB.out hz _) hz _) hz _) hz _) hz _) hz _) hz _) hz _⟩
end Go.Proofs.YtedjjhaopohibaaGreatDoor
namespace Go.Proofs.YtedjjhaopohibaaGreatDoor
open Go.RowKit
attribute [local go_sem] run_store_fn

/-- the tree of the elementary rule -/
def ElemOut (f : Nat → P2) (w : World) (e : Ending) (w' : World) : Prop :=
  ∃ AI cI AN cN out, e = .returned (.agg #[.int .i64 2, .slice AI 3 cI, .slice AN out.length cN]) ∧ TL w' w.heap.size 3 f AI cI AN cN out ∧ Gd 2 3 out ∧ 1 ≤ out.length ∧ out.length ≤ 8 ∧ Mn 2 out 3 (fun q => rb (nm 2 q)) ((out.length : Int) - 1) ∧ Below w.heap.size w w'
/-- what the first visit leaves -/
def VisTop (gT b : Nat) (f : Nat → P2) (AI : Option Addr) (cI : Nat) (w0 w : World) (t : Nat) (e : Ending) (w' : World) : Prop :=
  ∃ r AN cN out, e = .returned (.int .i64 r) ∧ Blk w' gT 31 #[.int .i64 2, .slice AI 3 cI, .slice AN out.length cN] ∧ TL w' b 3 f AI cI AN cN out ∧ Gd 2 3 out ∧ 1 ≤ out.length ∧ out.length ≤ 8 ∧ Mn 2 out 3 (fun q => rb (nm 2 q)) ((out.length : Int) - 1) ∧ Below b w0 w' ∧ Blk w' t 31 #[.int .i64 0, .slice none 0 0, .slice none 0 0]
theorem visit_top {w0 wx : World} {gT xS xL xM xR gr g8 base t : Nat} {AH : Option Addr} {cH : Nat} {AI : Option Addr} {cI : Nat} {f : Nat → P2} (hS : Blk wx xS 3 #[.int .i64 2]) (hL : Blk wx xL 22 #[.slice AH 3 cH])
    (hM : Blk wx xM 61 #[.func (.func 22) #[] #[.pointer (some ⟨gr, 0, none⟩)]]) (hR : Blk wx xR 63 #[.func (.func 24) #[] #[.pointer (some ⟨g8, 0, none⟩)]])
    (hG : Blk wx gr 22 #[.slice AH 3 cH]) (h8 : Blk wx g8 57 #[.int .i64 0, .int .i64 1, .int .i64 1, .int .i64 1, .int .i64 0, .int .i64 1, .int .i64 1, .int .i64 0])
    (hX : Blk wx gT 31 #[.int .i64 2, .slice AI 3 cI, .slice none 0 0]) (hlt : xS < base ∧ xL < base ∧ xM < base ∧ xR < base ∧ gr < base ∧ g8 < base) (hb : base ≤ gT)
    (hI : wx.ownsRow base 74 2 (.slice AI 3 cI) 3 (cells2 f 3)) (hIg : ∀ g, (Value.slice AI 3 cI).ownBlock = some g → g ≠ gT) (hB : Below base w0 wx) (ht : Blk wx t 31 #[.int .i64 0, .slice none 0 0, .slice none 0 0]) (htl : t < base) :
    Calls Tryz.prog 45 #[.int .i64 3, .int .i64 0, .pointer (some ⟨xR, 0, none⟩), .pointer (some ⟨wx.heap.size + 1 + 1 + 1 + 1, 0, none⟩), .pointer (some ⟨xS, 0, none⟩), .pointer (some ⟨wx.heap.size + 1 + 1 + 1 + 1 + 1, 0, none⟩), .pointer (some ⟨xM, 0, none⟩), .pointer (some ⟨xL, 0, none⟩), .pointer (some ⟨wx.heap.size + 1 + 1, 0, none⟩)]
      ((w8o wx gT xS).alloc (.cells #[fnVisit (epOf wx.heap.size gT xS xL xM xR gr g8 base AH cH AI cI)] 61)) (VisTop gT base f AI cI w0 wx t) := by
  have hst := start_any hS hL hM hR hG h8 hX hlt hb
  have hs8 : (w8o wx gT xS).heap.size = wx.heap.size + 1 + 1 + 1 + 1 + 1 := by simp [w8o]
  have hgl := hX.lt
  have htl2 := ht.lt
  have B9 : Below wx.heap.size wx ((w8o wx gT xS).alloc (.cells #[fnVisit (epOf wx.heap.size gT xS xL xM xR gr g8 base AH cH AI cI)] 61)) :=
    (((((((Below.refl _ _).alloc (Nat.le_refl _) _).alloc (by simp) _).alloc (by simp; omega) _).alloc (by simp; omega) _).alloc (by simp; omega) _)).alloc (by simp; omega) _
  have hz9 : ((w8o wx gT xS).alloc (.cells #[fnVisit (epOf wx.heap.size gT xS xL xM xR gr g8 base AH cH AI cI)] 61)).heap.size = wx.heap.size + 6 := by rw [World.size_alloc, hs8]
  refine (vise_go (p := epOf wx.heap.size gT xS xL xM xR gr g8 base AH cH AI cI) (s := 0) (l := 2) (lv := 3) rfl (by omega) (by decide) hst (fun i hi => absurd hi (by simp)) (fun x k hx => by cases hx) (fun x k hx => by cases hx) rfl (by simp) (fun s w T U out N M h1 h2 h3 h4 h5 h6 => vise_any 2 s w T U out N M (by omega) h1 h2 h3 h4 h5 h6)).mono ?_
  rintro e w' ⟨T', out', N', M', r, h1, h2, h3, h4, _, _, _, h8', _, h10, h11⟩
  obtain ⟨A, c, ys, r1, r2, r3, r4⟩ := h2.rest
  have hr := h11 rfl
  have hr0 := h8'.1.1
  simp only [List.length_nil, Nat.zero_add] at h10
  have F9 : Fr (fun _ => False) wx (fun _ => False) ((w8o wx gT xS).alloc (.cells #[fnVisit (epOf wx.heap.size gT xS xL xM xR gr g8 base AH cH AI cI)] 61)) := Fr.of_below B9
  have hIl := hI.lt
  refine ⟨r, A, c, out', h1, r1, ⟨?_, ys, r2, r4.sub fun k _ hk => .inl (by show k < wx.heap.size + 6; omega)⟩, h4, by omega, by omega, ?_, ?_, ?_⟩
  · refine h3.row (F9.row hI (fun _ _ h => h)) (fun g hg hT => ?_)
    have h5 := (hIl g hg).2
    rcases hT with e | e | e
    · omega
    · omega
    · exact hIg g hg e
  · have : (out'.length : Int) - 1 = r := by omega
    rw [this]
    exact h8'.congr fun q _ _ => by rw [Nat.zero_add]
  · exact (hB.trans (B9.mono (by omega))).trans (h3.below (fun k hk => by rcases hk with e | e | e <;> omega) (by rw [hz9]; omega))
  · exact h3.blk (F9.blk ht (fun h => h)) (fun hT => by rcases hT with e | e | e <;> omega)
theorem L8' {wx : World} (xS gT : Nat) (v : Value) {g : Nat} {t : TypeId} {cs : Array Value} (h : Blk wx g t cs) : Blk ((w8o wx gT xS).alloc (.cells #[v] 61)) g t cs := (((((h.alloc _).alloc _).alloc _).alloc _).alloc _).alloc _
set_option maxRecDepth 100000 in
set_option maxHeartbeats 4000000 in
theorem ecollect {f : Nat → P2} {AH : Option Addr} {cH gr g8 : Nat} {w : World} (hG : Blk w gr 22 #[.slice AH 3 cH]) (h8 : Blk w g8 57 #[.int .i64 0, .int .i64 1, .int .i64 1, .int .i64 1, .int .i64 0, .int .i64 1, .int .i64 1, .int .i64 0]) (hH : QReads w w.heap.size AH 3 f) :
    Calls Tryz.prog 23 #[.int .i64 2, .slice AH 3 cH, .func (.func 22) #[] #[.pointer (some ⟨gr, 0, none⟩)], .func (.func 24) #[] #[.pointer (some ⟨g8, 0, none⟩)]] w (ElemOut f w) := by
  obtain ⟨w1, hw1⟩ : ∃ w1, w1 = w.alloc (.cells #[.int .i64 2] 3) := ⟨_, rfl⟩
  obtain ⟨w2, hw2⟩ : ∃ w2, w2 = w1.alloc (.cells #[.slice AH 3 cH] 22) := ⟨_, rfl⟩
  obtain ⟨w3, hw3⟩ : ∃ w3, w3 = w2.alloc (.cells #[.func (.func 22) #[] #[.pointer (some ⟨gr, 0, none⟩)]] 61) := ⟨_, rfl⟩
  obtain ⟨w4, hw4⟩ : ∃ w4, w4 = w3.alloc (.cells #[.func (.func 24) #[] #[.pointer (some ⟨g8, 0, none⟩)]] 63) := ⟨_, rfl⟩
  obtain ⟨w5, hw5⟩ : ∃ w5, w5 = w4.alloc (.cells #[.int .i64 0, .slice none 0 0, .slice none 0 0] 31) := ⟨_, rfl⟩
  have s1 : w1.heap.size = w.heap.size + 1 := by rw [hw1]; simp
  have s2 : w2.heap.size = w.heap.size + 1 + 1 := by rw [hw2, World.size_alloc, s1]
  have s3 : w3.heap.size = w.heap.size + 1 + 1 + 1 := by rw [hw3, World.size_alloc, s2]
  have s4 : w4.heap.size = w.heap.size + 1 + 1 + 1 + 1 := by rw [hw4, World.size_alloc, s3]
  have s5 : w5.heap.size = w.heap.size + 1 + 1 + 1 + 1 + 1 := by rw [hw5, World.size_alloc, s4]
  have KS : Blk w5 w.heap.size 3 #[.int .i64 2] := by rw [hw5, hw4, hw3, hw2, hw1]; exact ((((Blk.new w _ _).alloc _).alloc _).alloc _).alloc _
  have KL : Blk w5 (w.heap.size + 1) 22 #[.slice AH 3 cH] := by rw [hw5, hw4, hw3, hw2, ← s1]; exact (((Blk.new w1 _ _).alloc _).alloc _).alloc _
  have KM : Blk w5 (w.heap.size + 1 + 1) 61 #[.func (.func 22) #[] #[.pointer (some ⟨gr, 0, none⟩)]] := by rw [hw5, hw4, hw3, ← s2]; exact ((Blk.new w2 _ _).alloc _).alloc _
  have KR : Blk w5 (w.heap.size + 1 + 1 + 1) 63 #[.func (.func 24) #[] #[.pointer (some ⟨g8, 0, none⟩)]] := by rw [hw5, hw4, ← s3]; exact (Blk.new w3 _ _).alloc _
  have KT : Blk w5 (w.heap.size + 1 + 1 + 1 + 1) 31 #[.int .i64 0, .slice none 0 0, .slice none 0 0] := by rw [hw5, ← s4]; exact Blk.new w4 _ _
  have B5 : Below w.heap.size w w5 := by
    rw [hw5, hw4, hw3, hw2, hw1]
    exact (((((Below.refl _ _).alloc (Nat.le_refl _) _).alloc (by simp) _).alloc (by simp; omega) _).alloc (by simp; omega) _).alloc (by simp; omega) _
  have KG := hG.below B5 hG.lt
  have K8 := h8.below B5 h8.lt
  have hgr := hG.lt
  have hg8 := h8.lt
  have CL := Lib.hid (fun W (hb : Below w5.heap.size w5 W) => clone_any AH 3 cH f W (hH.later (B5.trans (hb.mono B5.size))) (by omega))
  have KP := Lib.hid (fun W (hb : Below w5.heap.size w5 W) => show W.cell? ⟨w.heap.size, 0, none⟩ = some (.int .i64 2) ∧ W.cell? ⟨w.heap.size + 1, 0, none⟩ = some (.slice AH 3 cH) from ⟨(KS.below hb KS.lt).one.1, (KL.below hb KL.lt).one.1⟩)
  have KS := Lib.hid KS
  have KL := Lib.hid KL
  have KM := Lib.hid KM
  have KR := Lib.hid KR
  have KT := Lib.hid KT
  have KG := Lib.hid KG
  have K8 := Lib.hid K8
  have B5 := Lib.hid B5
  have hmm := @run_makeMap Tryz.prog
  rw [hw4, hw3, hw2, hw1] at hw5
  have hl5 : w.heap.size + 1 + 1 + 1 + 1 < w5.heap.size := by omega
  clear hG h8 hH hw1 hw2 hw3 hw4 s1 s2 s3 s4 s5
  go_enter Tryz.func23, Tryz.ntmps23
  go_upto_region 1 with (fail)
  rw [← hw5]
  clear hw5
  have S0 := KP.out w5 (Below.refl _ _)
  go_cut [9] from 14 to 17 (fun s9 wx => ∃ (gT : Nat) (AI : Option Addr) (cI : Nat), s9 = .pointer (some ⟨gT, 0, none⟩) ∧ Blk wx gT 31 #[.int .i64 2, .slice AI 3 cI, .slice none 0 0] ∧ wx.ownsRow w5.heap.size 74 2 (.slice AI 3 cI) 3 (cells2 f 3) ∧ (∀ g, (Value.slice AI 3 cI).ownBlock = some g → g ≠ gT) ∧ w5.heap.size ≤ gT ∧ Below w5.heap.size w5 wx)
  case first =>
    go_region_held_law (fun w' => w'.cell? ⟨w.heap.size, 0, none⟩ = some (.int .i64 2) ∧ w'.cell? ⟨w.heap.size + 1, 0, none⟩ = some (.slice AH 3 cH))
      (first | assumption | (refine KP.out _ ?_; (with_reducible (repeat (first | assumption | exact Below.refl _ _ | refine Below.drew' ?_ | refine Below.alloc' ?_ _ | refine Below.set1 ?_ ?_ _ | exact Nat.le_refl _))); done) | go_keep)
      (first
      | (go_at_call 32; (with_reducible refine (CL.out _ ?_).mono ?_); (with_reducible (repeat (first | assumption | exact Below.refl _ _ | refine Below.drew' ?_ | refine Below.alloc' ?_ _))); rintro e wa ⟨AI, cI, rfl, ho, hb⟩; have HO := Lib.hid ho; have hba : Below w5.heap.size w5 wa := b_via (by with_reducible (repeat (first | exact Below.refl _ _ | refine Below.drew' ?_ | refine Below.alloc' ?_ _))) hb; have hsa : w5.heap.size ≤ wa.heap.size := hba.size; (try (have hk := Blk.below' (by first | exact Blk.new _ 31 #[.int .i64 0, .slice none 0 0, .slice none 0 0]) hb; obtain ⟨z0, z1, z2, z3, z4, z5, z6⟩ := hk.three6; (try simp [World.drew] at z0 z1 z2 z3 z4 z5 z6))); clear ho hb))
    all_goals
      go_wp2_with fail
      go_meet
      first
        | exact ⟨_, AI, cI, rfl, Blk.new wa _ _, own_base ((Fr.of_below (G := fun _ => False) ((Below.refl _ _).alloc (Nat.le_refl _) _)).row HO.out (fun _ _ h => h)) (Nat.le_refl _), fun g hg e => by have := (HO.out.lt g hg).2; omega, hsa, hba.alloc hsa _⟩
        | exact ⟨_, AI, cI, rfl, (by simpa using ((hk.set_ 0 (.int .i64 2)).set_ 1 (.slice AI 3 cI)).set_ 2 (.slice none 0 0)), own_base ((Fr.set3 wa w5.heap.size (.int .i64 2) (.slice AI 3 cI) (.slice none 0 0)).row HO.out (fun g hg e => by have := (HO.out.lt g hg).1; simp [World.drew] at this; omega)) (by simp [World.drew]), fun g hg e => by have := (HO.out.lt g hg).1; simp [World.drew] at this; omega, Nat.le_refl _, below_set3 hba (Nat.le_refl _) _ _ _⟩
  case rest =>
    obtain ⟨gT, AI, cI, rfl, hX, hO, hne, hgT, hB⟩ := hcut
    have hgl := hX.lt
    have VT := Lib.hid (visit_top (f := f) (KS.out.below hB KS.out.lt) (KL.out.below hB KL.out.lt) (KM.out.below hB KM.out.lt) (KR.out.below hB KR.out.lt) (KG.out.below hB KG.out.lt) (K8.out.below hB K8.out.lt) hX ⟨by omega, by omega, by omega, by omega, by omega, by omega⟩ hgT hO hne hB (KT.out.below hB KT.out.lt) hl5)
    have hs8 : (w8o wc gT w.heap.size).heap.size = wc.heap.size + 1 + 1 + 1 + 1 + 1 := by simp [w8o]
    have c5 := (Blk.new (w8o wc gT w.heap.size) 61 #[.nilFunc]).one
    have K5 := (Blk.new (w8o wc gT w.heap.size) 61 #[fnVisit (epOf wc.heap.size gT w.heap.size (w.heap.size + 1) (w.heap.size + 1 + 1) (w.heap.size + 1 + 1 + 1) gr g8 w5.heap.size AH cH AI cI)]).one
    have L5 := (L8' (w.heap.size) gT (fnVisit (epOf wc.heap.size gT w.heap.size (w.heap.size + 1) (w.heap.size + 1 + 1) (w.heap.size + 1 + 1 + 1) gr g8 w5.heap.size AH cH AI cI)) (KL.out.below hB KL.out.lt)).one
    rw [hs8] at c5 K5
    unfold w8o at c5 K5 VT L5
    unfold fnVisit epOf at K5 VT L5
    dsimp only at c5 K5 VT L5
    obtain ⟨c50, c51, c52⟩ := c5
    obtain ⟨y0, y1, y2⟩ := K5
    obtain ⟨x0, x1, x2⟩ := L5
    have HT := Lib.hid hgT
    clear hs8 hX hO hne hB S0
    go_wp2_with ((with_reducible refine (VT.out).mono ?_); rintro e w7 ⟨r, AN, cN, out, rfl, hX, hTL, hg, h1, h8, hmn, hb, ht⟩; have XX := Lib.hid hX; have TL7 := Lib.hid hTL; have G7 := Lib.hid hg; have H17 := Lib.hid h1; have H87 := Lib.hid h8; have M7 := Lib.hid hmn; have B7 := Lib.hid hb; have T7 := Lib.hid ht; obtain ⟨q0, q1, q2, q3⟩ := hX.three; obtain ⟨r0, r1, r2, r3, r4, r5, r6⟩ := ht.three6; clear hX hTL hg h1 h8 hmn hb ht)
    have KZ : Blk (((w7.setCell ⟨w.heap.size + 1 + 1 + 1 + 1, 0, none⟩ (.int .i64 2)).setCell ⟨w.heap.size + 1 + 1 + 1 + 1, 1, none⟩ (.slice AI 3 cI)).setCell ⟨w.heap.size + 1 + 1 + 1 + 1, 2, none⟩ (.slice AN out.length cN)) (w.heap.size + 1 + 1 + 1 + 1) 31 #[.int .i64 2, .slice AI 3 cI, .slice AN out.length cN] := by simpa using ((T7.out.set_ 0 (.int .i64 2)).set_ 1 (.slice AI 3 cI)).set_ 2 (.slice AN out.length cN)
    have TZ := TL7.out.keep (Fr.set3 w7 (w.heap.size + 1 + 1 + 1 + 1) (.int .i64 2) (.slice AI 3 cI) (.slice AN out.length cN)) (fun k hk => by subst hk; exact hl5)
    have BZ := below_set3 (g := w.heap.size + 1 + 1 + 1 + 1) (B5.out.trans (B7.out.mono (by omega))) (by omega) (.int .i64 2) (.slice AI 3 cI) (.slice AN out.length cN)
    obtain ⟨v0, v1, v2, v3⟩ := KZ.three
    exact bodyPost_ret (v := .agg #[.int .i64 2, .slice AI 3 cI, .slice AN out.length cN]) (by simp [results, Tryz.results23, go_sem, v0, v1, v2]) rfl ⟨AI, cI, AN, cN, out, rfl, TZ.low (by omega), G7.out, H17.out, H87.out, M7.out, BZ⟩
end Go.Proofs.YtedjjhaopohibaaGreatDoor
