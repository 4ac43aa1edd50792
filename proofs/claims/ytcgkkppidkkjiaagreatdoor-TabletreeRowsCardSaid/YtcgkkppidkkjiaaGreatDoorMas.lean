/- The walks of add and node. -/
/- The walk of node. -/
/- The walk of Match at a valid table, and the two tables of the examples. -/
import Derived.Test.YtcgkkppidkkjiaaGreatDoorMaa
import Derived.Test.YtcgkkppidkkjiaaGreatDoorMan
import Derived.Test.YtcgkkppidkkjiaaGreatDoorMaj
import Derived.Test.YtcgkkppidkkjiaaGreatDoorMao
import Derived.Test.YtcgkkppidkkjiaaGreatDoorMaf
import Derived.Below
import Derived.BigQuiet
import Derived.Deep.AppendLies
import Derived.Deep.CutRange
import Derived.Deep.Draws
import Derived.Deep.QuietTactic
import Derived.Deep.RegionHeldLaw
import Derived.Deep.RegionLaw
import Derived.DeepKeys4
import Derived.IntWalk
import Derived.Laws.OwnMore
import Derived.Laws.Rows
import Derived.Lib.Hide
import Derived.LoopN
import Derived.Maps.OwnOps
import Derived.OwnWalk
import Derived.Sort.Statements
import Derived.StillTail
import Derived.StillTailTactics
import Derived.Test.YtcgkkppidkkjiaaGreatDoorRows
import Derived.WalkKit
import Derived.Test.YtcgkkppidkkjiaaGreatDoorMar
import Derived.Test.YtcgkkppidkkjiaaGreatDoorMap
import Derived.Test.YtcgkkppidkkjiaaGreatDoorMal
import Derived.Test.YtcgkkppidkkjiaaGreatDoorMab
import Derived.Test.YtcgkkppidkkjiaaGreatDoorMam
import Derived.Test.YtcgkkppidkkjiaaGreatDoorMac
import Derived.Test.YtcgkkppidkkjiaaGreatDoorMak
import Derived.Test.YtcgkkppidkkjiaaGreatDoorMai
import Derived.Deep.RegionHeld3
import Derived.DeepKeys
import Derived.Laws.BitsLemmas
import Derived.Lib.SliceRun
import Derived.Shelf.Abstract
import Derived.Shelf.SlLaysF0
import Derived.Sort.Grow
namespace Go.Proofs.YtcgkkppidkkjiaaGreatDoor
open Go.RowKit
theorem Tryz.info_nod : (Tryz.prog.info? 134).map (fun i => (i.zero, i.size, i.bytes)) = some (some (.agg #[.int .i64 0, .int .i32 0, .int .i32 0, .int .i32 0, .int .i32 0, .int .i32 0, .int .i32 0, .int .i32 0, .int .i32 0]), 9, 40) := by kernel_rfl
theorem nodV_eight (lv a b c d e f g i : Int) : nodV ⟨lv, [a, b, c, d, e, f, g, i]⟩ = .agg #[.int .i64 lv, .int .i32 a, .int .i32 b, .int .i32 c, .int .i32 d, .int .i32 e, .int .i32 f, .int .i32 g, .int .i32 i] := rfl
theorem zero_i32 (w : World) : (zeroValue 21).run Tryz.prog w = .ok (.int .i32 0) w := by kernel_rfl
theorem Fo.look {w : World} {fb : Nat} {G : Nat → Prop} {st : Int} {L : List Ndv} {A : Option Addr} {c mb : Nat} (hm : MapOf Tryz.prog w 134 mb nodV (fun x => .int .i32 x) (numF st L)) {n : Ndv} (hn : Nd8 n) :
    (Instr.lookup 126 (.map (some mb)) (nodV n) true).run Tryz.prog w = .ok (match numF st L n with | some v => .tuple #[.int .i32 v, .bool true] | none => .tuple #[.int .i32 0, .bool false]) w := by
  obtain ⟨l, hl⟩ := key_node hn
  rw [hm.look true Tryz.keyNode Tryz.underlying126 (zero_i32 w) hl (fun y _ _ e => nodV_inj e)]
  cases numF st L n <;> rfl
set_option maxRecDepth 100000 in
set_option maxHeartbeats 4000000 in
theorem add_found {w : World} {fb : Nat} {G : Nat → Prop} {st : Int} {L : List Ndv} {n : Ndv} {r : Int} (h : Fo w fb G st L) (hn : Nd8 n) (ha : numF st L n = some r) :
    Calls Tryz.prog 87 #[.pointer (some ⟨fb, 0, none⟩), nodV n] w fun e w' => e = .returned (.int .i32 r) ∧ Below w.heap.size w w' := by
  obtain ⟨A, c, mb, h1, h2, h3, h4, h5, h6, h7, h8, h9, h10, h11⟩ := h
  obtain ⟨lv, rr⟩ := n
  obtain ⟨x1, x2, x3, x4, x5, x6, x7, x8, rfl⟩ := oct hn.2.2.1
  have B1 := Lib.hid ((Below.refl w.heap.size w).alloc (Nat.le_refl _) (.cells #[.int .i64 lv, .int .i32 x1, .int .i32 x2, .int .i32 x3, .int .i32 x4, .int .i32 x5, .int .i32 x6, .int .i32 x7, .int .i32 x8] 134))
  have lk := Fo.look (A := A) (c := c) (fb := fb) (G := G) (w := (w.alloc (.cells #[.int .i64 lv, .int .i32 x1, .int .i32 x2, .int .i32 x3, .int .i32 x4, .int .i32 x5, .int .i32 x6, .int .i32 x7, .int .i32 x8] 134)).drew) (h3.of_block (B1.out.block mb h3.lt)) hn
  rw [ha, nodV_eight] at lk
  simp only at lk
  obtain ⟨k0, k1, k2, k3⟩ := (h1.alloc (.cells #[.int .i64 lv, .int .i32 x1, .int .i32 x2, .int .i32 x3, .int .i32 x4, .int .i32 x5, .int .i32 x6, .int .i32 x7, .int .i32 x8] 134)).three
  rw [nodV_eight]
  clear h1 h2 h3 h6 h7 h8 h9 h10 h11 h4 h5 hn ha
  go_enter Tryz.func87, Tryz.ntmps87
  go_wp2
  go_region
  go_wp2
  go_ret
  exact ⟨rfl, B1.out.drew⟩
theorem Blk.nine {w : World} {g : Nat} {t : TypeId} {a b c d e f x y z : Value} (h : Blk w g t #[a, b, c, d, e, f, x, y, z]) : w.cell? ⟨g, 0, none⟩ = some a ∧ w.cell? ⟨g, 1, none⟩ = some b ∧ w.cell? ⟨g, 2, none⟩ = some c ∧ w.cell? ⟨g, 3, none⟩ = some d ∧ w.cell? ⟨g, 4, none⟩ = some e ∧ w.cell? ⟨g, 5, none⟩ = some f ∧ w.cell? ⟨g, 6, none⟩ = some x ∧ w.cell? ⟨g, 7, none⟩ = some y ∧ w.cell? ⟨g, 8, none⟩ = some z :=
  ⟨by rw [h.cell]; rfl, by rw [h.cell]; rfl, by rw [h.cell]; rfl, by rw [h.cell]; rfl, by rw [h.cell]; rfl, by rw [h.cell]; rfl, by rw [h.cell]; rfl, by rw [h.cell]; rfl, by rw [h.cell]; rfl⟩
theorem fo_grow {w w4 w7 : World} {fb mb g7 d7 c : Nat} {A : Option Addr} {G : Nat → Prop} {st : Int} {L : List Ndv} {n : Ndv} {o : Obj}
    (HB4 : Fr (fun i => i = mb) w (fun i => i = mb) w4) (K4 : Blk w4 fb 129 #[.int .i64 st, .slice A L.length c, .map (some mb)])
    (HM4 : MapOf Tryz.prog w4 134 mb nodV (fun x => .int .i32 x) (fun y => if y = n then some (st + (L.length : Int)) else numF st L y)) (H4 : G fb) (H5 : G mb)
    (HR : ∀ g, (Value.slice A L.length c).ownBlock = some g → G g ∧ g ≠ fb) (HRM : ∀ g, (Value.slice A L.length c).ownBlock = some g → g ≠ mb) (HG : ∀ b, G b → b < w.heap.size) (h8 : 2 ≤ st) (h9 : st ≤ 8) (HL : ∀ m ∈ L, Nd8 m) (HN : Nd8 n) (ha : L.idxOf? n = none)
    (hlt : st + (L.length : Int) < 2147483647) (hown7 : w7.ownsRow 0 134 9 (.slice (some ⟨g7, 0, none⟩) (L.length + 1) d7) (L.length + 1) (L.flatMap nodC ++ nodC n))
    (hgr7 : (w4.alloc o).grownBy w7 (Value.slice A L.length c).ownBlock) (hat7 : (Value.slice A L.length c).ownBlock = some g7 ∨ g7 = w4.heap.size + 1) (hlt7 : g7 < w7.heap.size) :
    ∃ G', Fo (w7.setCell ⟨fb, 1, none⟩ (.slice (some ⟨g7, 0, none⟩) (L.length + 1) d7)) fb G' st (L ++ [n]) ∧ Fr G w G' (w7.setCell ⟨fb, 1, none⟩ (.slice (some ⟨g7, 0, none⟩) (L.length + 1) d7)) := by
  have hs4 := HB4.size
  have hs7 := hgr7.size
  simp only [World.size_alloc] at hs7
  have hfl := HG fb H4
  have hgne : g7 ≠ fb ∧ g7 ≠ mb := by
    rcases hat7 with e | e
    · exact ⟨(HR _ e).2, HRM _ e⟩
    · have := HG mb H5
      exact ⟨by omega, by omega⟩
  have F1 : Fr G w G w4 := HB4.weak (fun k e => e ▸ H5) (fun k h => .inl h)
  have F2 : Fr G w G (w4.alloc o) := F1.trans (Fr.alloc G w4 o)
  have F3 : Fr G w (fun b => G b ∨ b = g7) w7 := F2.trans ⟨hgr7.os, hgr7.tape, hgr7.output, hgr7.size, fun k hk hG => hgr7.block k hk (fun e => hG (HR k e.symm).1), fun k hk => by
    rcases hk with hk | hk
    · exact .inl hk
    · subst hk
      rcases hat7 with e | e
      · exact .inl (HR _ e).1
      · exact .inr (by simp; omega)⟩
  have F4 := F3.trans (Fr.set_ (G := fun b => G b ∨ b = g7) w7 (p := ⟨fb, 1, none⟩) (.slice (some ⟨g7, 0, none⟩) (L.length + 1) d7) (.inl H4))
  have hsz : (w7.setCell ⟨fb, 1, none⟩ (.slice (some ⟨g7, 0, none⟩) (L.length + 1) d7)).heap.size = w7.heap.size := by simp [World.setCell]
  refine ⟨_, ⟨some ⟨g7, 0, none⟩, d7, mb, ?_, ?_, ?_, .inl H4, .inl H5, ?_, ?_, h8, h9, ?_, ?_⟩, F4⟩
  · have : Blk w7 fb _ _ := (hgr7.block fb (by simp; omega) (fun e => (HR fb e.symm).2 rfl)).trans (K4.alloc o)
    have := this.set_ 1 (.slice (some ⟨g7, 0, none⟩) (L.length + 1) d7)
    simpa using this
  · have := own_set hown7 (p := ⟨fb, 1, none⟩) (by simp [Value.ownBlock]; exact hgne.1) (.slice (some ⟨g7, 0, none⟩) (L.length + 1) d7)
    simpa using this
  · have hm7 : MapOf Tryz.prog (w7.setCell ⟨fb, 1, none⟩ (.slice (some ⟨g7, 0, none⟩) (L.length + 1) d7)) 134 mb nodV (fun x => .int .i32 x) (fun y => if y = n then some (st + (L.length : Int)) else numF st L y) := by
      refine HM4.of_block ?_
      have hfm : mb ≠ fb := fun e => by
        subst e
        obtain ⟨es, clock, hb, _⟩ := HM4
        rw [K4] at hb
        cases hb
      rw [Below.heap_setCell _ _ _ _ hfm, hgr7.block mb (by have := HG mb H5; simp; omega) (fun e => HRM mb e.symm rfl), Below.heap_alloc _ _ _ (by have := HG mb H5; omega)]
    have e : (numF st (L ++ [n])) = (fun y => if y = n then some (st + (L.length : Int)) else numF st L y) := by
      funext y
      simp only [numF, idxOf_push ha]
      by_cases hy : y = n <;> simp [hy]
    rw [e]
    exact hm7
  · intro g hg
    have : g7 = g := by simpa [Value.ownBlock] using hg
    subst this
    exact ⟨.inr rfl, hgne.1⟩
  · intro b hb
    rw [hsz]
    rcases hb with hb | hb
    · have := HG b hb; omega
    · omega
  · intro m hm
    rcases List.mem_append.1 hm with hm | hm
    · exact HL m hm
    · simp at hm; subst hm; exact HN
  · simp; omega
set_option maxRecDepth 100000 in
set_option maxHeartbeats 4000000 in
theorem add_new {w : World} {fb : Nat} {G : Nat → Prop} {st : Int} {L : List Ndv} {n : Ndv} (h : Fo w fb G st L) (hn : Nd8 n) (ha : L.idxOf? n = none) (hst : st + (L.length : Int) < 2147483647) :
    Calls Tryz.prog 87 #[.pointer (some ⟨fb, 0, none⟩), nodV n] w fun e w' => ∃ G', e = .returned (.int .i32 (st + (L.length : Int))) ∧ Fo w' fb G' st (L ++ [n]) ∧ Fr G w G' w' := by
  obtain ⟨i0, hi, hz0, hz1, hz2⟩ := info_parts Tryz.info_nod
  obtain ⟨A, c, mb, h1, h2, h3, h4, h5, h6, h7, h8, h9, h10, h11⟩ := h
  obtain ⟨kl, hkl⟩ := key_node hn
  obtain ⟨lv, rr⟩ := n
  obtain ⟨x1, x2, x3, x4, x5, x6, x7, x8, rfl⟩ := oct hn.2.2.1
  have HA := Lib.hid ha
  have HN := Lib.hid hn
  have HL := Lib.hid h10
  have B1 := Lib.hid ((Below.refl w.heap.size w).alloc (Nat.le_refl _) (.cells #[.int .i64 lv, .int .i32 x1, .int .i32 x2, .int .i32 x3, .int .i32 x4, .int .i32 x5, .int .i32 x6, .int .i32 x7, .int .i32 x8] 134))
  have lk := Fo.look (A := A) (c := c) (fb := fb) (G := G) (w := (w.alloc (.cells #[.int .i64 lv, .int .i32 x1, .int .i32 x2, .int .i32 x3, .int .i32 x4, .int .i32 x5, .int .i32 x6, .int .i32 x7, .int .i32 x8] 134)).drew) (h3.of_block (B1.out.block mb h3.lt)) hn
  have hnum : numF st L ⟨lv, [x1, x2, x3, x4, x5, x6, x7, x8]⟩ = none := by simp [numF, ha]
  rw [hnum, nodV_eight] at lk
  simp only at lk
  obtain ⟨w4, hr4, hm4, hs4, hf4⟩ := MapOf.store (P := Tryz.prog) (w := (w.alloc (.cells #[.int .i64 lv, .int .i32 x1, .int .i32 x2, .int .i32 x3, .int .i32 x4, .int .i32 x5, .int .i32 x6, .int .i32 x7, .int .i32 x8] 134)).drew.drew.drew) (h3.of_block (B1.out.block mb h3.lt)) Tryz.keyNode Tryz.underlying126 (st + (L.length : Int)) hkl (fun y _ _ e => nodV_inj e)
  rw [nodV_eight] at hr4
  have K1 := h1.alloc (.cells #[.int .i64 lv, .int .i32 x1, .int .i32 x2, .int .i32 x3, .int .i32 x4, .int .i32 x5, .int .i32 x6, .int .i32 x7, .int .i32 x8] 134)
  obtain ⟨k0, k1, k2, k3⟩ := K1.three
  have HM4 := Lib.hid hm4
  have hmlt := h3.lt
  have hflt := h1.lt
  have hfm : fb ≠ mb := fun e => by
    subst e
    obtain ⟨es, clock, hb, _⟩ := h3
    rw [h1] at hb
    cases hb
  have K4 := Lib.hid (show Blk w4 fb 129 _ from hf4.blk K1 hfm)
  have X4 := Lib.hid (show Blk w4 w.heap.size 134 #[.int .i64 lv, .int .i32 x1, .int .i32 x2, .int .i32 x3, .int .i32 x4, .int .i32 x5, .int .i32 x6, .int .i32 x7, .int .i32 x8] from hf4.blk (Blk.new w _ _) (show ¬ (w.heap.size = mb) by omega))
  have hsz4 : w4.heap.size = w.heap.size + 1 := by rw [hs4]; simp [World.drew]
  have HB4 := Lib.hid ((Fr.of_below (G := fun i => i = mb) B1.out).trans (show Fr (fun i => i = mb) (w.alloc (.cells #[.int .i64 lv, .int .i32 x1, .int .i32 x2, .int .i32 x3, .int .i32 x4, .int .i32 x5, .int .i32 x6, .int .i32 x7, .int .i32 x8] 134)) (fun i => i = mb) w4 from ⟨hf4.os, hf4.tape, hf4.output, hf4.size, hf4.block, hf4.new⟩))
  have hrow : ∀ g, (Value.slice A L.length c).ownBlock = some g → g ≠ mb := fun g hg e => by
    rcases h2.2 with ⟨q, _⟩ | ⟨g', cap, cur, q, _, hgg, _⟩
    · rw [q] at hg; cases hg
    · rw [q] at hg
      have : g' = g := by simpa [Value.ownBlock] using hg
      subst this
      subst e
      obtain ⟨es, clock, hb, _⟩ := h3
      rw [hgg] at hb
      cases hb
  have O4 := Lib.hid (HB4.out.row h2 (fun g hg => hrow g hg))
  have HR := Lib.hid h6
  have HRM := Lib.hid hrow
  have HG := Lib.hid h7
  have H5 := Lib.hid h5
  have H4 := Lib.hid h4
  have h63 : L.length + 1 ≤ maxLen := by unfold maxLen; omega
  have c1 : IntKind.i32.wrap (st + (L.length : Int)) = st + (L.length : Int) := IntWalk.i32_in _ ⟨by omega, by omega⟩
  rw [nodV_eight]
  clear h1 h2 h3 h6 h7 h4 h5 hn ha hkl h10 hm4 hrow hnum B1 K1 hf4 hs4
  go_enter Tryz.func87, Tryz.ntmps87
  go_wp2
  go_region
  go_wp2
  go_region
  go_wp2
  go_region
  go_wp2
  obtain ⟨f0, f1, f2, f3⟩ := K4.out.three
  have n9 := X4.out.nine
  obtain ⟨y0, y1, y2, y3, y4, y5, y6, y7, y8⟩ := n9
  clear lk hr4 k0 k1 k2 k3
  have hnb := Lib.hid (show (w4.alloc (.cells #[.int .i64 lv, .int .i32 x1, .int .i32 x2, .int .i32 x3, .int .i32 x4, .int .i32 x5, .int .i32 x6, .int .i32 x7, .int .i32 x8] 134)).heap[w.heap.size + 1]? = some (.cells #[.int .i64 lv, .int .i32 x1, .int .i32 x2, .int .i32 x3, .int .i32 x4, .int .i32 x5, .int .i32 x6, .int .i32 x7, .int .i32 x8] 134 (0, 0)) from hsz4 ▸ heap_alloc_new w4 _)
  have SK := Lib.hid (show ∀ w7, (w4.alloc (.cells #[.int .i64 lv, .int .i32 x1, .int .i32 x2, .int .i32 x3, .int .i32 x4, .int .i32 x5, .int .i32 x6, .int .i32 x7, .int .i32 x8] 134)).grownBy w7 (Value.slice A L.length c).ownBlock → Blk w7 fb 129 _ from fun w7 hg => 
    (hg.block fb (by simp; omega) (fun e => by have := (HR.out fb e.symm).2; exact this rfl)).trans (K4.out.alloc _))
  have f1a := (K4.out.alloc (.cells #[.int .i64 lv, .int .i32 x1, .int .i32 x2, .int .i32 x3, .int .i32 x4, .int .i32 x5, .int .i32 x6, .int .i32 x7, .int .i32 x8] 134)).three.2.1
  go_region_law (first
    | (refine step_append_lies _ (by rfl) _ _ _ (by rfl) 0 134 i0 _ 9 40 Tryz.underlying127 hi hz0 hz1 hz2 rfl (by decide) (.slice A L.length c) L.length (L.flatMap nodC) (by rfl) (O4.out.alloc _) ⟨w.heap.size + 1, 0, none⟩ 1 1 (nodC ⟨lv, [x1, x2, x3, x4, x5, x6, x7, x8]⟩) (by rfl) (by rfl) (World.news_of_block (cs := #[.int .i64 lv, .int .i32 x1, .int .i32 x2, .int .i32 x3, .int .i32 x4, .int .i32 x5, .int .i32 x6, .int .i32 x7, .int .i32 x8]) (t := 134) (fr := (0, 0)) hnb.out) (by simp [nodC, Value.oneCell']) (by omega) h63 (by omega) (by simp) (w.heap.size + 2) (by first | (simp; done) | (simp; omega)) ?_; intro g7 d7 w7 hown7 hgrow7 hat7 hlt7; have hgr7 : (w4.alloc (.cells #[.int .i64 lv, .int .i32 x1, .int .i32 x2, .int .i32 x3, .int .i32 x4, .int .i32 x5, .int .i32 x6, .int .i32 x7, .int .i32 x8] 134)).grownBy w7 (Value.slice A L.length c).ownBlock := ⟨hgrow7.os, hgrow7.tape, hgrow7.output, hgrow7.size, hgrow7.block⟩; have K7 := Lib.hid (SK.out w7 hgr7); have z7 := K7.out.frozen 1; obtain ⟨y70, y71, y72, y73⟩ := K7.out.three; clear hgrow7)
    | fail)
  all_goals
    have hat8 : (Value.slice A L.length c).ownBlock = some g7 ∨ g7 = w4.heap.size + 1 := by rw [hsz4]; exact hat7
    clear hat7 hsz4
    obtain ⟨G', hF, hR⟩ := fo_grow HB4.out K4.out HM4.out H4.out H5.out HR.out HRM.out HG.out h8 h9 HL.out HN.out HA.out hst hown7 hgr7 hat8 hlt7
    have HF := Lib.hid hF
    have HFR := Lib.hid hR
    clear hF hR hown7 hgr7 hat8 hlt7 K7 z7 y70 y71 y72 y73
    generalize w7.setCell ⟨fb, 1, none⟩ (.slice (some ⟨g7, 0, none⟩) (L.length + 1) d7) = w8 at HF HFR ⊢
    go_wp2
    go_ret
    exact ⟨G', rfl, HF.out, HFR.out⟩
/-- add, as the model has it -/
theorem add_any {w : World} {fb : Nat} {G : Nat → Prop} {st : Int} {L L' : List Ndv} {n : Ndv} {r : Int} (h : Fo w fb G st L) (hn : Nd8 n) (ha : addF st L n = some (r, L')) :
    Calls Tryz.prog 87 #[.pointer (some ⟨fb, 0, none⟩), nodV n] w fun e w' => ∃ G', e = .returned (.int .i32 r) ∧ Fo w' fb G' st L' ∧ Fr G w G' w' := by
  unfold addF at ha
  cases hx : L.idxOf? n with
  | some i =>
    rw [hx] at ha
    simp only [Option.some.injEq, Prod.mk.injEq] at ha
    obtain ⟨h1, h2⟩ := ha
    subst h1 h2
    refine (add_found (r := st + (i : Int)) h hn (by simp [numF, hx])).mono fun e w' ⟨h1, h2⟩ => ?_
    exact ⟨G, h1, h.below h2, Fr.of_below h2⟩
  | none =>
    rw [hx] at ha
    simp only at ha
    split at ha
    · next hlt =>
      simp only [Option.some.injEq, Prod.mk.injEq] at ha
      obtain ⟨h1, h2⟩ := ha
      subst h1 h2
      exact add_new h hn hx hlt
    · cases ha
end Go.Proofs.YtcgkkppidkkjiaaGreatDoor
namespace Go.Proofs.YtcgkkppidkkjiaaGreatDoor
open Go.RowKit
/-- a node's cells, at its place in the row -/
theorem Fo.nodeAt {w : World} {fb : Nat} {G : Nat → Prop} {st : Int} {L : List Ndv} {k : Int} {n : Ndv} (h : Fo w fb G st L) (hk : nodeF st L k = some n) :
    ∃ (i g c mb : Nat), k = st + (i : Int) ∧ i < L.length ∧ L[i]? = some n ∧ Nd8 n ∧ g < w.heap.size ∧ Blk w fb 129 #[.int .i64 st, .slice (some ⟨g, 0, none⟩) L.length c, .map (some mb)] ∧ (∀ j, j < 9 → w.cell? ⟨g, i * 9 + j, none⟩ = (nodC n)[j]?) := by
  obtain ⟨A, c, mb, h1, h2, h3, h4, h5, h6, h7, h8, h9, h10, h11⟩ := h
  unfold nodeF at hk
  split at hk
  · next hs =>
    have hi : (k - st).toNat < L.length := by
      rcases Nat.lt_or_ge (k - st).toNat L.length with q | q
      · exact q
      · rw [List.getElem?_eq_none q] at hk; cases hk
    have hn : Nd8 n := h10 n (List.mem_of_getElem? hk)
    obtain ⟨g, cap, hv, _, hg⟩ := h2.form (by omega)
    injection hv with hv1 hv2 hv3
    subst hv1 hv3
    refine ⟨(k - st).toNat, g, c, mb, by omega, hi, hk, hn, hg, h1, fun j hj => ?_⟩
    rw [← flat_at h10 hk hj]
    refine h2.cellAt ((k - st).toNat * 9 + j) ?_
    omega
  · cases hk
set_option maxRecDepth 100000 in
set_option maxHeartbeats 4000000 in
theorem node_any {w : World} {fb : Nat} {G : Nat → Prop} {st : Int} {L : List Ndv} {k : Int} {n : Ndv} (h : Fo w fb G st L) (hk : nodeF st L k = some n) :
    Calls Tryz.prog 86 #[.pointer (some ⟨fb, 0, none⟩), .int .i32 k] w fun e w' => e = .returned (nodV n) ∧ Below w.heap.size w w' := by
  obtain ⟨i, g, c, mb, hki, hi, hLi, hn, hg, hB, hc⟩ := h.nodeAt hk
  have hst : 2 ≤ st ∧ st ≤ 8 ∧ st + (L.length : Int) ≤ 2147483647 := by
    obtain ⟨A, c, mb, h1, h2, h3, h4, h5, h6, h7, h8, h9, h10, h11⟩ := h
    exact ⟨h8, h9, h11⟩
  clear h hk hLi
  subst hki
  obtain ⟨s1, s2, s3⟩ := hst
  obtain ⟨lv, rr⟩ := n
  obtain ⟨x1, x2, x3, x4, x5, x6, x7, x8, rfl⟩ := oct hn.2.2.1
  have hc2 : ∀ j, j < 9 → (w.alloc (.cells #[.int .i64 0, .int .i32 0, .int .i32 0, .int .i32 0, .int .i32 0, .int .i32 0, .int .i32 0, .int .i32 0, .int .i32 0] 134)).cell? ⟨g, i * 9 + j, none⟩ = (nodC ⟨lv, [x1, x2, x3, x4, x5, x6, x7, x8]⟩)[j]? := fun j hj => (World.cell?_alloc_lt w _ _ hg).trans (hc j hj)
  have c0 := hc2 0 (by omega)
  have c1 := hc2 1 (by omega)
  have c2 := hc2 2 (by omega)
  have c3 := hc2 3 (by omega)
  have c4 := hc2 4 (by omega)
  have c5 := hc2 5 (by omega)
  have c6 := hc2 6 (by omega)
  have c7 := hc2 7 (by omega)
  have c8 := hc2 8 (by omega)
  rw [Nat.add_zero] at c0
  simp only [nodC, List.map_cons, List.map_nil, List.getElem?_cons_zero, List.getElem?_cons_succ] at c0 c1 c2 c3 c4 c5 c6 c7 c8
  obtain ⟨k0, k1, k2, k3⟩ := (hB.alloc (.cells #[.int .i64 0, .int .i32 0, .int .i32 0, .int .i32 0, .int .i32 0, .int .i32 0, .int .i32 0, .int .i32 0, .int .i32 0] 134)).three
  have hix : (st + (i : Int) - st).toNat = i := by omega
  rw [nodV_eight]
  clear hc hc2 hB hn
  go_enter Tryz.func86, Tryz.ntmps86
  go_wp2
  go_region
  obtain ⟨y0, y1, y2, y3, y4, y5, y6, y7, y8⟩ := (Blk.new w 134 #[.int .i64 lv, .int .i32 x1, .int .i32 x2, .int .i32 x3, .int .i32 x4, .int .i32 x5, .int .i32 x6, .int .i32 x7, .int .i32 x8]).nine
  go_wp2
  exact bodyPost_ret (v := .agg #[.int .i64 lv, .int .i32 x1, .int .i32 x2, .int .i32 x3, .int .i32 x4, .int .i32 x5, .int .i32 x6, .int .i32 x7, .int .i32 x8]) (by simp [results, Tryz.results86, go_sem, y0, y1, y2, y3, y4, y5, y6, y7, y8]) rfl ⟨rfl, ((Below.refl w.heap.size w).alloc (Nat.le_refl _) _).drew⟩
end Go.Proofs.YtcgkkppidkkjiaaGreatDoor
namespace Go.Proofs.YtcgkkppidkkjiaaGreatDoor
open Go.RowKit
set_option maxRecDepth 100000 in
set_option maxHeartbeats 4000000 in
theorem match_any (AH : Option Addr) (cH : Nat) (AV : Option Addr) (cV : Nat) (AR : Option Addr) (cR : Nat) (T : Tab) (AI : Option Addr) (cI k : Nat) (l : List Int) (w : World) (hM : Mat w) (h : TR w AH AV AR T) (hb : Bd T) (ht : Rt T) (hI : Reads w w.heap.size AI T.n (il l)) (hcI : T.n ≤ cI) (hst : als T.st l = true) (hk : k < T.nr) :
    Calls Tryz.prog 25 #[.agg #[.int .i64 T.st, .int .i64 T.sy, .slice AH T.n cH, .slice AV T.nv cV, .slice AR T.nr cR], .int .i64 (k : Int), .slice AI T.n cI] w fun e w' => AnsOut (av T l (T.ri k) (T.ro k)) w e w' := by
  have hli := reads_len hI
  have RT := Lib.hid (fun w' (hb' : Below w.heap.size w w') => rt_any AH cH AV cV AR cR T w' (hM.below hb' hM.1) (h.later hb') hb)
  rw [(rt_iff T).2 ht] at RT
  have AL := Lib.hid (fun w' (hb' : Below w.heap.size w w') => allStates_any AI T.n cI w'.heap.size l w' T.st ((hI.below hb').more hb'.size) (by have := hb.1; omega))
  rw [hst] at AL
  have AS := Lib.hid (fun w' (hb' : Below w.heap.size w w') => ask_any AH cH AV cV AR cR T AI cI l w' (hM.below hb' hM.1) (h.later hb') ht.hd ((hI.below hb').more hb'.size) hcI ht.keeps)
  have RW := rw_of (ht.rs k hk)
  obtain ⟨g1, o1, hAR, hg1, hc⟩ := h.2.2 (by omega)
  obtain ⟨A', c', hc1, hr1, hc2⟩ := hc k hk
  rw [RW.len] at hc1 hr1
  have AN := Lib.hid (fun w' g (hb' : Below w.heap.size w w') (hq : QR w' g T l (px T.f T.n (0, 0)) (nwv T.sy) (fun k => vw T.f T.n l k T.n)) => answer_any g T l A' c' (T.ri k) (T.ro k) w' hq ht ((hr1.below hb').more hb'.size) (ht.rs k hk) hli hst)
  subst hAR
  have HC1 := Lib.hid hc1
  have HC2 := Lib.hid hc2
  have hnr := hb.2.2.1
  have K0 := Blk.new w 26 #[.int .i64 T.st, .int .i64 T.sy, .slice AH T.n cH, .slice AV T.nv cV, .slice (some ⟨g1, o1, none⟩) T.nr cR]
  have B0 := (Below.refl w.heap.size w).alloc (Nat.le_refl _) (.cells #[.int .i64 T.st, .int .i64 T.sy, .slice AH T.n cH, .slice AV T.nv cV, .slice (some ⟨g1, o1, none⟩) T.nr cR] 26)
  generalize av T l (T.ri k) (T.ro k) = p at AN ⊢
  have hnn : ((T.n : Int) != (T.n : Int)) = false := by rw [bne_eq_false_iff_eq]
  have d1 : decide ((k : Int) < 0) = false := by rw [decide_eq_false_iff_not]; omega
  have d2 : decide (T.nr ≤ k) = false := by rw [decide_eq_false_iff_not]; omega
  generalize T.ro k = o at HC2 AN
  clear h hb ht hI hst hM hli hc hc1 hc2 hr1 RW
  go_enter Tryz.func25, Tryz.ntmps25
  go_upto_region 1 with (fail)
  generalize w.alloc (.cells #[.int .i64 T.st, .int .i64 T.sy, .slice AH T.n cH, .slice AV T.nv cV, .slice (some ⟨g1, o1, none⟩) T.nr cR] 26) = w0 at K0 B0 ⊢
  obtain ⟨t0, t1, t2, t3, t4, t5⟩ := K0.five
  have K0 := Lib.hid K0
  have B0 := Lib.hid B0
  go_wp2_with (first
    | (go_at_call 39; (with_reducible refine (AL.out _ B0.out).mono ?_); rintro e w2 ⟨rfl, rfl⟩)
    | (go_at_call 17; (with_reducible refine (RT.out _ B0.out).mono ?_); rintro e w1 ⟨rfl, hb⟩; have B1 := Lib.hid (B0.out.trans (hb.mono B0.out.size)); have K1 := Lib.hid (K0.out.below hb K0.out.lt); clear hb))
  clear t0 t1 t2 t3 t4 t5
  obtain ⟨t0, t1, t2, t3, t4, t5⟩ := K1.out.five
  have hs1 := B1.out.size
  have r1 : w1.cell? ⟨g1, o1 + k * 2, none⟩ = some (.slice A' T.n c') := (B1.out.cell hg1).trans HC1.out
  have r2 : w1.cell? ⟨g1, o1 + k * 2 + 1, none⟩ = some (.int .i64 o) := (B1.out.cell hg1).trans HC2.out
  have KP := Lib.hid (show ∀ w', Below w1.heap.size w1 w' → (w'.cell? ⟨w.heap.size, 0, none⟩ = some (.int .i64 T.st) ∧ w'.cell? ⟨w.heap.size, 1, none⟩ = some (.int .i64 T.sy) ∧ w'.cell? ⟨w.heap.size, 2, none⟩ = some (.slice AH T.n cH) ∧ w'.cell? ⟨w.heap.size, 3, none⟩ = some (.slice AV T.nv cV) ∧ w'.cell? ⟨w.heap.size, 4, none⟩ = some (.slice (some ⟨g1, o1, none⟩) T.nr cR)) ∧ w'.cell? ⟨g1, o1 + k * 2, none⟩ = some (.slice A' T.n c') ∧ w'.cell? ⟨g1, o1 + k * 2 + 1, none⟩ = some (.int .i64 o) from fun w' hb => by
    have hk := (K1.out.below hb K1.out.lt).five
    exact ⟨⟨hk.1, hk.2.1, hk.2.2.1, hk.2.2.2.1, hk.2.2.2.2.1⟩, (hb.cell (Nat.lt_of_lt_of_le hg1 hs1)).trans r1, (hb.cell (Nat.lt_of_lt_of_le hg1 hs1)).trans r2⟩)
  have AS2 := Lib.hid (fun w' (hb : Below w1.heap.size w1 w') => (AS.out w' (B1.out.trans (hb.mono hs1))).mono (R' := fun e w'' => ∃ g, e = .returned (.pointer (some ⟨g, 0, none⟩)) ∧ QR w'' g T l (px T.f T.n (0, 0)) (nwv T.sy) (fun k => vw T.f T.n l k T.n) ∧ Below w1.heap.size w1 w'') fun e w'' ⟨g, he, hq, hb2⟩ => ⟨g, he, hq, hb.trans (hb2.mono hb.size)⟩)
  have AN2 := Lib.hid (fun w' g (hb : Below w1.heap.size w1 w') hq => (AN.out w' g (B1.out.trans (hb.mono hs1)) hq).mono (R' := fun e w'' => e = .returned (.tuple #[.int .i64 p.1, .bool p.2]) ∧ Below w1.heap.size w1 w'') fun e w'' ⟨he, hb2⟩ => ⟨he, hb.trans (hb2.mono hb.size)⟩)
  have hk0 : (0 : Int) ≤ (k : Int) := Int.natCast_nonneg _
  have hk1 : (k : Int) < (T.nr : Int) := by omega
  go_region_held3 (fun w' => w'.cell? ⟨w.heap.size, 0, none⟩ = some (.int .i64 T.st) ∧ w'.cell? ⟨w.heap.size, 1, none⟩ = some (.int .i64 T.sy) ∧ w'.cell? ⟨w.heap.size, 2, none⟩ = some (.slice AH T.n cH) ∧ w'.cell? ⟨w.heap.size, 3, none⟩ = some (.slice AV T.nv cV) ∧ w'.cell? ⟨w.heap.size, 4, none⟩ = some (.slice (some ⟨g1, o1, none⟩) T.nr cR) ∧ w'.cell? ⟨g1, o1 + k * 2, none⟩ = some (.slice A' T.n c') ∧ w'.cell? ⟨g1, o1 + k * 2 + 1, none⟩ = some (.int .i64 o))
    (first | (refine (fun h => ⟨h.1.1, h.1.2.1, h.1.2.2.1, h.1.2.2.2.1, h.1.2.2.2.2, h.2.1, h.2.2⟩) (KP.out _ ?_); (with_reducible (repeat (first | assumption | exact Below.refl _ _ | refine Below.drew' ?_ | refine Below.alloc' ?_ _))); done) | go_keep)
    (first
      | (go_at_call 43; (with_reducible refine (AS2.out _ ?_).mono ?_); (with_reducible (repeat (first | assumption | exact Below.refl _ _ | refine Below.drew' ?_ | refine Below.alloc' ?_ _))); rintro e wa ⟨g, rfl, hq, ha⟩)
      | (go_at_call 44; (with_reducible refine (AN2.out _ g ha hq).mono ?_); rintro e wb ⟨rfl, hb2⟩))
  all_goals go_wp2
  all_goals go_ret2
  all_goals exact ⟨rfl, B1.out.trans (hb2.mono hs1)⟩
end Go.Proofs.YtcgkkppidkkjiaaGreatDoor
