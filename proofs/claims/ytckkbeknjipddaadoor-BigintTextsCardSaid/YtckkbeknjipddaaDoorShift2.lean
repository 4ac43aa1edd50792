/- The walks of Shift at the examples of the chapter. -/
import Derived.Test.YtckkbeknjipddaaDoorAdd2
namespace Go.Proofs.YtckkbeknjipddaaDoor
open Go.RowKit

attribute [local go_sem ↓] Go.wp_at_zero Go.wp_at_succ

theorem two_boxes' {w : World} {T : TypeId} {a b c d : Value} {w1 : World} (hb : Below (w.heap.size + 2) ((w.alloc (.cells #[a, b] T)).alloc (.cells #[c, d] T)) w1) :
    w1.cell? ⟨w.heap.size, 0, none⟩ = some a ∧ w1.cell? ⟨w.heap.size, 1, none⟩ = some b ∧ w1.cell? ⟨w.heap.size + 1, 0, none⟩ = some c ∧ w1.cell? ⟨w.heap.size + 1, 1, none⟩ = some d ∧
    w1.frozen? ⟨w.heap.size + 1, 0, none⟩ = false ∧ w1.frozen? ⟨w.heap.size + 1, 1, none⟩ = false ∧ w.heap.size + 1 < w1.heap.size := by
  have x1 := (((Blk.new w T #[a, b]).alloc (.cells #[c, d] T)).below hb (by omega)).two
  have x2 := ((Blk.new (w.alloc (.cells #[a, b] T)) T #[c, d]).below hb (by simp)).two
  simp at x2
  exact ⟨x1.1, x1.2.1, x2.1, x2.2.1, x2.2.2.1, x2.2.2.2.1, x2.2.2.2.2⟩
theorem keep2 {W : World} {s : Nat} {a b : Value} (h0 : W.cell? ⟨s, 0, none⟩ = some a) (h1 : W.cell? ⟨s, 1, none⟩ = some b) (u v : Value) :
    ((W.setCell ⟨s + 1, 0, none⟩ u).setCell ⟨s + 1, 1, none⟩ v).cell? ⟨s, 0, none⟩ = some a ∧ ((W.setCell ⟨s + 1, 0, none⟩ u).setCell ⟨s + 1, 1, none⟩ v).cell? ⟨s, 1, none⟩ = some b :=
  ⟨far_cell (far_cell h0 (by omega) _) (by omega) _, far_cell (far_cell h1 (by omega) _) (by omega) _⟩

/-- the last step of both -/
theorem num_end {w w4 : World} {A' : Option Addr} {c' : Nat} {sn : Bool} {sd : List Nat} {se B : Nat} (hc' : sd.length ≤ c') (hr' : Reads w4 B A' sd.length (u32s sd)) (hB : B ≤ w4.heap.size) (h0 : Below w.heap.size w w4)
    (hlow : ∀ ad : Addr, 0 < sd.length → A' = some ad → w.heap.size + 2 ≤ ad.block) (u v : Value) :
    NumPost sn sd se w (.returned (.tuple #[.agg #[.bool sn, .slice A' sd.length c'], .int .i64 (se : Nat)])) ((w4.setCell ⟨w.heap.size + 1, 0, none⟩ u).setCell ⟨w.heap.size + 1, 1, none⟩ v) := by
  have hne : ∀ ad : Addr, 0 < sd.length → A' = some ad → ad.block ≠ w.heap.size + 1 := by
    intro ad h0 he hb
    have := hlow ad h0 he
    omega
  refine ⟨A', c', rfl, hc', ?_, ?_, fun ad h0 he => by have := hlow ad h0 he; omega⟩
  · exact ((hr'.far (p := ⟨w.heap.size + 1, 0, none⟩) hne _).far (p := ⟨w.heap.size + 1, 1, none⟩) hne _).more (by simp [World.setCell]; omega)
  · exact (h0.setCell (p := ⟨w.heap.size + 1, 0, none⟩) (by simp) _).setCell (p := ⟨w.heap.size + 1, 1, none⟩) (by simp) _

set_option maxRecDepth 100000 in
set_option maxHeartbeats 2000000 in
theorem shift_pos (A : Option Addr) (c B : Nat) (w : World) (h1 : Reads w B A 1 (u32s [1])) (hB : B ≤ w.heap.size) :
    Calls Tryd.prog 12 #[.agg #[.bool false, .slice A 1 c], .int .i64 64] w (NumPost false [0, 0, 1] 0 w) := by
  have Q1 := Lib.hid (right_ok false A 1 c B [1] w h1 hB (by omega) true (by decide))
  have qs : ∀ W, Below w.heap.size w W → Calls Tryd.prog 31 #[.slice A 1 c, .int .i64 64] W _ := fun W hW =>
    shiftUp_one A c B W (h1.below (hW.mono hB)) (Nat.le_trans hB hW.size)
  have QS := Lib.hid qs
  have qg : ∀ (W : World) (g : Nat), Reads W W.heap.size (some ⟨g, 0, none⟩) 4 (u32s [0, 0, 1, 0]) → Calls Tryd.prog 24 #[.bool false, .slice (some ⟨g, 0, none⟩) 4 4] W _ := fun W g hr =>
    signed_any false (some ⟨g, 0, none⟩) 4 4 W.heap.size [0, 0, 1, 0] W hr (Nat.le_refl _) (by decide) (Nat.le_refl _)
  have e1 : signedN [0, 0, 1, 0] false = false := by decide
  have e2 : signedD [0, 0, 1, 0] = [0, 0, 1] := by decide
  have e3 : signedE [0, 0, 1, 0] = 0 := by decide
  rw [e1, e2, e3] at qg
  have QG := Lib.hid qg
  clear qs qg
  go_enter Tryd.func12, Tryd.ntmps12
  go_wp2_with (first | (go_at_call 20; (with_reducible refine (Q1.out _ (bt2 _ _ _)).mono ?_); rintro e w1 ⟨rfl, hb1⟩; have hb1' := hb1.mono (show w.heap.size + 2 ≤ _ by simp); obtain ⟨bx0, bx1, bx2, bx3, bx4, bx5, bx6⟩ := two_boxes' hb1'))
  go_region_held3 (fun w' => w'.cell? ⟨w.heap.size, 0, none⟩ = some (.bool false) ∧ w'.cell? ⟨w.heap.size, 1, none⟩ = some (.slice A 1 c))
    (first | exact keep2 bw0 bw1 _ _ | exact ⟨bw0, bw1⟩ | exact ⟨bz0, bz1⟩ | exact ⟨bx0, bx1⟩ | go_keep)
    (first | (go_at_call 31; (with_reducible refine (QS.out _ ?_).mono ?_); (exact ((bt2 _ _ _).trans (hb1'.mono (by omega))).drew); rintro e w3 ⟨g, rfl, hown3, hb3⟩; have hb3' := (hb1'.drew).trans (hb3.mono (show w.heap.size + 2 ≤ _ by simp; omega)); obtain ⟨bz0, bz1, bz2, bz3, bz4, bz5, bz6⟩ := two_boxes' hb3') | (go_at_call 24; (with_reducible refine (QG.out _ _ ?_).mono ?_); (exact Reads.of_own hown3); rintro e w4 ⟨A', c', rfl, hc', hA', hr', hb4⟩; have HA' := Lib.hid hA'; clear hA'; have hb4' := hb3'.trans (hb4.mono (show w.heap.size + 2 ≤ _ by omega)); obtain ⟨bw0, bw1, bw2, bw3, bw4, bw5, bw6⟩ := two_boxes' hb4'))
  go_wp2
  have hs1 := hb1'.size
  simp at hs1
  have hlow : ∀ ad : Addr, 0 < [0, 0, 1].length → A' = some ad → w.heap.size + 2 ≤ ad.block := by
    intro ad h0 he
    rw [HA'.out h0] at he
    injection he with he
    rw [← he]
    obtain ⟨g', cap, hv, hg, _⟩ := hown3.form (by omega)
    injection hv with hv1
    injection hv1 with hv1
    injection hv1 with hv1
    simp at hg
    show w.heap.size + 2 ≤ g
    omega
  exact bodyPost_ret (v := .tuple #[.agg #[.bool false, .slice A' 3 c'], .int .i64 0]) (by simp [results, Tryd.results12, go_sem, bw6, bw2, bw3]) rfl (num_end (sd := [0, 0, 1]) (se := 0) hc' hr' hb4.size ((bt2 _ _ _).trans (hb4'.mono (by omega))) hlow _ _)

theorem reads_one (w : World) : Reads (w.alloc (.cells #[.int .u32 1] 42)) (w.alloc (.cells #[.int .u32 1] 42)).heap.size (some ⟨w.heap.size, 0, none⟩) 1 (u32s [1]) := by
  have := reads_lit w #[.int .u32 ((1 : Nat) : Int)] 42 1 (by decide) rfl
  simpa [u32s] using this

set_option maxRecDepth 100000 in
set_option maxHeartbeats 2000000 in
theorem shift_neg (A : Option Addr) (c B : Nat) (w : World) (h1 : Reads w B A 1 (u32s [1])) (hB : B ≤ w.heap.size) :
    Calls Tryd.prog 12 #[.agg #[.bool true, .slice A 1 c], .int .i64 (-1000)] w (NumPost true [1] 0 w) := by
  have Q1 := Lib.hid (right_ok true A 1 c B [1] w h1 hB (by omega) true (by decide))
  have qs : ∀ (W : World) (g : Nat), Below w.heap.size w W → Reads W W.heap.size (some ⟨g, 0, none⟩) 1 (u32s [1]) → Calls Tryd.prog 34 #[.slice A 1 c, .slice (some ⟨g, 0, none⟩) 1 1] W fun e w' => ∃ g, e = .returned (.slice (some ⟨g, 0, none⟩) 1 1) ∧ w'.ownsRow W.heap.size 42 1 (.slice (some ⟨g, 0, none⟩) 1 1) 1 (u32s [0]) ∧ Below W.heap.size W w' := fun W g hW hr =>
    sub_any A (some ⟨g, 0, none⟩) 1 1 c 1 W.heap.size [1] [1] W ((h1.below (hW.mono hB)).more (Nat.le_trans hB hW.size)) hr (Nat.le_refl _) (by decide) (by decide) (by decide) (by decide)
  have QS := Lib.hid qs
  have qa : ∀ (W : World) (g g' : Nat), Reads W W.heap.size (some ⟨g', 0, none⟩) 1 (u32s [1]) → Calls Tryd.prog 33 #[.slice (some ⟨g, 0, none⟩) 0 0, .slice (some ⟨g', 0, none⟩) 1 1] W fun e w' => ∃ g, e = .returned (.slice (some ⟨g, 0, none⟩) 2 2) ∧ w'.ownsRow W.heap.size 42 1 (.slice (some ⟨g, 0, none⟩) 2 2) 2 (u32s [1, 0]) ∧ Below W.heap.size W w' := fun W g g' hr =>
    add_any (some ⟨g, 0, none⟩) (some ⟨g', 0, none⟩) 0 1 0 1 W.heap.size 1 [] [1] W ⟨rfl, fun h => absurd h (by omega)⟩ hr (Nat.le_refl _) (by decide) (by decide) rfl (by decide) (by decide)
  have QA := Lib.hid qa
  have qg : ∀ (W : World) (g : Nat), Reads W W.heap.size (some ⟨g, 0, none⟩) 2 (u32s [1, 0]) → Calls Tryd.prog 24 #[.bool true, .slice (some ⟨g, 0, none⟩) 2 2] W _ := fun W g hr =>
    signed_any true (some ⟨g, 0, none⟩) 2 2 W.heap.size [1, 0] W hr (Nat.le_refl _) (by decide) (Nat.le_refl _)
  have e1 : signedN [1, 0] true = true := by decide
  have e2 : signedD [1, 0] = [1] := by decide
  have e3 : signedE [1, 0] = 0 := by decide
  rw [e1, e2, e3] at qg
  have QG := Lib.hid qg
  clear qs qg qa
  go_enter Tryd.func12, Tryd.ntmps12
  go_wp2_with (first | (go_at_call 20; (with_reducible refine (Q1.out _ (bt2 _ _ _)).mono ?_); rintro e w1 ⟨rfl, hb1⟩; have hb1' := hb1.mono (show w.heap.size + 2 ≤ _ by simp); obtain ⟨bx0, bx1, bx2, bx3, bx4, bx5, bx6⟩ := two_boxes' hb1'; have hlt0 : w.heap.size < w1.heap.size := (by omega); have hone := reads_one w1; have hba := hb1'.alloc (show w.heap.size + 2 ≤ w1.heap.size by omega) (.cells #[.int .u32 1] 42)) | (go_at_call 34; (with_reducible refine (QS.out _ w1.heap.size ?_ ?_).mono ?_); (exact (bt2 _ _ _).trans (hba.mono (by omega))); (exact hone); rintro e w3 ⟨g, rfl, hown3, hb3⟩) | (go_at_call 32; (with_reducible refine (shiftDown_far (some ⟨g, 0, none⟩) 1 w3).mono ?_); rintro e w4 ⟨g2, rfl, hb4⟩; have hone4 := (hone.below hb3).below (hb4.mono hb3.size)) | (go_at_call 33; (with_reducible refine (QA.out w4 g2 w1.heap.size ?_).mono ?_); (exact hone4.more (Nat.le_trans hb3.size hb4.size)); rintro e w5 ⟨g3, rfl, hown5, hb5⟩) | (go_at_call 24; (with_reducible refine (QG.out w5 g3 (Reads.of_own hown5)).mono ?_); rintro e w6 ⟨A', c', rfl, hc', hA', hr', hb6⟩; have HA' := Lib.hid hA'; clear hA'; have hsz3 := hb3.size; have hsz4 := hb4.size; have hsz5 := hb5.size; have hb6' := (((hba.trans (hb3.mono (show w.heap.size + 2 ≤ _ by simp; omega))).trans (hb4.mono (show w.heap.size + 2 ≤ _ by simp at hsz3; omega))).trans (hb5.mono (show w.heap.size + 2 ≤ _ by simp at hsz3; omega))).trans (hb6.mono (show w.heap.size + 2 ≤ _ by simp at hsz3; omega)); obtain ⟨bw0, bw1, bw2, bw3, bw4, bw5, bw6⟩ := two_boxes' hb6'))
  have hlow : ∀ ad : Addr, 0 < [1].length → A' = some ad → w.heap.size + 2 ≤ ad.block := by
    intro ad h0 he
    rw [HA'.out h0] at he
    injection he with he
    rw [← he]
    obtain ⟨g', cap, hv, hg, _⟩ := hown5.form (by omega)
    injection hv with hv1
    injection hv1 with hv1
    injection hv1 with hv1
    simp at hsz3
    show w.heap.size + 2 ≤ g3
    omega
  exact bodyPost_ret (v := .tuple #[.agg #[.bool true, .slice A' 1 c'], .int .i64 0]) (by simp [results, Tryd.results12, go_sem, bw6, bw2, bw3]) rfl (num_end (sd := [1]) (se := 0) hc' hr' hb6.size ((bt2 _ _ _).trans (hb6'.mono (by omega))) hlow _ _)

end Go.Proofs.YtckkbeknjipddaaDoor
