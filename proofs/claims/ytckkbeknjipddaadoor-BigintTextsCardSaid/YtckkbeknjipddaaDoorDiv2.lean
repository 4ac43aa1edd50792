/- The walk of Div at -7 and 2. -/
import Derived.Test.YtckkbeknjipddaaDoorShift2
import Derived.Test.YtckkbeknjipddaaDoorDiv
namespace Go.Proofs.YtckkbeknjipddaaDoor
open Go.RowKit

attribute [local go_sem ↓] Go.wp_at_zero Go.wp_at_succ

def DivPost (w : World) (e : Ending) (w' : World) : Prop :=
  ∃ A c, e = .returned (.tuple #[.agg #[.bool true, .slice A 1 c], .int .i64 1, .int .i64 0]) ∧ 1 ≤ c ∧ Reads w' w'.heap.size A 1 (u32s [4]) ∧ Below w.heap.size w w'

theorem val_three {L : List Nat} (hl : L.length = 1) (hv : val 4294967296 L = 3) : L = [3] := by
  match L, hl with
  | [a], _ => simp [val] at hv; rw [hv]

set_option maxRecDepth 100000 in
set_option maxHeartbeats 2000000 in
theorem div_ex (A : Option Addr) (c B : Nat) (w : World) (h1 : Reads w B A 1 (u32s [7])) (hB : B ≤ w.heap.size) :
    Calls Tryd.prog 15 #[.agg #[.bool true, .slice A 1 c], .int .i64 2] w (DivPost w) := by
  have Q1 := Lib.hid (right_ok true A 1 c B [7] w h1 hB (by omega) true (by decide))
  have qd : ∀ W, Below w.heap.size w W → Calls Tryd.prog 37 #[.slice A 1 c, .int .u64 2] W fun e w' => ∃ g c', e = .returned (.tuple #[.slice (some ⟨g, 0, none⟩) 1 c', .int .u64 1]) ∧ w'.ownsRow W.heap.size 42 1 (.slice (some ⟨g, 0, none⟩) 1 c') 1 (u32s [3]) ∧ Below W.heap.size W w' := by
    intro W hW
    refine (divide_any A 1 c B 2 [7] W (h1.below (hW.mono hB)) (Nat.le_trans hB hW.size) (by decide) (by decide) (by decide) (by decide)).mono ?_
    rintro e w' ⟨g, c', L, r, rfl, hown, _, hv, hr, hb⟩
    have hL : L = [3] := val_three (by have := hown.1; simpa [u32s] using this) hv
    have hr1 : r = 1 := hr
    rw [hL] at hown
    rw [hr1]
    exact ⟨g, c', rfl, hown, hb⟩
  have QD := Lib.hid qd
  have qa : ∀ (W : World) (g g' c' : Nat), Reads W W.heap.size (some ⟨g, 0, none⟩) 1 (u32s [3]) → Reads W W.heap.size (some ⟨g', 0, none⟩) 1 (u32s [1]) → Calls Tryd.prog 33 #[.slice (some ⟨g, 0, none⟩) 1 c', .slice (some ⟨g', 0, none⟩) 1 1] W fun e w' => ∃ g, e = .returned (.slice (some ⟨g, 0, none⟩) 2 2) ∧ w'.ownsRow W.heap.size 42 1 (.slice (some ⟨g, 0, none⟩) 2 2) 2 (u32s [4, 0]) ∧ Below W.heap.size W w' := fun W g g' c' hr hr' =>
    add_any (some ⟨g, 0, none⟩) (some ⟨g', 0, none⟩) 1 1 c' 1 W.heap.size 1 [3] [1] W hr hr' (Nat.le_refl _) (by decide) (by decide) rfl (by decide) (by decide)
  have QA := Lib.hid qa
  have qg : ∀ (W : World) (g : Nat), Reads W W.heap.size (some ⟨g, 0, none⟩) 2 (u32s [4, 0]) → Calls Tryd.prog 24 #[.bool true, .slice (some ⟨g, 0, none⟩) 2 2] W _ := fun W g hr =>
    signed_any true (some ⟨g, 0, none⟩) 2 2 W.heap.size [4, 0] W hr (Nat.le_refl _) (by decide) (Nat.le_refl _)
  have e1 : signedN [4, 0] true = true := by decide
  have e2 : signedD [4, 0] = [4] := by decide
  have e3 : signedE [4, 0] = 0 := by decide
  rw [e1, e2, e3] at qg
  have QG := Lib.hid qg
  clear qd qg qa
  go_enter Tryd.func15, Tryd.ntmps15
  go_wp2_with (first | (go_at_call 20; (with_reducible refine (Q1.out _ (bt2 _ _ _)).mono ?_); rintro e w1 ⟨rfl, hb1⟩; have hb1' := hb1.mono (show w.heap.size + 2 ≤ _ by simp); obtain ⟨bx0, bx1, bx2, bx3, bx4, bx5, bx6⟩ := two_boxes' hb1'))
  go_region_held3 (fun w' => w'.cell? ⟨w.heap.size, 0, none⟩ = some (.bool true) ∧ w'.cell? ⟨w.heap.size, 1, none⟩ = some (.slice A 1 c))
    (first | exact ⟨bz0, bz1⟩ | exact ⟨bx0, bx1⟩ | go_keep)
    (first | (go_at_call 35; refine (absolute_pos 2 _ (by decide)).mono ?_; rintro e w' ⟨rfl, rfl⟩) | (go_at_call 37; (with_reducible refine (QD.out _ ?_).mono ?_); (exact ((bt2 _ _ _).trans (hb1'.mono (by omega))).drew); rintro e w3 ⟨g, c3, rfl, hown3, hb3⟩; have hb3' := (hb1'.drew).trans (hb3.mono (show w.heap.size + 2 ≤ _ by simp; omega)); obtain ⟨bz0, bz1, bz2, bz3, bz4, bz5, bz6⟩ := two_boxes' hb3'))
  have hlt0 : w.heap.size < w3.heap.size := by omega
  have hone := reads_one w3
  go_wp2_with (first | (go_at_call 35; refine (absolute_pos 2 _ (by decide)).mono ?_; rintro e w' ⟨rfl, rfl⟩) | (go_at_call 33; (with_reducible refine (QA.out _ g w3.heap.size c3 ?_ ?_).mono ?_); (exact ((Reads.of_own hown3).alloc (Nat.le_refl _) _).more (by simp)); (exact hone); rintro e w5 ⟨g3, rfl, hown5, hb5⟩; have hb5' := (hb3'.alloc (show w.heap.size + 2 ≤ _ by omega) (.cells #[.int .u32 1] 42)).trans (hb5.mono (show w.heap.size + 2 ≤ _ by simp; omega)); obtain ⟨by0, by1, by2, by3, by4, by5, by6⟩ := two_boxes' hb5'; have hlt5 : w.heap.size < w5.heap.size := (by omega)) | (go_at_call 24; (with_reducible refine (QG.out w5 g3 (Reads.of_own hown5)).mono ?_); rintro e w6 ⟨A', c', rfl, hc', hA', hr', hb6⟩; have HA' := Lib.hid hA'; clear hA'; have hb6' := hb5'.trans (hb6.mono (show w.heap.size + 2 ≤ _ by omega)); obtain ⟨bw0, bw1, bw2, bw3, bw4, bw5, bw6⟩ := two_boxes' hb6'))
  have hlow : ∀ ad : Addr, 0 < 1 → A' = some ad → ad.block ≠ w.heap.size + 1 := by
    intro ad h0 he hb
    rw [HA'.out h0] at he
    injection he with he
    rw [← he] at hb
    obtain ⟨g', cap, hv, hg, _⟩ := hown5.form (by omega)
    injection hv with hv1
    injection hv1 with hv1
    injection hv1 with hv1
    simp at hg hb
    omega
  have hblk : Blk w6 (w.heap.size + 1) 24 #[.bool false, .slice none 0 0] := by
    have := (Blk.new (w.alloc (.cells #[.bool true, .slice A 1 c] 24)) 24 #[.bool false, .slice none 0 0]).below hb6' (by simp)
    simpa using this
  have hblk4 := (((hblk.set_ 0 (.bool true)).set_ 1 (.slice A' 1 c')).set_ 0 (.bool true)).set_ 1 (.slice A' 1 c')
  have hcA := hblk4.cell 0
  have hcB := hblk4.cell 1
  simp at hcA hcB
  refine bodyPost_ret (v := .tuple #[.agg #[.bool true, .slice A' 1 c'], .int .i64 1, .int .i64 0]) (by simp [results, Tryd.results15, go_sem, hcA, hcB]) rfl ⟨A', c', rfl, hc', ?_, ?_⟩
  · exact ((((hr'.far (p := ⟨w.heap.size + 1, 0, none⟩) hlow _).far (p := ⟨w.heap.size + 1, 1, none⟩) hlow _).far (p := ⟨w.heap.size + 1, 0, none⟩) hlow _).far (p := ⟨w.heap.size + 1, 1, none⟩) hlow _).more (by have := hb6.size; simp [World.setCell]; omega)
  · have h0 : Below w.heap.size w w6 := (bt2 _ _ _).trans (hb6'.mono (by omega))
    exact (((h0.setCell (p := ⟨w.heap.size + 1, 0, none⟩) (by simp) _).setCell (p := ⟨w.heap.size + 1, 1, none⟩) (by simp) _).setCell (p := ⟨w.heap.size + 1, 0, none⟩) (by simp) _).setCell (p := ⟨w.heap.size + 1, 1, none⟩) (by simp) _

end Go.Proofs.YtckkbeknjipddaaDoor
