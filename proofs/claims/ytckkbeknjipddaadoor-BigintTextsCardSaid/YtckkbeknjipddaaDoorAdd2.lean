/- The walk of Add at a positive operand and a shorter negative one. -/
import Derived.Test.YtckkbeknjipddaaDoorMul
import Derived.Deep.RegionHeld3
import Derived.Deep.DrawnRows
namespace Go.Proofs.YtckkbeknjipddaaDoor
open Go.RowKit

attribute [local go_sem ↓] Go.wp_at_zero Go.wp_at_succ

theorem far_cell {W : World} {g i g' i' : Nat} {x : Value} (h : W.cell? ⟨g, i, none⟩ = some x) (hne : g ≠ g') (u : Value) : (W.setCell ⟨g', i', none⟩ u).cell? ⟨g, i, none⟩ = some x := by
  rw [World.cell?_setCell_other _ _ _ _ (by intro e; injection e with e; exact hne (by omega))]; exact h
theorem keep3 {W : World} {s : Nat} {a b d : Value} (h0 : W.cell? ⟨s, 0, none⟩ = some a) (h1 : W.cell? ⟨s, 1, none⟩ = some b) (h3 : W.cell? ⟨s + 1, 1, none⟩ = some d) (u v : Value) :
    ((W.setCell ⟨s + 1 + 1, 0, none⟩ u).setCell ⟨s + 1 + 1, 1, none⟩ v).cell? ⟨s, 0, none⟩ = some a ∧ ((W.setCell ⟨s + 1 + 1, 0, none⟩ u).setCell ⟨s + 1 + 1, 1, none⟩ v).cell? ⟨s, 1, none⟩ = some b ∧
    ((W.setCell ⟨s + 1 + 1, 0, none⟩ u).setCell ⟨s + 1 + 1, 1, none⟩ v).cell? ⟨s + 1, 1, none⟩ = some d :=
  ⟨far_cell (far_cell h0 (by omega) _) (by omega) _, far_cell (far_cell h1 (by omega) _) (by omega) _, far_cell (far_cell h3 (by omega) _) (by omega) _⟩

/-- a big integer and no error, or an error -/
def NumPost (neg : Bool) (ds : List Nat) (err : Nat) (w : World) (e : Ending) (w' : World) : Prop :=
  ∃ A c, e = .returned (.tuple #[.agg #[.bool neg, .slice A ds.length c], .int .i64 (err : Nat)]) ∧ ds.length ≤ c ∧ Reads w' w'.heap.size A ds.length (u32s ds) ∧ Below w.heap.size w w' ∧ ∀ ad : Addr, 0 < ds.length → A = some ad → w.heap.size ≤ ad.block

set_option maxRecDepth 100000 in
set_option maxHeartbeats 2000000 in
theorem add_pos_neg (A1 A2 : Option Addr) (n m c1 c2 B : Nat) (xs ys : List Nat) (w : World) (h1 : Reads w B A1 n (u32s xs)) (h2 : Reads w B A2 m (u32s ys)) (hB : B ≤ w.heap.size) (hn : n ≤ 64) (hm : m ≤ 64) (hlen : m < n)
    (hx : ∀ d ∈ xs, d < 4294967296) (hy : ∀ d ∈ ys, d < 4294967296) (r1 : rightB false xs = true) (r2 : rightB true ys = true) :
    Calls Tryd.prog 14 #[.agg #[.bool false, .slice A1 n c1], .agg #[.bool true, .slice A2 m c2]] w
      (NumPost (signedN ((List.range n).map (subD xs ys)) false) (signedD ((List.range n).map (subD xs ys))) (signedE ((List.range n).map (subD xs ys))) w) := by
  have Q1 := Lib.hid (right_ok false A1 n c1 B xs w h1 hB (by omega) true r1)
  have Q2 := Lib.hid (right_ok true A2 m c2 B ys w h2 hB (by omega) true r2)
  have qs : ∀ W, Below w.heap.size w W → Calls Tryd.prog 34 #[.slice A1 n c1, .slice A2 m c2] W _ := fun W hW =>
    sub_any A1 A2 n m c1 c2 B xs ys W (h1.below (hW.mono hB)) (h2.below (hW.mono hB)) (Nat.le_trans hB hW.size) (by omega) (by omega) hx hy
  have QS := Lib.hid qs
  obtain ⟨S, hS⟩ : ∃ S, S = (List.range n).map (subD xs ys) := ⟨_, rfl⟩
  have hSl : S.length = n := by rw [hS]; simp
  rw [← hS] at QS ⊢
  have qg : ∀ (W : World) (g : Nat), Reads W W.heap.size (some ⟨g, 0, none⟩) n (u32s S) → Calls Tryd.prog 24 #[.bool false, .slice (some ⟨g, 0, none⟩) n n] W _ := fun W g hr =>
    signed_any false (some ⟨g, 0, none⟩) n n W.heap.size S W hr (Nat.le_refl _) (by unfold maxLen; omega) (Nat.le_refl _)
  have QG := Lib.hid qg
  obtain ⟨sn, hsn⟩ : ∃ sn, sn = signedN S false := ⟨_, rfl⟩
  obtain ⟨sd, hsd⟩ : ∃ sd, sd = signedD S := ⟨_, rfl⟩
  obtain ⟨se, hse⟩ : ∃ se, se = signedE S := ⟨_, rfl⟩
  rw [← hsn, ← hsd, ← hse] at QG
  rw [← hsn, ← hsd, ← hse]
  clear r1 r2 qs qg hS hsn hsd hse hSl
  go_enter Tryd.func14, Tryd.ntmps14
  go_wp2_with (first | (go_at_call 20; (with_reducible refine (Q1.out _ (bt3 _ _ _ _)).mono ?_); rintro e w1 ⟨rfl, hb1⟩; have hb1' := hb1.mono (show w.heap.size + 3 ≤ _ by simp); obtain ⟨bx0, bx1, bx2, bx3, bx4, bx5, bx6, bx7, bx8⟩ := three_boxes hb1') | (go_at_call 20; (with_reducible refine (Q2.out w1 ((bt3 _ _ _ _).trans (hb1.mono (by simp; omega)))).mono ?_); rintro e w2 ⟨rfl, hb2⟩; have hb2' := hb1'.trans (hb2.mono (show w.heap.size + 3 ≤ _ by omega)); obtain ⟨by0, by1, by2, by3, by4, by5, by6, by7, by8⟩ := three_boxes hb2') | (go_at_call 36; (with_reducible refine (compare_len _ _ _ _ _ _ _ hlen (by omega)).mono ?_); rintro e w' ⟨rfl, rfl⟩))
  go_region_held3 (fun w' => w'.cell? ⟨w.heap.size, 0, none⟩ = some (.bool false) ∧ w'.cell? ⟨w.heap.size, 1, none⟩ = some (.slice A1 n c1) ∧ w'.cell? ⟨w.heap.size + 1, 1, none⟩ = some (.slice A2 m c2))
    (first | exact keep3 bw0 bw1 bw3 _ _ | exact ⟨bw0, bw1, bw3⟩ | exact ⟨bz0, bz1, bz3⟩ | exact ⟨by0, by1, by3⟩ | go_keep)
    (first | (go_at_call 34; (with_reducible refine (QS.out _ ?_).mono ?_); (exact ((bt3 _ _ _ _).trans (hb2'.mono (by omega))).drew); rintro e w3 ⟨g, rfl, hown3, hb3⟩; have hb3' := (hb2'.drew).trans (hb3.mono (show w.heap.size + 3 ≤ _ by simp; omega)); obtain ⟨bz0, bz1, bz2, bz3, bz4, bz5, bz6, bz7, bz8⟩ := three_boxes hb3') | (go_at_call 24; (with_reducible refine (QG.out _ _ ?_).mono ?_); (exact Reads.of_own hown3); rintro e w4 ⟨A', c', rfl, hc', hA', hr', hb4⟩; have hb4' := hb3'.trans (hb4.mono (show w.heap.size + 3 ≤ _ by omega)); obtain ⟨bw0, bw1, bw2, bw3, bw4, bw5, bw6, bw7, bw8⟩ := three_boxes hb4'))
  go_wp2
  have hs2 := hb2'.size
  simp at hs2
  have hs4 := hb4.size
  have hlow : ∀ ad : Addr, 0 < sd.length → A' = some ad → w.heap.size + 3 ≤ ad.block := by
    intro ad h0 he
    rw [hA' h0] at he
    injection he with he
    rw [← he]
    obtain ⟨g', cap, hv, hg, _⟩ := hown3.form (by omega)
    injection hv with hv1
    injection hv1 with hv1
    injection hv1 with hv1
    simp at hg
    show w.heap.size + 3 ≤ g
    omega
  refine bodyPost_ret (v := .tuple #[.agg #[.bool sn, .slice A' sd.length c'], .int .i64 (se : Nat)]) (by simp [results, Tryd.results14, go_sem, bw8, bw4, bw5]) rfl ⟨A', c', rfl, hc', ?_, ?_, ?_⟩
  · have hne : ∀ ad : Addr, 0 < sd.length → A' = some ad → ad.block ≠ w.heap.size + 1 + 1 := by
      intro ad h0 he hb
      have := hlow ad h0 he
      omega
    exact ((hr'.far (p := ⟨w.heap.size + 1 + 1, 0, none⟩) hne _).far (p := ⟨w.heap.size + 1 + 1, 1, none⟩) hne _).more (by simp [World.setCell]; omega)
  · have h0 : Below w.heap.size w w4 := (bt3 _ _ _ _).trans (hb4'.mono (by omega))
    exact (h0.setCell (p := ⟨w.heap.size + 1 + 1, 0, none⟩) (by simp; omega) _).setCell (p := ⟨w.heap.size + 1 + 1, 1, none⟩) (by simp; omega) _
  · intro ad h0 he
    have := hlow ad h0 he
    omega

end Go.Proofs.YtckkbeknjipddaaDoor
