/- The walk of rebuilt at the number 110, with any function; Mirror and Conjugate there. -/
import Derived.Test.YtdbeomibajcecaaDoorFuns
namespace Go.Proofs.YtdbeomibajcecaaDoor
open Go.RowKit

/-- the first j of eight numbers, zeros behind them -/
def fst (v : Nat → Int) (j : Nat) : Array Value := oct (if 0 < j then v 0 else 0) (if 1 < j then v 1 else 0) (if 2 < j then v 2 else 0) (if 3 < j then v 3 else 0) (if 4 < j then v 4 else 0) (if 5 < j then v 5 else 0) (if 6 < j then v 6 else 0) (if 7 < j then v 7 else 0)
theorem fst_at (v : Nat → Int) (j : Nat) (h : j < 8) : (fst v j)[j]? = some (.int .i64 0) := by
  match j, h with
  | 0, _ | 1, _ | 2, _ | 3, _ | 4, _ | 5, _ | 6, _ | 7, _ => rfl
theorem fst_set (v : Nat → Int) (j : Nat) (h : j < 8) : (fst v j).setIfInBounds j (.int .i64 (v j)) = fst v (j + 1) := by
  match j, h with
  | 0, _ | 1, _ | 2, _ | 3, _ | 4, _ | 5, _ | 6, _ | 7, _ => rfl
theorem eb110 : eb 110 = oct 0 1 1 1 0 1 1 0 := by kernel_rfl
theorem elem110 (w : World) : Calls Tryd.prog 7 #[.int .i64 110] w fun e w' => e = .returned (.tuple #[.agg (oct 0 1 1 1 0 1 1 0), .int .i64 0]) ∧ Below w.heap.size w w' := by
  have h := elem_in 110 w (by decide)
  rw [show ((110 : Nat) : Int) = 110 from rfl, eb110] at h
  exact h
set_option maxRecDepth 100000 in
set_option maxHeartbeats 4000000 in
theorem reb_any (G : Nat) (v : Nat → Int) (k : Int) (w : World) (eg : ∀ args w, (callFunc G args).run Tryd.prog w = .ok (.enter G args) w)
    (F : ∀ (i : Nat), i < 8 → ∀ w : World, Calls Tryd.prog G #[.agg #[.int .i64 0, .int .i64 1, .int .i64 1, .int .i64 1, .int .i64 0, .int .i64 1, .int .i64 1, .int .i64 0], .int .i64 (i : Int)] w fun e w' => e = .returned (.int .i64 (v i)) ∧ Below w.heap.size w w')
    (NM : ∀ w : World, Calls Tryd.prog 27 #[.agg (fst v 8)] w fun e w' => e = .returned (.tuple #[.int .i64 k, .int .i64 0]) ∧ Below w.heap.size w w') :
    Calls Tryd.prog 17 #[.int .i64 110, .func (.func G) #[] #[]] w fun e w' => e = .returned (.tuple #[.int .i64 k, .int .i64 0]) ∧ Below w.heap.size w w' := by
  have EL := Lib.hid (elem110 w)
  unfold oct at EL
  have GF := Lib.hid F
  have NN := Lib.hid NM
  clear F NM
  go_enter Tryd.func17, Tryd.ntmps17
  go_wp2_with (first
    | (go_at_call 7; (with_reducible refine EL.out.mono ?_); rintro e w1 ⟨rfl, hb⟩; have B1 := Lib.hid hb; clear hb)
    | fail)
  have KO := Lib.hid ((Blk.new w1 27 #[.int .i64 0, .int .i64 1, .int .i64 1, .int .i64 1, .int .i64 0, .int .i64 1, .int .i64 1, .int .i64 0]).alloc (.cells #[.int .i64 0, .int .i64 0, .int .i64 0, .int .i64 0, .int .i64 0, .int .i64 0, .int .i64 0, .int .i64 0] 27))
  have KL := Lib.hid (Blk.new (w1.alloc (.cells #[.int .i64 0, .int .i64 1, .int .i64 1, .int .i64 1, .int .i64 0, .int .i64 1, .int .i64 1, .int .i64 0] 27)) 27 #[.int .i64 0, .int .i64 0, .int .i64 0, .int .i64 0, .int .i64 0, .int .i64 0, .int .i64 0, .int .i64 0])
  have BB := Lib.hid ((B1.out.alloc B1.out.size (.cells #[.int .i64 0, .int .i64 1, .int .i64 1, .int .i64 1, .int .i64 0, .int .i64 1, .int .i64 1, .int .i64 0] 27)).alloc (by have := B1.out.size; simp; omega) (.cells #[.int .i64 0, .int .i64 0, .int .i64 0, .int .i64 0, .int .i64 0, .int .i64 0, .int .i64 0, .int .i64 0] 27))
  have hsz := B1.out.size
  obtain ⟨go, hgo⟩ : ∃ go, go = w1.heap.size := ⟨_, rfl⟩
  obtain ⟨gl, hgl⟩ : ∃ gl, gl = w1.heap.size + 1 := ⟨_, rfl⟩
  rw [show (w1.alloc (.cells #[.int .i64 0, .int .i64 1, .int .i64 1, .int .i64 1, .int .i64 0, .int .i64 1, .int .i64 1, .int .i64 0] 27)).heap.size = gl by rw [hgl]; simp] at KL
  rw [← hgl]
  rw [← hgo] at KO hgl hsz ⊢
  have hne : go ≠ gl := by omega
  have hgl2 : w.heap.size ≤ gl := by omega
  clear hgo hgl B1 EL
  generalize (w1.alloc (.cells #[.int .i64 0, .int .i64 1, .int .i64 1, .int .i64 1, .int .i64 0, .int .i64 1, .int .i64 1, .int .i64 0] 27)).alloc (.cells #[.int .i64 0, .int .i64 0, .int .i64 0, .int .i64 0, .int .i64 0, .int .i64 0, .int .i64 0, .int .i64 0] 27) = w2 at KO KL BB ⊢
  go_loopw [18] (fun jv wr => ∃ j : Nat, j ≤ 8 ∧ jv = .int .i64 (j : Int) ∧ Blk wr go 27 #[.int .i64 0, .int .i64 1, .int .i64 1, .int .i64 1, .int .i64 0, .int .i64 1, .int .i64 1, .int .i64 0] ∧ Blk wr gl 27 (fst v j) ∧ Below w.heap.size w wr) (fun jv _ => 8 - (intOf jv).toNat)
  case atStart => exact ⟨0, Nat.zero_le _, rfl, KO.out, KL.out, BB.out⟩
  case round =>
    obtain ⟨j, hj, rfl, ko, kl, hbel⟩ := hrel
    have HB := Lib.hid hbel
    have KO2 := Lib.hid ko
    have KL2 := Lib.hid kl
    clear KO KL BB kl hbel
    by_cases hj8 : j < 8
    · obtain ⟨c0, c1, c2, c3, c4, c5, c6, c7⟩ := ko.oct
      clear ko
      have FJ := GF.out j hj8
      generalize hx : v j = x at FJ
      have HX := Lib.hid hx
      clear hx
      have FH := Lib.hid FJ
      clear FJ
      go_wp2_with ((with_reducible refine (FH.out _).mono ?_); rintro e w3 ⟨rfl, hb⟩; have K3 := Lib.hid (KL2.out.below hb KL2.out.lt); have KO3 := Lib.hid (KO2.out.below hb KO2.out.lt); have B3 := Lib.hid (HB.out.trans (hb.mono HB.out.size)); have hfz := K3.out.frozen j; have hcl := (K3.out.cell j).trans (fst_at v j hj8); clear hb)
      go_roundw
      case rel =>
        refine ⟨j + 1, by omega, by go_num, KO3.out.far hne _, ?_, B3.out.setCell (p := ⟨gl, j, none⟩) hgl2 _⟩
        have h9 := K3.out.set_ j (.int .i64 x)
        rw [← HX.out, fst_set v j hj8, HX.out] at h9
        exact h9
      case measure => simp [intOf]; omega
    · obtain rfl : j = 8 := by omega
      clear ko hj hj8
      have N8 := Lib.hid (NN.out wr)
      have h8 := Lib.hid (show fst v 8 = #[.int .i64 (v 0), .int .i64 (v 1), .int .i64 (v 2), .int .i64 (v 3), .int .i64 (v 4), .int .i64 (v 5), .int .i64 (v 6), .int .i64 (v 7)] from rfl)
      rw [h8.out] at N8 KL2
      obtain ⟨c0, c1, c2, c3, c4, c5, c6, c7⟩ := KL2.out.oct
      go_wp2_with (go_at_call 27; (with_reducible refine N8.out.mono ?_); rintro e w3 ⟨rfl, hb⟩; have B3 := Lib.hid (HB.out.trans (hb.mono HB.out.size)); clear hb)
      go_ret2
      exact ⟨rfl, B3.out⟩
end Go.Proofs.YtdbeomibajcecaaDoor
