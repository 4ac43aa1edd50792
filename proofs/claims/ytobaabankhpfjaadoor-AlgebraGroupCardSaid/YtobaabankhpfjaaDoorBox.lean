/- The walk of Box on a valid pattern. -/
import Derived.Test.YtobaabankhpfjaaDoorTurn
import Derived.Test.YtobaabankhpfjaaDoorAround
namespace Go.Proofs.YtobaabankhpfjaaDoor
open Go.RowKit

theorem own_below2 {w w' : World} {base : Nat} {e : TypeId} {v : Value} {n : Nat} {xs : List Value} (h : w.ownsRow base e 2 v n xs) (hb : Below w.heap.size w w') : w'.ownsRow base e 2 v n xs := by
  refine ⟨h.1, ?_⟩
  rcases h.2 with hn | ⟨g, cap, cur, rfl, hb', hg, rest⟩
  · exact .inl hn
  · refine .inr ⟨g, cap, cur, rfl, hb', ?_, rest⟩
    rw [hb.block g (Array.getElem?_eq_some_iff.1 hg).1]; exact hg
/-- the places of cells -/
def pls (f : Nat → C3) (k : Nat) : Int × Int := ((f k).1, (f k).2.1)
theorem OkL.okp {f : Nat → C3} {n : Nat} (h : OkL f n) (i : Nat) (hi : i < n) : OkP (f i) := by
  have hx := (h.ex i hi).1
  unfold Go.Proofs.YtobaabankhpfjaaDoor.ex at hx
  by_cases hp : OkP (f i)
  · exact hp
  · rw [if_pos hp] at hx; cases hx

theorem around_none (A : Option Addr) (c : Nat) (w : World) :
    Calls Tryd.prog 43 #[.slice A 0 c] w fun e w' => e = .returned (.tuple #[.agg #[.int .i64 0, .int .i64 0, .int .i64 0, .int .i64 0], .bool false]) ∧ Below w.heap.size w w' := by
  have K := Blk.new w 53 #[.int .i64 0, .int .i64 0, .int .i64 0, .int .i64 0]
  have E := (((K.set_ 0 (.int .i64 0)).set_ 1 (.int .i64 0)).set_ 2 (.int .i64 0)).set_ 3 (.int .i64 0)
  have HZ := (((((Below.refl w.heap.size w).alloc (Nat.le_refl _) (.cells #[.int .i64 0, .int .i64 0, .int .i64 0, .int .i64 0] 53)).setCell (p := ⟨w.heap.size, 0, none⟩) (Nat.le_refl _) (.int .i64 0)).setCell (p := ⟨w.heap.size, 1, none⟩) (Nat.le_refl _) (.int .i64 0)).setCell (p := ⟨w.heap.size, 2, none⟩) (Nat.le_refl _) (.int .i64 0)).setCell (p := ⟨w.heap.size, 3, none⟩) (Nat.le_refl _) (.int .i64 0)
  go_enter Tryd.func43, Tryd.ntmps43
  go_wp2
  refine bodyPost_ret (v := .tuple #[.agg #[.int .i64 0, .int .i64 0, .int .i64 0, .int .i64 0], .bool false]) (by simp [results, Tryd.results43, go_sem]) rfl ⟨rfl, ?_⟩
  first | exact HZ | exact (Below.refl w.heap.size w).alloc (Nat.le_refl _) _

set_option maxRecDepth 100000 in
set_option maxHeartbeats 2000000 in
theorem box_some (A : Option Addr) (n c : Nat) (f : Nat → C3) (w : World) (h : CReads w w.heap.size A n f) (hok : OkL f n) (hn0 : 0 < n) :
    Calls Tryd.prog 26 #[.slice A n c] w fun e w' => ∃ W H, e = .returned (.tuple #[.agg #[.int .i64 (lo (fun k => (f k).1) n), .int .i64 (lo (fun k => (f k).2.1) n), .int .i64 W, .int .i64 H], .bool true]) ∧ Below w.heap.size w w' := by
  obtain ⟨i0, hi, hz0, hz1, hz2⟩ := info_parts Tryd.info_point
  have hn := hok.1
  have K2 := Blk.new w 53 #[.int .i64 0, .int .i64 0, .int .i64 0, .int .i64 0]
  have B2 := Lib.hid ((Below.refl w.heap.size w).alloc (Nat.le_refl _) (.cells #[.int .i64 0, .int .i64 0, .int .i64 0, .int .i64 0] 53))
  have R := Lib.hid (fun w (h : CReads w w.heap.size A n f) => by have := pright_any A n c _ w h (by omega); rwa [decide_eq_true hok] at this)
  have HA := Lib.hid (h.later B2.out)
  have K2 := Lib.hid K2
  have H := Lib.hid h
  have AR := Lib.hid (fun g (w : World) (h : PReads w w.heap.size g n (pls f)) => around_any g n n (pls f) (f 0).1 (f 0).2.1 w h hn0 hn (fun k hk => hok.okp k hk) rfl)
  have HI := Lib.hid hi
  obtain ⟨X, hX⟩ : ∃ X, X = lo (fun k => (f k).1) n := ⟨_, rfl⟩
  obtain ⟨Y, hY⟩ : ∃ Y, Y = lo (fun k => (f k).2.1) n := ⟨_, rfl⟩
  obtain ⟨W, hW⟩ : ∃ W, W = Go.Proofs.YtobaabankhpfjaaDoor.hi (fun k => (pls f k).1) n - lo (fun k => (pls f k).1) n + 1 := ⟨_, rfl⟩
  obtain ⟨Z, hZ⟩ : ∃ Z, Z = Go.Proofs.YtobaabankhpfjaaDoor.hi (fun k => (pls f k).2) n - lo (fun k => (pls f k).2) n + 1 := ⟨_, rfl⟩
  have AR := AR.out
  rw [← hW, ← hZ] at AR
  change ∀ g (w : World) (h : PReads w w.heap.size g n (pls f)), Calls Tryd.prog 43 #[.slice (some ⟨g, 0, none⟩) n n] w fun e w' => e = .returned (.tuple #[.agg #[.int .i64 (lo (fun k => (f k).1) n), .int .i64 (lo (fun k => (f k).2.1) n), .int .i64 W, .int .i64 Z], .bool true]) ∧ Below w.heap.size w w' at AR
  rw [← hX, ← hY] at AR ⊢
  have AR := Lib.hid AR
  clear h hok hX hY hW hZ
  go_enter Tryd.func26, Tryd.ntmps26
  go_wp2_with (first
    | (go_at_call 19; (with_reducible refine (R.out _ HA.out).mono ?_); rintro e w1 ⟨rfl, hb⟩; have B1 := Lib.hid (B2.out.trans (hb.mono B2.out.size)); have K1 := Lib.hid (K2.out.below hb K2.out.lt); have s1 := K1.out.lt; clear hb)
    | (at_make; refine wpList_make_own _ rfl _ _ 67 rfl (w.heap.size + 1) 46 i0 (.agg #[.int .i64 0, .int .i64 0]) 2 Tryd.underlying67 HI.out hz0 hz1 .i64 .i64 _ n rfl rfl (by omega) (by rw [hz2]; omega) (by unfold maxLen; omega) s1 ?_; intro w3 hown3 hgrow3; have B3 := Lib.hid ((Below.refl (w.heap.size + 1) w1).grown hgrow3 s1 (fun k hk => by cases hk)); clear hgrow3))
  obtain ⟨g, hg⟩ : ∃ g, g = w1.heap.size := ⟨_, rfl⟩
  have hgs : w.heap.size + 1 ≤ g := by omega
  rw [← hg] at hown3 ⊢
  clear hg R
  go_loopw [4, 16] (fun lv jv wr => ∃ j : Nat, j ≤ n ∧ jv = .int .i64 (j : Int) ∧ lv = .slice (some ⟨g, 0, none⟩) j n ∧ wr.ownsRow (w.heap.size + 1) 46 2 (.slice (some ⟨g, 0, none⟩) j n) j (cells2 (pls f) j) ∧ Below (w.heap.size + 1) w1 wr) (fun _ jv _ => n - (intOf jv).toNat)
  case atStart => exact ⟨0, Nat.zero_le _, rfl, rfl, hown3, B3.out⟩
  case round =>
    obtain ⟨j, hj, rfl, rfl, hown, hbel⟩ := hrel
    have BW := Lib.hid (B1.out.trans (hbel.mono (Nat.le_succ w.heap.size)))
    have R := H.out.below BW.out
    have HB := Lib.hid hbel
    have HW := Lib.hid hown
    have hss : w.heap.size + 1 ≤ wr.heap.size := by have := hbel.size; omega
    by_cases hjn : j < n
    · obtain ⟨g1, o1, rfl, hb1, hc1⟩ := R (by omega)
      have c1 := hc1 j hjn
      have hgw : g1 < wr.heap.size := by omega
      obtain ⟨⟨x, y, s⟩, hx⟩ : ∃ x, x = f j := ⟨_, rfl⟩
      have hp : pls f j = (x, y) := by unfold pls; rw [← hx]
      have HP := Lib.hid hp
      rw [← hx] at c1
      obtain ⟨c10, c11, c12⟩ := c1
      simp only at c10 c11 c12
      have P := Lib.hid (fun w => place_any x y s w)
      have A7 := Lib.hid ((Below.refl wr.heap.size wr).alloc (Nat.le_refl _) (.cells #[.int .i64 x, .int .i64 y, .int .i64 s] 40))
      have hj5 : j + 1 ≤ n := by omega
      clear hc1 R hbel hown hx hp
      go_wp2_with (first
        | (go_at_call 40; (with_reducible refine (P.out _).mono ?_); rintro e w4 ⟨rfl, hb⟩; have A4 := Lib.hid (A7.out.trans (hb.mono A7.out.size)); have W4 := own_below2 HW.out A4.out; have hs4 := Nat.le_trans hss A4.out.size; clear hb)
        | (at_builtin; refine wpList_fit2 rfl _ _ 67 rfl (w.heap.size + 1) 46 i0 Tryd.underlying67 HI.out hz1 g j n _ rfl W4 (.int .i64 x) (.int .i64 y) rfl rfl rfl hj5 hs4 ?_; intro w5 hown5 hbel5))
      go_roundw
      case rel => exact ⟨j + 1, by omega, by go_num, rfl, by rw [cells2, HP.out]; exact hown5, HB.out.trans ((A4.out.mono hss).trans hbel5)⟩
      case measure => simp [intOf]; omega
    · obtain rfl : j = n := by omega
      have A := Lib.hid (AR.out g wr)
      have PR := Lib.hid (PReads.of_own hown hn0)
      have KW := Lib.hid (K1.out.below hbel (Nat.lt_succ_self _))
      clear R hbel hown
      go_wp2_with (go_at_call 43; (with_reducible refine (A.out PR.out).mono ?_); rintro e w3 ⟨rfl, hb3⟩; have K3 := KW.out.below hb3 KW.out.lt; have HB3 := Lib.hid (BW.out.trans (hb3.mono BW.out.size)); have k3f0 := K3.frozen 0; have k3f1 := K3.frozen 1; have k3f2 := K3.frozen 2; have k3f3 := K3.frozen 3; obtain ⟨k30, k31, k32, k33, k34⟩ := K3.four; clear hb3)
      have E := (((K3.set_ 0 (.int .i64 X)).set_ 1 (.int .i64 Y)).set_ 2 (.int .i64 W)).set_ 3 (.int .i64 Z)
      have E' : Blk ((((w3.setCell ⟨w.heap.size, 0, none⟩ (.int .i64 X)).setCell ⟨w.heap.size, 1, none⟩ (.int .i64 Y)).setCell ⟨w.heap.size, 2, none⟩ (.int .i64 W)).setCell ⟨w.heap.size, 3, none⟩ (.int .i64 Z)) w.heap.size 53 #[.int .i64 X, .int .i64 Y, .int .i64 W, .int .i64 Z] := by simpa using E
      obtain ⟨j0, j1, j2, j3, j4⟩ := E'.four
      have HZ := (((HB3.out.setCell (p := ⟨w.heap.size, 0, none⟩) (Nat.le_refl _) (.int .i64 X)).setCell (p := ⟨w.heap.size, 1, none⟩) (Nat.le_refl _) (.int .i64 Y)).setCell (p := ⟨w.heap.size, 2, none⟩) (Nat.le_refl _) (.int .i64 W)).setCell (p := ⟨w.heap.size, 3, none⟩) (Nat.le_refl _) (.int .i64 Z)
      clear E E'
      generalize (((w3.setCell ⟨w.heap.size, 0, none⟩ (.int .i64 X)).setCell ⟨w.heap.size, 1, none⟩ (.int .i64 Y)).setCell ⟨w.heap.size, 2, none⟩ (.int .i64 W)).setCell ⟨w.heap.size, 3, none⟩ (.int .i64 Z) = wz at j0 j1 j2 j3 j4 HZ ⊢
      refine bodyPost_ret (v := .tuple #[.agg #[.int .i64 X, .int .i64 Y, .int .i64 W, .int .i64 Z], .bool true]) (by simp [results, Tryd.results26, go_sem, j0, j1, j2, j3, j4]) rfl ⟨W, Z, rfl, HZ⟩
set_option maxRecDepth 100000 in
set_option maxHeartbeats 1000000 in
theorem box_none (A : Option Addr) (c : Nat) (w : World) :
    Calls Tryd.prog 26 #[.slice A 0 c] w fun e w' => e = .returned (.tuple #[.agg #[.int .i64 0, .int .i64 0, .int .i64 0, .int .i64 0], .bool false]) ∧ Below w.heap.size w w' := by
  obtain ⟨i0, hi, hz0, hz1, hz2⟩ := info_parts Tryd.info_point
  have K2 := Blk.new w 53 #[.int .i64 0, .int .i64 0, .int .i64 0, .int .i64 0]
  have B2 := Lib.hid ((Below.refl w.heap.size w).alloc (Nat.le_refl _) (.cells #[.int .i64 0, .int .i64 0, .int .i64 0, .int .i64 0] 53))
  have R := Lib.hid (fun w => by have := pright_any A 0 c (fun _ => (0, 0, 0)) w (fun h => absurd h (by omega)) (by omega); rwa [decide_eq_true (show OkL (fun _ => (0, 0, 0)) 0 from ⟨by omega, fun i hi => by omega⟩)] at this)
  have K2 := Lib.hid K2
  have AR := Lib.hid (fun A c w => around_none A c w)
  go_enter Tryd.func26, Tryd.ntmps26
  go_wp2_with (first
    | (go_at_call 19; (with_reducible refine (R.out _).mono ?_); rintro e w1 ⟨rfl, hb⟩; have B1 := Lib.hid (B2.out.trans (hb.mono B2.out.size)); have K1 := Lib.hid (K2.out.below hb K2.out.lt); have s1 := K1.out.lt; clear hb)
    | (at_make; refine wpList_make_own _ rfl _ _ 67 rfl (w.heap.size + 1) 46 i0 (.agg #[.int .i64 0, .int .i64 0]) 2 Tryd.underlying67 hi hz0 hz1 .i64 .i64 _ 0 rfl rfl (by omega) (by rw [hz2]; omega) (by unfold maxLen; omega) s1 ?_; intro w3 hown3 hgrow3; have B3 := Lib.hid ((Below.refl (w.heap.size + 1) w1).grown hgrow3 s1 (fun k hk => by cases hk)); clear hgrow3))
  refine wp_loop_rounds 1 ?_
  rw [rounds_succ]
  have KW := Lib.hid (K1.out.below B3.out (Nat.lt_succ_self _))
  have BW := Lib.hid (B1.out.trans (B3.out.mono (Nat.le_succ w.heap.size)))
  clear hown3
  go_wp2_with (go_at_call 43; (with_reducible refine (AR.out _ _ _).mono ?_); rintro e w4 ⟨rfl, hb3⟩; have K3 := KW.out.below hb3 KW.out.lt; have HB3 := Lib.hid (BW.out.trans (hb3.mono BW.out.size)); have k3f0 := K3.frozen 0; have k3f1 := K3.frozen 1; have k3f2 := K3.frozen 2; have k3f3 := K3.frozen 3; obtain ⟨k30, k31, k32, k33, k34⟩ := K3.four; clear hb3)
  have E := (((K3.set_ 0 (.int .i64 0)).set_ 1 (.int .i64 0)).set_ 2 (.int .i64 0)).set_ 3 (.int .i64 0)
  have E' : Blk ((((w4.setCell ⟨w.heap.size, 0, none⟩ (.int .i64 0)).setCell ⟨w.heap.size, 1, none⟩ (.int .i64 0)).setCell ⟨w.heap.size, 2, none⟩ (.int .i64 0)).setCell ⟨w.heap.size, 3, none⟩ (.int .i64 0)) w.heap.size 53 #[.int .i64 0, .int .i64 0, .int .i64 0, .int .i64 0] := by simpa using E
  obtain ⟨j0, j1, j2, j3, j4⟩ := E'.four
  have HZ := (((HB3.out.setCell (p := ⟨w.heap.size, 0, none⟩) (Nat.le_refl _) (.int .i64 0)).setCell (p := ⟨w.heap.size, 1, none⟩) (Nat.le_refl _) (.int .i64 0)).setCell (p := ⟨w.heap.size, 2, none⟩) (Nat.le_refl _) (.int .i64 0)).setCell (p := ⟨w.heap.size, 3, none⟩) (Nat.le_refl _) (.int .i64 0)
  clear E E'
  generalize (((w4.setCell ⟨w.heap.size, 0, none⟩ (.int .i64 0)).setCell ⟨w.heap.size, 1, none⟩ (.int .i64 0)).setCell ⟨w.heap.size, 2, none⟩ (.int .i64 0)).setCell ⟨w.heap.size, 3, none⟩ (.int .i64 0) = wz at j0 j1 j2 j3 j4 HZ ⊢
  refine bodyPost_ret (v := .tuple #[.agg #[.int .i64 0, .int .i64 0, .int .i64 0, .int .i64 0], .bool false]) (by simp [results, Tryd.results26, go_sem, j0, j1, j2, j3, j4]) rfl ⟨rfl, HZ⟩
end Go.Proofs.YtobaabankhpfjaaDoor
