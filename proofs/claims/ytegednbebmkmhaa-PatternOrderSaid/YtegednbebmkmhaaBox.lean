/- The walk of Box at the chapter's example. -/
import Derived.Test.YtegednbebmkmhaaRight
import Derived.Test.YtegednbebmkmhaaAround
import Derived.Test.YtegednbebmkmhaaRef
namespace Go.Proofs.Ytegednbebmkmhaa
open Go.RowKit

theorem own_below2 {w w' : World} {base : Nat} {e : TypeId} {v : Value} {n : Nat} {xs : List Value} (h : w.ownsRow base e 2 v n xs) (hb : Below w.heap.size w w') : w'.ownsRow base e 2 v n xs := by
  refine ⟨h.1, ?_⟩
  rcases h.2 with hn | ⟨g, cap, cur, rfl, hb', hg, rest⟩
  · exact .inl hn
  · refine .inr ⟨g, cap, cur, rfl, hb', ?_, rest⟩
    rw [hb.block g (Array.getElem?_eq_some_iff.1 hg).1]; exact hg
/-- the places of two cells -/
def pl2 (k : Nat) : Int × Int := ((two (0, 0, 2) (1, 1, 1) k).1, (two (0, 0, 2) (1, 1, 1) k).2.1)
theorem ok_want : OkL (two (0, 0, 2) (1, 1, 1)) 2 := by decide
set_option maxRecDepth 100000 in
set_option maxHeartbeats 1000000 in
theorem box_ex (A : Option Addr) (c : Nat) (w : World) (h : CReads w w.heap.size A 2 (two (0, 0, 2) (1, 1, 1))) :
    Calls Try.prog 11 #[.slice A 2 c] w fun e w' => e = .returned (.tuple #[.agg #[.int .i64 0, .int .i64 0, .int .i64 2, .int .i64 2], .bool true]) ∧ Below w.heap.size w w' := by
  obtain ⟨i0, hi, hz0, hz1, hz2⟩ := info_parts Try.info_point
  have K2 := Blk.new w 37 #[.int .i64 0, .int .i64 0, .int .i64 0, .int .i64 0]
  have B2 := Lib.hid ((Below.refl w.heap.size w).alloc (Nat.le_refl _) (.cells #[.int .i64 0, .int .i64 0, .int .i64 0, .int .i64 0] 37))
  have R := Lib.hid (fun w (h : CReads w w.heap.size A 2 (two (0, 0, 2) (1, 1, 1))) => by have := pright_any A 2 c _ w h (by decide); rwa [decide_eq_true ok_want] at this)
  have HA := Lib.hid (h.later B2.out)
  have K2 := Lib.hid K2
  have H := Lib.hid h
  clear h
  go_enter Try.func11, Try.ntmps11
  go_wp2_with (first
    | (go_at_call 15; (with_reducible refine (R.out _ HA.out).mono ?_); rintro e w1 ⟨rfl, hb⟩; have B1 := Lib.hid (B2.out.trans (hb.mono B2.out.size)); have K1 := Lib.hid (K2.out.below hb K2.out.lt); have s1 := K1.out.lt; clear hb)
    | (at_make; refine wpList_make_own _ rfl _ _ 56 rfl (w.heap.size + 1) 51 i0 (.agg #[.int .i64 0, .int .i64 0]) 2 Try.underlying56 hi hz0 hz1 .i64 .i64 _ 2 rfl rfl (by omega) (by rw [hz2]; omega) (by unfold maxLen; omega) s1 ?_; intro w3 hown3 hgrow3; have B3 := Lib.hid ((Below.refl (w.heap.size + 1) w1).grown hgrow3 s1 (fun k hk => by cases hk)); clear hgrow3))
  obtain ⟨g, hg⟩ : ∃ g, g = w1.heap.size := ⟨_, rfl⟩
  have hgs : w.heap.size + 1 ≤ g := by omega
  rw [← hg] at hown3 ⊢
  clear hg R
  go_loopw [4, 16] (fun lv jv wr => ∃ j : Nat, j ≤ 2 ∧ jv = .int .i64 (j : Int) ∧ lv = .slice (some ⟨g, 0, none⟩) j 2 ∧ wr.ownsRow (w.heap.size + 1) 51 2 (.slice (some ⟨g, 0, none⟩) j 2) j (cells2 pl2 j) ∧ Below (w.heap.size + 1) w1 wr) (fun _ jv _ => 2 - (intOf jv).toNat)
  case atStart => exact ⟨0, Nat.zero_le _, rfl, rfl, hown3, B3.out⟩
  case round =>
    obtain ⟨j, hj, rfl, rfl, hown, hbel⟩ := hrel
    have BW := Lib.hid (B1.out.trans (hbel.mono (Nat.le_succ w.heap.size)))
    have R := H.out.below BW.out
    have HB := Lib.hid hbel
    have HW := Lib.hid hown
    have hss : w.heap.size + 1 ≤ wr.heap.size := by have := hbel.size; omega
    by_cases hjn : j < 2
    · obtain ⟨g1, o1, rfl, hb1, hc1⟩ := R (by omega)
      have c1 := hc1 j hjn
      have hgw : g1 < wr.heap.size := by omega
      obtain ⟨⟨x, y, s⟩, hx⟩ : ∃ x, x = two (0, 0, 2) (1, 1, 1) j := ⟨_, rfl⟩
      have hp : pl2 j = (x, y) := by unfold pl2; rw [← hx]
      have HP := Lib.hid hp
      rw [← hx] at c1
      obtain ⟨c10, c11, c12⟩ := c1
      simp only at c10 c11 c12
      have P := Lib.hid (fun w => place_any x y s w)
      have A7 := Lib.hid ((Below.refl wr.heap.size wr).alloc (Nat.le_refl _) (.cells #[.int .i64 x, .int .i64 y, .int .i64 s] 34))
      clear hc1 R hbel hown hx hp
      go_wp2_with (first
        | (go_at_call 24; (with_reducible refine (P.out _).mono ?_); rintro e w4 ⟨rfl, hb⟩; have A4 := Lib.hid (A7.out.trans (hb.mono A7.out.size)); have W4 := own_below2 HW.out A4.out; have hs4 := Nat.le_trans hss A4.out.size; clear hb)
        | (at_builtin; refine wpList_fit2 rfl _ _ 56 rfl (w.heap.size + 1) 51 i0 Try.underlying56 hi hz1 g j 2 _ rfl W4 (.int .i64 x) (.int .i64 y) rfl rfl rfl (by omega) hs4 ?_; intro w5 hown5 hbel5))
      go_roundw
      case rel => exact ⟨j + 1, by omega, by go_num, rfl, by rw [cells2, HP.out]; exact hown5, HB.out.trans ((A4.out.mono hss).trans hbel5)⟩
      case measure => simp [intOf]; omega
    · obtain rfl : j = 2 := by omega
      have A := Lib.hid (fun (h : PReads wr wr.heap.size g 2 pl2) => around_any g 2 2 pl2 0 0 1 1 wr h (by decide) (by decide) (fun k hk => match k, hk with | 0, _ => by decide | 1, _ => by decide) (by decide) (by decide) (by decide) (by decide) (by decide) (by decide))
      have PR := Lib.hid (PReads.of_own hown (by decide))
      have KW := Lib.hid (K1.out.below hbel (Nat.lt_succ_self _))
      clear R hbel hown
      go_wp2_with (go_at_call 27; (with_reducible refine (A.out PR.out).mono ?_); rintro e w3 ⟨rfl, hb3⟩; have K3 := KW.out.below hb3 KW.out.lt; have HB3 := Lib.hid (BW.out.trans (hb3.mono BW.out.size)); have k3f0 := K3.frozen 0; have k3f1 := K3.frozen 1; have k3f2 := K3.frozen 2; have k3f3 := K3.frozen 3; obtain ⟨k30, k31, k32, k33, k34⟩ := K3.four; clear hb3)
      have E := (((K3.set_ 0 (.int .i64 0)).set_ 1 (.int .i64 0)).set_ 2 (.int .i64 2)).set_ 3 (.int .i64 2)
      have E' : Blk ((((w3.setCell ⟨w.heap.size, 0, none⟩ (.int .i64 0)).setCell ⟨w.heap.size, 1, none⟩ (.int .i64 0)).setCell ⟨w.heap.size, 2, none⟩ (.int .i64 2)).setCell ⟨w.heap.size, 3, none⟩ (.int .i64 2)) w.heap.size 37 #[.int .i64 0, .int .i64 0, .int .i64 2, .int .i64 2] := by simpa using E
      obtain ⟨j0, j1, j2, j3, j4⟩ := E'.four
      have HZ := (((HB3.out.setCell (p := ⟨w.heap.size, 0, none⟩) (Nat.le_refl _) (.int .i64 0)).setCell (p := ⟨w.heap.size, 1, none⟩) (Nat.le_refl _) (.int .i64 0)).setCell (p := ⟨w.heap.size, 2, none⟩) (Nat.le_refl _) (.int .i64 2)).setCell (p := ⟨w.heap.size, 3, none⟩) (Nat.le_refl _) (.int .i64 2)
      clear E E'
      generalize (((w3.setCell ⟨w.heap.size, 0, none⟩ (.int .i64 0)).setCell ⟨w.heap.size, 1, none⟩ (.int .i64 0)).setCell ⟨w.heap.size, 2, none⟩ (.int .i64 2)).setCell ⟨w.heap.size, 3, none⟩ (.int .i64 2) = wz at j0 j1 j2 j3 j4 HZ ⊢
      refine bodyPost_ret (v := .tuple #[.agg #[.int .i64 0, .int .i64 0, .int .i64 2, .int .i64 2], .bool true]) (by simp [results, Try.results11, go_sem, j0, j1, j2, j3, j4]) rfl ⟨rfl, HZ⟩
end Go.Proofs.Ytegednbebmkmhaa
