/- The walks of ruletable's elements at the row of the example, and of Text at its table. -/
import Derived.Test.YtbcihgimflljoaaGreatDoorJoi
import Derived.Test.YtbcihgimflljoaaGreatDoorRro
import Derived.Test.YtbcihgimflljoaaGreatDoorRt
import Derived.Test.YtbcihgimflljoaaGreatDoorLawA
namespace Go.Proofs.YtbcihgimflljoaaGreatDoor
open Go.RowKit Go.Shelf

theorem mk_strs5 (w : World) : (Instr.makeSlice 71 (.int .i64 0) (.int .i64 5)).run Tryz.prog w = .ok (.slice (some ⟨w.heap.size, 0, none⟩) 0 5) (w.alloc (.cells #[.string ByteArray.empty, .string ByteArray.empty, .string ByteArray.empty, .string ByteArray.empty, .string ByteArray.empty] 9)) := by kernel_rfl
set_option maxRecDepth 100000 in
set_option maxHeartbeats 4000000 in
theorem elems1 (gI : Nat) (w : World) (KI : Blk w gI 3 #[.int .i64 1, .int .i64 0, .int .i64 0, .int .i64 0, .int .i64 0]) :
    Calls Tryz.prog 46 #[.slice (some ⟨gI, 0, none⟩) 5 5] w fun e w' => e = .returned (.string (tx er)) ∧ Below w.heap.size w w' := by
  obtain ⟨i0, hi, hz0, hz1, hz2⟩ := str_parts
  have KC := fun (w' : World) (hb : Below w.heap.size w w') => (KI.below hb KI.lt).five
  have KCH := Lib.hid KC
  have E1 := Lib.hid (show ∀ w : World, Calls Tryz.prog 45 #[.int .i64 1] w fun e w' => e = .returned (.string (tx [49])) ∧ w = w' from fun w => element_digit 1 (by omega) w)
  have E0 := Lib.hid (show ∀ w : World, Calls Tryz.prog 45 #[.int .i64 0] w fun e w' => e = .returned (.string (tx [48])) ∧ w = w' from fun w => element_digit 0 (by omega) w)
  have JN := Lib.hid (fun g c hc w hg h => join5 g c hc w hg h)
  unfold e1 e0 at JN
  have mk := mk_strs5
  have HO := Lib.hid (World.ownsRow_made (base := w.heap.size) (e := 9) (size := 1) w #[.string ByteArray.empty, .string ByteArray.empty, .string ByteArray.empty, .string ByteArray.empty, .string ByteArray.empty] 5 (Nat.le_refl _) (by unfold maxLen; omega) (by rfl))
  have HB0 := Lib.hid (Below.alloc (Below.refl w.heap.size w) (Nat.le_refl _) (.cells #[.string ByteArray.empty, .string ByteArray.empty, .string ByteArray.empty, .string ByteArray.empty, .string ByteArray.empty] 9))
  generalize tx [49] = s1 at E1 JN
  generalize tx [48] = s0 at E0 JN
  generalize tx er = sr at JN ⊢
  clear KI KC
  go_enter Tryz.func46, Tryz.ntmps46
  go_wp2_with fail
  generalize w.alloc (.cells #[.string ByteArray.empty, .string ByteArray.empty, .string ByteArray.empty, .string ByteArray.empty, .string ByteArray.empty] 9) = v0 at HO HB0 ⊢
  have sz0 := HB0.out.size
  obtain ⟨c0, c1, c2, c3, c4, _⟩ := KCH.out v0 HB0.out
  refine wp_loop_rounds 6 ?_
  rw [rounds_succ]
  go_wp2_with (first
    | (go_at_call 45; (with_reducible refine (E1.out _).mono ?_); rintro e wx ⟨rfl, rfl⟩)
    | (at_builtin; refine wpList_append1 rfl _ _ 71 rfl w.heap.size 9 i0 (.string ByteArray.empty) 16 Tryz.underlying71 hi hz0 hz1 hz2 rfl _ 0 5 _ rfl HO.out (.string s1) rfl rfl (by unfold maxLen; omega) (by omega) sz0 ?_; intro g1 d1 v1 hown hbel; have HO1 := Lib.hid hown; have HB1 := Lib.hid (HB0.out.trans hbel); clear hown hbel))
  clear c0 c1 c2 c3 c4
  have sz1 := HB1.out.size
  obtain ⟨c0, c1, c2, c3, c4, _⟩ := KCH.out v1 HB1.out
  clear HO
  have HO := HO1
  clear HO1
  rw [rounds_succ]
  go_wp2_with (first
    | (go_at_call 45; (with_reducible refine (E0.out _).mono ?_); rintro e wx ⟨rfl, rfl⟩)
    | (at_builtin; refine wpList_append1 rfl _ _ 71 rfl w.heap.size 9 i0 (.string ByteArray.empty) 16 Tryz.underlying71 hi hz0 hz1 hz2 rfl _ 1 d1 _ rfl HO.out (.string s0) rfl rfl (by unfold maxLen; omega) (by omega) sz1 ?_; intro g2 d2 v2 hown hbel; have HO2 := Lib.hid hown; have HB2 := Lib.hid (HB1.out.trans hbel); clear hown hbel))
  clear c0 c1 c2 c3 c4
  have sz2 := HB2.out.size
  obtain ⟨c0, c1, c2, c3, c4, _⟩ := KCH.out v2 HB2.out
  clear HO
  have HO := HO2
  clear HO2
  rw [rounds_succ]
  go_wp2_with (first
    | (go_at_call 45; (with_reducible refine (E0.out _).mono ?_); rintro e wx ⟨rfl, rfl⟩)
    | (at_builtin; refine wpList_append1 rfl _ _ 71 rfl w.heap.size 9 i0 (.string ByteArray.empty) 16 Tryz.underlying71 hi hz0 hz1 hz2 rfl _ 2 d2 _ rfl HO.out (.string s0) rfl rfl (by unfold maxLen; omega) (by omega) sz2 ?_; intro g3 d3 v3 hown hbel; have HO3 := Lib.hid hown; have HB3 := Lib.hid (HB2.out.trans hbel); clear hown hbel))
  clear c0 c1 c2 c3 c4
  have sz3 := HB3.out.size
  obtain ⟨c0, c1, c2, c3, c4, _⟩ := KCH.out v3 HB3.out
  clear HO
  have HO := HO3
  clear HO3
  rw [rounds_succ]
  go_wp2_with (first
    | (go_at_call 45; (with_reducible refine (E0.out _).mono ?_); rintro e wx ⟨rfl, rfl⟩)
    | (at_builtin; refine wpList_append1 rfl _ _ 71 rfl w.heap.size 9 i0 (.string ByteArray.empty) 16 Tryz.underlying71 hi hz0 hz1 hz2 rfl _ 3 d3 _ rfl HO.out (.string s0) rfl rfl (by unfold maxLen; omega) (by omega) sz3 ?_; intro g4 d4 v4 hown hbel; have HO4 := Lib.hid hown; have HB4 := Lib.hid (HB3.out.trans hbel); clear hown hbel))
  clear c0 c1 c2 c3 c4
  have sz4 := HB4.out.size
  obtain ⟨c0, c1, c2, c3, c4, _⟩ := KCH.out v4 HB4.out
  clear HO
  have HO := HO4
  clear HO4
  rw [rounds_succ]
  go_wp2_with (first
    | (go_at_call 45; (with_reducible refine (E0.out _).mono ?_); rintro e wx ⟨rfl, rfl⟩)
    | (at_builtin; refine wpList_append1 rfl _ _ 71 rfl w.heap.size 9 i0 (.string ByteArray.empty) 16 Tryz.underlying71 hi hz0 hz1 hz2 rfl _ 4 d4 _ rfl HO.out (.string s0) rfl rfl (by unfold maxLen; omega) (by omega) sz4 ?_; intro g5 d5 v5 hown hbel; have HO5 := Lib.hid hown; have HB5 := Lib.hid (HB4.out.trans hbel); clear hown hbel))
  clear c0 c1 c2 c3 c4
  have sz5 := HB5.out.size
  obtain ⟨c0, c1, c2, c3, c4, _⟩ := KCH.out v5 HB5.out
  clear HO
  have HO := HO5
  clear HO5
  rw [rounds_succ]
  obtain ⟨u, hu, hub, hux⟩ := own_blk HO.out
  have hcap : 5 ≤ d5 := by
    rcases HO.out.2 with ⟨h1, _⟩ | ⟨g', cap, cur, h1, hb', hgg, hle, _⟩
    · cases h1
    · injection h1 with _ _ h4
      subst h4
      omega
  have J := Lib.hid (JN.out g5 d5 hcap v5 hu.lt (fun j v hj => by rw [hu.cell]; exact hux j v (by simpa using hj)))
  clear hu hux c0 c1 c2 c3 c4
  go_wp2_with (go_at_call 47; (with_reducible refine J.out.mono ?_); rintro e w9 ⟨rfl, hb⟩; have B9 := Lib.hid (HB5.out.trans (hb.mono HB5.out.size)); clear hb)
  go_ret
  exact ⟨rfl, B9.out⟩
end Go.Proofs.YtbcihgimflljoaaGreatDoor
