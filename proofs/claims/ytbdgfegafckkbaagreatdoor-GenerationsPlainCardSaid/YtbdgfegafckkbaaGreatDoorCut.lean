/- The walks of Index and Cut at the chapter's examples, whatever internal/bytealg.MaxLen holds. -/
import Derived.Test.YtbdgfegafckkbaaGreatDoorLays
import Derived.Test.YtbdgfegafckkbaaGreatDoorStr
import Derived.Shelf.Strings.Search1
import Derived.Lib.IndexEntry
import Derived.Laws.Externs
import Derived.Laws.ShiftsVar
namespace Go.Proofs.YtbdgfegafckkbaaGreatDoor
open Go.RowKit

theorem ibyte_any (s : ByteArray) (c : Int) (w : World) :
    Calls Tryz.prog 86 #[.string s, .int .u8 c] w fun e w' => e = .returned (.int .i64 (Lib.indexByte s.data.toList c.toNat.toUInt8)) ∧ w' = w :=
  Any.stringslite_IndexByte byteLays s c w
theorem istring_run (s p : ByteArray) (m : Int) (w : World) (hm : w.cell? ⟨1, 0, none⟩ = some (.int .i64 m)) (h2 : 2 ≤ p.size) (hp : (p.size : Int) ≤ m) (hs : s.size < 4294967281) :
    (callFunc 87 #[.string s, .string p]).run Tryz.prog w = .ok (.value (.int .i64 (Lib.index s.data.toList p.data.toList))) w := by
  rw [run_callFunc_extern Tryz.func87 (by kernel_rfl) (by kernel_rfl) (by kernel_rfl) (e := Extern.BytealgIndex.index) (by kernel_rfl), Lib.run_indexString s p w 1 m (by kernel_rfl) hm h2 hp hs]
  rfl
set_option maxRecDepth 100000 in
set_option maxHeartbeats 4000000 in
theorem index0 (m : Int) (w : World) (hm : w.cell? ⟨1, 0, none⟩ = some (.int .i64 m)) :
    Calls Tryz.prog 69 #[.string (tx [47, 50, 47, 51]), .string (tx [47, 67])] w fun e w' => e = .returned (.int .i64 (-1)) ∧ w = w' := by
  have IS := istring_run (tx [47, 50, 47, 51]) (tx [47, 67]) m w hm
  rw [show Lib.index (tx [47, 50, 47, 51]).data.toList (tx [47, 67]).data.toList = -1 by decide +kernel] at IS
  have hw0 : IntKind.i64.wrap 0 = 0 := by decide
  unfold tx at IS ⊢
  by_cases h : 2 ≤ m
  · have IS := IS (by decide) h (by decide)
    go_enter Tryz.func69, Tryz.ntmps69
    go_wp2
    go_ret
    exact ⟨rfl, rfl⟩
  · clear IS
    have h2 : m < 2 := by omega
    go_enter Tryz.func69, Tryz.ntmps69
    go_wp2
    refine wp_loop_rounds 3 ?_
    rw [rounds_succ]
    go_wp2_with (go_at_call 86; (with_reducible refine (ibyte_any _ _ _).mono ?_); rintro e w' ⟨rfl, rfl⟩; generalize hr : Lib.indexByte _ _ = r; first | (have hr2 : r = 0 := by rw [← hr]; decide +kernel) | (have hr2 : r = 1 := by rw [← hr]; decide +kernel) | (have hr2 : r = 3 := by rw [← hr]; decide +kernel) | (have hr2 : r = -1 := by rw [← hr]; decide +kernel) | (have hr2 : r = 2 := by rw [← hr]; decide +kernel); subst hr2; clear hr)
    rw [rounds_succ]
    go_wp2_with (go_at_call 86; (with_reducible refine (ibyte_any _ _ _).mono ?_); rintro e w' ⟨rfl, rfl⟩; generalize hr : Lib.indexByte _ _ = r; first | (have hr2 : r = 0 := by rw [← hr]; decide +kernel) | (have hr2 : r = 1 := by rw [← hr]; decide +kernel) | (have hr2 : r = 3 := by rw [← hr]; decide +kernel) | (have hr2 : r = -1 := by rw [← hr]; decide +kernel) | (have hr2 : r = 2 := by rw [← hr]; decide +kernel); subst hr2; clear hr)
    rw [rounds_succ]
    go_wp2_with (go_at_call 86; (with_reducible refine (ibyte_any _ _ _).mono ?_); rintro e w' ⟨rfl, rfl⟩; generalize hr : Lib.indexByte _ _ = r; first | (have hr2 : r = 0 := by rw [← hr]; decide +kernel) | (have hr2 : r = 1 := by rw [← hr]; decide +kernel) | (have hr2 : r = 3 := by rw [← hr]; decide +kernel) | (have hr2 : r = -1 := by rw [← hr]; decide +kernel) | (have hr2 : r = 2 := by rw [← hr]; decide +kernel); subst hr2; clear hr)
    go_ret
    exact ⟨rfl, rfl⟩
set_option maxRecDepth 100000 in
set_option maxHeartbeats 4000000 in
theorem index1 (m : Int) (w : World) (hm : w.cell? ⟨1, 0, none⟩ = some (.int .i64 m)) :
    Calls Tryz.prog 69 #[.string (tx [66, 50, 47, 83, 47, 67, 51]), .string (tx [47, 67])] w fun e w' => e = .returned (.int .i64 (4)) ∧ w = w' := by
  have hx : (((⟨#[66, 50, 47, 83, 47, 67, 51]⟩ : ByteArray).extract 4 6).toList == [47, 67]) = true := by decide +kernel
  have IS := istring_run (tx [66, 50, 47, 83, 47, 67, 51]) (tx [47, 67]) m w hm
  rw [show Lib.index (tx [66, 50, 47, 83, 47, 67, 51]).data.toList (tx [47, 67]).data.toList = 4 by decide +kernel] at IS
  have hw0 : IntKind.i64.wrap 0 = 0 := by decide
  unfold tx at IS ⊢
  by_cases h : 2 ≤ m
  · have IS := IS (by decide) h (by decide)
    go_enter Tryz.func69, Tryz.ntmps69
    go_wp2
    go_ret
    exact ⟨rfl, rfl⟩
  · clear IS
    have h2 : m < 2 := by omega
    go_enter Tryz.func69, Tryz.ntmps69
    go_wp2
    refine wp_loop_rounds 2 ?_
    rw [rounds_succ]
    go_wp2_with (go_at_call 86; (with_reducible refine (ibyte_any _ _ _).mono ?_); rintro e w' ⟨rfl, rfl⟩; generalize hr : Lib.indexByte _ _ = r; first | (have hr2 : r = 0 := by rw [← hr]; decide +kernel) | (have hr2 : r = 1 := by rw [← hr]; decide +kernel) | (have hr2 : r = 3 := by rw [← hr]; decide +kernel) | (have hr2 : r = -1 := by rw [← hr]; decide +kernel) | (have hr2 : r = 2 := by rw [← hr]; decide +kernel); subst hr2; clear hr)
    rw [rounds_succ]
    go_wp2_with (go_at_call 86; (with_reducible refine (ibyte_any _ _ _).mono ?_); rintro e w' ⟨rfl, rfl⟩; generalize hr : Lib.indexByte _ _ = r; first | (have hr2 : r = 0 := by rw [← hr]; decide +kernel) | (have hr2 : r = 1 := by rw [← hr]; decide +kernel) | (have hr2 : r = 3 := by rw [← hr]; decide +kernel) | (have hr2 : r = -1 := by rw [← hr]; decide +kernel) | (have hr2 : r = 2 := by rw [← hr]; decide +kernel); subst hr2; clear hr)
    go_ret
    exact ⟨rfl, rfl⟩
set_option maxRecDepth 100000 in
set_option maxHeartbeats 4000000 in
theorem index2 (m : Int) (w : World) (hm : w.cell? ⟨1, 0, none⟩ = some (.int .i64 m)) :
    Calls Tryz.prog 69 #[.string (tx [66, 50, 47, 83, 47, 67, 50]), .string (tx [47, 67])] w fun e w' => e = .returned (.int .i64 (4)) ∧ w = w' := by
  have hx : (((⟨#[66, 50, 47, 83, 47, 67, 50]⟩ : ByteArray).extract 4 6).toList == [47, 67]) = true := by decide +kernel
  have IS := istring_run (tx [66, 50, 47, 83, 47, 67, 50]) (tx [47, 67]) m w hm
  rw [show Lib.index (tx [66, 50, 47, 83, 47, 67, 50]).data.toList (tx [47, 67]).data.toList = 4 by decide +kernel] at IS
  have hw0 : IntKind.i64.wrap 0 = 0 := by decide
  unfold tx at IS ⊢
  by_cases h : 2 ≤ m
  · have IS := IS (by decide) h (by decide)
    go_enter Tryz.func69, Tryz.ntmps69
    go_wp2
    go_ret
    exact ⟨rfl, rfl⟩
  · clear IS
    have h2 : m < 2 := by omega
    go_enter Tryz.func69, Tryz.ntmps69
    go_wp2
    refine wp_loop_rounds 2 ?_
    rw [rounds_succ]
    go_wp2_with (go_at_call 86; (with_reducible refine (ibyte_any _ _ _).mono ?_); rintro e w' ⟨rfl, rfl⟩; generalize hr : Lib.indexByte _ _ = r; first | (have hr2 : r = 0 := by rw [← hr]; decide +kernel) | (have hr2 : r = 1 := by rw [← hr]; decide +kernel) | (have hr2 : r = 3 := by rw [← hr]; decide +kernel) | (have hr2 : r = -1 := by rw [← hr]; decide +kernel) | (have hr2 : r = 2 := by rw [← hr]; decide +kernel); subst hr2; clear hr)
    rw [rounds_succ]
    go_wp2_with (go_at_call 86; (with_reducible refine (ibyte_any _ _ _).mono ?_); rintro e w' ⟨rfl, rfl⟩; generalize hr : Lib.indexByte _ _ = r; first | (have hr2 : r = 0 := by rw [← hr]; decide +kernel) | (have hr2 : r = 1 := by rw [← hr]; decide +kernel) | (have hr2 : r = 3 := by rw [← hr]; decide +kernel) | (have hr2 : r = -1 := by rw [← hr]; decide +kernel) | (have hr2 : r = 2 := by rw [← hr]; decide +kernel); subst hr2; clear hr)
    go_ret
    exact ⟨rfl, rfl⟩
set_option maxRecDepth 100000 in
set_option maxHeartbeats 4000000 in
theorem index3 (m : Int) (w : World) (hm : w.cell? ⟨1, 0, none⟩ = some (.int .i64 m)) :
    Calls Tryz.prog 69 #[.string (tx [66, 51, 47, 83, 50, 51]), .string (tx [47, 67])] w fun e w' => e = .returned (.int .i64 (-1)) ∧ w = w' := by
  have IS := istring_run (tx [66, 51, 47, 83, 50, 51]) (tx [47, 67]) m w hm
  rw [show Lib.index (tx [66, 51, 47, 83, 50, 51]).data.toList (tx [47, 67]).data.toList = -1 by decide +kernel] at IS
  have hw0 : IntKind.i64.wrap 0 = 0 := by decide
  unfold tx at IS ⊢
  by_cases h : 2 ≤ m
  · have IS := IS (by decide) h (by decide)
    go_enter Tryz.func69, Tryz.ntmps69
    go_wp2
    go_ret
    exact ⟨rfl, rfl⟩
  · clear IS
    have h2 : m < 2 := by omega
    go_enter Tryz.func69, Tryz.ntmps69
    go_wp2
    refine wp_loop_rounds 2 ?_
    rw [rounds_succ]
    go_wp2_with (go_at_call 86; (with_reducible refine (ibyte_any _ _ _).mono ?_); rintro e w' ⟨rfl, rfl⟩; generalize hr : Lib.indexByte _ _ = r; first | (have hr2 : r = 0 := by rw [← hr]; decide +kernel) | (have hr2 : r = 1 := by rw [← hr]; decide +kernel) | (have hr2 : r = 3 := by rw [← hr]; decide +kernel) | (have hr2 : r = -1 := by rw [← hr]; decide +kernel) | (have hr2 : r = 2 := by rw [← hr]; decide +kernel); subst hr2; clear hr)
    rw [rounds_succ]
    go_wp2_with (go_at_call 86; (with_reducible refine (ibyte_any _ _ _).mono ?_); rintro e w' ⟨rfl, rfl⟩; generalize hr : Lib.indexByte _ _ = r; first | (have hr2 : r = 0 := by rw [← hr]; decide +kernel) | (have hr2 : r = 1 := by rw [← hr]; decide +kernel) | (have hr2 : r = 3 := by rw [← hr]; decide +kernel) | (have hr2 : r = -1 := by rw [← hr]; decide +kernel) | (have hr2 : r = 2 := by rw [← hr]; decide +kernel); subst hr2; clear hr)
    go_ret
    exact ⟨rfl, rfl⟩
set_option maxRecDepth 100000 in
set_option maxHeartbeats 4000000 in
theorem index4 (m : Int) (w : World) (hm : w.cell? ⟨1, 0, none⟩ = some (.int .i64 m)) :
    Calls Tryz.prog 69 #[.string (tx [66, 50, 47, 83, 51, 52, 53, 47, 67, 52]), .string (tx [47, 67])] w fun e w' => e = .returned (.int .i64 (7)) ∧ w = w' := by
  have hx : (((⟨#[66, 50, 47, 83, 51, 52, 53, 47, 67, 52]⟩ : ByteArray).extract 7 9).toList == [47, 67]) = true := by decide +kernel
  have IS := istring_run (tx [66, 50, 47, 83, 51, 52, 53, 47, 67, 52]) (tx [47, 67]) m w hm
  rw [show Lib.index (tx [66, 50, 47, 83, 51, 52, 53, 47, 67, 52]).data.toList (tx [47, 67]).data.toList = 7 by decide +kernel] at IS
  have hw0 : IntKind.i64.wrap 0 = 0 := by decide
  unfold tx at IS ⊢
  by_cases h : 2 ≤ m
  · have IS := IS (by decide) h (by decide)
    go_enter Tryz.func69, Tryz.ntmps69
    go_wp2
    go_ret
    exact ⟨rfl, rfl⟩
  · clear IS
    have h2 : m < 2 := by omega
    go_enter Tryz.func69, Tryz.ntmps69
    go_wp2
    refine wp_loop_rounds 2 ?_
    rw [rounds_succ]
    go_wp2_with (go_at_call 86; (with_reducible refine (ibyte_any _ _ _).mono ?_); rintro e w' ⟨rfl, rfl⟩; generalize hr : Lib.indexByte _ _ = r; first | (have hr2 : r = 0 := by rw [← hr]; decide +kernel) | (have hr2 : r = 1 := by rw [← hr]; decide +kernel) | (have hr2 : r = 3 := by rw [← hr]; decide +kernel) | (have hr2 : r = -1 := by rw [← hr]; decide +kernel) | (have hr2 : r = 2 := by rw [← hr]; decide +kernel); subst hr2; clear hr)
    rw [rounds_succ]
    go_wp2_with (go_at_call 86; (with_reducible refine (ibyte_any _ _ _).mono ?_); rintro e w' ⟨rfl, rfl⟩; generalize hr : Lib.indexByte _ _ = r; first | (have hr2 : r = 0 := by rw [← hr]; decide +kernel) | (have hr2 : r = 1 := by rw [← hr]; decide +kernel) | (have hr2 : r = 3 := by rw [← hr]; decide +kernel) | (have hr2 : r = -1 := by rw [← hr]; decide +kernel) | (have hr2 : r = 2 := by rw [← hr]; decide +kernel); subst hr2; clear hr)
    go_ret
    exact ⟨rfl, rfl⟩
set_option maxRecDepth 100000 in
set_option maxHeartbeats 4000000 in
theorem index5 (w : World) :
    Calls Tryz.prog 69 #[.string (tx [47, 50, 47, 51]), .string (tx [47])] w fun e w' => e = .returned (.int .i64 (0)) ∧ w = w' := by
  have hw0 : IntKind.i64.wrap 0 = 0 := by decide
  unfold tx
  go_enter Tryz.func69, Tryz.ntmps69
  go_wp2_with (go_at_call 86; (with_reducible refine (ibyte_any _ _ _).mono ?_); rintro e w' ⟨rfl, rfl⟩; generalize hr : Lib.indexByte _ _ = r; first | (have hr2 : r = 0 := by rw [← hr]; decide +kernel) | (have hr2 : r = 1 := by rw [← hr]; decide +kernel) | (have hr2 : r = 3 := by rw [← hr]; decide +kernel) | (have hr2 : r = -1 := by rw [← hr]; decide +kernel) | (have hr2 : r = 2 := by rw [← hr]; decide +kernel); subst hr2; clear hr)
  go_ret
  exact ⟨rfl, rfl⟩
set_option maxRecDepth 100000 in
set_option maxHeartbeats 4000000 in
theorem index6 (w : World) :
    Calls Tryz.prog 69 #[.string (tx [50, 47, 51]), .string (tx [47])] w fun e w' => e = .returned (.int .i64 (1)) ∧ w = w' := by
  have hw0 : IntKind.i64.wrap 0 = 0 := by decide
  unfold tx
  go_enter Tryz.func69, Tryz.ntmps69
  go_wp2_with (go_at_call 86; (with_reducible refine (ibyte_any _ _ _).mono ?_); rintro e w' ⟨rfl, rfl⟩; generalize hr : Lib.indexByte _ _ = r; first | (have hr2 : r = 0 := by rw [← hr]; decide +kernel) | (have hr2 : r = 1 := by rw [← hr]; decide +kernel) | (have hr2 : r = 3 := by rw [← hr]; decide +kernel) | (have hr2 : r = -1 := by rw [← hr]; decide +kernel) | (have hr2 : r = 2 := by rw [← hr]; decide +kernel); subst hr2; clear hr)
  go_ret
  exact ⟨rfl, rfl⟩
set_option maxRecDepth 100000 in
set_option maxHeartbeats 4000000 in
theorem index7 (w : World) :
    Calls Tryz.prog 69 #[.string (tx [66, 51, 47, 83, 50, 51]), .string (tx [47])] w fun e w' => e = .returned (.int .i64 (2)) ∧ w = w' := by
  have hw0 : IntKind.i64.wrap 0 = 0 := by decide
  unfold tx
  go_enter Tryz.func69, Tryz.ntmps69
  go_wp2_with (go_at_call 86; (with_reducible refine (ibyte_any _ _ _).mono ?_); rintro e w' ⟨rfl, rfl⟩; generalize hr : Lib.indexByte _ _ = r; first | (have hr2 : r = 0 := by rw [← hr]; decide +kernel) | (have hr2 : r = 1 := by rw [← hr]; decide +kernel) | (have hr2 : r = 3 := by rw [← hr]; decide +kernel) | (have hr2 : r = -1 := by rw [← hr]; decide +kernel) | (have hr2 : r = 2 := by rw [← hr]; decide +kernel); subst hr2; clear hr)
  go_ret
  exact ⟨rfl, rfl⟩
set_option maxRecDepth 100000 in
set_option maxHeartbeats 4000000 in
theorem index8 (w : World) :
    Calls Tryz.prog 69 #[.string (tx [83, 50, 51]), .string (tx [47])] w fun e w' => e = .returned (.int .i64 (-1)) ∧ w = w' := by
  have hw0 : IntKind.i64.wrap 0 = 0 := by decide
  unfold tx
  go_enter Tryz.func69, Tryz.ntmps69
  go_wp2_with (go_at_call 86; (with_reducible refine (ibyte_any _ _ _).mono ?_); rintro e w' ⟨rfl, rfl⟩; generalize hr : Lib.indexByte _ _ = r; first | (have hr2 : r = 0 := by rw [← hr]; decide +kernel) | (have hr2 : r = 1 := by rw [← hr]; decide +kernel) | (have hr2 : r = 3 := by rw [← hr]; decide +kernel) | (have hr2 : r = -1 := by rw [← hr]; decide +kernel) | (have hr2 : r = 2 := by rw [← hr]; decide +kernel); subst hr2; clear hr)
  go_ret
  exact ⟨rfl, rfl⟩
section
variable (P : World → Prop) (s p : ByteArray)
set_option maxRecDepth 100000 in
theorem scut_no (w : World) (IX : ∀ w, P w → Calls Tryz.prog 69 #[.string s, .string p] w fun e w' => e = .returned (.int .i64 (-1)) ∧ w = w') (hw : P w) :
    Calls Tryz.prog 39 #[.string s, .string p] w fun e w' => e = .returned (.tuple #[.string s, .string ⟨#[]⟩, .bool false]) ∧ Below w.heap.size w w' := by
  have IX := Lib.hid (IX w hw)
  have C : Calls Tryz.prog 53 #[.string s, .string p] w fun e w' => e = .returned (.tuple #[.string s, .string ⟨#[]⟩, .bool false]) ∧ w = w' := by
    go_enter Tryz.func53, Tryz.ntmps53
    go_wp2_with (go_at_call 69; (with_reducible refine (IX.out).mono ?_); rintro e w' ⟨rfl, rfl⟩)
    go_ret3
    exact ⟨rfl, rfl⟩
  have C := Lib.hid C
  go_enter Tryz.func39, Tryz.ntmps39
  go_wp2_with (go_at_call 53; (with_reducible refine (C.out).mono ?_); rintro e w' ⟨rfl, rfl⟩)
  go_ret3
  exact ⟨rfl, Below.refl _ _⟩
set_option maxRecDepth 100000 in
theorem scut_yes (w : World) (i : Nat) (IX : ∀ w, P w → Calls Tryz.prog 69 #[.string s, .string p] w fun e w' => e = .returned (.int .i64 (i : Int)) ∧ w = w') (hw : P w) (hi : i + p.size ≤ s.size) (hs : s.size ≤ 1000) :
    Calls Tryz.prog 39 #[.string s, .string p] w fun e w' => e = .returned (.tuple #[.string (s.extract 0 i), .string (s.extract (i + p.size) s.size), .bool true]) ∧ Below w.heap.size w w' := by
  have IX := Lib.hid (IX w hw)
  have c1 : (0 : Int) ≤ i := by omega
  have c2 : (i : Int) ≤ s.size := by omega
  have c3 : (0 : Int) ≤ (i : Int) + p.size := by omega
  have c4 : ((i : Int) + p.size : Int) ≤ s.size := by omega
  have C : Calls Tryz.prog 53 #[.string s, .string p] w fun e w' => e = .returned (.tuple #[.string (s.extract 0 i), .string (s.extract (i + p.size) s.size), .bool true]) ∧ Below w.heap.size w w' := by
    go_enter Tryz.func53, Tryz.ntmps53
    go_wp2_with (first | (go_at_call 69; (with_reducible refine (IX.out).mono ?_); rintro e w' ⟨rfl, rfl⟩) | fail)
    go_region
    go_wp2
    go_ret3
    exact ⟨rfl, (Below.refl _ _).drew⟩
  have C := Lib.hid C
  go_enter Tryz.func39, Tryz.ntmps39
  go_wp2_with (go_at_call 53; (with_reducible refine (C.out).mono ?_); rintro e w' ⟨rfl, hb⟩)
  go_ret3
  exact ⟨rfl, hb⟩
end
theorem cut0 (m : Int) (w : World) (hm : w.cell? ⟨1, 0, none⟩ = some (.int .i64 m)) :
    Calls Tryz.prog 39 #[.string (tx [47, 50, 47, 51]), .string (tx [47, 67])] w fun e w' => e = .returned (.tuple #[.string (tx [47, 50, 47, 51]), .string (tx []), .bool false]) ∧ Below w.heap.size w w' := by
  exact scut_no (fun w => w.cell? ⟨1, 0, none⟩ = some (.int .i64 m)) (tx [47, 50, 47, 51]) (tx [47, 67]) w (fun w h => index0 m w h) hm
theorem cut1 (m : Int) (w : World) (hm : w.cell? ⟨1, 0, none⟩ = some (.int .i64 m)) :
    Calls Tryz.prog 39 #[.string (tx [66, 50, 47, 83, 47, 67, 51]), .string (tx [47, 67])] w fun e w' => e = .returned (.tuple #[.string (tx [66, 50, 47, 83]), .string (tx [51]), .bool true]) ∧ Below w.heap.size w w' := by
  have h := scut_yes (fun w => w.cell? ⟨1, 0, none⟩ = some (.int .i64 m)) (tx [66, 50, 47, 83, 47, 67, 51]) (tx [47, 67]) w 4 (fun w h => index1 m w h) hm (by decide) (by decide)
  rwa [show (tx [66, 50, 47, 83, 47, 67, 51]).extract 0 4 = tx [66, 50, 47, 83] from by decide +kernel, show (tx [66, 50, 47, 83, 47, 67, 51]).extract (4 + (tx [47, 67]).size) (tx [66, 50, 47, 83, 47, 67, 51]).size = tx [51] from by decide +kernel] at h
theorem cut2 (m : Int) (w : World) (hm : w.cell? ⟨1, 0, none⟩ = some (.int .i64 m)) :
    Calls Tryz.prog 39 #[.string (tx [66, 50, 47, 83, 47, 67, 50]), .string (tx [47, 67])] w fun e w' => e = .returned (.tuple #[.string (tx [66, 50, 47, 83]), .string (tx [50]), .bool true]) ∧ Below w.heap.size w w' := by
  have h := scut_yes (fun w => w.cell? ⟨1, 0, none⟩ = some (.int .i64 m)) (tx [66, 50, 47, 83, 47, 67, 50]) (tx [47, 67]) w 4 (fun w h => index2 m w h) hm (by decide) (by decide)
  rwa [show (tx [66, 50, 47, 83, 47, 67, 50]).extract 0 4 = tx [66, 50, 47, 83] from by decide +kernel, show (tx [66, 50, 47, 83, 47, 67, 50]).extract (4 + (tx [47, 67]).size) (tx [66, 50, 47, 83, 47, 67, 50]).size = tx [50] from by decide +kernel] at h
theorem cut3 (m : Int) (w : World) (hm : w.cell? ⟨1, 0, none⟩ = some (.int .i64 m)) :
    Calls Tryz.prog 39 #[.string (tx [66, 51, 47, 83, 50, 51]), .string (tx [47, 67])] w fun e w' => e = .returned (.tuple #[.string (tx [66, 51, 47, 83, 50, 51]), .string (tx []), .bool false]) ∧ Below w.heap.size w w' := by
  exact scut_no (fun w => w.cell? ⟨1, 0, none⟩ = some (.int .i64 m)) (tx [66, 51, 47, 83, 50, 51]) (tx [47, 67]) w (fun w h => index3 m w h) hm
theorem cut4 (m : Int) (w : World) (hm : w.cell? ⟨1, 0, none⟩ = some (.int .i64 m)) :
    Calls Tryz.prog 39 #[.string (tx [66, 50, 47, 83, 51, 52, 53, 47, 67, 52]), .string (tx [47, 67])] w fun e w' => e = .returned (.tuple #[.string (tx [66, 50, 47, 83, 51, 52, 53]), .string (tx [52]), .bool true]) ∧ Below w.heap.size w w' := by
  have h := scut_yes (fun w => w.cell? ⟨1, 0, none⟩ = some (.int .i64 m)) (tx [66, 50, 47, 83, 51, 52, 53, 47, 67, 52]) (tx [47, 67]) w 7 (fun w h => index4 m w h) hm (by decide) (by decide)
  rwa [show (tx [66, 50, 47, 83, 51, 52, 53, 47, 67, 52]).extract 0 7 = tx [66, 50, 47, 83, 51, 52, 53] from by decide +kernel, show (tx [66, 50, 47, 83, 51, 52, 53, 47, 67, 52]).extract (7 + (tx [47, 67]).size) (tx [66, 50, 47, 83, 51, 52, 53, 47, 67, 52]).size = tx [52] from by decide +kernel] at h
theorem cut5 (w : World) :
    Calls Tryz.prog 39 #[.string (tx [47, 50, 47, 51]), .string (tx [47])] w fun e w' => e = .returned (.tuple #[.string (tx []), .string (tx [50, 47, 51]), .bool true]) ∧ Below w.heap.size w w' := by
  have h := scut_yes (fun _ => True) (tx [47, 50, 47, 51]) (tx [47]) w 0 (fun w _ => index5 w) trivial (by decide) (by decide)
  rwa [show (tx [47, 50, 47, 51]).extract 0 0 = tx [] from by decide +kernel, show (tx [47, 50, 47, 51]).extract (0 + (tx [47]).size) (tx [47, 50, 47, 51]).size = tx [50, 47, 51] from by decide +kernel] at h
theorem cut6 (w : World) :
    Calls Tryz.prog 39 #[.string (tx [50, 47, 51]), .string (tx [47])] w fun e w' => e = .returned (.tuple #[.string (tx [50]), .string (tx [51]), .bool true]) ∧ Below w.heap.size w w' := by
  have h := scut_yes (fun _ => True) (tx [50, 47, 51]) (tx [47]) w 1 (fun w _ => index6 w) trivial (by decide) (by decide)
  rwa [show (tx [50, 47, 51]).extract 0 1 = tx [50] from by decide +kernel, show (tx [50, 47, 51]).extract (1 + (tx [47]).size) (tx [50, 47, 51]).size = tx [51] from by decide +kernel] at h
theorem cut7 (w : World) :
    Calls Tryz.prog 39 #[.string (tx [66, 51, 47, 83, 50, 51]), .string (tx [47])] w fun e w' => e = .returned (.tuple #[.string (tx [66, 51]), .string (tx [83, 50, 51]), .bool true]) ∧ Below w.heap.size w w' := by
  have h := scut_yes (fun _ => True) (tx [66, 51, 47, 83, 50, 51]) (tx [47]) w 2 (fun w _ => index7 w) trivial (by decide) (by decide)
  rwa [show (tx [66, 51, 47, 83, 50, 51]).extract 0 2 = tx [66, 51] from by decide +kernel, show (tx [66, 51, 47, 83, 50, 51]).extract (2 + (tx [47]).size) (tx [66, 51, 47, 83, 50, 51]).size = tx [83, 50, 51] from by decide +kernel] at h
theorem cut8 (w : World) :
    Calls Tryz.prog 39 #[.string (tx [83, 50, 51]), .string (tx [47])] w fun e w' => e = .returned (.tuple #[.string (tx [83, 50, 51]), .string (tx []), .bool false]) ∧ Below w.heap.size w w' := by
  exact scut_no (fun _ => True) (tx [83, 50, 51]) (tx [47]) w (fun w _ => index8 w) trivial
end Go.Proofs.YtbdgfegafckkbaaGreatDoor
