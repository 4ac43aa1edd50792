/- The walk of list. -/
import Derived.Test.YtbdgfegafckkbaaGreatDoorArr
import Derived.Test.YtbdgfegafckkbaaGreatDoorColl
namespace Go.Proofs.YtbdgfegafckkbaaGreatDoor
open Go.RowKit

/-- the numbers below n that a table has -/
def nl (p : Nat → Bool) (n : Nat) : List Int := ((List.range n).filter p).map fun (k : Nat) => (k : Int)
theorem nl_succ (p : Nat → Bool) (n : Nat) : nl p (n + 1) = if p n = true then nl p n ++ [(n : Int)] else nl p n := by
  unfold nl
  rw [List.range_succ, List.filter_append]
  by_cases h : p n = true <;> simp [h]
theorem nl_len (p : Nat → Bool) (n : Nat) : (nl p n).length ≤ n := by
  have := List.length_filter_le p (List.range n)
  simpa [nl] using this
set_option maxRecDepth 100000 in
set_option maxHeartbeats 2000000 in
theorem list_any (p : Nat → Bool) (w : World) :
    Calls Tryz.prog 43 #[.agg (bls p)] w fun e w' => ∃ A c, e = .returned (.slice A (nl p 10).length c) ∧ w'.ownsRow w.heap.size 3 1 (.slice A (nl p 10).length c) (nl p 10).length (il (nl p 10)) ∧ Below w.heap.size w w' := by
  obtain ⟨i0, hi, hz0, hz1, hz2⟩ := info_parts Tryz.info_int
  have X := fun k h w => run_bls p k h w
  have HB := Lib.hid ((Below.refl w.heap.size w).alloc (Nat.le_refl _) (.cells (bls p) 68))
  have K := Lib.hid (Blk.new w 68 (bls p))
  have hpos : w.heap.size ≤ (w.alloc (.cells (bls p) 68)).heap.size := by simp
  simp only [bls] at X HB K hpos ⊢
  have zz := Lib.hid X
  (try clear X)
  have X := zz
  clear zz
  go_enter Tryz.func43, Tryz.ntmps43
  go_wp2
  generalize w.alloc (.cells #[.bool (p 0), .bool (p 1), .bool (p 2), .bool (p 3), .bool (p 4), .bool (p 5), .bool (p 6), .bool (p 7), .bool (p 8), .bool (p 9)] 68) = w0 at HB K hpos ⊢
  go_loopw [3, 7] (fun lv jv wr => ∃ (j m : Nat) (l : List Int) (A : Option Addr) (c : Nat), j ≤ 10 ∧ jv = .int .i64 (j : Int) ∧ l = nl p j ∧ m = l.length ∧ m ≤ j ∧ lv = .slice A m c ∧ wr.ownsRow w.heap.size 3 1 (.slice A m c) m (il l) ∧ Below w.heap.size w wr) (fun _ jv _ => 10 - (intOf jv).toNat)
  case atStart => exact ⟨0, 0, [], none, 0, Nat.zero_le _, rfl, rfl, rfl, Nat.zero_le _, rfl, World.ownsRow_nil _ _ _ _, HB.out⟩
  case round =>
    obtain ⟨j, m, l, A, c, hj, rfl, hl, hm, hmj, rfl, hown, hbel⟩ := hrel
    have HL := Lib.hid hl
    have HM := Lib.hid hm
    have HE := Lib.hid hbel
    have hs := hbel.size
    clear hl hm hbel
    by_cases hjn : j < 10
    · have X1 := fun w => X.out j hjn w
      have step := fun (l' : List Int) (e : l' = if p j = true then l ++ [(j : Int)] else l) => (show l' = nl p (j + 1) by rw [e, nl_succ, ← HL.out])
      generalize p j = q at X1 step
      have STEP := Lib.hid step
      clear step
      cases q with
      | true =>
        go_wp2_with (at_builtin; refine wpList_append1 rfl _ _ 23 rfl w.heap.size 3 i0 (.int .i64 0) 8 Tryz.underlying23 hi hz0 hz1 hz2 rfl A m c _ rfl hown (.int .i64 (j : Int)) rfl rfl (by unfold maxLen; omega) (by omega) hs ?_; intro g' c' w2 hown' hbel')
        go_roundw
        case rel => exact ⟨j + 1, m + 1, l ++ [(j : Int)], some ⟨g', 0, none⟩, c', by omega, by go_num, STEP.out _ rfl, by rw [HM.out]; simp, by omega, rfl, by rw [il_add]; exact hown', HE.out.trans hbel'⟩
        case measure => simp [intOf]; omega
      | false =>
        go_wp2
        go_roundw
        case rel => exact ⟨j + 1, m, l, A, c, by omega, by go_num, STEP.out _ rfl, HM.out, by omega, rfl, hown, HE.out⟩
        case measure => simp [intOf]; omega
    · obtain rfl : j = 10 := by omega
      have hl := HL.out
      have hm := HM.out
      clear HL HM
      subst hl
      subst hm
      go_wp2
      go_ret
      exact ⟨A, c, rfl, hown, HE.out⟩
theorem Blk.ten {w : World} {g : Nat} {t : TypeId} {c0 c1 c2 c3 c4 c5 c6 c7 c8 c9 : Value} (h : Blk w g t #[c0, c1, c2, c3, c4, c5, c6, c7, c8, c9]) :
    w.cell? ⟨g, 0, none⟩ = some c0 ∧ w.cell? ⟨g, 1, none⟩ = some c1 ∧ w.cell? ⟨g, 2, none⟩ = some c2 ∧ w.cell? ⟨g, 3, none⟩ = some c3 ∧ w.cell? ⟨g, 4, none⟩ = some c4 ∧ w.cell? ⟨g, 5, none⟩ = some c5 ∧ w.cell? ⟨g, 6, none⟩ = some c6 ∧ w.cell? ⟨g, 7, none⟩ = some c7 ∧ w.cell? ⟨g, 8, none⟩ = some c8 ∧ w.cell? ⟨g, 9, none⟩ = some c9 ∧ g < w.heap.size :=
  ⟨by rw [h.cell]; rfl, by rw [h.cell]; rfl, by rw [h.cell]; rfl, by rw [h.cell]; rfl, by rw [h.cell]; rfl, by rw [h.cell]; rfl, by rw [h.cell]; rfl, by rw [h.cell]; rfl, by rw [h.cell]; rfl, by rw [h.cell]; rfl, h.lt⟩
end Go.Proofs.YtbdgfegafckkbaaGreatDoor
