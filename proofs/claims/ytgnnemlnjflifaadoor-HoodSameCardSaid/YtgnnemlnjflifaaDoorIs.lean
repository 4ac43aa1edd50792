/- The walk of the reference's Same on equal lists of numbers; the examples' closed facts. -/
import Derived.Test.YtgnnemlnjflifaaDoorSyms
import Derived.Test.YtgnnemlnjflifaaDoorRad
namespace Go.Proofs.YtgnnemlnjflifaaDoor
open Go.RowKit

set_option maxRecDepth 100000 in
set_option maxHeartbeats 1000000 in
theorem isame_yes (A A' : Option Addr) (n c c' : Nat) (l : List Nat) (w : World) (h : Reads w w.heap.size A n (ints l)) (h' : Reads w w.heap.size A' n (ints l)) (hn : n ≤ 1000000) :
    Calls Tryd.prog 13 #[.slice A n c, .slice A' n c'] w fun e w' => e = .returned (.bool true) ∧ Below w.heap.size w w' := by
  have H := Lib.hid h
  have H' := Lib.hid h'
  clear h h'
  go_enter Tryd.func13, Tryd.ntmps13
  go_wp2
  go_loopw [5] (fun iv wr => ∃ j : Nat, j ≤ n ∧ iv = .int .i64 (j : Int) ∧ Below w.heap.size w wr) (fun iv _ => n - (intOf iv).toNat)
  case atStart => exact ⟨0, Nat.zero_le _, rfl, Below.refl _ _⟩
  case round =>
    obtain ⟨j, hj, rfl, hbel⟩ := hrel
    have HB := Lib.hid hbel
    by_cases hk : j < n
    · obtain ⟨a1, rfl, hb1, hc1⟩ := ints_at (H.out.below hbel) hk
      obtain ⟨a2, rfl, hb2, hc2⟩ := ints_at (H'.out.below hbel) hk
      clear hbel
      generalize ((l.getD j 0 : Nat) : Int) = x at hc1 hc2
      go_wp2_with fail
      go_quiet (fail)
      go_wp2
      go_roundw
      case rel => exact ⟨j + 1, by omega, by go_num, below_drewN HB.out _⟩
      case measure => simp [intOf]; omega
    · obtain rfl : j = n := by omega
      clear hbel
      go_wp2
      go_ret
      exact ⟨rfl, HB.out⟩

theorem Reads.of_blk {w : World} {g : Nat} {t : TypeId} {xs : List Value} (h : Blk w g t xs.toArray) : Reads w w.heap.size (some ⟨g, 0, none⟩) xs.length xs := by
  refine ⟨rfl, fun _ => ⟨_, rfl, h.lt, fun j u hj => ?_⟩⟩
  have e : ((⟨g, 0, none⟩ : Addr).add j) = ⟨g, j, none⟩ := by
    unfold Addr.add
    split
    · next e => subst e; rfl
    · simp
  rw [e, h.cell]
  simpa using hj
theorem Reads.later {w w' : World} {A : Option Addr} {n : Nat} {xs : List Value} (h : Reads w w.heap.size A n xs) (hb : Below w.heap.size w w') : Reads w' w'.heap.size A n xs := (h.below hb).more hb.size
/-- a list held and a new one of the same numbers -/
theorem isame_new (A : Option Addr) (c n : Nat) (l : List Nat) (cs : Array Value) (w : World) (hl : l.length = n) (hcs : cs = (ints l).toArray) (h : Reads w w.heap.size A n (ints l)) (hn : n ≤ 100) :
    Calls Tryd.prog 13 #[.slice A n c, .slice (some ⟨w.heap.size, 0, none⟩) n n] (w.alloc (.cells cs 3)) fun e w'' => e = .returned (.bool true) ∧ Below w.heap.size w w'' := by
  subst hl
  subst hcs
  have K := Blk.new w 3 (ints l).toArray
  have hal := (Below.refl w.heap.size w).alloc (Nat.le_refl _) (.cells (ints l).toArray 3)
  have R := Reads.of_blk K
  rw [show (ints l).length = l.length by simp [ints]] at R
  exact (isame_yes A (some ⟨w.heap.size, 0, none⟩) l.length c l.length l _ (h.later hal) R (by omega)).mono fun e w'' ⟨he, hx⟩ => ⟨he, hal.trans (hx.mono hal.size)⟩
theorem QReads.of_blk {w : World} {g : Nat} {t : TypeId} {l : List P2} (h : Blk w g t (cl l).toArray) : QReads w w.heap.size (some ⟨g, 0, none⟩) l.length (lf l) := fun _ => by
  refine ⟨g, 0, rfl, h.lt, fun k hk => ?_⟩
  rw [cl_lf] at h
  obtain ⟨c1, c2⟩ := cells2_at (lf l) l.length k hk
  simp only [Nat.zero_add]
  refine ⟨?_, ?_⟩
  · rw [h.cell, List.getElem?_toArray, c1]
  · rw [h.cell, List.getElem?_toArray, c2]

theorem hd_M1 : Hd (lf M1) 9 := by decide +kernel
theorem hd_M2 : Hd (lf M2) 25 := by decide +kernel
theorem hd_N1 : Hd (lf N1) 5 := by decide +kernel
theorem hd_HX : Hd (lf HX) 7 := by decide +kernel
theorem hd_one : Hd (lf [(1, 0)]) 1 := by decide +kernel
theorem rd_M2 : rd (lf M2) 25 = 2 := by decide +kernel
theorem ce_M1 : lf M1 4 = (0, 0) := by decide +kernel
theorem ce_M1' : ∀ i, i < 4 → lf M1 i ≠ (0, 0) := by decide +kernel
theorem at_N1 : lf N1 1 = (-1, 0) := by decide +kernel
theorem sy_HX : sy (lf HX) 7 8 = [0, 2, 5, 7] := by decide +kernel
theorem sy_one : sy (lf [(1, 0)]) 1 8 = [0, 6] := by decide +kernel
theorem sm_NH : sm (lf N1) 5 (lf HX) 7 = false := by decide +kernel
theorem syms_hex (A : Option Addr) (c : Nat) (w : World) (hM : Mat w) (h : QReads w w.heap.size A 7 (lf HX)) :
    Calls Tryd.prog 14 #[.slice A 7 c] w fun e w' => ∃ A' c', e = .returned (.slice A' 4 c') ∧ Reads w' w'.heap.size A' 4 (ints [0, 2, 5, 7]) ∧ Below w.heap.size w w' := by
  have := syms_any A 7 c (lf HX) w hM h hd_HX
  rwa [sy_HX] at this
theorem syms_one (c : Nat) (w : World) (hM : Mat w) :
    Calls Tryd.prog 14 #[.slice (some ⟨w.heap.size, 0, none⟩) 1 c] (w.alloc (.cells #[.int .i64 1, .int .i64 0] 27)) fun e w' => ∃ A' c', e = .returned (.slice A' 2 c') ∧ Reads w' w'.heap.size A' 2 (ints [0, 6]) ∧ Below w.heap.size w w' := by
  have hal := (Below.refl w.heap.size w).alloc (Nat.le_refl _) (.cells #[.int .i64 1, .int .i64 0] 27)
  have := syms_any (some ⟨w.heap.size, 0, none⟩) 1 c (lf [(1, 0)]) (w.alloc (.cells #[.int .i64 1, .int .i64 0] 27)) (hM.below hal hM.1) (QReads.of_blk (l := [(1, 0)]) (Blk.new w 27 _)) hd_one
  rw [sy_one] at this
  exact this.mono fun e w' ⟨A', c', h1, h2, hb⟩ => ⟨A', c', h1, h2, hal.trans (hb.mono hal.size)⟩
end Go.Proofs.YtgnnemlnjflifaaDoor
