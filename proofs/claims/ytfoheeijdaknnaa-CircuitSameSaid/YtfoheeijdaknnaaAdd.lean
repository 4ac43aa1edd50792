/- The walk of Adder; the chapter's examples as values. -/
import Derived.Test.YtfoheeijdaknnaaEvl
import Derived.Test.YtfoheeijdaknnaaDep
import Derived.Test.YtfoheeijdaknnaaSam
import Derived.Test.YtfoheeijdaknnaaJn
import Derived.Test.YtfoheeijdaknnaaSb
namespace Go.Proofs.Ytfoheeijdaknnaa
open Go.RowKit

/-- the half adder -/
def had : Cr := ⟨2, 2, fun k => if k = 0 then (5, 0, 1) else (3, 0, 1), [2, 3]⟩
/-- two half adders, one behind the other -/
def hjn : Cr := jn had had
/-- a gate that is its own operand -/
def hbad : Cr := ⟨0, 1, fun _ => (2, 0, 0), []⟩
theorem had_rt : rt had = true := by decide +kernel
theorem hjn_rt : rt hjn = true := by decide +kernel
theorem hbad_rt : rt hbad = false := by decide +kernel
theorem had_ev : evb had [true, true] = [false, true] := by decide +kernel
theorem hjn_ev : evb hjn [true, true] = [true, false] := by decide +kernel
theorem had_wd : ow (wv had.g [12, 10] had.n) had.o = [6, 8] := by decide +kernel
theorem had_dp : dp had = 1 := by decide +kernel
theorem hjn_dp : dp hjn = 2 := by decide +kernel
theorem had_hjn : qs had hjn = false := by decide +kernel
theorem had_reads {w : World} {g o : Nat} (hg : Blk w g 43 #[.int .i64 5, .int .i64 0, .int .i64 1, .int .i64 3, .int .i64 0, .int .i64 1]) (ho : Blk w o 3 #[.int .i64 2, .int .i64 3]) : CS w (some ⟨g, 0, none⟩) (some ⟨o, 0, none⟩) had := by
  refine ⟨fun _ => ⟨g, 0, rfl, hg.lt, fun k hk => ?_⟩, Reads.of_blk (xs := il [2, 3]) ho⟩
  match k, hk with
  | 0, _ => exact ⟨hg.cell 0, hg.cell 1, hg.cell 2⟩
  | 1, _ => exact ⟨hg.cell 3, hg.cell 4, hg.cell 5⟩
theorem adder_any (w : World) : Calls Try.prog 7 #[] w fun e w' => ∃ AG cG AO cO, e = .returned (.agg #[.int .i64 2, .slice AG 2 cG, .slice AO 2 cO]) ∧ CS w' AG AO had ∧ Below w.heap.size w w' := by
  have K0 := Blk.new w 25 #[.int .i64 0, .slice none 0 0, .slice none 0 0]
  have B0 := (Below.refl w.heap.size w).alloc (Nat.le_refl _) (.cells #[.int .i64 0, .slice none 0 0, .slice none 0 0] 25)
  go_enter Try.func7, Try.ntmps7
  go_upto_region 1 with (fail)
  generalize w.alloc (.cells #[.int .i64 0, .slice none 0 0, .slice none 0 0] 25) = w1 at *
  obtain ⟨a0, a1, a2, a3, a4, a5, a6⟩ := K0.three6
  go_wp2
  have K1 := K0.all3 (.int .i64 2) (.slice (some ⟨w1.heap.size, 0, none⟩) 2 2) (.slice (some ⟨w1.heap.size + 1, 0, none⟩) 2 2)
  have B1 := Below.set1 (i := 2) (Below.set1 (i := 1) (Below.set1 (i := 0) B0 (Nat.le_refl _) (.int .i64 2)) (Nat.le_refl _) (.slice (some ⟨w1.heap.size, 0, none⟩) 2 2)) (Nat.le_refl _) (.slice (some ⟨w1.heap.size + 1, 0, none⟩) 2 2)
  have hs : (((w1.setCell ⟨w.heap.size, 0, none⟩ (.int .i64 2)).setCell ⟨w.heap.size, 1, none⟩ (.slice (some ⟨w1.heap.size, 0, none⟩) 2 2)).setCell ⟨w.heap.size, 2, none⟩ (.slice (some ⟨w1.heap.size + 1, 0, none⟩) 2 2)).heap.size = w1.heap.size := by simp
  generalize ((w1.setCell ⟨w.heap.size, 0, none⟩ (.int .i64 2)).setCell ⟨w.heap.size, 1, none⟩ (.slice (some ⟨w1.heap.size, 0, none⟩) 2 2)).setCell ⟨w.heap.size, 2, none⟩ (.slice (some ⟨w1.heap.size + 1, 0, none⟩) 2 2) = w2 at *
  rw [← hs] at K1 ⊢
  have K2 := (K1.alloc (.cells #[.int .i64 5, .int .i64 0, .int .i64 1, .int .i64 3, .int .i64 0, .int .i64 1] 43)).alloc (.cells #[.int .i64 2, .int .i64 3] 3)
  have G2 := (Blk.new w2 43 #[.int .i64 5, .int .i64 0, .int .i64 1, .int .i64 3, .int .i64 0, .int .i64 1]).alloc (.cells #[.int .i64 2, .int .i64 3] 3)
  have O2 := Blk.new1 w2 (.cells #[.int .i64 5, .int .i64 0, .int .i64 1, .int .i64 3, .int .i64 0, .int .i64 1] 43) 3 #[.int .i64 2, .int .i64 3]
  have BB := Below.alloc' (Below.alloc' (Below.refl w2.heap.size w2) (.cells #[.int .i64 5, .int .i64 0, .int .i64 1, .int .i64 3, .int .i64 0, .int .i64 1] 43)) (.cells #[.int .i64 2, .int .i64 3] 3)
  obtain ⟨y0, y1, y2, _, _, _, _⟩ := K2.three6
  exact bodyPost_ret (v := .agg #[.int .i64 2, .slice (some ⟨w2.heap.size, 0, none⟩) 2 2, .slice (some ⟨w2.heap.size + 1, 0, none⟩) 2 2]) (by simp [results, Try.results7, go_sem, y0, y1, y2]) rfl ⟨_, _, _, _, rfl, had_reads G2 O2, B1.trans (BB.mono B1.size)⟩
end Go.Proofs.Ytfoheeijdaknnaa
