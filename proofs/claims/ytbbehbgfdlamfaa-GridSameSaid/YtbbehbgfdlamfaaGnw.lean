/- The walks of New at any valid size and of Set at any cell of a valid grid. -/
import Derived.Test.YtbbehbgfdlamfaaGri
import Derived.Test.YtbbehbgfdlamfaaGap
import Derived.Test.YtbbehbgfdlamfaaCIIclone
namespace Go.Proofs.Ytbbehbgfdlamfaa
open Go.RowKit

theorem made_il (n : Nat) : (madeCells (Value.int .i64 0).cells (n * 1)).toList = il (List.replicate n 0) := by
  apply List.ext_getElem?
  intro k
  by_cases h : k < n <;> simp [madeCells, Value.cells, Nat.mod_one, il, h]
set_option maxRecDepth 100000 in
set_option maxHeartbeats 1000000 in
theorem gnew_any (W H n : Nat) (E : Int) (w : World) (hN : H * W = n) (hs : vsh W H E = true) :
    Calls Try.prog 10 #[.int .i64 (W : Int), .int .i64 (H : Int), .int .i64 E] w fun e w' => ∃ g, e = .returned (.tuple #[.agg #[.int .i64 (W : Int), .int .i64 (H : Int), .int .i64 E, .slice (some ⟨g, 0, none⟩) n n], .int .i64 0]) ∧ w'.ownsRow (w.heap.size + 1) 3 1 (.slice (some ⟨g, 0, none⟩) n n) n (il (List.replicate n 0)) ∧ Below w.heap.size w w' := by
  obtain ⟨i0, hi, hz0, hz1, hz2⟩ := info_parts Try.info_int
  obtain ⟨⟨w1, w2⟩, ⟨h1, h2⟩, p1, e1, e2⟩ := (vsh_iff W H E).1 hs
  have hnI : (W : Int) * (H : Int) = (n : Int) := by rw [← hN, Int.mul_comm]; simp
  have hn : n ≤ 4096 := by omega
  have S := Lib.hid (fun w => by have := gshape_any W H E w; rwa [hs] at this)
  have K := Lib.hid (Blk.new w 24 #[.int .i64 0, .int .i64 0, .int .i64 0, .slice none 0 0])
  have B := Lib.hid ((Below.refl w.heap.size w).alloc (Nat.le_refl _) (.cells #[.int .i64 0, .int .i64 0, .int .i64 0, .slice none 0 0] 24))
  have s0 : w.heap.size + 1 ≤ (w.alloc (.cells #[.int .i64 0, .int .i64 0, .int .i64 0, .slice none 0 0] 24)).heap.size := by simp
  clear hs p1 hN
  generalize hw0 : w.alloc (.cells #[.int .i64 0, .int .i64 0, .int .i64 0, .slice none 0 0] 24) = w0 at K B s0
  go_enter Try.func10, Try.ntmps10
  go_upto_region 1 with (fail)
  clear hw0
  go_wp2_with (first
    | (go_at_call 20; (with_reducible refine (S.out _).mono ?_); rintro e w' ⟨rfl, rfl⟩)
    | (at_make; refine wpList_make_full _ rfl _ _ 22 rfl (w.heap.size + 1) 3 i0 (.int .i64 0) 1 Try.underlying22 hi hz0 hz1 .i64 .i64 _ _ n rfl rfl (by first | rfl | omega) (by first | rfl | omega) (by rw [hz2]; omega) (by unfold maxLen; omega) s0 ?_; intro w5 hown5 hgrow5; rw [made_il] at hown5; have L5 := Below.grown (Below.refl w0.heap.size w0) hgrow5 (Nat.le_refl _) (fun k hk => by cases hk); have O5 := Lib.hid hown5; have K5 := Lib.hid (K.out.below L5 K.out.lt); have B5 := Lib.hid (B.out.trans (L5.mono B.out.size)); obtain ⟨l0, l1, l2, l3, l4, l5, l6, l7, l8⟩ := K5.out.four8; clear hown5 hgrow5 L5))
  have E1 := Blk.put4 (a := .int .i64 (W : Int)) (b := .int .i64 (H : Int)) (c := .int .i64 E) (d := .slice (some ⟨w0.heap.size, 0, none⟩) n n) K5.out
  have HZ := Below.put4 (a := .int .i64 (W : Int)) (b := .int .i64 (H : Int)) (c := .int .i64 E) (d := .slice (some ⟨w0.heap.size, 0, none⟩) n n) B5.out (Nat.le_refl _)
  have hf : ∀ i, (Value.slice (some ⟨w0.heap.size, 0, none⟩) n n).ownBlock ≠ some (⟨w.heap.size, i, none⟩ : Addr).block := fun i e => by
    have e : w0.heap.size = w.heap.size := by simpa [Value.ownBlock] using e
    omega
  have OZ : (put4 w5 w.heap.size (.int .i64 (W : Int)) (.int .i64 (H : Int)) (.int .i64 E) (.slice (some ⟨w0.heap.size, 0, none⟩) n n)).ownsRow (w.heap.size + 1) 3 1 (.slice (some ⟨w0.heap.size, 0, none⟩) n n) n (il (List.replicate n 0)) :=
    own_set (own_set (own_set (own_set O5.out (hf 0) _) (hf 1) _) (hf 2) _) (hf 3) _
  change bodyPost _ _ _ _ _ (put4 w5 w.heap.size (.int .i64 (W : Int)) (.int .i64 (H : Int)) (.int .i64 E) (.slice (some ⟨w0.heap.size, 0, none⟩) n n))
  generalize put4 w5 w.heap.size (.int .i64 (W : Int)) (.int .i64 (H : Int)) (.int .i64 E) (.slice (some ⟨w0.heap.size, 0, none⟩) n n) = wz at E1 HZ OZ ⊢
  obtain ⟨z0, z1, z2, z3, z4⟩ := E1.four
  refine bodyPost_ret (v := .tuple #[.agg #[.int .i64 (W : Int), .int .i64 (H : Int), .int .i64 E, .slice (some ⟨w0.heap.size, 0, none⟩) n n], .int .i64 0]) (by simp [results, Try.results10, go_sem, z0, z1, z2, z3, z4]) rfl ⟨_, rfl, OZ, HZ⟩
end Go.Proofs.Ytbbehbgfdlamfaa
