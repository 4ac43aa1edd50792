/- The walks of tree.Quiet at valid trees, and of the reference's Quiet. -/
import Derived.Test.YtaicehkphokacaaMav
import Derived.Test.YtaicehkphokacaaMar
import Derived.Test.YtaicehkphokacaaMap
namespace Go.Proofs.Ytaicehkphokacaa
open Go.RowKit

theorem made_il0 (n : Nat) : madeCells #[Value.int .i64 0] n = (il (List.replicate n 0)).toArray := by
  apply Array.ext
  · simp [madeCells, il]
  · intro i h1 h2
    simp [madeCells, il, Nat.mod_one]
theorem mk_intz (n : Nat) (hn : n ≤ 1000000) (w : World) : (Instr.makeSlice 38 (.int .i64 (n : Int)) (.int .i64 (n : Int))).run Try.prog w = .ok (.slice (some ⟨w.heap.size, 0, none⟩) n n) (w.alloc (.cells (il (List.replicate n 0)).toArray 3)) := by
  rw [run_make_row' 38 3 (.int .i64 0) 8 Try.underlying38 Try.info_intL rfl .i64 .i64 n (by omega) (by omega) w, made_il0]
/-- the rule as a function of the states -/
def gT (T : Tr) (l : List Int) : Int := fo T.nx ((T.m - 1 : Nat) : Int) l
theorem zeros_als {st : Int} (hs : 2 ≤ st) (n : Nat) : als st (List.replicate n 0) = true := by
  rw [als_iff]
  intro i hi
  have : ig (List.replicate n 0) i = 0 := by
    simp at hi
    simp [ig, List.getD_eq_getElem?_getD, hi]
  rw [this]
  omega
theorem zeros_reads {w w' : World} {n : Nat} (hb : Below (w.heap.size + 1) (w.alloc (.cells (il (List.replicate n 0)).toArray 3)) w') : Reads w' w'.heap.size (some ⟨w.heap.size, 0, none⟩) n (il (List.replicate n 0)) := by
  have K := (Blk.new w 3 (il (List.replicate n 0)).toArray).below hb (Nat.lt_succ_self _)
  have := Reads.of_blk (xs := il (List.replicate n 0)) K
  have e : (il (List.replicate n 0)).length = n := by simp [il]
  rwa [e] at this
section
variable (AH AN : Option Addr) (cH cN : Nat) (T : Tr) (w : World)
set_option maxRecDepth 100000 in
set_option maxHeartbeats 4000000 in
theorem quiet_any (h : TS w AH AN T) (ht : Rt T) :
    Calls Try.prog 47 #[.agg #[.int .i64 T.st, .slice AH T.n cH, .slice AN T.m cN]] w fun e w' => e = .returned (.bool (gT T (List.replicate T.n 0) == 0)) ∧ Below w.heap.size w w' := by
  have RI := Lib.hid (fun w' (hb : Below w.heap.size w w') => tright_yes AH cH AN cN T w' (h.later hb) ht)
  have FO := Lib.hid (fun w' A c (hb : Below w.heap.size w w') (hr : Reads w' w'.heap.size A T.n (il (List.replicate T.n 0))) => follow_any AH cH AN cN T A c (List.replicate T.n 0) w' (h.2.later hb) ht hr (zeros_als ht.s1 T.n))
  have n25 := ht.hd.1.2
  have HG := Lib.hid (show fo T.nx ((T.m - 1 : Nat) : Int) (List.replicate T.n 0) = gT T (List.replicate T.n 0) from rfl)
  rw [HG.out] at FO
  generalize gT T (List.replicate T.n 0) = V at *
  clear h ht HG
  obtain ⟨st, n, f, m, lv, nx⟩ := T
  simp only at *
  have mk := fun w => mk_intz n (by omega) w
  have K1 := Blk.new w 25 #[.int .i64 st, .slice AH n cH, .slice AN m cN]
  have B1 := (Below.refl w.heap.size w).alloc (Nat.le_refl _) (.cells #[.int .i64 st, .slice AH n cH, .slice AN m cN] 25)
  go_enter Try.func47, Try.ntmps47
  go_wp2_with fail
  generalize w.alloc (.cells #[.int .i64 st, .slice AH n cH, .slice AN m cN] 25) = w0 at *
  obtain ⟨a0, a1, a2, _, _, _, a3⟩ := K1.three6
  have B1 := Lib.hid B1.drew
  have K1 := Lib.hid K1.drew
  go_region_with (first
    | (go_at_call 66; (with_reducible refine (RI.out _ B1.out).mono ?_); rintro e w1 ⟨rfl, hb⟩; have B2 := Lib.hid (B1.out.trans (hb.mono B1.out.size)); have K2 := Lib.hid (K1.out.below hb K1.out.lt); obtain ⟨b0, b1, b2, _, _, _, b3⟩ := K2.out.three6; obtain ⟨d0, d1, d2, _, _, _, d3⟩ := (K2.out.alloc (.cells (il (List.replicate n 0)).toArray 3)).three6; have B3 := Lib.hid (B2.out.alloc B2.out.size (.cells (il (List.replicate n 0)).toArray 3)); have R3 := Lib.hid (zeros_reads (w := w1) (n := n) (Below.refl _ _)); clear hb)
    | (go_at_call 69; (with_reducible refine (FO.out _ _ _ B3.out R3.out).mono ?_); rintro e w4 ⟨rfl, hb⟩; have B4 := Lib.hid (B3.out.trans (hb.mono B3.out.size)); clear hb))
  all_goals
    go_wp2
    go_ret
    exact ⟨rfl, B4.out⟩
set_option maxRecDepth 100000 in
set_option maxHeartbeats 4000000 in
theorem rquiet_any (h : TS w AH AN T) (hs : Sm T) :
    Calls Try.prog 6 #[.agg #[.int .i64 T.st, .slice AH T.n cH, .slice AN T.m cN]] w fun e w' => BoolThat (Rt T ∧ gT T (List.replicate T.n 0) = 0) w e w' := by
  have RR := Lib.hid (fun w' (hb : Below w.heap.size w w') => rr_any AH cH AN cN T w' (h.later hb) hs)
  have EV := Lib.hid (fun w' A c (ht : Rt T) (hb : Below w.heap.size w w') (hr : Reads w' w'.heap.size A T.n (il (List.replicate T.n 0))) => (show Calls Try.prog 19 #[.agg #[.int .i64 T.st, .slice AH T.n cH, .slice AN T.m cN], .slice A T.n c] w' fun e w'' => e = .returned (.tuple #[.int .i64 (gT T (List.replicate T.n 0)), .int .i64 0]) ∧ Below w'.heap.size w' w'' from by
    have q := reval_any AH cH AN cN T A c (List.replicate T.n 0) w' T.n (h.later hb) ht hr (by have := ht.hd.1.2; omega)
    have e : ev T.st T.n (List.replicate T.n 0) (fo T.nx ((T.m - 1 : Nat) : Int) (List.replicate T.n 0)) = (gT T (List.replicate T.n 0), 0) := by
      unfold ev
      rw [if_pos (by simp), if_pos (zeros_als ht.s1 T.n)]
      rfl
    rw [e] at q
    exact q))
  have n25 := hs.1
  generalize gT T (List.replicate T.n 0) = V at *
  clear h hs
  generalize Rt T = RTT at *
  obtain ⟨st, n, f, m, lv, nx⟩ := T
  simp only at *
  have mk := fun w => mk_intz n (by omega) w
  have K1 := Blk.new w 25 #[.int .i64 st, .slice AH n cH, .slice AN m cN]
  have B1 := (Below.refl w.heap.size w).alloc (Nat.le_refl _) (.cells #[.int .i64 st, .slice AH n cH, .slice AN m cN] 25)
  go_enter Try.func6, Try.ntmps6
  go_upto_region 1 with (fail)
  generalize w.alloc (.cells #[.int .i64 st, .slice AH n cH, .slice AN m cN] 25) = w0 at *
  have B1 := Lib.hid B1
  obtain ⟨t0, t1, t2, _, _, _, t3⟩ := K1.three6
  have K1 := Lib.hid K1
  go_wp2_with fail
  go_at_call 18
  refine (RR.out _ B1.out).mono ?_
  rintro e w2 ⟨b, rfl, hq, hb⟩
  have B2 := Lib.hid (B1.out.trans (hb.mono B1.out.size))
  have K2 := Lib.hid (K1.out.below hb K1.out.lt)
  have HQ := Lib.hid hq
  clear hb hq t0 t1 t2 t3
  cases b with
  | false =>
    go_wp2
    go_ret
    exact ⟨false, rfl, fun h => absurd h (by decide), B2.out⟩
  | true =>
    exact (by
      go_wp2_with fail
      obtain ⟨t0, t1, t2, _, _, _, t3⟩ := K2.out.three6
      obtain ⟨d0, d1, d2, _, _, _, d3⟩ := (K2.out.alloc (.cells (il (List.replicate n 0)).toArray 3)).three6
      have B3 := Lib.hid (B2.out.alloc B2.out.size (.cells (il (List.replicate n 0)).toArray 3)).drew
      have R3 := Lib.hid (show Reads ((w2.alloc (.cells (il (List.replicate n 0)).toArray 3)).drew) ((w2.alloc (.cells (il (List.replicate n 0)).toArray 3)).drew).heap.size (some ⟨w2.heap.size, 0, none⟩) n (il (List.replicate n 0)) from zeros_reads (Below.refl _ _).drew)
      have E3 := Lib.hid (EV.out _ _ n (HQ.out (by trivial)) B3.out R3.out)
      go_region_with (go_at_call 19; (with_reducible refine (E3.out).mono ?_); rintro e w4 ⟨rfl, hb⟩; have B4 := Lib.hid (B3.out.trans (hb.mono B3.out.size)); clear hb)
      all_goals
        go_wp2
        go_ret
        exact ⟨_, rfl, fun h => ⟨HQ.out (by trivial), by simpa using h⟩, B4.out⟩)
end
end Go.Proofs.Ytaicehkphokacaa
