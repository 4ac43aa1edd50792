/- The walk of Quiet at the examples. -/
import Derived.Test.YtkdcciajihoimaaSiz
namespace Go.Proofs.Ytkdcciajihoimaa
open Go.RowKit

theorem zs2_reads (w w' : World) (hb : Below (w.heap.size + 1) (w.alloc (.cells (zs 2) 3)) w') : Reads w' w'.heap.size (some ⟨w.heap.size, 0, none⟩) 2 (il [0, 0]) := by
  have K : Blk w' w.heap.size 3 #[.int .i64 0, .int .i64 0] := (Blk.new w 3 (zs 2)).below hb (Nat.lt_succ_self _)
  exact ⟨by simp [il], fun _ => ⟨_, rfl, K.lt, fun j u hj => by
    match j, hj with
    | 0, hj => simp [il] at hj; subst hj; exact K.two.1
    | 1, hj => simp [il] at hj; subst hj; exact K.two.2.1⟩⟩
set_option maxRecDepth 100000 in
set_option maxHeartbeats 4000000 in
theorem quiet_ex (T : Tr) (ht : Rt T) (hn : T.n = 2) (r : Bool) (hv : (fo T.nx ((T.m - 1 : Nat) : Int) [0, 0] == 0) = r) (AH AN : Option Addr) (cH cN : Nat) (w : World) (h : TS w AH AN T) :
    Calls Try.prog 13 #[.agg #[.int .i64 T.st, .slice AH T.n cH, .slice AN T.m cN]] w fun e w' => e = .returned (.bool r) ∧ Below w.heap.size w w' := by
  have RI := Lib.hid (fun w' (hb : Below w.heap.size w w') => tright_yes AH cH AN cN T w' (h.later hb) ht)
  have hs := ht.s1
  have hs2 := ht.s2
  have FO := Lib.hid (fun w' A c (hb : Below w.heap.size w w') (hr : Reads w' w'.heap.size A 2 (il [0, 0])) => follow_any AH cH AN cN T A c [0, 0] w' (h.2.later hb) ht (by rw [hn]; exact hr) ((als_iff _ _).2 (fun i hi => by
    match i, hi with
    | 0, _ => exact ⟨by decide, by show (0 : Int) < T.st; omega⟩
    | 1, _ => exact ⟨by decide, by show (0 : Int) < T.st; omega⟩)))
  clear h ht
  obtain ⟨st, n, f, m, lv, nx⟩ := T
  simp only at *
  subst hn
  generalize fo nx ((m - 1 : Nat) : Int) [0, 0] = V at FO hv
  have mk := mk_2
  have K1 := Blk.new w 25 #[.int .i64 st, .slice AH 2 cH, .slice AN m cN]
  have B1 := (Below.refl w.heap.size w).alloc (Nat.le_refl _) (.cells #[.int .i64 st, .slice AH 2 cH, .slice AN m cN] 25)
  go_enter Try.func13, Try.ntmps13
  go_wp2_with fail
  generalize w.alloc (.cells #[.int .i64 st, .slice AH 2 cH, .slice AN m cN] 25) = w0 at *
  obtain ⟨a0, a1, a2, a3⟩ := K1.three
  have B1 := Lib.hid B1.drew
  have K1 := Lib.hid K1.drew
  go_region_with (first
    | (go_at_call 8; (with_reducible refine (RI.out _ B1.out).mono ?_); rintro e w1 ⟨rfl, hb⟩; have B2 := Lib.hid (B1.out.trans (hb.mono B1.out.size)); have K2 := Lib.hid (K1.out.below hb K1.out.lt); obtain ⟨b0, b1, b2, b3⟩ := K2.out.three; obtain ⟨d0, d1, d2, d3⟩ := (K2.out.alloc (.cells (zs 2) 3)).three; have B3 := Lib.hid (B2.out.alloc B2.out.size (.cells (zs 2) 3)); have R3 := Lib.hid (zs2_reads w1 _ (Below.refl _ _)); clear hb)
    | (go_at_call 19; (with_reducible refine (FO.out _ _ _ B3.out R3.out).mono ?_); rintro e w4 ⟨rfl, hb⟩; have B4 := Lib.hid (B3.out.trans (hb.mono B3.out.size)); clear hb))
  all_goals
    go_wp2
    go_ret
    exact ⟨rfl, B4.out⟩
end Go.Proofs.Ytkdcciajihoimaa
