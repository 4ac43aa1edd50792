/- The walks of Run and its closure. -/
/- The walk of pattern.Get at one cell. -/
/- The walk of parity. -/
import Derived.Test.YtaicehkphokacaaMbg
import Derived.Test.YtaicehkphokacaaMbf
import Derived.Test.YtaicehkphokacaaMaz
namespace Go.Proofs.Ytaicehkphokacaa
open Go.RowKit

set_option maxRecDepth 100000 in
theorem run1_any (D l c : Nat) (X : Option Addr) (v : Value) (W : World) (hb : Blk W D 27 #[v]) :
    Calls Try.prog 42 #[.slice X l c, .pointer (some ⟨D, 0, none⟩)] W fun e W' => e = .returned (.tuple #[]) ∧ W' = W.setCell ⟨D, 0, none⟩ (.slice X l c) := by
  have c0 : W.cell? ⟨D, 0, none⟩ = some v := hb.cell 0
  have f0 := hb.frozen 0
  have l0 := hb.lt
  go_enter Try.func42, Try.ntmps42
  go_wp2
  go_end0
  exact ⟨rfl, rfl⟩
/-- the last generation in its block -/
def RR (D : Nat) (P : Nat → List C3) (k : Nat) (S : Nat → Prop) (W : World) : Prop :=
  S = (fun j => j = D) ∧ ∃ X l c, Blk W D 27 #[.slice X l c] ∧ ∀ j, k = j + 1 → l = (P j).length ∧ CReads W W.heap.size X l (fun i => (P j).getD i (0, 0, 0))
section
variable (AH AN AP : Option Addr) (cH cN cP n : Nat) (T : Tr) (P : Nat → List C3) (w : World)
set_option maxRecDepth 100000 in
set_option maxHeartbeats 8000000 in
theorem run_any (hn : n ≤ 10000) (h : TS w AH AN T) (ht : Rt T) (hq : gT T (List.replicate T.n 0) = 0)
    (hp : CReads w w.heap.size AP (P 0).length (fun j => (P 0).getD j (0, 0, 0)))
    (hP : ∀ k, k ≤ n → PatOK (P k) ∧ (P k).length ≤ 5000 ∧ tpS (P k) < T.st)
    (hG : ∀ k, k < n → Vld (nxt (gT T) (offL T) (P k)) ∧ (nxt (gT T) (offL T) (P k)).length ≤ 5000 ∧ cls (nxt (gT T) (offL T) (P k)) = P (k + 1)) :
    Calls Try.prog 24 #[.agg #[.int .i64 T.st, .slice AH T.n cH, .slice AN T.m cN], .slice AP (P 0).length cP, .int .i64 (n : Int)] w fun e w' => ∃ X c, e = .returned (.tuple #[.slice X (P n).length c, .int .i64 0]) ∧ CReads w' w'.heap.size X (P n).length (fun j => (P n).getD j (0, 0, 0)) ∧ Below w.heap.size w w' := by
  obtain ⟨w2, hw⟩ : ∃ w2, w2 = (w.alloc (.cells #[.int .i64 T.st, .slice AH T.n cH, .slice AN T.m cN] 25)).alloc (.cells #[.slice none 0 0] 27) := ⟨_, rfl⟩
  have K1 : Blk w2 w.heap.size 25 #[.int .i64 T.st, .slice AH T.n cH, .slice AN T.m cN] := by rw [hw]; exact (Blk.new w _ _).alloc _
  have K2 : Blk w2 (w.heap.size + 1) 27 #[.slice none 0 0] := by
    have := Blk.new (w.alloc (.cells #[.int .i64 T.st, .slice AH T.n cH, .slice AN T.m cN] 25)) 27 #[.slice none 0 0]
    rw [World.size_alloc] at this
    rw [hw]; exact this
  have B2 : Below w.heap.size w w2 := by rw [hw]; exact ((Below.refl _ w).alloc (Nat.le_refl _) _).alloc (by simp) _
  have hsz : w2.heap.size = w.heap.size + 2 := by rw [hw]; simp
  have EV := Lib.hid (evolve_any 42 #[.pointer (some ⟨w.heap.size + 1, 0, none⟩)] AH AN AP cH cN cP n (w.heap.size + 1) T P (RR (w.heap.size + 1) P) (fun j => j = w.heap.size + 1) w2 (enters_of Try.func42 (by kernel_rfl) rfl)
    (fun k S W W' ⟨h1, X, l, c, h2, h3⟩ hb => ⟨h1, X, l, c, h2.below hb h2.lt, fun j hj => ⟨(h3 j hj).1, (h3 j hj).2.later hb⟩⟩)
    (fun k j S S' W W' A hj ⟨h1, X, l, c, h2, h3⟩ hf hr => by subst h1; exact creads_fr hr ⟨_, X, l, c, h2⟩ hf)
    (fun k S W X c hk ⟨h1, X', l', c', h2, h3⟩ hr => by
      subst h1
      refine (run1_any (w.heap.size + 1) (P k).length c X _ W h2).mono ?_
      rintro e W' ⟨rfl, rfl⟩
      have hf : Fr (fun j => j = w.heap.size + 1) W (fun j => j = w.heap.size + 1) (W.setCell ⟨w.heap.size + 1, 0, none⟩ (.slice X (P k).length c)) := Fr.set_ W (p := ⟨w.heap.size + 1, 0, none⟩) _ rfl
      refine ⟨rfl, _, ⟨rfl, X, (P k).length, c, by simpa using h2.set_ 0 (.slice X (P k).length c), fun j hj => ?_⟩, hf⟩
      obtain rfl : k = j := by omega
      exact ⟨rfl, creads_fr hr ⟨_, _, _, _, h2⟩ hf⟩)
    hn (by omega) (fun k hk => by omega) ⟨rfl, none, 0, 0, K2, fun j hj => absurd hj (by omega)⟩
    (fun W hb => h.later (B2.trans (hb.mono (by omega)))) ht hq (hp.later B2) hP hG)
  have HF := Lib.hid (fun (W : World) (S' : Nat → Prop) (hf : Fr (fun j => j = w.heap.size + 1) w2 S' W) => (show Below w.heap.size w W from B2.trans (hf.below (B := w.heap.size) (fun k hk => by omega) (by omega))))
  have HC := Lib.hid (show ∀ (W : World) S', RR (w.heap.size + 1) P (n + 1) S' W → ∃ X c, Blk W (w.heap.size + 1) 27 #[.slice X (P n).length c] ∧ CReads W W.heap.size X (P n).length (fun j => (P n).getD j (0, 0, 0)) from fun W S' ⟨_, X, l, c, h2, h3⟩ => by
    obtain ⟨rfl, h4⟩ := h3 n rfl
    exact ⟨X, c, h2, h4⟩)
  clear h ht hq hp hP hG B2
  obtain ⟨st, nh, f, m, lv, nx⟩ := T
  simp only at *
  go_enter Try.func24, Try.ntmps24
  go_upto_region 2 with (fail)
  rw [← hw]
  obtain ⟨t0, t1, t2, _, _, _, t3⟩ := K1.three6
  clear hw K1 K2
  go_upto_region 3 with (go_at_call 41; (with_reducible refine (EV.out).mono ?_); rintro e w3 ⟨rfl, S', hr, hf⟩; have R3 := Lib.hid (HC.out _ _ hr); have B3 := Lib.hid (HF.out _ _ hf); clear hr hf)
  obtain ⟨X, c, hx, hr⟩ := R3.out
  have c0 : w3.cell? ⟨w.heap.size + 1, 0, none⟩ = some (.slice X (P n).length c) := hx.cell 0
  have HR := Lib.hid hr
  clear hx hr t0 t1 t2 t3
  go_wp2
  (try go_ret2)
  exact ⟨X, c, rfl, HR.out, B3.out⟩
end
end Go.Proofs.Ytaicehkphokacaa
namespace Go.Proofs.Ytaicehkphokacaa
open Go.RowKit

section
variable (A : Option Addr) (c : Nat) (w : World)
set_option maxRecDepth 100000 in
set_option maxHeartbeats 4000000 in
theorem get_3 (h : CReads w w.heap.size A 1 (fun k => ([(3, 0, 1)] : List C3).getD k (0, 0, 0))) :
    Calls Try.prog 45 #[.slice A 1 c, .int .i64 3, .int .i64 0] w fun e w' => e = .returned (.int .i64 1) ∧ Below w.heap.size w w' := by
  obtain ⟨g, o, rfl, hg, hc⟩ := h (by decide)
  obtain ⟨y0, y1, y2⟩ := hc 0 (by decide)
  simp only [Nat.zero_mul, Nat.add_zero, List.getD_cons_zero] at y0 y1 y2
  clear hc h
  have A4 := Lib.hid ((Below.refl w.heap.size w).alloc (Nat.le_refl _) (.cells #[.int .i64 3, .int .i64 0, .int .i64 1] 47))
  go_enter Try.func45, Try.ntmps45
  go_upto_region 2 with (fail)
  refine wp_loop_rounds 2 ?_
  rw [rounds_succ]
  go_wp2
  go_ret
  exact ⟨rfl, A4.out⟩
set_option maxRecDepth 100000 in
set_option maxHeartbeats 4000000 in
theorem get_2 (h : CReads w w.heap.size A 1 (fun k => ([(3, 0, 1)] : List C3).getD k (0, 0, 0))) :
    Calls Try.prog 45 #[.slice A 1 c, .int .i64 2, .int .i64 0] w fun e w' => e = .returned (.int .i64 0) ∧ Below w.heap.size w w' := by
  obtain ⟨g, o, rfl, hg, hc⟩ := h (by decide)
  obtain ⟨y0, y1, y2⟩ := hc 0 (by decide)
  simp only [Nat.zero_mul, Nat.add_zero, List.getD_cons_zero] at y0 y1 y2
  clear hc h
  have A4 := Lib.hid ((Below.refl w.heap.size w).alloc (Nat.le_refl _) (.cells #[.int .i64 3, .int .i64 0, .int .i64 1] 47))
  go_enter Try.func45, Try.ntmps45
  go_upto_region 2 with (fail)
  refine wp_loop_rounds 2 ?_
  rw [rounds_succ]
  go_wp2
  rw [rounds_succ]
  go_wp2
  go_ret
  exact ⟨rfl, A4.out⟩
end
end Go.Proofs.Ytaicehkphokacaa
namespace Go.Proofs.Ytaicehkphokacaa
open Go.RowKit

theorem ts_par {w : World} {g1 g2 g3 g4 g5 : Nat} (k1 : Blk w g1 52 #[.int .i64 0, .int .i64 0, .int .i64 1, .int .i64 0]) (k2 : Blk w g2 3 #[.int .i64 0, .int .i64 1]) (k3 : Blk w g3 3 #[.int .i64 1, .int .i64 0]) (k4 : Blk w g4 3 #[.int .i64 0, .int .i64 1])
    (k5 : Blk w g5 70 #[.int .i64 1, .slice (some ⟨g2, 0, none⟩) 2 2, .int .i64 1, .slice (some ⟨g3, 0, none⟩) 2 2, .int .i64 2, .slice (some ⟨g4, 0, none⟩) 2 2]) :
    TS w (some ⟨g1, 0, none⟩) (some ⟨g5, 0, none⟩) parT := by
  refine ⟨fun _ => ⟨g1, 0, rfl, k1.lt, fun k hk => ?_⟩, fun _ => ⟨g5, 0, rfl, k5.lt, fun k hk => ?_⟩⟩
  · match k, hk with
    | 0, _ => exact ⟨k1.cell 0, k1.cell 1⟩
    | 1, _ => exact ⟨k1.cell 2, k1.cell 3⟩
  · match k, hk with
    | 0, _ => exact ⟨_, _, k5.cell 0, k5.cell 1, Reads.of_blk (xs := il [0, 1]) k2⟩
    | 1, _ => exact ⟨_, _, k5.cell 2, k5.cell 3, Reads.of_blk (xs := il [1, 0]) k3⟩
    | 2, _ => exact ⟨_, _, k5.cell 4, k5.cell 5, Reads.of_blk (xs := il [0, 1]) k4⟩
set_option maxRecDepth 100000 in
set_option maxHeartbeats 4000000 in
theorem parity_any (w : World) :
    Calls Try.prog 22 #[] w fun e w' => ∃ gh gn, e = .returned (.agg #[.int .i64 2, .slice (some ⟨gh, 0, none⟩) 2 2, .slice (some ⟨gn, 0, none⟩) 3 3]) ∧ TS w' (some ⟨gh, 0, none⟩) (some ⟨gn, 0, none⟩) parT ∧ Below w.heap.size w w' := by
  go_enter Try.func22, Try.ntmps22
  go_wp2
  obtain ⟨w', hw⟩ : ∃ w', w' = lay w [(#[.int .i64 2, .slice (some ⟨w.heap.size + 1, 0, none⟩) 2 2, .slice (some ⟨w.heap.size + 1 + 1 + 1 + 1 + 1, 0, none⟩) 3 3], 25), (#[.int .i64 0, .int .i64 0, .int .i64 1, .int .i64 0], 52), (#[.int .i64 0, .int .i64 1], 3), (#[.int .i64 1, .int .i64 0], 3), (#[.int .i64 0, .int .i64 1], 3), (#[.int .i64 1, .slice (some ⟨w.heap.size + 1 + 1, 0, none⟩) 2 2, .int .i64 1, .slice (some ⟨w.heap.size + 1 + 1 + 1, 0, none⟩) 2 2, .int .i64 2, .slice (some ⟨w.heap.size + 1 + 1 + 1 + 1, 0, none⟩) 2 2], 70)] := ⟨_, rfl⟩
  have K0 : Blk w' w.heap.size 25 #[.int .i64 2, .slice (some ⟨w.heap.size + 1, 0, none⟩) 2 2, .slice (some ⟨w.heap.size + 1 + 1 + 1 + 1 + 1, 0, none⟩) 3 3] := by rw [hw]; exact lay_blk _ w 0 rfl
  have K1 : Blk w' (w.heap.size + 1) 52 #[.int .i64 0, .int .i64 0, .int .i64 1, .int .i64 0] := by rw [hw]; exact lay_blk _ w 1 rfl
  have K2 : Blk w' (w.heap.size + 1 + 1) 3 #[.int .i64 0, .int .i64 1] := by rw [hw]; exact lay_blk _ w 2 rfl
  have K3 : Blk w' (w.heap.size + 1 + 1 + 1) 3 #[.int .i64 1, .int .i64 0] := by rw [hw]; exact lay_blk _ w 3 rfl
  have K4 : Blk w' (w.heap.size + 1 + 1 + 1 + 1) 3 #[.int .i64 0, .int .i64 1] := by rw [hw]; exact lay_blk _ w 4 rfl
  have K5 : Blk w' (w.heap.size + 1 + 1 + 1 + 1 + 1) 70 #[.int .i64 1, .slice (some ⟨w.heap.size + 1 + 1, 0, none⟩) 2 2, .int .i64 1, .slice (some ⟨w.heap.size + 1 + 1 + 1, 0, none⟩) 2 2, .int .i64 2, .slice (some ⟨w.heap.size + 1 + 1 + 1 + 1, 0, none⟩) 2 2] := by rw [hw]; exact lay_blk _ w 5 rfl
  have B0 : Below w.heap.size w w' := by rw [hw]; exact lay_below _ w
  refine bodyPost_ret (v := .agg #[.int .i64 2, .slice (some ⟨w.heap.size + 1, 0, none⟩) 2 2, .slice (some ⟨w.heap.size + 1 + 1 + 1 + 1 + 1, 0, none⟩) 3 3]) (by simp [results, Try.results22, go_sem]) rfl ⟨w.heap.size + 1, w.heap.size + 1 + 1 + 1 + 1 + 1, rfl, ?_⟩
  have := ts_par K1 K2 K3 K4 K5
  rw [hw] at this B0
  exact ⟨this, B0⟩
end Go.Proofs.Ytaicehkphokacaa
