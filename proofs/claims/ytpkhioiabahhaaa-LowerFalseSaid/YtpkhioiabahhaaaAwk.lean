/- The chapter's examples. -/
import Derived.Test.YtpkhioiabahhaaaEgl
namespace Go.Proofs.Ytpkhioiabahhaaa
open Go.RowKit

/-- blocks laid one after the other -/
def lay : World → List (Array Value × TypeId) → World
  | w, [] => w
  | w, (c, t) :: r => lay (w.alloc (.cells c t)) r
theorem lay_keep {g : Nat} {t : TypeId} {c : Array Value} : ∀ (r : List (Array Value × TypeId)) (w : World), Blk w g t c → Blk (lay w r) g t c
  | [], _, h => h
  | (c, t) :: r, w, h => lay_keep r _ (h.alloc _)
theorem lay_blk {t : TypeId} {c : Array Value} : ∀ (r : List (Array Value × TypeId)) (w : World) (k : Nat), r[k]? = some (c, t) → Blk (lay w r) (w.heap.size + k) t c
  | [], _, _, h => by simp at h
  | (c', t') :: r, w, 0, h => by
    simp only [List.getElem?_cons_zero, Option.some.injEq, Prod.mk.injEq] at h
    obtain ⟨rfl, rfl⟩ := h
    exact lay_keep r _ (Blk.new w _ _)
  | (c', t') :: r, w, k + 1, h => by
    have := lay_blk r (w.alloc (.cells c' t')) k (by simpa using h)
    rw [World.size_alloc] at this
    rw [show w.heap.size + (k + 1) = w.heap.size + 1 + k by omega]
    exact this
theorem lay_below : ∀ (r : List (Array Value × TypeId)) (w : World), Below w.heap.size w (lay w r)
  | [], w => Below.refl _ _
  | (c, t) :: r, w => by
    have h := lay_below r (w.alloc (.cells c t))
    exact ((Below.refl _ w).alloc (Nat.le_refl _) _).trans (h.mono (by simp))
theorem ts_one {w : World} {g0 g1 g2 : Nat} (x y : Int) (k0 : Blk w g0 50 #[.int .i64 0, .int .i64 0]) (k1 : Blk w g1 3 #[.int .i64 x, .int .i64 y]) (k2 : Blk w g2 48 #[.int .i64 1, .slice (some ⟨g1, 0, none⟩) 2 2]) :
    TS w (some ⟨g0, 0, none⟩) (some ⟨g2, 0, none⟩) ⟨2, 1, pf [(0, 0)], 1, fun _ => 1, fun _ => [x, y]⟩ := by
  refine ⟨fun _ => ⟨g0, 0, rfl, k0.lt, fun k hk => ?_⟩, fun _ => ⟨g2, 0, rfl, k2.lt, fun k hk => ?_⟩⟩
  · obtain rfl : k = 0 := by simp at hk; omega
    exact ⟨k0.cell 0, k0.cell 1⟩
  · obtain rfl : k = 0 := by simp at hk; omega
    exact ⟨_, _, k2.cell 0, k2.cell 1, Reads.of_blk (xs := il [x, y]) k1⟩
theorem ts_three {w : World} {g7 g8 g9 g10 : Nat} (k7 : Blk w g7 50 #[.int .i64 0, .int .i64 0, .int .i64 1, .int .i64 0]) (k8 : Blk w g8 3 #[.int .i64 0, .int .i64 0, .int .i64 0]) (k9 : Blk w g9 3 #[.int .i64 0, .int .i64 0, .int .i64 0]) (k10 : Blk w g10 48 #[.int .i64 1, .slice (some ⟨g8, 0, none⟩) 3 3, .int .i64 2, .slice (some ⟨g9, 0, none⟩) 3 3]) :
    TS w (some ⟨g7, 0, none⟩) (some ⟨g10, 0, none⟩) threeT := by
  refine ⟨fun _ => ⟨g7, 0, rfl, k7.lt, fun k hk => ?_⟩, fun _ => ⟨g10, 0, rfl, k10.lt, fun k hk => ?_⟩⟩
  · match k, hk with
    | 0, _ => exact ⟨k7.cell 0, k7.cell 1⟩
    | 1, _ => exact ⟨k7.cell 2, k7.cell 3⟩
  · match k, hk with
    | 0, _ => exact ⟨_, _, k10.cell 0, k10.cell 1, Reads.of_blk (xs := il [0, 0, 0]) k8⟩
    | 1, _ => exact ⟨_, _, k10.cell 2, k10.cell 3, Reads.of_blk (xs := il [0, 0, 0]) k9⟩
theorem kd_in {w : World} {g o : Nat} (hg : Blk w g 53 #[.int .i64 2, .int .i64 0, .int .i64 0]) (ho : Blk w o 3 #[.int .i64 0]) : CS w (some ⟨g, 0, none⟩) (some ⟨o, 0, none⟩) ⟨1, 1, fun k => [((2, 0, 0) : C3)].getD k (0, 0, 0), [0]⟩ := by
  refine ⟨fun _ => ⟨g, 0, rfl, hg.lt, fun k hk => ?_⟩, Reads.of_blk (xs := il [0]) ho⟩
  obtain rfl : k = 0 := by simp at hk; omega
  exact ⟨hg.cell 0, hg.cell 1, hg.cell 2⟩
theorem zd_in {w : World} {g o : Nat} (hg : Blk w g 53 #[.int .i64 2, .int .i64 0, .int .i64 0, .int .i64 0, .int .i64 0, .int .i64 0]) (ho : Blk w o 3 #[.int .i64 2]) : CS w (some ⟨g, 0, none⟩) (some ⟨o, 0, none⟩) ⟨1, 2, fun k => [((2, 0, 0) : C3), (0, 0, 0)].getD k (0, 0, 0), [2]⟩ := by
  refine ⟨fun _ => ⟨g, 0, rfl, hg.lt, fun k hk => ?_⟩, Reads.of_blk (xs := il [2]) ho⟩
  match k, hk with
  | 0, _ => exact ⟨hg.cell 0, hg.cell 1, hg.cell 2⟩
  | 1, _ => exact ⟨hg.cell 3, hg.cell 4, hg.cell 5⟩
theorem x_same1 (A AO : Option Addr) (c cO g o : Nat) (w : World) (h : CS w A AO (crO keepT 2)) (hg : Blk w g 53 #[.int .i64 2, .int .i64 0, .int .i64 0]) (ho : Blk w o 3 #[.int .i64 0]) :
    Calls Try.prog 20 #[.agg #[.int .i64 1, .slice A 1 c, .slice AO 1 cO], .agg #[.int .i64 1, .slice (some ⟨g, 0, none⟩) 1 1, .slice (some ⟨o, 0, none⟩) 1 1]] w fun e w' => e = .returned (.bool true) ∧ Below w.heap.size w w' := by
  have e1 : (crO keepT 2).n = 1 := by show (crRS keepT 2).2.length = 1; rw [keep_rs]; rfl
  have e2 : (crO keepT 2).o = [0] := by show (crRS keepT 2).1.getD 0 [] = [0]; rw [keep_rs]; rfl
  have e3 : (crO keepT 2).g = fun k => [((2, 0, 0) : C3)].getD k (0, 0, 0) := by show (fun k => (crRS keepT 2).2.getD k (0, 0, 0)) = _; rw [keep_rs]
  have := rsame_any A AO (some ⟨g, 0, none⟩) (some ⟨o, 0, none⟩) c cO 1 1 (crO keepT 2) _ w h (kd_in hg ho) (by rw [e1]; decide) (by decide) (by rw [e2]; decide) (by decide)
  have hq : qs (crO keepT 2) ⟨1, 1, fun k => [((2, 0, 0) : C3)].getD k (0, 0, 0), [0]⟩ = true := (qs_iff _ _).2 ⟨rfl, ⟨e1, fun i _ => by rw [e3]⟩, e2⟩
  rw [hq, e1, e2] at this
  exact this
theorem x_same2 (A AO : Option Addr) (c cO g o : Nat) (w : World) (h : CS w A AO (crO zeroT 2)) (hg : Blk w g 53 #[.int .i64 2, .int .i64 0, .int .i64 0, .int .i64 0, .int .i64 0, .int .i64 0]) (ho : Blk w o 3 #[.int .i64 2]) :
    Calls Try.prog 20 #[.agg #[.int .i64 1, .slice A 2 c, .slice AO 1 cO], .agg #[.int .i64 1, .slice (some ⟨g, 0, none⟩) 2 2, .slice (some ⟨o, 0, none⟩) 1 1]] w fun e w' => e = .returned (.bool true) ∧ Below w.heap.size w w' := by
  have e1 : (crO zeroT 2).n = 2 := by show (crRS zeroT 2).2.length = 2; rw [zero_rs]; rfl
  have e2 : (crO zeroT 2).o = [2] := by show (crRS zeroT 2).1.getD 0 [] = [2]; rw [zero_rs]; rfl
  have e3 : (crO zeroT 2).g = fun k => [((2, 0, 0) : C3), (0, 0, 0)].getD k (0, 0, 0) := by show (fun k => (crRS zeroT 2).2.getD k (0, 0, 0)) = _; rw [zero_rs]
  have := rsame_any A AO (some ⟨g, 0, none⟩) (some ⟨o, 0, none⟩) c cO 2 1 (crO zeroT 2) _ w h (zd_in hg ho) (by rw [e1]; decide) (by decide) (by rw [e2]; decide) (by decide)
  have hq : qs (crO zeroT 2) ⟨1, 2, fun k => [((2, 0, 0) : C3), (0, 0, 0)].getD k (0, 0, 0), [2]⟩ = true := (qs_iff _ _).2 ⟨rfl, ⟨e1, fun i _ => by rw [e3]⟩, e2⟩
  rw [hq, e1, e2] at this
  exact this
theorem x_bools (A : Option Addr) (c g : Nat) (w : World) (h : Reads w w.heap.size A 4 (bl [false, true, true, false])) (hg : Blk w g 4 #[.bool false, .bool true, .bool true, .bool false]) :
    Calls Try.prog 21 #[.slice A 4 c, .slice (some ⟨g, 0, none⟩) 4 4] w fun e w' => e = .returned (.bool true) ∧ Below w.heap.size w w' :=
  lbools_yes w.heap.size w.heap.size 4 c 4 A (some ⟨g, 0, none⟩) [false, true, true, false] w (by decide) h (Reads.of_blk (xs := bl [false, true, true, false]) hg)
theorem x_state (g : Nat) (w : World) (hg : Blk w g 4 #[.bool false, .bool true, .bool true]) :
    Calls Try.prog 12 #[.slice (some ⟨g, 0, none⟩) 3 3] w fun e w' => e = .returned (.int .i64 6) ∧ w = w' :=
  lst_011 w.heap.size 3 ⟨g, 0, none⟩ w (Reads.of_blk (xs := bl [false, true, true]) hg)
theorem x_bits (n b : Nat) (w : World) (h1 : 2 ≤ n) (h2 : n ≤ 8) (hb : bs n = b) : Calls Try.prog 22 #[.int .i64 (n : Int)] w fun e w' => e = .returned (.int .i64 (b : Int)) ∧ w = w' := hb ▸ (bits_any n w h1 h2).mono fun e w' ⟨q1, q2⟩ => ⟨q1, q2.symm⟩
theorem x_bits9 (w : World) : Calls Try.prog 22 #[.int .i64 9] w fun e w' => e = .returned (.int .i64 0) ∧ w = w' := by
  go_enter Try.func22, Try.ntmps22
  go_wp2
  go_ret
  exact ⟨rfl, rfl⟩
theorem balloc {w0 w : World} (h : Below w0.heap.size w0 w) (o : Obj) : Below w0.heap.size w0 (w.alloc o) := h.alloc h.size o
theorem blk2 (w : World) (c1 c2 : Array Value) (t1 t2 : TypeId) : Blk ((w.alloc (.cells c1 t1)).alloc (.cells c2 t2)) (w.heap.size + 1) t2 c2 := lay_blk [(c1, t1), (c2, t2)] w 1 rfl
set_option maxRecDepth 100000 in
set_option maxHeartbeats 8000000 in
theorem awake_any (w : World) : Calls Try.prog 7 #[] w fun e w' => e = .returned (.bool true) ∧ Below w.heap.size w w' := by
  obtain ⟨w12, hw⟩ : ∃ w12, w12 = lay w [(#[.int .i64 0, .int .i64 0], 50), (#[.int .i64 0, .int .i64 1], 3), (#[.int .i64 1, .slice (some ⟨w.heap.size + 1, 0, none⟩) 2 2], 48), (#[.int .i64 2, .slice (some ⟨w.heap.size, 0, none⟩) 1 1, .slice (some ⟨w.heap.size + 1 + 1, 0, none⟩) 1 1], 25), (#[.int .i64 0, .int .i64 0], 3), (#[.int .i64 1, .slice (some ⟨w.heap.size + 1 + 1 + 1 + 1, 0, none⟩) 2 2], 48), (#[.int .i64 2, .slice (some ⟨w.heap.size, 0, none⟩) 1 1, .slice (some ⟨w.heap.size + 1 + 1 + 1 + 1 + 1, 0, none⟩) 1 1], 25), (#[.int .i64 0, .int .i64 0, .int .i64 1, .int .i64 0], 50), (#[.int .i64 0, .int .i64 0, .int .i64 0], 3), (#[.int .i64 0, .int .i64 0, .int .i64 0], 3), (#[.int .i64 1, .slice (some ⟨w.heap.size + 1 + 1 + 1 + 1 + 1 + 1 + 1 + 1, 0, none⟩) 3 3, .int .i64 2, .slice (some ⟨w.heap.size + 1 + 1 + 1 + 1 + 1 + 1 + 1 + 1 + 1, 0, none⟩) 3 3], 48), (#[.int .i64 3, .slice (some ⟨w.heap.size + 1 + 1 + 1 + 1 + 1 + 1 + 1, 0, none⟩) 2 2, .slice (some ⟨w.heap.size + 1 + 1 + 1 + 1 + 1 + 1 + 1 + 1 + 1 + 1, 0, none⟩) 2 2], 25)] := ⟨_, rfl⟩
  have K0 : Blk w12 (w.heap.size) 50 #[.int .i64 0, .int .i64 0] := by rw [hw]; exact lay_blk _ w 0 rfl
  have K1 : Blk w12 (w.heap.size + 1) 3 #[.int .i64 0, .int .i64 1] := by rw [hw]; exact lay_blk _ w 1 rfl
  have K2 : Blk w12 (w.heap.size + 1 + 1) 48 #[.int .i64 1, .slice (some ⟨w.heap.size + 1, 0, none⟩) 2 2] := by rw [hw]; exact lay_blk _ w 2 rfl
  have K3 : Blk w12 (w.heap.size + 1 + 1 + 1) 25 #[.int .i64 2, .slice (some ⟨w.heap.size, 0, none⟩) 1 1, .slice (some ⟨w.heap.size + 1 + 1, 0, none⟩) 1 1] := by rw [hw]; exact lay_blk _ w 3 rfl
  have K4 : Blk w12 (w.heap.size + 1 + 1 + 1 + 1) 3 #[.int .i64 0, .int .i64 0] := by rw [hw]; exact lay_blk _ w 4 rfl
  have K5 : Blk w12 (w.heap.size + 1 + 1 + 1 + 1 + 1) 48 #[.int .i64 1, .slice (some ⟨w.heap.size + 1 + 1 + 1 + 1, 0, none⟩) 2 2] := by rw [hw]; exact lay_blk _ w 5 rfl
  have K6 : Blk w12 (w.heap.size + 1 + 1 + 1 + 1 + 1 + 1) 25 #[.int .i64 2, .slice (some ⟨w.heap.size, 0, none⟩) 1 1, .slice (some ⟨w.heap.size + 1 + 1 + 1 + 1 + 1, 0, none⟩) 1 1] := by rw [hw]; exact lay_blk _ w 6 rfl
  have K7 : Blk w12 (w.heap.size + 1 + 1 + 1 + 1 + 1 + 1 + 1) 50 #[.int .i64 0, .int .i64 0, .int .i64 1, .int .i64 0] := by rw [hw]; exact lay_blk _ w 7 rfl
  have K8 : Blk w12 (w.heap.size + 1 + 1 + 1 + 1 + 1 + 1 + 1 + 1) 3 #[.int .i64 0, .int .i64 0, .int .i64 0] := by rw [hw]; exact lay_blk _ w 8 rfl
  have K9 : Blk w12 (w.heap.size + 1 + 1 + 1 + 1 + 1 + 1 + 1 + 1 + 1) 3 #[.int .i64 0, .int .i64 0, .int .i64 0] := by rw [hw]; exact lay_blk _ w 9 rfl
  have K10 : Blk w12 (w.heap.size + 1 + 1 + 1 + 1 + 1 + 1 + 1 + 1 + 1 + 1) 48 #[.int .i64 1, .slice (some ⟨w.heap.size + 1 + 1 + 1 + 1 + 1 + 1 + 1 + 1, 0, none⟩) 3 3, .int .i64 2, .slice (some ⟨w.heap.size + 1 + 1 + 1 + 1 + 1 + 1 + 1 + 1 + 1, 0, none⟩) 3 3] := by rw [hw]; exact lay_blk _ w 10 rfl
  have K11 : Blk w12 (w.heap.size + 1 + 1 + 1 + 1 + 1 + 1 + 1 + 1 + 1 + 1 + 1) 25 #[.int .i64 3, .slice (some ⟨w.heap.size + 1 + 1 + 1 + 1 + 1 + 1 + 1, 0, none⟩) 2 2, .slice (some ⟨w.heap.size + 1 + 1 + 1 + 1 + 1 + 1 + 1 + 1 + 1 + 1, 0, none⟩) 2 2] := by rw [hw]; exact lay_blk _ w 11 rfl
  have B0 : Below w.heap.size w w12 := by rw [hw]; exact lay_below _ w
  have hwx : (((((((((((w.alloc (.cells #[.int .i64 0, .int .i64 0] 50)).alloc (.cells #[.int .i64 0, .int .i64 1] 3)).alloc (.cells #[.int .i64 1, .slice (some ⟨w.heap.size + 1, 0, none⟩) 2 2] 48)).alloc (.cells #[.int .i64 2, .slice (some ⟨w.heap.size, 0, none⟩) 1 1, .slice (some ⟨w.heap.size + 1 + 1, 0, none⟩) 1 1] 25)).alloc (.cells #[.int .i64 0, .int .i64 0] 3)).alloc (.cells #[.int .i64 1, .slice (some ⟨w.heap.size + 1 + 1 + 1 + 1, 0, none⟩) 2 2] 48)).alloc (.cells #[.int .i64 2, .slice (some ⟨w.heap.size, 0, none⟩) 1 1, .slice (some ⟨w.heap.size + 1 + 1 + 1 + 1 + 1, 0, none⟩) 1 1] 25)).alloc (.cells #[.int .i64 0, .int .i64 0, .int .i64 1, .int .i64 0] 50)).alloc (.cells #[.int .i64 0, .int .i64 0, .int .i64 0] 3)).alloc (.cells #[.int .i64 0, .int .i64 0, .int .i64 0] 3)).alloc (.cells #[.int .i64 1, .slice (some ⟨w.heap.size + 1 + 1 + 1 + 1 + 1 + 1 + 1 + 1, 0, none⟩) 3 3, .int .i64 2, .slice (some ⟨w.heap.size + 1 + 1 + 1 + 1 + 1 + 1 + 1 + 1 + 1, 0, none⟩) 3 3] 48)).alloc (.cells #[.int .i64 3, .slice (some ⟨w.heap.size + 1 + 1 + 1 + 1 + 1 + 1 + 1, 0, none⟩) 2 2, .slice (some ⟨w.heap.size + 1 + 1 + 1 + 1 + 1 + 1 + 1 + 1 + 1 + 1, 0, none⟩) 2 2] 25) = w12 := hw.symm
  have B0 := Lib.hid B0
  have HWX := Lib.hid hwx
  clear hw hwx
  go_enter Try.func7, Try.ntmps7
  go_upto_region 5 with (fail)
  rw [HWX.out]
  clear HWX
  generalize w.heap.size + 1 + 1 + 1 + 1 + 1 + 1 + 1 + 1 + 1 + 1 + 1 = g11 at *
  generalize w.heap.size + 1 + 1 + 1 + 1 + 1 + 1 + 1 + 1 + 1 + 1 = g10 at *
  generalize w.heap.size + 1 + 1 + 1 + 1 + 1 + 1 + 1 + 1 + 1 = g9 at *
  generalize w.heap.size + 1 + 1 + 1 + 1 + 1 + 1 + 1 + 1 = g8 at *
  generalize w.heap.size + 1 + 1 + 1 + 1 + 1 + 1 + 1 = g7 at *
  generalize w.heap.size + 1 + 1 + 1 + 1 + 1 + 1 = g6 at *
  generalize w.heap.size + 1 + 1 + 1 + 1 + 1 = g5 at *
  generalize w.heap.size + 1 + 1 + 1 + 1 = g4 at *
  generalize w.heap.size + 1 + 1 + 1 = g3 at *
  generalize w.heap.size + 1 + 1 = g2 at *
  generalize w.heap.size + 1 = g1 at *
  have KEEP := Lib.hid (ts_one 0 1 K0 K1 K2)
  have ZERO := Lib.hid (ts_one 0 0 K0 K4 K5)
  have THREE := Lib.hid (ts_three K7 K8 K9 K10)
  have KT3 := Lib.hid K3
  have KT6 := Lib.hid K6
  have KT11 := Lib.hid K11
  clear K0 K1 K2 K4 K5 K7 K8 K9 K10 K3 K6 K11
  have hgt : True := trivial
  obtain ⟨p0, p1, p2, _, _, _, p6⟩ := KT3.out.three6
  go_upto_region 6 with (go_at_call 10; (with_reducible refine (low_keep _ _ 1 1 w12 KEEP.out).mono ?_); rintro e w13 ⟨A5, O5, c5, d5, rfl, hcs, hb⟩; have C5 := Lib.hid hcs; have Z13 := Lib.hid hb; clear hcs hb)
  exact (by
    have Z14 := Lib.hid (Z13.out.trans (((Below.refl w13.heap.size w13).alloc (Nat.le_refl _) (.cells #[.int .i64 1, .slice A5 1 c5, .slice O5 1 d5] 34)).mono Z13.out.size))
    have N5 := Lib.hid (Blk.new w13 34 #[.int .i64 1, .slice A5 1 c5, .slice O5 1 d5])
    have C5 := Lib.hid (C5.out.later ((Below.refl w13.heap.size w13).alloc (Nat.le_refl _) (.cells #[.int .i64 1, .slice A5 1 c5, .slice O5 1 d5] 34)))
    generalize w13.alloc (.cells #[.int .i64 1, .slice A5 1 c5, .slice O5 1 d5] 34) = w14 at *
    generalize w13.heap.size = ga at *
    clear p0 p1 p2 p6 Z13
    obtain ⟨p0, p1, p2, _, _, _, p6⟩ := (KT6.out.below Z14.out KT6.out.lt).three6
    go_upto_region 7 with (go_at_call 10; (with_reducible refine (low_zero _ _ 1 1 w14 (ZERO.out.later Z14.out)).mono ?_); rintro e w15 ⟨A7, O7, c7, d7, rfl, hcs, hb⟩; have C7 := Lib.hid hcs; have Z15 := Lib.hid hb; clear hcs hb)
    exact (by
      have Y15 := Lib.hid (Z15.out.trans (((Below.refl w15.heap.size w15).alloc (Nat.le_refl _) (.cells #[.int .i64 1, .slice A7 2 c7, .slice O7 1 d7] 34)).mono Z15.out.size))
      have N7 := Lib.hid (Blk.new w15 34 #[.int .i64 1, .slice A7 2 c7, .slice O7 1 d7])
      have C7 := Lib.hid (C7.out.later ((Below.refl w15.heap.size w15).alloc (Nat.le_refl _) (.cells #[.int .i64 1, .slice A7 2 c7, .slice O7 1 d7] 34)))
      generalize w15.alloc (.cells #[.int .i64 1, .slice A7 2 c7, .slice O7 1 d7] 34) = w16 at *
      generalize w15.heap.size = gz at *
      have Z16 := Lib.hid (Z14.out.trans (Y15.out.mono Z14.out.size))
      have N5 := Lib.hid (N5.out.below Y15.out N5.out.lt)
      have C5 := Lib.hid (C5.out.later Y15.out)
      clear p0 p1 p2 p6 Z15 Y15
      obtain ⟨p0, p1, p2, _, _, _, p6⟩ := (KT11.out.below Z16.out KT11.out.lt).three6
      have A16 := Lib.hid ((Below.refl w16.heap.size w16).alloc (Nat.le_refl _) (.cells #[.int .i64 2, .int .i64 1] 3))
      have I16 := Lib.hid (inp_21 _ _ 2 2 (w16.alloc (.cells #[.int .i64 2, .int .i64 1] 3)) w16.heap.size 2 ((THREE.out.later Z16.out).later A16.out) (Blk.new w16 3 #[.int .i64 2, .int .i64 1]))
      go_upto_region 8 with (go_at_call 16; (with_reducible refine (I16.out).mono ?_); rintro e w17 ⟨A9, c9, rfl, hr, hb⟩; have R9 := Lib.hid hr; have Z17 := Lib.hid (A16.out.trans (hb.mono A16.out.size)); clear hr hb)
      exact (by
        have Z17' := Lib.hid (Z16.out.trans (Z17.out.mono Z16.out.size))
        clear p0 p1 p2 p6
        obtain ⟨p0, p1, p2, _, _, _, p6⟩ := (KT11.out.below Z17'.out KT11.out.lt).three6
        have A17 := Lib.hid ((Below.refl w17.heap.size w17).alloc (Nat.le_refl _) (.cells #[.int .i64 3, .int .i64 1] 3))
        have I17 := Lib.hid (inp_31 _ _ 2 2 (w17.alloc (.cells #[.int .i64 3, .int .i64 1] 3)) w17.heap.size 2 ((THREE.out.later Z17'.out).later A17.out) (Blk.new w17 3 #[.int .i64 3, .int .i64 1]))
        clear I16 A16
        go_upto_region 9 with (go_at_call 16; (with_reducible refine (I17.out).mono ?_); rintro e w18 ⟨rfl, hb⟩; have Z18 := Lib.hid (A17.out.trans (hb.mono A17.out.size)); clear hb)
        exact (by
          have L18 := Lib.hid (low_none w18)
          clear p0 p1 p2 p6 I17 A17
          go_upto_region 10 with (go_at_call 10; (with_reducible refine (L18.out).mono ?_); rintro e w19 ⟨rfl, hb⟩; have Z19 := Lib.hid hb; clear hb)
          exact (by
            have Y19 := Lib.hid (Z19.out.trans (((Below.refl w19.heap.size w19).alloc (Nat.le_refl _) (.cells #[.int .i64 0, .slice none 0 0, .slice none 0 0] 34)).mono Z19.out.size))
            generalize w19.alloc (.cells #[.int .i64 0, .slice none 0 0, .slice none 0 0] 34) = w20 at *
            have Y20 := Lib.hid ((Z17.out.trans (Z18.out.mono Z17.out.size)).trans (Y19.out.mono (Z17.out.trans (Z18.out.mono Z17.out.size)).size))
            have R20 := Lib.hid ((R9.out.later Z18.out).later Y19.out)
            have N5 := Lib.hid (N5.out.below Y20.out N5.out.lt)
            have N7 := Lib.hid (N7.out.below Y20.out N7.out.lt)
            have C5 := Lib.hid (C5.out.later Y20.out)
            have C7 := Lib.hid (C7.out.later Y20.out)
            have Z20 := Lib.hid ((B0.out.trans (Z16.out.mono B0.out.size)).trans (Y20.out.mono (B0.out.trans (Z16.out.mono B0.out.size)).size))
            clear L18 Z19 Y19 Z18 Z17 Z17' Z14 R9 KT3 KT6 KT11 KEEP ZERO THREE
            have KP := Lib.hid (fun W (hb : Below w20.heap.size w20 W) => show W.cell? ⟨ga, 0, none⟩ = some (.int .i64 1) ∧ W.cell? ⟨ga, 1, none⟩ = some (.slice A5 1 c5) ∧ W.cell? ⟨ga, 2, none⟩ = some (.slice O5 1 d5) ∧ W.cell? ⟨gz, 0, none⟩ = some (.int .i64 1) ∧ W.cell? ⟨gz, 1, none⟩ = some (.slice A7 2 c7) ∧ W.cell? ⟨gz, 2, none⟩ = some (.slice O7 1 d7) from by
              obtain ⟨k0, k1, k2, _, _, _, _⟩ := (N5.out.below hb N5.out.lt).three6
              obtain ⟨l0, l1, l2, _, _, _, _⟩ := (N7.out.below hb N7.out.lt).three6
              exact ⟨k0, k1, k2, l0, l1, l2⟩)
            obtain ⟨s0, s1, s2, s3, s4, s5⟩ := KP.out w20 (Below.refl _ _)
            have lga := N5.out.lt
            have lgz := N7.out.lt
            have QB := Lib.hid (balloc (balloc (Below.refl w20.heap.size w20) (.cells #[.int .i64 2, .int .i64 0, .int .i64 0] 53)) (.cells #[.int .i64 0] 3))
            have Q1 := Lib.hid (x_same1 A5 O5 c5 d5 w20.heap.size (w20.heap.size + 1) ((w20.alloc (.cells #[.int .i64 2, .int .i64 0, .int .i64 0] 53)).alloc (.cells #[.int .i64 0] 3)) (C5.out.later QB.out) (((Blk.new w20 53 #[.int .i64 2, .int .i64 0, .int .i64 0]).alloc (.cells #[.int .i64 0] 3))) (blk2 w20 #[.int .i64 2, .int .i64 0, .int .i64 0] #[.int .i64 0] 53 3))
            have BT2 := Lib.hid (fun w => show Calls Try.prog 22 #[.int .i64 2] w fun e w' => e = .returned (.int .i64 1) ∧ w = w' from x_bits 2 1 w (by decide) (by decide) (by decide))
            have BT3 := Lib.hid (fun w => show Calls Try.prog 22 #[.int .i64 3] w fun e w' => e = .returned (.int .i64 2) ∧ w = w' from x_bits 3 2 w (by decide) (by decide) (by decide))
            have BT8 := Lib.hid (fun w => show Calls Try.prog 22 #[.int .i64 8] w fun e w' => e = .returned (.int .i64 3) ∧ w = w' from x_bits 8 3 w (by decide) (by decide) (by decide))
            have BT9 := Lib.hid (fun w => x_bits9 w)
            go_wp2_with (first
              | (go_at_call 12; (with_reducible refine (x_state w23.heap.size (w23.alloc (.cells #[.bool false, .bool true, .bool true] 4)) (Blk.new w23 4 #[.bool false, .bool true, .bool true])).mono ?_); rintro e w24 ⟨rfl, rfl⟩)
              | (go_at_call 22; (with_reducible refine (BT9.out _).mono ?_); rintro e w24 ⟨rfl, rfl⟩)
              | (go_at_call 22; (with_reducible refine (BT8.out _).mono ?_); rintro e w24 ⟨rfl, rfl⟩)
              | (go_at_call 22; (with_reducible refine (BT3.out _).mono ?_); rintro e w24 ⟨rfl, rfl⟩)
              | (go_at_call 22; (with_reducible refine (BT2.out _).mono ?_); rintro e w24 ⟨rfl, rfl⟩)
              | (go_at_call 21; (with_reducible refine (x_bools A9 c9 w22.heap.size (w22.alloc (.cells #[.bool false, .bool true, .bool true, .bool false] 4)) (R20.out.later (balloc Z22.out (.cells #[.bool false, .bool true, .bool true, .bool false] 4))) (Blk.new w22 4 #[.bool false, .bool true, .bool true, .bool false])).mono ?_); rintro e w23 ⟨rfl, hb⟩; have Z23 := Lib.hid ((balloc Z22.out (.cells #[.bool false, .bool true, .bool true, .bool false] 4)).trans (hb.mono (balloc Z22.out (.cells #[.bool false, .bool true, .bool true, .bool false] 4)).size)); clear hb)
              | (go_at_call 20; (with_reducible refine (x_same2 A7 O7 c7 d7 w21.heap.size (w21.heap.size + 1) ((w21.alloc (.cells #[.int .i64 2, .int .i64 0, .int .i64 0, .int .i64 0, .int .i64 0, .int .i64 0] 53)).alloc (.cells #[.int .i64 2] 3)) (C7.out.later (balloc (balloc Z21.out (.cells #[.int .i64 2, .int .i64 0, .int .i64 0, .int .i64 0, .int .i64 0, .int .i64 0] 53)) (.cells #[.int .i64 2] 3))) ((Blk.new w21 53 #[.int .i64 2, .int .i64 0, .int .i64 0, .int .i64 0, .int .i64 0, .int .i64 0]).alloc (.cells #[.int .i64 2] 3)) (blk2 w21 #[.int .i64 2, .int .i64 0, .int .i64 0, .int .i64 0, .int .i64 0, .int .i64 0] #[.int .i64 2] 53 3)).mono ?_); rintro e w22 ⟨rfl, hb⟩; have Z22 := Lib.hid ((balloc (balloc Z21.out (.cells #[.int .i64 2, .int .i64 0, .int .i64 0, .int .i64 0, .int .i64 0, .int .i64 0] 53)) (.cells #[.int .i64 2] 3)).trans (hb.mono (balloc (balloc Z21.out (.cells #[.int .i64 2, .int .i64 0, .int .i64 0, .int .i64 0, .int .i64 0, .int .i64 0] 53)) (.cells #[.int .i64 2] 3)).size)); clear hb)
              | (go_at_call 20; (with_reducible refine (Q1.out).mono ?_); rintro e w21 ⟨rfl, hb⟩; have Z21 := Lib.hid (QB.out.trans (hb.mono QB.out.size)); obtain ⟨t0, t1, t2, t3, t4, t5⟩ := KP.out _ Z21.out; have lgz1 := Nat.lt_of_lt_of_le lgz Z21.out.size; clear hb))
            go_ret
            exact ⟨rfl, (B0.out.trans (Z16.out.mono B0.out.size)).trans ((Y20.out.trans ((balloc Z23.out (.cells #[.bool false, .bool true, .bool true] 4)).mono Y20.out.size)).mono (B0.out.trans (Z16.out.mono B0.out.size)).size)⟩)))))
end Go.Proofs.Ytpkhioiabahhaaa
