/- The examples of the law. -/
import Derived.Test.YtnhkgkpjkgifoaaMbp
import Derived.Test.YtnhkgkpjkgifoaaMbg
namespace Go.Proofs.Ytnhkgkpjkgifoaa
open Go.RowKit

theorem reads_os {w : World} {o : Nat} {os : List Int} (ho : Blk w o 3 (il os).toArray) : Reads w w.heap.size (some ⟨o, 0, none⟩) os.length (il os) := by
  have h := Reads.of_blk (xs := il os) ho
  have e : (il os).length = os.length := by simp [il]
  rwa [e] at h
theorem cs_blk {w : World} {g o N : Nat} {gs : List C3} {os : List Int} (hg : Blk w g 57 (cg gs).toArray) (ho : Blk w o 3 (il os).toArray) : CS w (some ⟨g, 0, none⟩) (some ⟨o, 0, none⟩) (crL N gs os) := by
  refine ⟨fun _ => ⟨g, 0, rfl, hg.lt, fun k hk => ?_⟩, reads_os ho⟩
  obtain ⟨p1, p2, p3⟩ := cg_at gs k hk
  rw [Nat.zero_add]
  have at_ : ∀ j, w.cell? ⟨g, j, none⟩ = (cg gs)[j]? := fun j => by
    have := hg.cell j
    rw [this]
    simp
  exact ⟨(at_ _).trans p1, (at_ _).trans p2, (at_ _).trans p3⟩
theorem cs_nil {w : World} {o N : Nat} {os : List Int} (ho : Blk w o 3 (il os).toArray) : CS w none (some ⟨o, 0, none⟩) (crL N [] os) :=
  ⟨fun h => absurd h (Nat.lt_irrefl _), reads_os ho⟩
theorem x_same (N : Nat) (gs : List C3) (os : List Int) (A O B P : Option Addr) (cA cO cB cP : Nat) (w : World) (h : CS w A O (crL N gs os)) (h' : CS w B P (crL N gs os)) (hn : gs.length ≤ 20000) (hq : os.length ≤ 1000) :
    Calls Try.prog 23 #[.agg #[.int .i64 (N : Int), .slice A gs.length cA, .slice O os.length cO], .agg #[.int .i64 (N : Int), .slice B gs.length cB, .slice P os.length cP]] w fun e w' => e = .returned (.bool true) ∧ Below w.heap.size w w' := by
  have q := rsame_any A O B P cA cO cB cP (crL N gs os) (crL N gs os) w h h' (by show gs.length ≤ 1000000; omega) (by show gs.length ≤ 1000000; omega) (by show os.length ≤ 1000000; omega) (by show os.length ≤ 1000000; omega)
  rw [(qs_iff (crL N gs os) (crL N gs os)).2 ⟨rfl, ⟨rfl, fun _ _ => rfl⟩, rfl⟩] at q
  exact q
theorem cok_a : COk 1 [(1, 0, 0), (3, 0, 1)] [2] := ⟨by decide, by decide, by
  intro k hk
  match k, hk with
  | 0, _ => exact (by decide)
  | 1, _ => exact (by decide)
, by
  intro k hk
  match k, hk with
  | 0, _ => exact (by decide)⟩
theorem cok_b : COk 2 [(3, 0, 1), (3, 1, 0), (5, 2, 3)] [4] := ⟨by decide, by decide, by
  intro k hk
  match k, hk with
  | 0, _ => exact (by decide)
  | 1, _ => exact (by decide)
  | 2, _ => exact (by decide)
, by
  intro k hk
  match k, hk with
  | 0, _ => exact (by decide)⟩
theorem cok_f : COk 1 [(1, 0, 0), (3, 0, 1)] [0] := ⟨by decide, by decide, by
  intro k hk
  match k, hk with
  | 0, _ => exact (by decide)
  | 1, _ => exact (by decide)
, by
  intro k hk
  match k, hk with
  | 0, _ => exact (by decide)⟩
theorem ex_fold : foldC 1 [(1, 0, 0), (3, 0, 1)] [2] = ([(1, 0, 0), (3, 0, 1)], [0]) := by decide +kernel
theorem ex_trim : trimC 1 [(1, 0, 0), (3, 0, 1)] [0] = ([], [0]) := by decide +kernel
theorem ex_share : shareC 2 [(3, 0, 1), (3, 1, 0), (5, 2, 3)] [4] = ([(3, 0, 1), (3, 0, 1), (5, 2, 2)], [4]) := by decide +kernel
theorem ex_all2 : itC 2 2 ([(3, 0, 1), (3, 1, 0), (5, 2, 3)], [4]) = ([(0, 0, 0)], [2]) := by decide +kernel
theorem ex_fix : rndC 2 [(0, 0, 0)] [2] = ([(0, 0, 0)], [2]) := by decide +kernel
set_option maxRecDepth 100000 in
set_option maxHeartbeats 8000000 in
theorem awake19_any (w : World) : Calls Try.prog 7 #[] w fun e w' => e = .returned (.bool true) ∧ Below w.heap.size w w' := by
  obtain ⟨w0, hw⟩ : ∃ w0, w0 = lay w [(#[.int .i64 1, .int .i64 0, .int .i64 0, .int .i64 3, .int .i64 0, .int .i64 1], 57), (#[.int .i64 2], 3), (#[.int .i64 1, .slice (some ⟨w.heap.size, 0, none⟩) 2 2, .slice (some ⟨w.heap.size + 1, 0, none⟩) 1 1], 34), (#[.int .i64 3, .int .i64 0, .int .i64 1, .int .i64 3, .int .i64 1, .int .i64 0, .int .i64 5, .int .i64 2, .int .i64 3], 57), (#[.int .i64 4], 3), (#[.int .i64 2, .slice (some ⟨w.heap.size + 1 + 1 + 1, 0, none⟩) 3 3, .slice (some ⟨w.heap.size + 1 + 1 + 1 + 1, 0, none⟩) 1 1], 34), (#[.int .i64 0], 3), (#[.int .i64 1, .slice (some ⟨w.heap.size, 0, none⟩) 2 2, .slice (some ⟨w.heap.size + 1 + 1 + 1 + 1 + 1 + 1, 0, none⟩) 1 1], 34), (#[.int .i64 3, .int .i64 0, .int .i64 1, .int .i64 3, .int .i64 0, .int .i64 1, .int .i64 5, .int .i64 2, .int .i64 2], 57), (#[.int .i64 4], 3), (#[.int .i64 2, .slice (some ⟨w.heap.size + 1 + 1 + 1 + 1 + 1 + 1 + 1 + 1, 0, none⟩) 3 3, .slice (some ⟨w.heap.size + 1 + 1 + 1 + 1 + 1 + 1 + 1 + 1 + 1, 0, none⟩) 1 1], 34), (#[.int .i64 0, .int .i64 0, .int .i64 0], 57), (#[.int .i64 2], 3), (#[.int .i64 2, .slice (some ⟨w.heap.size + 1 + 1 + 1 + 1 + 1 + 1 + 1 + 1 + 1 + 1 + 1, 0, none⟩) 1 1, .slice (some ⟨w.heap.size + 1 + 1 + 1 + 1 + 1 + 1 + 1 + 1 + 1 + 1 + 1 + 1, 0, none⟩) 1 1], 34)] := ⟨_, rfl⟩
  have K0 : Blk w0 (w.heap.size) 57 #[.int .i64 1, .int .i64 0, .int .i64 0, .int .i64 3, .int .i64 0, .int .i64 1] := by rw [hw]; exact lay_blk _ w 0 rfl
  have K1 : Blk w0 (w.heap.size + 1) 3 #[.int .i64 2] := by rw [hw]; exact lay_blk _ w 1 rfl
  have K2 : Blk w0 (w.heap.size + 1 + 1) 34 #[.int .i64 1, .slice (some ⟨w.heap.size, 0, none⟩) 2 2, .slice (some ⟨w.heap.size + 1, 0, none⟩) 1 1] := by rw [hw]; exact lay_blk _ w 2 rfl
  have K3 : Blk w0 (w.heap.size + 1 + 1 + 1) 57 #[.int .i64 3, .int .i64 0, .int .i64 1, .int .i64 3, .int .i64 1, .int .i64 0, .int .i64 5, .int .i64 2, .int .i64 3] := by rw [hw]; exact lay_blk _ w 3 rfl
  have K4 : Blk w0 (w.heap.size + 1 + 1 + 1 + 1) 3 #[.int .i64 4] := by rw [hw]; exact lay_blk _ w 4 rfl
  have K5 : Blk w0 (w.heap.size + 1 + 1 + 1 + 1 + 1) 34 #[.int .i64 2, .slice (some ⟨w.heap.size + 1 + 1 + 1, 0, none⟩) 3 3, .slice (some ⟨w.heap.size + 1 + 1 + 1 + 1, 0, none⟩) 1 1] := by rw [hw]; exact lay_blk _ w 5 rfl
  have K6 : Blk w0 (w.heap.size + 1 + 1 + 1 + 1 + 1 + 1) 3 #[.int .i64 0] := by rw [hw]; exact lay_blk _ w 6 rfl
  have K7 : Blk w0 (w.heap.size + 1 + 1 + 1 + 1 + 1 + 1 + 1) 34 #[.int .i64 1, .slice (some ⟨w.heap.size, 0, none⟩) 2 2, .slice (some ⟨w.heap.size + 1 + 1 + 1 + 1 + 1 + 1, 0, none⟩) 1 1] := by rw [hw]; exact lay_blk _ w 7 rfl
  have K8 : Blk w0 (w.heap.size + 1 + 1 + 1 + 1 + 1 + 1 + 1 + 1) 57 #[.int .i64 3, .int .i64 0, .int .i64 1, .int .i64 3, .int .i64 0, .int .i64 1, .int .i64 5, .int .i64 2, .int .i64 2] := by rw [hw]; exact lay_blk _ w 8 rfl
  have K9 : Blk w0 (w.heap.size + 1 + 1 + 1 + 1 + 1 + 1 + 1 + 1 + 1) 3 #[.int .i64 4] := by rw [hw]; exact lay_blk _ w 9 rfl
  have K10 : Blk w0 (w.heap.size + 1 + 1 + 1 + 1 + 1 + 1 + 1 + 1 + 1 + 1) 34 #[.int .i64 2, .slice (some ⟨w.heap.size + 1 + 1 + 1 + 1 + 1 + 1 + 1 + 1, 0, none⟩) 3 3, .slice (some ⟨w.heap.size + 1 + 1 + 1 + 1 + 1 + 1 + 1 + 1 + 1, 0, none⟩) 1 1] := by rw [hw]; exact lay_blk _ w 10 rfl
  have K11 : Blk w0 (w.heap.size + 1 + 1 + 1 + 1 + 1 + 1 + 1 + 1 + 1 + 1 + 1) 57 #[.int .i64 0, .int .i64 0, .int .i64 0] := by rw [hw]; exact lay_blk _ w 11 rfl
  have K12 : Blk w0 (w.heap.size + 1 + 1 + 1 + 1 + 1 + 1 + 1 + 1 + 1 + 1 + 1 + 1) 3 #[.int .i64 2] := by rw [hw]; exact lay_blk _ w 12 rfl
  have K13 : Blk w0 (w.heap.size + 1 + 1 + 1 + 1 + 1 + 1 + 1 + 1 + 1 + 1 + 1 + 1 + 1) 34 #[.int .i64 2, .slice (some ⟨w.heap.size + 1 + 1 + 1 + 1 + 1 + 1 + 1 + 1 + 1 + 1 + 1, 0, none⟩) 1 1, .slice (some ⟨w.heap.size + 1 + 1 + 1 + 1 + 1 + 1 + 1 + 1 + 1 + 1 + 1 + 1, 0, none⟩) 1 1] := by rw [hw]; exact lay_blk _ w 13 rfl
  have B0 : Below w.heap.size w w0 := by rw [hw]; exact lay_below _ w
  have hwx : ((((((((((((((w.alloc (.cells #[.int .i64 1, .int .i64 0, .int .i64 0, .int .i64 3, .int .i64 0, .int .i64 1] 57)).alloc (.cells #[.int .i64 2] 3)).alloc (.cells #[.int .i64 1, .slice (some ⟨w.heap.size, 0, none⟩) 2 2, .slice (some ⟨w.heap.size + 1, 0, none⟩) 1 1] 34)).alloc (.cells #[.int .i64 3, .int .i64 0, .int .i64 1, .int .i64 3, .int .i64 1, .int .i64 0, .int .i64 5, .int .i64 2, .int .i64 3] 57)).alloc (.cells #[.int .i64 4] 3)).alloc (.cells #[.int .i64 2, .slice (some ⟨w.heap.size + 1 + 1 + 1, 0, none⟩) 3 3, .slice (some ⟨w.heap.size + 1 + 1 + 1 + 1, 0, none⟩) 1 1] 34)).alloc (.cells #[.int .i64 0] 3)).alloc (.cells #[.int .i64 1, .slice (some ⟨w.heap.size, 0, none⟩) 2 2, .slice (some ⟨w.heap.size + 1 + 1 + 1 + 1 + 1 + 1, 0, none⟩) 1 1] 34)).alloc (.cells #[.int .i64 3, .int .i64 0, .int .i64 1, .int .i64 3, .int .i64 0, .int .i64 1, .int .i64 5, .int .i64 2, .int .i64 2] 57)).alloc (.cells #[.int .i64 4] 3)).alloc (.cells #[.int .i64 2, .slice (some ⟨w.heap.size + 1 + 1 + 1 + 1 + 1 + 1 + 1 + 1, 0, none⟩) 3 3, .slice (some ⟨w.heap.size + 1 + 1 + 1 + 1 + 1 + 1 + 1 + 1 + 1, 0, none⟩) 1 1] 34)).alloc (.cells #[.int .i64 0, .int .i64 0, .int .i64 0] 57)).alloc (.cells #[.int .i64 2] 3)).alloc (.cells #[.int .i64 2, .slice (some ⟨w.heap.size + 1 + 1 + 1 + 1 + 1 + 1 + 1 + 1 + 1 + 1 + 1, 0, none⟩) 1 1, .slice (some ⟨w.heap.size + 1 + 1 + 1 + 1 + 1 + 1 + 1 + 1 + 1 + 1 + 1 + 1, 0, none⟩) 1 1] 34)) = w0 := hw.symm
  have B0 := Lib.hid B0
  have HWX := Lib.hid hwx
  clear hw hwx
  go_enter Try.func7, Try.ntmps7
  go_upto_region 6 with (fail)
  rw [HWX.out]
  clear HWX
  generalize w.heap.size + 1 + 1 + 1 + 1 + 1 + 1 + 1 + 1 + 1 + 1 + 1 + 1 + 1 = g13 at *
  generalize w.heap.size + 1 + 1 + 1 + 1 + 1 + 1 + 1 + 1 + 1 + 1 + 1 + 1 = g12 at *
  generalize w.heap.size + 1 + 1 + 1 + 1 + 1 + 1 + 1 + 1 + 1 + 1 + 1 = g11 at *
  generalize w.heap.size + 1 + 1 + 1 + 1 + 1 + 1 + 1 + 1 + 1 + 1 = g10 at *
  generalize w.heap.size + 1 + 1 + 1 + 1 + 1 + 1 + 1 + 1 + 1 = g9 at *
  generalize w.heap.size + 1 + 1 + 1 + 1 + 1 + 1 + 1 + 1 = g8 at *
  generalize w.heap.size + 1 + 1 + 1 + 1 + 1 + 1 + 1 = g7 at *
  generalize w.heap.size + 1 + 1 + 1 + 1 + 1 + 1 = g6 at *
  generalize w.heap.size + 1 + 1 + 1 + 1 + 1 = g5 at *
  generalize w.heap.size + 1 + 1 + 1 + 1 = g4 at *
  generalize w.heap.size + 1 + 1 + 1 = g3 at *
  generalize w.heap.size + 1 + 1 = g2 at *
  generalize w.heap.size + 1 = g1 at *
  generalize hg0 : w.heap.size = g0 at *
  have CA := Lib.hid (cs_blk (N := 1) (gs := [(1, 0, 0), (3, 0, 1)]) (os := [2]) K0 K1)
  have CB := Lib.hid (cs_blk (N := 2) (gs := [(3, 0, 1), (3, 1, 0), (5, 2, 3)]) (os := [4]) K3 K4)
  have CF := Lib.hid (cs_blk (N := 1) (gs := [(1, 0, 0), (3, 0, 1)]) (os := [0]) K0 K6)
  have CSH := Lib.hid (cs_blk (N := 2) (gs := [(3, 0, 1), (3, 0, 1), (5, 2, 2)]) (os := [4]) K8 K9)
  have CZ := Lib.hid (cs_blk (N := 2) (gs := [(0, 0, 0)]) (os := [2]) K11 K12)
  have T2 := Lib.hid K2
  have T5 := Lib.hid K5
  have T7 := Lib.hid K7
  have T10 := Lib.hid K10
  have T13 := Lib.hid K13
  clear K0 K1 K2 K3 K4 K5 K6 K7 K8 K9 K10 K11 K12 K13
  have FA := Lib.hid (fun W (hb : Below w0.heap.size w0 W) => show Calls Try.prog 24 #[.agg #[.int .i64 1, .slice (some ⟨g0, 0, none⟩) 2 2, .slice (some ⟨g1, 0, none⟩) 1 1]] W fun e W' => ∃ A O cA cO, e = .returned (.agg #[.int .i64 1, .slice A 2 cA, .slice O 1 cO]) ∧ CS W' A O (crL 1 [(1, 0, 0), (3, 0, 1)] [0]) ∧ Below W.heap.size W W' from by
    have q := oFold_any 1 [(1, 0, 0), (3, 0, 1)] [2] _ _ 2 1 W (CA.out.later hb) cok_a (by decide)
    rw [ex_fold] at q
    exact q)
  have TA := Lib.hid (fun W (hb : Below w0.heap.size w0 W) => show Calls Try.prog 25 #[.agg #[.int .i64 1, .slice (some ⟨g0, 0, none⟩) 2 2, .slice (some ⟨g6, 0, none⟩) 1 1]] W fun e W' => ∃ A O cA cO, e = .returned (.agg #[.int .i64 1, .slice A 0 cA, .slice O 1 cO]) ∧ CS W' A O (crL 1 [] [0]) ∧ Below W.heap.size W W' from by
    have q := oTrim_any 1 [(1, 0, 0), (3, 0, 1)] [0] _ _ 2 1 W (CF.out.later hb) cok_f (by decide)
    rw [ex_trim] at q
    exact q)
  have SA := Lib.hid (fun W (hb : Below w0.heap.size w0 W) => show Calls Try.prog 26 #[.agg #[.int .i64 2, .slice (some ⟨g3, 0, none⟩) 3 3, .slice (some ⟨g4, 0, none⟩) 1 1]] W fun e W' => ∃ A O cA cO, e = .returned (.agg #[.int .i64 2, .slice A 3 cA, .slice O 1 cO]) ∧ CS W' A O (crL 2 [(3, 0, 1), (3, 0, 1), (5, 2, 2)] [4]) ∧ Below W.heap.size W W' from by
    have q := oShare_any 2 [(3, 0, 1), (3, 1, 0), (5, 2, 3)] [4] _ _ 3 1 W (CB.out.later hb) cok_b (by decide)
    rw [ex_share] at q
    exact q)
  have AA := Lib.hid (fun W (hb : Below w0.heap.size w0 W) => show Calls Try.prog 12 #[.agg #[.int .i64 2, .slice (some ⟨g3, 0, none⟩) 3 3, .slice (some ⟨g4, 0, none⟩) 1 1]] W fun e W' => ∃ A O cA cO, e = .returned (.agg #[.int .i64 2, .slice A 1 cA, .slice O 1 cO]) ∧ CS W' A O (crL 2 [(0, 0, 0)] [2]) ∧ Below W.heap.size W W' from by
    refine (oAll_any 2 [(3, 0, 1), (3, 1, 0), (5, 2, 3)] [4] _ _ 3 1 W (CB.out.later hb) cok_b (by decide)).mono fun e W' ⟨k, hk, q⟩ => ?_
    have h2 : rndC 2 (itC 2 2 ([(3, 0, 1), (3, 1, 0), (5, 2, 3)], [4])).1 (itC 2 2 ([(3, 0, 1), (3, 1, 0), (5, 2, 3)], [4])).2 = itC 2 2 ([(3, 0, 1), (3, 1, 0), (5, 2, 3)], [4]) := by rw [ex_all2]; exact ex_fix
    rw [it_same hk h2, ex_all2] at q
    exact q)
  have M1 := Lib.hid (fun W A O cA cO (hc : CS W A O (crL 1 [(1, 0, 0), (3, 0, 1)] [0])) (hb : Below w0.heap.size w0 W) => show Calls Try.prog 23 #[.agg #[.int .i64 1, .slice A 2 cA, .slice O 1 cO], .agg #[.int .i64 1, .slice (some ⟨g0, 0, none⟩) 2 2, .slice (some ⟨g6, 0, none⟩) 1 1]] W fun e W' => e = .returned (.bool true) ∧ Below W.heap.size W W' from x_same 1 [(1, 0, 0), (3, 0, 1)] [0] A O _ _ cA cO 2 1 W hc (CF.out.later hb) (by decide) (by decide))
  have M3 := Lib.hid (fun W A O cA cO (hc : CS W A O (crL 2 [(3, 0, 1), (3, 0, 1), (5, 2, 2)] [4])) (hb : Below w0.heap.size w0 W) => show Calls Try.prog 23 #[.agg #[.int .i64 2, .slice A 3 cA, .slice O 1 cO], .agg #[.int .i64 2, .slice (some ⟨g8, 0, none⟩) 3 3, .slice (some ⟨g9, 0, none⟩) 1 1]] W fun e W' => e = .returned (.bool true) ∧ Below W.heap.size W W' from x_same 2 [(3, 0, 1), (3, 0, 1), (5, 2, 2)] [4] A O _ _ cA cO 3 1 W hc (CSH.out.later hb) (by decide) (by decide))
  have M4 := Lib.hid (fun W A O cA cO (hc : CS W A O (crL 2 [(0, 0, 0)] [2])) (hb : Below w0.heap.size w0 W) => show Calls Try.prog 23 #[.agg #[.int .i64 2, .slice A 1 cA, .slice O 1 cO], .agg #[.int .i64 2, .slice (some ⟨g11, 0, none⟩) 1 1, .slice (some ⟨g12, 0, none⟩) 1 1]] W fun e W' => e = .returned (.bool true) ∧ Below W.heap.size W W' from x_same 2 [(0, 0, 0)] [2] A O _ _ cA cO 1 1 W hc (CZ.out.later hb) (by decide) (by decide))
  have M2 := Lib.hid (fun W A O cA cO gx (hc : CS W A O (crL 1 [] [0])) (hk : Blk W gx 3 #[.int .i64 0]) => show Calls Try.prog 23 #[.agg #[.int .i64 1, .slice A 0 cA, .slice O 1 cO], .agg #[.int .i64 1, .slice none 0 0, .slice (some ⟨gx, 0, none⟩) 1 1]] W fun e W' => e = .returned (.bool true) ∧ Below W.heap.size W W' from x_same 1 [] [0] A O _ _ cA cO 0 1 W hc (cs_nil (os := [0]) hk) (by decide) (by decide))
  have KP := Lib.hid (fun W (hb : Below w0.heap.size w0 W) => show W.cell? ⟨g2, 0, none⟩ = some (.int .i64 1) ∧ W.cell? ⟨g2, 1, none⟩ = some (.slice (some ⟨g0, 0, none⟩) 2 2) ∧ W.cell? ⟨g2, 2, none⟩ = some (.slice (some ⟨g1, 0, none⟩) 1 1) ∧ W.cell? ⟨g5, 0, none⟩ = some (.int .i64 2) ∧ W.cell? ⟨g5, 1, none⟩ = some (.slice (some ⟨g3, 0, none⟩) 3 3) ∧ W.cell? ⟨g5, 2, none⟩ = some (.slice (some ⟨g4, 0, none⟩) 1 1) ∧ W.cell? ⟨g7, 0, none⟩ = some (.int .i64 1) ∧ W.cell? ⟨g7, 1, none⟩ = some (.slice (some ⟨g0, 0, none⟩) 2 2) ∧ W.cell? ⟨g7, 2, none⟩ = some (.slice (some ⟨g6, 0, none⟩) 1 1) ∧ W.cell? ⟨g10, 0, none⟩ = some (.int .i64 2) ∧ W.cell? ⟨g10, 1, none⟩ = some (.slice (some ⟨g8, 0, none⟩) 3 3) ∧ W.cell? ⟨g10, 2, none⟩ = some (.slice (some ⟨g9, 0, none⟩) 1 1) ∧ W.cell? ⟨g13, 0, none⟩ = some (.int .i64 2) ∧ W.cell? ⟨g13, 1, none⟩ = some (.slice (some ⟨g11, 0, none⟩) 1 1) ∧ W.cell? ⟨g13, 2, none⟩ = some (.slice (some ⟨g12, 0, none⟩) 1 1) from by
    obtain ⟨k0, k1, k2, _, _, _, _⟩ := (T2.out.below hb T2.out.lt).three6
    obtain ⟨k3, k4, k5, _, _, _, _⟩ := (T5.out.below hb T5.out.lt).three6
    obtain ⟨k6, k7, k8, _, _, _, _⟩ := (T7.out.below hb T7.out.lt).three6
    obtain ⟨k9, k10, k11, _, _, _, _⟩ := (T10.out.below hb T10.out.lt).three6
    obtain ⟨k12, k13, k14, _, _, _, _⟩ := (T13.out.below hb T13.out.lt).three6
    exact ⟨k0, k1, k2, k3, k4, k5, k6, k7, k8, k9, k10, k11, k12, k13, k14⟩)
  clear T2 T5 T7 T10 T13 CA CB CF CSH CZ
  have S0 := KP.out w0 (Below.refl _ _)
  go_region_held_law (fun W => W.cell? ⟨g2, 0, none⟩ = some (.int .i64 1) ∧ W.cell? ⟨g2, 1, none⟩ = some (.slice (some ⟨g0, 0, none⟩) 2 2) ∧ W.cell? ⟨g2, 2, none⟩ = some (.slice (some ⟨g1, 0, none⟩) 1 1) ∧ W.cell? ⟨g5, 0, none⟩ = some (.int .i64 2) ∧ W.cell? ⟨g5, 1, none⟩ = some (.slice (some ⟨g3, 0, none⟩) 3 3) ∧ W.cell? ⟨g5, 2, none⟩ = some (.slice (some ⟨g4, 0, none⟩) 1 1) ∧ W.cell? ⟨g7, 0, none⟩ = some (.int .i64 1) ∧ W.cell? ⟨g7, 1, none⟩ = some (.slice (some ⟨g0, 0, none⟩) 2 2) ∧ W.cell? ⟨g7, 2, none⟩ = some (.slice (some ⟨g6, 0, none⟩) 1 1) ∧ W.cell? ⟨g10, 0, none⟩ = some (.int .i64 2) ∧ W.cell? ⟨g10, 1, none⟩ = some (.slice (some ⟨g8, 0, none⟩) 3 3) ∧ W.cell? ⟨g10, 2, none⟩ = some (.slice (some ⟨g9, 0, none⟩) 1 1) ∧ W.cell? ⟨g13, 0, none⟩ = some (.int .i64 2) ∧ W.cell? ⟨g13, 1, none⟩ = some (.slice (some ⟨g11, 0, none⟩) 1 1) ∧ W.cell? ⟨g13, 2, none⟩ = some (.slice (some ⟨g12, 0, none⟩) 1 1))
    (first | exact S0 | exact KP.out _ (Below.refl _ _).drew | exact KP.out _ Z1.out | exact KP.out _ Z2.out | exact KP.out _ Z3.out | exact KP.out _ Z4.out | exact KP.out _ Z5.out | exact KP.out _ Z6.out | exact KP.out _ Z7.out | exact KP.out _ Z8.out | exact KP.out _ (Below.alloc' Z3.out _) | exact KP.out _ (Below.alloc' Z2.out _) | go_keep)
    (first
    | (go_at_call 23; (with_reducible refine (M4.out _ _ _ _ _ C7.out Z7.out).mono ?_); rintro e w8 ⟨rfl, hb⟩; have Z8 := Lib.hid (Z7.out.trans (hb.mono Z7.out.size)); clear hb)
    | (go_at_call 12; (with_reducible refine (AA.out _ (by first | exact Z6.out | exact Z6.out.drew | exact (Below.refl _ _).drew | exact Below.refl _ _)).mono ?_); rintro e w7 ⟨A7, O7, a7, o7, rfl, hc, hb⟩; have C7 := Lib.hid hc; have Z7 := Lib.hid (show Below w0.heap.size w0 w7 from by first | exact Z6.out.trans (hb.mono Z6.out.size) | exact (Below.refl _ w0).drew.trans hb | exact hb); clear hc hb)
    | (go_at_call 23; (with_reducible refine (M3.out _ _ _ _ _ C5.out Z5.out).mono ?_); rintro e w6 ⟨rfl, hb⟩; have Z6 := Lib.hid (Z5.out.trans (hb.mono Z5.out.size)); clear hb)
    | (go_at_call 26; (with_reducible refine (SA.out _ (by first | exact Z4.out | exact Z4.out.drew | exact (Below.refl _ _).drew | exact Below.refl _ _)).mono ?_); rintro e w5 ⟨A5, O5, a5, o5, rfl, hc, hb⟩; have C5 := Lib.hid hc; have Z5 := Lib.hid (show Below w0.heap.size w0 w5 from by first | exact Z4.out.trans (hb.mono Z4.out.size) | exact (Below.refl _ w0).drew.trans hb | exact hb); clear hc hb)
    | (go_at_call 23; (with_reducible refine (M2.out _ _ _ _ _ _ C3.out KX.out).mono ?_); rintro e w4 ⟨rfl, hb⟩; have Z4 := Lib.hid (Z3.out.trans (hb.mono Z3.out.size)); clear hb)
    | (go_at_call 23; (with_reducible refine (M2.out _ _ _ _ _ _ (C3.out.later ((Below.refl w3.heap.size w3).alloc (Nat.le_refl _) (.cells #[.int .i64 0] 3))) (Blk.new w3 3 #[.int .i64 0])).mono ?_); rintro e w4 ⟨rfl, hb⟩; have Z4 := Lib.hid ((Z3.out.alloc Z3.out.size (.cells #[.int .i64 0] 3)).trans (hb.mono (Z3.out.alloc Z3.out.size (.cells #[.int .i64 0] 3)).size)); clear hb)
    | (go_at_call 25; (with_reducible refine (TA.out (w2.alloc (.cells #[.int .i64 0] 3)) (Z2.out.alloc Z2.out.size _)).mono ?_); rintro e w3 ⟨A3, O3, a3, o3, rfl, hc, hb⟩; have C3 := Lib.hid hc; have KX := Lib.hid ((Blk.new w2 3 #[.int .i64 0]).below hb (Blk.new w2 3 #[.int .i64 0]).lt); have Z3 := Lib.hid ((Z2.out.alloc Z2.out.size (.cells #[.int .i64 0] 3)).trans (hb.mono (Z2.out.alloc Z2.out.size (.cells #[.int .i64 0] 3)).size)); clear hc hb)
    | (go_at_call 25; (with_reducible refine (TA.out _ (by first | exact Z2.out | exact Z2.out.drew | exact (Below.refl _ _).drew | exact Below.refl _ _)).mono ?_); rintro e w3 ⟨A3, O3, a3, o3, rfl, hc, hb⟩; have C3 := Lib.hid hc; have Z3 := Lib.hid (show Below w0.heap.size w0 w3 from by first | exact Z2.out.trans (hb.mono Z2.out.size) | exact (Below.refl _ w0).drew.trans hb | exact hb); clear hc hb)
    | (go_at_call 23; (with_reducible refine (M1.out _ _ _ _ _ C1.out Z1.out).mono ?_); rintro e w2 ⟨rfl, hb⟩; have Z2 := Lib.hid (Z1.out.trans (hb.mono Z1.out.size)); clear hb)
    | (go_at_call 24; (with_reducible refine (FA.out _ (by first | exact (Below.refl _ _).drew | exact Below.refl _ _)).mono ?_); rintro e w1 ⟨A1, O1, a1, o1, rfl, hc, hb⟩; have C1 := Lib.hid hc; have Z1 := Lib.hid (show Below w0.heap.size w0 w1 from by first | exact (Below.refl _ w0).drew.trans hb | exact hb); clear hc hb))
  all_goals
    go_wp2_with fail
    (try go_ret)
    refine ⟨rfl, ?_⟩
    rw [hg0]
    exact B0.out.trans (Z8.out.mono (by have := B0.out.size; omega))
end Go.Proofs.Ytnhkgkpjkgifoaa
