/- The walks of digit, literal and test. -/
import Derived.Test.YtpkhioiabahhaaaCol
import Derived.Deep.RegionHeldLaw
namespace Go.Proofs.Ytpkhioiabahhaaa
open Go.RowKit

/-- a binary digit -/
def bt (n k : Nat) : Bool := n / 2 ^ k % 2 == 1
theorem digit_any (n k : Nat) (w : World) (hn : n < 8) (hk : k < 3) :
    Calls Try.prog 34 #[.int .i64 (n : Int), .int .i64 (k : Int)] w fun e w' => e = .returned (.bool (bt n k)) ∧ w = w' := by
  have hn' : n = 0 ∨ n = 1 ∨ n = 2 ∨ n = 3 ∨ n = 4 ∨ n = 5 ∨ n = 6 ∨ n = 7 := by omega
  have hk' : k = 0 ∨ k = 1 ∨ k = 2 := by omega
  rcases hn' with rfl | rfl | rfl | rfl | rfl | rfl | rfl | rfl <;> rcases hk' with rfl | rfl | rfl <;>
    (go_enter Try.func34, Try.ntmps34
     go_wp2
     go_ret
     exact ⟨rfl, rfl⟩)
/-- the wire of a literal -/
def liV (nots : List Int) (b i k : Nat) (one : Bool) : Int := if one then ((i * b + k : Nat) : Int) else ig nots (i * b + k)
theorem lwc_at {lb : Nat} {I : Int} {A : Option Addr} {n c : Nat} {O : Oc} {w : World} (h : Blk w lb 80 (lwc I A n c O)) : w.cell? ⟨lb, 2, none⟩ = some O.a ∧ w.cell? ⟨lb, 3, none⟩ = some O.b ∧ w.cell? ⟨lb, 4, none⟩ = some O.c ∧ w.cell? ⟨lb, 5, none⟩ = some O.d ∧ w.cell? ⟨lb, 6, none⟩ = some O.e ∧ w.cell? ⟨lb, 7, none⟩ = some O.f ∧ w.cell? ⟨lb, 8, none⟩ = some O.g ∧ w.cell? ⟨lb, 9, none⟩ = some O.h :=
  ⟨(h.cell 2).trans rfl, (h.cell 3).trans rfl, (h.cell 4).trans rfl, (h.cell 5).trans rfl, (h.cell 6).trans rfl, (h.cell 7).trans rfl, (h.cell 8).trans rfl, (h.cell 9).trans rfl⟩
set_option maxRecDepth 100000 in
set_option maxHeartbeats 2000000 in
theorem literal_any (lb : Nat) (b i k no cO : Nat) (one : Bool) (AO : Option Addr) (nots : List Int) (w : World) (c6 : w.cell? ⟨lb, 6, none⟩ = some (.int .i64 (b : Int))) (c7 : w.cell? ⟨lb, 7, none⟩ = some (.slice AO no cO)) (hr : Reads w w.heap.size AO no (il nots)) (hlt : i * b + k < no) (hno : no ≤ 1000000) :
    Calls Try.prog 63 #[.pointer (some ⟨lb, 0, none⟩), .int .i64 (i : Int), .int .i64 (k : Int), .bool one] w fun e w' => e = .returned (.int .i64 (liV nots b i k one)) ∧ w = w' := by
  obtain ⟨ad, rfl, _, hc⟩ := il_at hr hlt
  obtain ⟨q, hq⟩ : ∃ q, q = i * b := ⟨_, rfl⟩
  have hle : q ≤ 1000000 := by omega
  have e1 : IntKind.i64.wrap ((i : Int) * (b : Int)) = (q : Int) := by
    rw [hq, Int.natCast_mul]
    rw [show (i : Int) * (b : Int) = (q : Int) by rw [hq, Int.natCast_mul]]
    exact IntWalk.i64_in _ ⟨by omega, by omega⟩
  have e2 : IntKind.i64.wrap ((q : Int) + (k : Int)) = ((q + k : Nat) : Int) := by
    rw [show (q : Int) + (k : Int) = ((q + k : Nat) : Int) by omega]
    exact IntWalk.i64_in _ ⟨by omega, by omega⟩
  unfold liV
  rw [← hq] at hc hlt ⊢
  obtain ⟨p, hp⟩ : ∃ p, p = q + k := ⟨_, rfl⟩
  rw [← hp] at hc hlt e2 ⊢
  generalize ig nots p = z at hc ⊢
  have hpI : (p : Int) < (no : Int) := by omega
  clear hr hq hp
  cases one with
  | true =>
    go_enter Try.func63, Try.ntmps63
    go_wp2
    go_ret
    exact ⟨rfl, rfl⟩
  | false =>
    go_enter Try.func63, Try.ntmps63
    go_wp2
    go_ret
    exact ⟨rfl, rfl⟩
set_option maxRecDepth 100000 in
set_option maxHeartbeats 2000000 in
theorem test1_any (lb gl gi gs' : Nat) (b i k s no cO : Nat) (AO : Option Addr) (nots : List Int) (w : World) (hl : w.cell? ⟨gl, 0, none⟩ = some (.pointer (some ⟨lb, 0, none⟩))) (hi : w.cell? ⟨gi, 0, none⟩ = some (.int .i64 (i : Int))) (hs : w.cell? ⟨gs', 0, none⟩ = some (.int .i64 (s : Int)))
    (c6 : w.cell? ⟨lb, 6, none⟩ = some (.int .i64 (b : Int))) (c7 : w.cell? ⟨lb, 7, none⟩ = some (.slice AO no cO)) (hr : Reads w w.heap.size AO no (il nots)) (hlt : i * b + k < no) (hno : no ≤ 1000000) (hs8 : s < 8) (hk : k < 3) :
    Calls Try.prog 62 #[.int .i64 (k : Int), .pointer (some ⟨gl, 0, none⟩), .pointer (some ⟨gi, 0, none⟩), .pointer (some ⟨gs', 0, none⟩)] w fun e w' => e = .returned (.int .i64 (liV nots b i k (bt s k))) ∧ Below w.heap.size w w' := by
  have DG := Lib.hid (fun w' => digit_any s k w' hs8 hk)
  have LI := Lib.hid (fun (one : Bool) (w' : World) (hb : Below w.heap.size w w') => literal_any lb b i k no cO one AO nots w' ((hb.cell (World.block_lt_of_cell? w _ c6)).trans c6) ((hb.cell (World.block_lt_of_cell? w _ c7)).trans c7) (hr.later hb) hlt hno)
  clear hr hlt c6 c7
  generalize bt s k = one at DG ⊢
  go_enter Try.func62, Try.ntmps62
  go_wp2_with fail
  go_region_held_law (fun W => W.cell? ⟨gl, 0, none⟩ = some (.pointer (some ⟨lb, 0, none⟩)) ∧ W.cell? ⟨gi, 0, none⟩ = some (.int .i64 (i : Int)) ∧ W.cell? ⟨gs', 0, none⟩ = some (.int .i64 (s : Int)))
    (first | exact ⟨hl, hi, hs⟩ | assumption | go_keep)
    (first
    | (go_at_call 34; (with_reducible refine (DG.out _).mono ?_); rintro e w1 ⟨rfl, rfl⟩)
    | (go_at_call 63; (with_reducible refine (LI.out _ _ (Below.refl _ _).drew).mono ?_); rintro e w1 ⟨rfl, rfl⟩))
  all_goals
    go_wp2_with fail
    go_ret
    exact ⟨rfl, (Below.refl _ _).drew⟩
end Go.Proofs.Ytpkhioiabahhaaa
