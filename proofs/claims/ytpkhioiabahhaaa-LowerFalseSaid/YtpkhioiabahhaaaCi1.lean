/- The walk of circuitOf's first closure: it calls test. -/
import Derived.Test.YtpkhioiabahhaaaTst
namespace Go.Proofs.Ytpkhioiabahhaaa
open Go.RowKit

set_option maxRecDepth 100000 in
set_option maxHeartbeats 4000000 in
theorem ci1_any (lb base : Nat) (I : Int) (O : Oc) (b i s no cO gi : Nat) (AO : Option Addr) (nots : List Int) (w : World) (A : Option Addr) (gs : List C3) (h : GSt lb base I O w A gs) (hlb : lb < base) (hb : base ≤ w.heap.size) (hn : gs.length ≤ 900000) (hI : 0 ≤ I) (hI2 : I ≤ 1000000)
    (hOe : O.e = .int .i64 (b : Int)) (hOf : O.f = .slice AO no cO) (hr : Reads w w.heap.size AO no (il nots)) (hdis : ∀ ad, AO = some ad → ¬ gb lb A ad.block) (hlt : i * b + b ≤ no) (hno : no ≤ 1000000) (hs8 : s < 8) (hb1 : 1 ≤ b) (hb3 : b ≤ 3)
    (hi : w.cell? ⟨gi, 0, none⟩ = some (.int .i64 (i : Int))) :
    Calls Try.prog 45 #[.int .i64 (s : Int), .pointer (some ⟨lb, 0, none⟩), .pointer (some ⟨gi, 0, none⟩)] w fun e w' => ∃ A', e = .returned (.int .i64 (teF I nots b i s gs).1) ∧ GSt lb base I O w' A' (teF I nots b i s gs).2 ∧ Fr (gb lb A) w (gb lb A') w' := by
  have TE := Lib.hid (test_any lb base I O b i s no cO AO nots w A gs h hlb hb hn hI hI2 hOe hOf hr hdis hlt hno hs8 hb1 hb3)
  clear h hr hdis hlt hOe hOf
  generalize teF I nots b i s gs = x at TE ⊢
  go_enter Try.func45, Try.ntmps45
  go_wp2_with (with_reducible refine (TE.out).mono ?_; rintro e w5 ⟨A2, rfl, hs, hf⟩; have S5 := Lib.hid hs; have F5 := Lib.hid hf; clear hs hf)
  go_ret
  exact ⟨_, rfl, S5.out, F5.out⟩
end Go.Proofs.Ytpkhioiabahhaaa
