/- Parse of the plain notations at the chapter's examples. -/
import Derived.Test.YtbdgfegafckkbaaGreatDoorText
namespace Go.Proofs.YtbdgfegafckkbaaGreatDoor
open Go.RowKit

theorem cut_at (s q r : List UInt8) (b : Bool) (hs : s.length ≤ 100) (hq : q.length ≤ 100) (h1 : Lib.trimPrefix s q = r) (h2 : Lib.hasPrefix s q = b) (w : World) :
    Calls Tryz.prog 41 #[.string (tx s), .string (tx q)] w fun e w' => e = .returned (.tuple #[.string (tx r), .bool b]) ∧ w = w' := by
  have := cut_any s q w (by omega) (by omega)
  rwa [h1, h2] at this
theorem lead_at (s r : List UInt8) (hs : s.length ≤ 100) (h1 : (ld s 10).2 = r) (w : World) :
    Calls Tryz.prog 42 #[.string (tx s)] w fun e w' => e = .returned (.tuple #[.agg (bls (ld s 10).1), .string (tx r)]) ∧ Below w.heap.size w w' := by
  have := leading_any s w (by omega)
  rwa [h1] at this
section
variable (s0 s1 s2 s3 s4 : List UInt8)
theorem parse_ok (l1 l2 : List Int) (n1 n2 n : Nat) (f : Nat → P2) (w : World) (hl : s0.length ≤ 100 ∧ s1.length ≤ 100 ∧ s2.length ≤ 100 ∧ s3.length ≤ 100)
    (h1 : Lib.trimPrefix s0 [66] = s1 ∧ Lib.hasPrefix s0 [66] = true) (h2 : (ld s1 10).2 = s2) (h3 : Lib.trimPrefix s2 [47, 83] = s3 ∧ Lib.hasPrefix s2 [47, 83] = true) (h4 : (ld s3 10).2 = s4)
    (e1 : nl (ld s1 10).1 10 = l1) (e2 : nl (ld s3 10).1 10 = l2) (hn1 : l1.length = n1) (hn2 : l2.length = n2) (hn : 0 < n) (hn' : n ≤ 100) (hq : rt f n 2 l1 l2 = true)
    (O : ∀ w, Calls Tryz.prog 35 #[.string (tx s4)] w fun e w' => ∃ A c, e = .returned (.slice A n c) ∧ QReads w' w'.heap.size A n f ∧ Below w.heap.size w w') :
    Calls Tryz.prog 30 #[.string (tx s0)] w fun e w' => ∃ A c A1 c1 A2 c2, e = .returned (.tuple #[.agg #[.slice A n c, .int .i64 2, .slice A1 n1 c1, .slice A2 n2 c2], .int .i64 0]) ∧ TR w' A n f A1 n1 l1 A2 n2 l2 ∧ Below w.heap.size w w' ∧ (∀ ad, A1 = some ad → w.heap.size ≤ ad.block) ∧ (∀ ad, A2 = some ad → w.heap.size ≤ ad.block) := by
  subst e1 e2 hn1 hn2
  have := parse_main (tx s0) (tx s1) (tx s2) (tx s3) (tx s4) (ld s1 10).1 (ld s3 10).1 true n f w hn hn' hq (cut_at s0 [66] s1 true hl.1 (by decide) h1.1 h1.2) (lead_at s1 s2 hl.2.1 h2) (cut_at s2 [47, 83] s3 true hl.2.2.1 (by decide) h3.1 h3.2) (lead_at s3 s4 hl.2.2.2 h4) O
  simpa using this
theorem parse_rg (l1 l2 : List Int) (n : Nat) (f : Nat → P2) (w : World) (hl : s0.length ≤ 100 ∧ s1.length ≤ 100 ∧ s2.length ≤ 100 ∧ s3.length ≤ 100)
    (h1 : Lib.trimPrefix s0 [66] = s1 ∧ Lib.hasPrefix s0 [66] = true) (h2 : (ld s1 10).2 = s2) (h3 : Lib.trimPrefix s2 [47, 83] = s3 ∧ Lib.hasPrefix s2 [47, 83] = true) (h4 : (ld s3 10).2 = s4)
    (e1 : nl (ld s1 10).1 10 = l1) (e2 : nl (ld s3 10).1 10 = l2) (hn : 0 < n) (hn' : n ≤ 100) (hq : rt f n 2 l1 l2 = false)
    (O : ∀ w, Calls Tryz.prog 35 #[.string (tx s4)] w fun e w' => ∃ A c, e = .returned (.slice A n c) ∧ QReads w' w'.heap.size A n f ∧ Below w.heap.size w w') :
    Calls Tryz.prog 30 #[.string (tx s0)] w fun e w' => e = .returned (.tuple #[.agg #[.slice none 0 0, .int .i64 0, .slice none 0 0, .slice none 0 0], .int .i64 5]) ∧ Below w.heap.size w w' := by
  subst e1 e2
  have := parse_main (tx s0) (tx s1) (tx s2) (tx s3) (tx s4) (ld s1 10).1 (ld s3 10).1 false n f w hn hn' hq (cut_at s0 [66] s1 true hl.1 (by decide) h1.1 h1.2) (lead_at s1 s2 hl.2.1 h2) (cut_at s2 [47, 83] s3 true hl.2.2.1 (by decide) h3.1 h3.2) (lead_at s3 s4 hl.2.2.2 h4) O
  simpa using this
end
theorem ex1 (w : World) : Calls Tryz.prog 30 #[.string (tx [66, 50, 47, 83])] w fun e w' => ∃ A c A1 c1 A2 c2, e = .returned (.tuple #[.agg #[.slice A 9 c, .int .i64 2, .slice A1 1 c1, .slice A2 0 c2], .int .i64 0]) ∧ TR w' A 9 (lf M1) A1 1 [2] A2 0 [] ∧ Below w.heap.size w w' ∧ (∀ ad, A1 = some ad → w.heap.size ≤ ad.block) ∧ (∀ ad, A2 = some ad → w.heap.size ≤ ad.block) :=
  parse_ok [66, 50, 47, 83] [50, 47, 83] [47, 83] [] [] [2] [] 1 0 9 (lf M1) w (by decide) (by decide +kernel) (by decide +kernel) (by decide +kernel) (by decide +kernel) (by decide +kernel) (by decide +kernel) rfl rfl (by decide) (by decide) (by decide +kernel) offsets0
theorem ex2 (w : World) : Calls Tryz.prog 30 #[.string (tx [66, 50, 47, 83, 51, 52, 53, 86])] w fun e w' => e = .returned (.tuple #[.agg #[.slice none 0 0, .int .i64 0, .slice none 0 0, .slice none 0 0], .int .i64 5]) ∧ Below w.heap.size w w' :=
  parse_rg [66, 50, 47, 83, 51, 52, 53, 86] [50, 47, 83, 51, 52, 53, 86] [47, 83, 51, 52, 53, 86] [51, 52, 53, 86] [86] [2] [3, 4, 5] 5 (lf N1) w (by decide) (by decide +kernel) (by decide +kernel) (by decide +kernel) (by decide +kernel) (by decide +kernel) (by decide +kernel) (by decide) (by decide) (by decide +kernel) offsets1
theorem ex3 (w : World) : Calls Tryz.prog 30 #[.string (tx [66, 83, 50, 51, 47, 83, 66, 51])] w fun e w' => e = .returned (.tuple #[.agg #[.slice none 0 0, .int .i64 0, .slice none 0 0, .slice none 0 0], .int .i64 15]) ∧ Below w.heap.size w w' :=
  parse_syn2 (tx [66, 83, 50, 51, 47, 83, 66, 51]) (tx [83, 50, 51, 47, 83, 66, 51]) (tx [83, 50, 51, 47, 83, 66, 51]) (tx [83, 50, 51, 47, 83, 66, 51]) (tx [83, 50, 51, 47, 83, 66, 51]) _ _ w (cut_at _ [66] _ true (by decide) (by decide) (by decide +kernel) (by decide +kernel)) (lead_at _ _ (by decide) (by decide +kernel)) (cut_at _ [47, 83] _ false (by decide) (by decide) (by decide +kernel) (by decide +kernel)) (lead_at _ _ (by decide) (by decide +kernel)) offsets4
end Go.Proofs.YtbdgfegafckkbaaGreatDoor
