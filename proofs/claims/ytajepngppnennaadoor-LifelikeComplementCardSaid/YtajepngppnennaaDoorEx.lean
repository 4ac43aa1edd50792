/- Parse, Text and Complement at the chapter's examples. -/
import Derived.Test.YtajepngppnennaaDoorText
namespace Go.Proofs.YtajepngppnennaaDoor
open Go.RowKit

theorem cut_at (s q r : List UInt8) (b : Bool) (hs : s.length ≤ 100) (hq : q.length ≤ 100) (h1 : Lib.trimPrefix s q = r) (h2 : Lib.hasPrefix s q = b) (w : World) :
    Calls Tryd.prog 23 #[.string (tx s), .string (tx q)] w fun e w' => e = .returned (.tuple #[.string (tx r), .bool b]) ∧ w = w' := by
  have := cut_any s q w (by omega) (by omega)
  rwa [h1, h2] at this
theorem lead_at (s r : List UInt8) (hs : s.length ≤ 100) (h1 : (ld s 10).2 = r) (w : World) :
    Calls Tryd.prog 24 #[.string (tx s)] w fun e w' => e = .returned (.tuple #[.agg (bls (ld s 10).1), .string (tx r)]) ∧ Below w.heap.size w w' := by
  have := leading_any s w (by omega)
  rwa [h1] at this
section
variable (s0 s1 s2 s3 s4 : List UInt8)
theorem parse_ok (l1 l2 : List Int) (n1 n2 n : Nat) (f : Nat → P2) (w : World) (hl : s0.length ≤ 100 ∧ s1.length ≤ 100 ∧ s2.length ≤ 100 ∧ s3.length ≤ 100)
    (h1 : Lib.trimPrefix s0 [66] = s1 ∧ Lib.hasPrefix s0 [66] = true) (h2 : (ld s1 10).2 = s2) (h3 : Lib.trimPrefix s2 [47, 83] = s3 ∧ Lib.hasPrefix s2 [47, 83] = true) (h4 : (ld s3 10).2 = s4)
    (e1 : nl (ld s1 10).1 10 = l1) (e2 : nl (ld s3 10).1 10 = l2) (hn1 : l1.length = n1) (hn2 : l2.length = n2) (hn : 0 < n) (hn' : n ≤ 100) (hq : rt f n 2 l1 l2 = true)
    (O : ∀ w, Calls Tryd.prog 25 #[.string (tx s4)] w fun e w' => ∃ A c, e = .returned (.slice A n c) ∧ QReads w' w'.heap.size A n f ∧ Below w.heap.size w w') :
    Calls Tryd.prog 10 #[.string (tx s0)] w fun e w' => ∃ A c A1 c1 A2 c2, e = .returned (.tuple #[.agg #[.slice A n c, .int .i64 2, .slice A1 n1 c1, .slice A2 n2 c2], .int .i64 0]) ∧ TR w' A n f A1 n1 l1 A2 n2 l2 ∧ Below w.heap.size w w' := by
  subst e1 e2 hn1 hn2
  have := parse_main (tx s0) (tx s1) (tx s2) (tx s3) (tx s4) (ld s1 10).1 (ld s3 10).1 true n f w hn hn' hq (cut_at s0 [66] s1 true hl.1 (by decide) h1.1 h1.2) (lead_at s1 s2 hl.2.1 h2) (cut_at s2 [47, 83] s3 true hl.2.2.1 (by decide) h3.1 h3.2) (lead_at s3 s4 hl.2.2.2 h4) O
  simpa using this
theorem parse_rg (l1 l2 : List Int) (n : Nat) (f : Nat → P2) (w : World) (hl : s0.length ≤ 100 ∧ s1.length ≤ 100 ∧ s2.length ≤ 100 ∧ s3.length ≤ 100)
    (h1 : Lib.trimPrefix s0 [66] = s1 ∧ Lib.hasPrefix s0 [66] = true) (h2 : (ld s1 10).2 = s2) (h3 : Lib.trimPrefix s2 [47, 83] = s3 ∧ Lib.hasPrefix s2 [47, 83] = true) (h4 : (ld s3 10).2 = s4)
    (e1 : nl (ld s1 10).1 10 = l1) (e2 : nl (ld s3 10).1 10 = l2) (hn : 0 < n) (hn' : n ≤ 100) (hq : rt f n 2 l1 l2 = false)
    (O : ∀ w, Calls Tryd.prog 25 #[.string (tx s4)] w fun e w' => ∃ A c, e = .returned (.slice A n c) ∧ QReads w' w'.heap.size A n f ∧ Below w.heap.size w w') :
    Calls Tryd.prog 10 #[.string (tx s0)] w fun e w' => e = .returned (.tuple #[.agg #[.slice none 0 0, .int .i64 0, .slice none 0 0, .slice none 0 0], .int .i64 5]) ∧ Below w.heap.size w w' := by
  subst e1 e2
  have := parse_main (tx s0) (tx s1) (tx s2) (tx s3) (tx s4) (ld s1 10).1 (ld s3 10).1 false n f w hn hn' hq (cut_at s0 [66] s1 true hl.1 (by decide) h1.1 h1.2) (lead_at s1 s2 hl.2.1 h2) (cut_at s2 [47, 83] s3 true hl.2.2.1 (by decide) h3.1 h3.2) (lead_at s3 s4 hl.2.2.2 h4) O
  simpa using this
end
theorem ex1 (w : World) : Calls Tryd.prog 10 #[.string ⟨#[66, 51, 47, 83, 50, 51]⟩] w fun e w' => ∃ A c A1 c1 A2 c2, e = .returned (.tuple #[.agg #[.slice A 9 c, .int .i64 2, .slice A1 1 c1, .slice A2 2 c2], .int .i64 0]) ∧ TR w' A 9 (lf M1) A1 1 [3] A2 2 [2, 3] ∧ Below w.heap.size w w' :=
  parse_ok [66, 51, 47, 83, 50, 51] [51, 47, 83, 50, 51] [47, 83, 50, 51] [50, 51] [] [3] [2, 3] 1 2 9 (lf M1) w (by decide) (by decide +kernel) (by decide +kernel) (by decide +kernel) (by decide +kernel) (by decide +kernel) (by decide +kernel) rfl rfl (by decide) (by decide) (by decide +kernel) offsets0
theorem ex2 (w : World) : Calls Tryd.prog 10 #[.string ⟨#[66, 50, 47, 83, 51, 52, 72]⟩] w fun e w' => ∃ A c A1 c1 A2 c2, e = .returned (.tuple #[.agg #[.slice A 7 c, .int .i64 2, .slice A1 1 c1, .slice A2 2 c2], .int .i64 0]) ∧ TR w' A 7 (lf HX) A1 1 [2] A2 2 [3, 4] ∧ Below w.heap.size w w' :=
  parse_ok [66, 50, 47, 83, 51, 52, 72] [50, 47, 83, 51, 52, 72] [47, 83, 51, 52, 72] [51, 52, 72] [72] [2] [3, 4] 1 2 7 (lf HX) w (by decide) (by decide +kernel) (by decide +kernel) (by decide +kernel) (by decide +kernel) (by decide +kernel) (by decide +kernel) rfl rfl (by decide) (by decide) (by decide +kernel) offsets2
theorem ex3 (w : World) : Calls Tryd.prog 10 #[.string ⟨#[66, 57, 47, 83]⟩] w fun e w' => e = .returned (.tuple #[.agg #[.slice none 0 0, .int .i64 0, .slice none 0 0, .slice none 0 0], .int .i64 5]) ∧ Below w.heap.size w w' :=
  parse_rg [66, 57, 47, 83] [57, 47, 83] [47, 83] [] [] [9] [] 9 (lf M1) w (by decide) (by decide +kernel) (by decide +kernel) (by decide +kernel) (by decide +kernel) (by decide +kernel) (by decide +kernel) (by decide) (by decide) (by decide +kernel) offsets0
theorem ex4 (w : World) : Calls Tryd.prog 10 #[.string ⟨#[98, 51, 47, 115, 50, 51]⟩] w fun e w' => e = .returned (.tuple #[.agg #[.slice none 0 0, .int .i64 0, .slice none 0 0, .slice none 0 0], .int .i64 15]) ∧ Below w.heap.size w w' :=
  parse_syn1 (tx [98, 51, 47, 115, 50, 51]) (tx [98, 51, 47, 115, 50, 51]) (tx [98, 51, 47, 115, 50, 51]) (tx [98, 51, 47, 115, 50, 51]) (tx [98, 51, 47, 115, 50, 51]) _ _ w (cut_at _ [66] _ false (by decide) (by decide) (by decide +kernel) (by decide +kernel)) (lead_at _ _ (by decide) (by decide +kernel)) (cut_at _ [47, 83] _ false (by decide) (by decide) (by decide +kernel) (by decide +kernel)) (lead_at _ _ (by decide) (by decide +kernel)) offsets4
theorem ex5 (w : World) : Calls Tryd.prog 10 #[.string ⟨#[66, 51, 51, 47, 83]⟩] w fun e w' => e = .returned (.tuple #[.agg #[.slice none 0 0, .int .i64 0, .slice none 0 0, .slice none 0 0], .int .i64 15]) ∧ Below w.heap.size w w' :=
  parse_syn2 (tx [66, 51, 51, 47, 83]) (tx [51, 51, 47, 83]) (tx [51, 47, 83]) (tx [51, 47, 83]) (tx [47, 83]) _ _ w (cut_at _ [66] _ true (by decide) (by decide) (by decide +kernel) (by decide +kernel)) (lead_at _ _ (by decide) (by decide +kernel)) (cut_at _ [47, 83] _ false (by decide) (by decide) (by decide +kernel) (by decide +kernel)) (lead_at _ _ (by decide) (by decide +kernel)) offsets3
theorem ex_birth : ex [2, 3] 8 = [0, 1, 2, 3, 4, 7, 8] := by decide +kernel
theorem ex_survive : ex [3] 8 = [0, 1, 2, 3, 4, 6, 7, 8] := by decide +kernel
theorem tt_one : tt (kd (lf M1) 9) [3] [2, 3] = [66, 51, 47, 83, 50, 51] := by decide +kernel
theorem tt_two : tt (kd (lf M1) 9) [0, 1, 2, 3, 4, 7, 8] [0, 1, 2, 3, 4, 6, 7, 8] = [66, 48, 49, 50, 51, 52, 55, 56, 47, 83, 48, 49, 50, 51, 52, 54, 55, 56] := by decide +kernel
theorem rt_one : rt (lf M1) 9 2 [3] [2, 3] = true := by decide +kernel
theorem rt_two : rt (lf M1) 9 2 [0, 1, 2, 3, 4, 7, 8] [0, 1, 2, 3, 4, 6, 7, 8] = true := by decide +kernel
theorem rt_none : rt (lf []) 0 0 [] [] = false := by decide +kernel
end Go.Proofs.YtajepngppnennaaDoor
