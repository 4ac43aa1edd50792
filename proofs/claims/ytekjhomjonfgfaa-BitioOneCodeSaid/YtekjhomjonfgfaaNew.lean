/- The walks of slices.Clone, NewReader and Bytes. -/
import Derived.Test.YtekjhomjonfgfaaSmall
namespace Go.Proofs.Ytekjhomjonfgfaa
open Go.RowKit

theorem Try.info_u8 : (Try.prog.info? 5).map (fun i => (i.zero, i.size, i.bytes)) = some (some (.int .u8 0), 1, 1) := by kernel_rfl

set_option maxRecDepth 100000 in
theorem clone_some (ad : Addr) (n c B : Nat) (vs : List Value) (w : World) (h : Reads w B (some ad) n vs) (hB : B ≤ w.heap.size) (hn : n ≤ 65536) (hv : ∀ u ∈ vs, u.oneCell' = true) :
    Calls Try.prog 16 #[.slice (some ad) n c] w fun e w' => ∃ g' c', e = .returned (.slice (some ⟨g', 0, none⟩) n c') ∧ w'.ownsRow w.heap.size 5 1 (.slice (some ⟨g', 0, none⟩) n c') n vs ∧ Below w.heap.size w w' := by
  obtain ⟨i0, hi, hz0, hz1, hz2⟩ := info_parts Try.info_u8
  have hown : (w.alloc (.cells #[] 5)).ownsRow w.heap.size 5 1 (.slice (some ⟨w.heap.size, 0, none⟩) 0 0) 0 [] := World.ownsRow_lit w #[] 0 (Nat.le_refl _) (Nat.zero_le _) rfl
  have hr := h.alloc hB (.cells #[] 5)
  have he : ∀ W, (binOp BinOp.eql 22 (Value.slice (some ad) n c) (Value.slice none 0 0)).run Try.prog W = .ok (.bool false) W := fun W => by kernel_rfl
  go_enter Try.func16, Try.ntmps16
  go_wp2_with (at_builtin; refine wpList_append_own _ rfl _ _ 22 rfl w.heap.size 5 i0 (.int .u8 0) 1 1 Try.underlying22 hi hz0 hz1 hz2 rfl (by decide) _ 0 [] rfl hown ad n c vs rfl (by have := h.1; omega) ?_ hv (by unfold maxLen; omega) (by omega) (by simp) ?_)
  · intro j u hu
    have hj : 0 < n := by have := (List.getElem?_eq_some_iff.1 hu).1; have := h.1; omega
    obtain ⟨ad', e, hb, hc⟩ := hr.2 hj
    obtain rfl : ad = ad' := Option.some.inj e
    exact hc j u hu
  · intro v' w' hown' hg hnil
    obtain ⟨g', c', rfl⟩ : ∃ g' c', v' = .slice (some ⟨g', 0, none⟩) n c' := by
      rcases hown'.2 with ⟨h1, h2⟩ | ⟨g', cap, cur, h1, _⟩
      · exact absurd h1 hnil
      · exact ⟨g', cap, by simpa using h1⟩
    have hbel : Below w.heap.size w w' := Below.grown ((Below.refl w.heap.size w).alloc (Nat.le_refl _) _) hg (by simp) (fun k hk => by simp [Value.ownBlock] at hk; omega)
    go_wp2
    go_ret
    exact ⟨g', c', rfl, hown', hbel⟩

theorem clone_nil (w : World) :
    Calls Try.prog 16 #[.slice none 0 0] w fun e w' => e = .returned (.slice none 0 0) ∧ w = w' := by
  have he : ∀ W, (binOp BinOp.eql 22 (Value.slice none 0 0) (Value.slice none 0 0)).run Try.prog W = .ok (.bool true) W := fun W => by kernel_rfl
  go_enter Try.func16, Try.ntmps16
  go_wp2
  go_ret
  exact ⟨rfl, rfl⟩

theorem clone_any (A : Option Addr) (n c B : Nat) (vs : List Value) (w : World) (hA : A = none → n = 0 ∧ c = 0) (h : Reads w B A n vs) (hB : B ≤ w.heap.size) (hn : n ≤ 65536) (hv : ∀ u ∈ vs, u.oneCell' = true) :
    Calls Try.prog 16 #[.slice A n c] w fun e w' => ∃ A' c', e = .returned (.slice A' n c') ∧ w'.ownsRow w.heap.size 5 1 (.slice A' n c') n vs ∧ Below w.heap.size w w' := by
  cases A with
  | none =>
    obtain ⟨rfl, rfl⟩ := hA rfl
    obtain rfl : vs = [] := List.eq_nil_of_length_eq_zero h.1
    refine (clone_nil w).mono ?_
    rintro e w' ⟨rfl, rfl⟩
    exact ⟨none, 0, rfl, World.ownsRow_nil _ _ _ _, Below.refl _ _⟩
  | some ad =>
    refine (clone_some ad n c B vs w h hB hn hv).mono ?_
    rintro e w' ⟨g', c', rfl, h1, h2⟩
    exact ⟨_, c', rfl, h1, h2⟩

set_option maxRecDepth 100000 in
theorem new_any (A : Option Addr) (n c B : Nat) (vs : List Value) (w : World) (hA : A = none → n = 0 ∧ c = 0) (h : Reads w B A n vs) (hB : B ≤ w.heap.size) (hn : n ≤ 65536) (hv : ∀ u ∈ vs, u.oneCell' = true) :
    Calls Try.prog 5 #[.slice A n c] w fun e w' => ∃ g A' c', e = .returned (.tuple #[.pointer (some ⟨g, 0, none⟩), .int .i64 0]) ∧
      Blk w' g 43 #[.slice A' n c', .int .i64 0] ∧ w'.ownsRow w.heap.size 5 1 (.slice A' n c') n vs ∧ Reads w' g A' n vs ∧ w.heap.size ≤ g ∧ Below w.heap.size w w' := by
  go_enter Try.func5, Try.ntmps5
  go_wp2_with (go_at_call 16; refine (clone_any A n c B vs w hA h hB hn hv).mono ?_; rintro e w' ⟨A', c', rfl, h1, h2⟩)
  go_ret2
  exact ⟨_, A', c', rfl, Blk.new _ _ _, h1.alloc _, (Reads.of_own h1).alloc (Nat.le_refl _) _, h2.size, h2.alloc h2.size _⟩

set_option maxRecDepth 100000 in
theorem bytes_any (g n c B : Nat) (A : Option Addr) (vs : List Value) (w : World) (h0 : w.cell? ⟨g, 0, none⟩ = some (.slice A n c)) (hA : A = none → n = 0 ∧ c = 0) (h : Reads w B A n vs) (hB : B ≤ w.heap.size) (hn : n ≤ 65536) (hv : ∀ u ∈ vs, u.oneCell' = true) :
    Calls Try.prog 13 #[.pointer (some ⟨g, 0, none⟩)] w fun e w' => ∃ A' c', e = .returned (.slice A' n c') ∧ w'.ownsRow w.heap.size 5 1 (.slice A' n c') n vs ∧ Below w.heap.size w w' := by
  go_enter Try.func13, Try.ntmps13
  go_wp2_with (go_at_call 16; refine (clone_any A n c B vs w hA h hB hn hv).mono ?_; rintro e w' ⟨A', c', rfl, h1, h2⟩)
  go_ret
  exact ⟨A', c', rfl, h1, h2⟩
end Go.Proofs.Ytekjhomjonfgfaa
