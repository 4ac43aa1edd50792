/- The walk of the reference's Orbits at valid sizes. -/
import Derived.Test.YthjamghemmanfaaDoorOrbits
import Derived.Test.YthjamghemmanfaaDoorRGrp
import Derived.Test.YthjamghemmanfaaDoorRWithin
import Derived.Test.YthjamghemmanfaaDoorMix
namespace Go.Proofs.YthjamghemmanfaaDoor
open Go.RowKit
attribute [local go_sem] GDoes GUpon

set_option maxRecDepth 100000 in
set_option maxHeartbeats 2000000 in
theorem rorbits_bad (A : Option Addr) (n c B W H : Nat) (l : List Int) (w : World) (h : Ins w B A n l) (hB : B ≤ w.heap.size) (hn : n ≤ 100) (hs : Size W H) (hWH : W ≠ H) (hex : ∃ k ∈ grp (mds l), k % 2 = 1) :
    Calls Tryd.prog 6 #[.slice A n c, .int .i64 (W : Nat), .int .i64 (H : Nat)] w fun e w' => e = .returned (.tuple #[.slice none 0 0, .int .i64 2]) ∧ Below w.heap.size w w' := by
  obtain ⟨s1, s2, s3, s4, s5⟩ := hs
  obtain ⟨S, hS⟩ : ∃ S, S = (W : Int) * (H : Int) := ⟨_, rfl⟩
  rw [← hS] at s5
  have hS0 : 0 ≤ S := by rw [hS]; exact Int.mul_nonneg (by omega) (by omega)
  have hS2 : (W : Int) * (H : Int) = S := hS.symm
  have GR := Lib.hid (rgroup_any A n c B l w h hB hn)
  have hGl := grp_len (mds l)
  have HG8 := Lib.hid (fun k (hk : k ∈ grp (mds l)) => grp_lt hk)
  have HE := Lib.hid hex
  unfold GroupSays at GR
  generalize grp (mds l) = G at *
  obtain ⟨m, hm⟩ : ∃ m, m = G.length := ⟨_, rfl⟩
  rw [← hm] at GR hGl
  have HMG := Lib.hid hm
  have HWH := Lib.hid (show (W : Int) ≠ (H : Int) by omega)
  clear hS h hex hm hWH
  go_enter Tryd.func6, Tryd.ntmps6
  go_wp2_with (go_at_call 17; (with_reducible refine GR.out.mono ?_); rintro e w1 ⟨b, c', rfl, hr, hb⟩; have HR := Lib.hid hr; have HB := Lib.hid hb; clear hr hb)
  go_loop [9] (fun iv => ∃ j : Nat, j ≤ m ∧ iv = .int .i64 (j : Int) ∧ ∀ i, i < j → G.getD i 0 % 2 = 0) (fun iv => m - (intOf iv).toNat)
  case atStart => exact ⟨0, Nat.zero_le _, rfl, fun i hi => absurd hi (by omega)⟩
  case round =>
    obtain ⟨j, hj, rfl, hno⟩ := hrel
    have HN := Lib.hid hno
    clear hno
    by_cases hlt : j < m
    · have hcz := (ints_at HR.out hlt)
      obtain ⟨ad, e1, hadb, hcz⟩ := hcz
      have hrow : w1.cell? ⟨b, j, none⟩ = some (.int .i64 (G.getD j 0 : Nat)) := by
        injection e1 with e1
        subst e1
        by_cases h0 : j = 0
        · subst h0; simpa [Addr.add] using hcz
        · simpa [Addr.add, h0] using hcz
      have hm := getD_mem (show j < G.length by rw [← HMG.out]; exact hlt)
      have h8 := HG8.out _ hm
      clear e1 hcz
      by_cases hx : G.getD j 0 % 2 = 1
      · have E := Lib.hid (fun w => keeps_no (G.getD j 0) W H w h8 hx HWH.out)
        generalize G.getD j 0 = x at hrow E
        clear hm hx h8
        go_wp2_with (go_at_call 18; (with_reducible refine (E.out _).mono ?_); rintro e w' ⟨rfl, rfl⟩)
        go_ret2
        exact ⟨rfl, HB.out⟩
      · have E := Lib.hid (fun w => keeps_yes (G.getD j 0) W H w h8 (by omega))
        have HX := Lib.hid (show G.getD j 0 % 2 = 0 by omega)
        clear hm hx h8
        obtain ⟨x, hx⟩ : ∃ x, x = G.getD j 0 := ⟨_, rfl⟩
        rw [← hx] at hrow E
        clear hx
        go_wp2_with (go_at_call 18; (with_reducible refine (E.out _).mono ?_); rintro e w' ⟨rfl, rfl⟩)
        go_round
        case rel =>
          exact ⟨j + 1, by omega, by go_num, fun i hi => by
            by_cases e : i = j
            · subst e; exact HX.out
            · exact HN.out i (by omega)⟩
        case measure => simp [intOf]; omega
    · exfalso
      obtain ⟨k, hk, ho⟩ := HE.out
      obtain ⟨i, hi, he⟩ := mem_getD hk
      have := HN.out i (by have := HMG.out; omega)
      omega
end Go.Proofs.YthjamghemmanfaaDoor
