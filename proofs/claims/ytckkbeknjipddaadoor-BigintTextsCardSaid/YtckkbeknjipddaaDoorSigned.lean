/- The walk of signed: the valid big integer with a sign and digits. -/
import Derived.Test.YtckkbeknjipddaaDoorSmall
import Derived.Laws.ResultCell
namespace Go.Proofs.YtckkbeknjipddaaDoor
open Go.RowKit

/-- the value v is a big integer with the sign neg and the digits xs, its memory from block L on and below block B -/
def BigIs (w : World) (L B : Nat) (v : Value) (neg : Bool) (xs : List Nat) : Prop :=
  ∃ A c, v = .agg #[.bool neg, .slice A xs.length c] ∧ xs.length ≤ c ∧ Reads w B A xs.length (u32s xs) ∧ ∀ ad : Addr, 0 < xs.length → A = some ad → L ≤ ad.block
theorem BigIs.zero (w : World) (L B : Nat) : BigIs w L B (.agg #[.bool false, .slice none 0 0]) false [] := ⟨none, 0, rfl, Nat.le_refl _, Reads.none_, fun _ h => absurd h (by simp)⟩
theorem BigIs.below {w w' : World} {L B : Nat} {v : Value} {neg : Bool} {xs : List Nat} (h : BigIs w L B v neg xs) (hb : Below B w w') : BigIs w' L B v neg xs := by
  obtain ⟨A, c, h1, h2, h3, h4⟩ := h
  exact ⟨A, c, h1, h2, h3.below hb, h4⟩
theorem BigIs.more {w : World} {L B B' : Nat} {v : Value} {neg : Bool} {xs : List Nat} (h : BigIs w L B v neg xs) (hb : B ≤ B') : BigIs w L B' v neg xs := by
  obtain ⟨A, c, h1, h2, h3, h4⟩ := h
  exact ⟨A, c, h1, h2, h3.more hb, h4⟩

def signedN (xs : List Nat) (neg : Bool) : Bool := if (trimL xs).length = 0 ∨ 64 < (trimL xs).length then false else neg
def signedD (xs : List Nat) : List Nat := if 64 < (trimL xs).length then [] else trimL xs
def signedE (xs : List Nat) : Nat := if 64 < (trimL xs).length then 6 else 0

theorem trimL_len (xs : List Nat) : (trimL xs).length = trimN xs xs.length := by
  unfold trimL; rw [List.length_take]; have := trimN_le xs xs.length; omega

theorem signed_any (neg : Bool) (A : Option Addr) (n c B : Nat) (xs : List Nat) (w : World) (h : Reads w B A n (u32s xs)) (hB : B ≤ w.heap.size) (hn : n ≤ maxLen) (hc : n ≤ c) :
    Calls Tryd.prog 24 #[.bool neg, .slice A n c] w fun e w' => ∃ A' c', e = .returned (.tuple #[.agg #[.bool (signedN xs neg), .slice A' (signedD xs).length c'], .int .i64 (signedE xs : Nat)]) ∧ (signedD xs).length ≤ c' ∧ (0 < (signedD xs).length → A' = A) ∧ Reads w' B A' (signedD xs).length (u32s (signedD xs)) ∧ Below w.heap.size w w' := by
  have HL := Lib.hid (u32s_len h)
  have hle := trimN_le xs n
  have HT := Lib.hid (show (trimL xs).length = trimN xs n by rw [trimL_len, HL.out])
  by_cases h0 : trimN xs n = 0
  · have H0 := Lib.hid h0
    have h0' : ((trimN xs n : Nat) : Int) = 0 := by omega
    have hE : signedE xs = 0 := by unfold signedE; rw [HT.out]; simp [h0]
    have hD : signedD xs = [] := by
      unfold signedD; rw [HT.out, if_neg (by omega)]; exact List.eq_nil_of_length_eq_zero (by rw [HT.out, h0])
    have hN : signedN xs neg = false := by unfold signedN; rw [HT.out, h0]; rfl
    rw [hE, hD, hN]
    clear h0 hE hD hN
    go_enter Tryd.func24, Tryd.ntmps24
    go_wp2_with (go_at_call 42; refine (trim_any A n c B xs _ (h.alloc hB _) hn hc).mono ?_; rintro e w' ⟨rfl, rfl⟩)
    refine bodyPost_ret (v := .tuple #[.agg #[.bool false, .slice none 0 0], .int .i64 0]) (by simp [results, Tryd.results24, go_sem]) rfl ⟨none, 0, rfl, Nat.le_refl _, ?_, ?_, ?_⟩
    · exact fun h => absurd h (by simp)
    · exact Reads.none_
    · exact by repeat (first | exact Below.refl _ _ | refine Below.setCell ?_ (Nat.le_refl _) _ | refine Below.alloc ?_ (Nat.le_refl _) _)
  · by_cases h64 : 64 < trimN xs n
    · have hE : signedE xs = 6 := by unfold signedE; rw [HT.out]; simp [h64]
      have hD : signedD xs = [] := by unfold signedD; rw [HT.out, if_pos h64]
      have hN : signedN xs neg = false := by unfold signedN; rw [HT.out, if_pos (Or.inr h64)]
      rw [hE, hD, hN]
      clear hE hD hN
      go_enter Tryd.func24, Tryd.ntmps24
      go_wp2_with (go_at_call 42; refine (trim_any A n c B xs _ (h.alloc hB _) hn hc).mono ?_; rintro e w' ⟨rfl, rfl⟩)
      refine bodyPost_ret (v := .tuple #[.agg #[.bool false, .slice none 0 0], .int .i64 6]) (by simp [results, Tryd.results24, go_sem]) rfl ⟨none, 0, rfl, Nat.le_refl _, ?_, ?_, ?_⟩
      · exact fun h => absurd h (by simp)
      · exact Reads.none_
      · exact by repeat (first | exact Below.refl _ _ | refine Below.setCell ?_ (Nat.le_refl _) _ | refine Below.alloc ?_ (Nat.le_refl _) _)
    · have hE : signedE xs = 0 := by unfold signedE; rw [HT.out]; simp [h64]
      have hD : signedD xs = trimL xs := by unfold signedD; rw [HT.out, if_neg h64]
      have hN : signedN xs neg = neg := by unfold signedN; rw [HT.out, if_neg (by omega)]
      rw [hE, hD, hN]
      have HX := Lib.hid (show trimL xs = xs.take (trimN xs n) by rw [← HL.out]; rfl)
      clear hE hD hN
      go_enter Tryd.func24, Tryd.ntmps24
      go_wp2_with (go_at_call 42; refine (trim_any A n c B xs _ (h.alloc hB _) hn hc).mono ?_; rintro e w' ⟨rfl, rfl⟩)
      refine bodyPost_ret (v := .tuple #[.agg #[.bool neg, .slice A (trimN xs n) c], .int .i64 0]) (by simp [results, Tryd.results24, go_sem]) rfl ⟨A, c, by rw [HT.out]; rfl, by rw [HT.out]; omega, ?_, ?_, ?_⟩
      · exact fun _ => rfl
      · rw [HT.out, HX.out]; exact by simpa [u32s] using ((h.alloc hB _).take hle)
      · exact by repeat (first | exact Below.refl _ _ | refine Below.setCell ?_ (Nat.le_refl _) _ | refine Below.alloc ?_ (Nat.le_refl _) _)

end Go.Proofs.YtckkbeknjipddaaDoor
