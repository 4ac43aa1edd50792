/- The walks of From, Compare, Mul, Add, Shift, Div, Int and Bit at the examples of the chapter. -/
import Derived.Test.YtckkbeknjipddaaDoorSub
import Derived.Test.YtckkbeknjipddaaDoorShift
import Derived.Test.YtckkbeknjipddaaDoorSigned
namespace Go.Proofs.YtckkbeknjipddaaDoor
open Go.RowKit

theorem reads_two (w : World) (a b : Int) (x y : Nat) (h1 : a = x) (h2 : b = y) :
    Reads (w.alloc (.cells #[.int .u32 a, .int .u32 b] 42)) (w.heap.size + 1) (some ⟨w.heap.size, 0, none⟩) 2 (u32s [x, y]) := by
  subst h1 h2
  exact reads_lit w #[.int .u32 (x : Int), .int .u32 (y : Int)] 42 2 (by decide) rfl

/-- What From must return at an int of absolute value m. -/
def FromPost (neg : Bool) (ds : List Nat) (w : World) (e : Ending) (w' : World) : Prop :=
  ∃ A c, e = .returned (.agg #[.bool neg, .slice A ds.length c]) ∧ ds.length ≤ c ∧ Reads w' w'.heap.size A ds.length (u32s ds) ∧ Below w.heap.size w w' ∧ ∀ ad : Addr, 0 < ds.length → A = some ad → w.heap.size ≤ ad.block

set_option maxRecDepth 100000 in
set_option maxHeartbeats 1000000 in
theorem from_any (n : Int) (neg : Bool) (m : Nat) (w : World) (hm : m < 18446744073709551616) (hneg : decide (n < 0) = neg) (habs : ∀ w : World, Calls Tryd.prog 35 #[.int .i64 n] w fun e w' => e = .returned (.int .u64 (m : Int)) ∧ w = w') :
    Calls Tryd.prog 13 #[.int .i64 n] w (FromPost (signedN [m % 4294967296, m / 4294967296] neg) (signedD [m % 4294967296, m / 4294967296]) w) := by
  have HA := Lib.hid habs
  have hrd : Reads ((w.alloc (.cells #[.bool false, .slice none 0 0] 24)).alloc (.cells #[.int .u32 ((m : Int) % 4294967296), .int .u32 ((m : Int) / 4294967296)] 42)) (w.heap.size + 2) (some ⟨w.heap.size + 1, 0, none⟩) 2 (u32s [m % 4294967296, m / 4294967296]) := by
    have := reads_two (w.alloc (.cells #[.bool false, .slice none 0 0] 24)) ((m : Int) % 4294967296) ((m : Int) / 4294967296) (m % 4294967296) (m / 4294967296) (by omega) (by omega)
    simpa using this
  have hsg := signed_any neg (some ⟨w.heap.size + 1, 0, none⟩) 2 2 (w.heap.size + 2) [m % 4294967296, m / 4294967296] _ hrd (by simp) (by decide) (Nat.le_refl _)
  obtain ⟨sn, hsn⟩ : ∃ sn, sn = signedN [m % 4294967296, m / 4294967296] neg := ⟨_, rfl⟩
  obtain ⟨sd, hsd⟩ : ∃ sd, sd = signedD [m % 4294967296, m / 4294967296] := ⟨_, rfl⟩
  rw [← hsn, ← hsd] at hsg
  rw [← hsn, ← hsd]
  have HS := Lib.hid hsg
  clear habs hrd hsg hsn hsd
  go_enter Tryd.func13, Tryd.ntmps13
  go_wp2_with (first | (go_at_call 35; (with_reducible refine (HA.out _).mono ?_); rintro e w' ⟨rfl, rfl⟩) | (go_at_call 24; (with_reducible refine HS.out.mono ?_); rintro e w1 ⟨A', c', rfl, hc', hA', hr', hb'⟩; have hb1 : Below (w.heap.size + 1) (w.alloc (.cells #[.bool false, .slice none 0 0] 24)) w1 := ((Below.refl _ _).alloc (by simp) _).trans (hb'.mono (by simp)); obtain ⟨bx0, bx1, bx2, bx3, bx4⟩ := box2 hb1))
  have hs1 := hb'.size
  simp at hs1
  refine bodyPost_ret (v := .agg #[.bool sn, .slice A' sd.length c']) (by simp [results, Tryd.results13, go_sem, bx4, bx0, bx1]) rfl ⟨A', c', rfl, hc', ?_, ?_, ?_⟩
  · have hne : ∀ ad : Addr, 0 < sd.length → A' = some ad → ad.block ≠ w.heap.size := by
      intro ad h0 he hb
      rw [hA' h0] at he
      injection he with he
      rw [← he] at hb
      simp at hb
    exact (((hr'.far (p := ⟨w.heap.size, 0, none⟩) hne _).far (p := ⟨w.heap.size, 1, none⟩) hne _).alloc (by simp [World.setCell]; omega) _).more (by simp [World.setCell]; omega)
  · have h0 : Below w.heap.size w w1 := ((Below.refl w.heap.size w).alloc (Nat.le_refl _) _).trans (hb1.mono (Nat.le_succ _))
    exact ((h0.setCell (p := ⟨w.heap.size, 0, none⟩) (Nat.le_refl _) _).setCell (p := ⟨w.heap.size, 1, none⟩) (Nat.le_refl _) _).alloc (by simp [World.setCell]; omega) _
  · intro ad h0 he
    rw [hA' h0] at he
    injection he with he
    rw [← he]; exact Nat.le_succ _

theorem from_one (w : World) : Calls Tryd.prog 13 #[.int .i64 1] w (FromPost false [1] w) :=
  from_any 1 false 1 w (by decide) (by decide) (fun w => absolute_pos 1 w (by decide))
theorem from_m1 (w : World) : Calls Tryd.prog 13 #[.int .i64 (-1)] w (FromPost true [1] w) :=
  from_any (-1) true 1 w (by decide) (by decide) (fun w => absolute_neg 1 w (by decide) (by decide))
theorem from_m7 (w : World) : Calls Tryd.prog 13 #[.int .i64 (-7)] w (FromPost true [7] w) :=
  from_any (-7) true 7 w (by decide) (by decide) (fun w => absolute_neg 7 w (by decide) (by decide))
theorem from_min (w : World) : Calls Tryd.prog 13 #[.int .i64 (-9223372036854775808)] w (FromPost true [0, 2147483648] w) :=
  from_any (-9223372036854775808) true 9223372036854775808 w (by decide) (by decide) (fun w => absolute_neg 9223372036854775808 w (by decide) (by decide))
theorem from_max (w : World) : Calls Tryd.prog 13 #[.int .i64 9223372036854775807] w (FromPost false [4294967295, 2147483647] w) :=
  from_any 9223372036854775807 false 9223372036854775807 w (by decide) (by decide) (fun w => absolute_pos 9223372036854775807 w (by decide))

end Go.Proofs.YtckkbeknjipddaaDoor
