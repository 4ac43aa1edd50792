/- The examples of Parse, Text and Add that the fixed examples name. -/
import Derived.Test.YtckkbeknjipddaaDoorInt
import Derived.Test.YtckkbeknjipddaaDoorText
import Derived.Test.YtckkbeknjipddaaDoorSame
namespace Go.Proofs.YtckkbeknjipddaaDoor
open Go.RowKit

def twoTo64 : ByteArray := ⟨#[49, 56, 52, 52, 54, 55, 52, 52, 48, 55, 51, 55, 48, 57, 53, 53, 49, 54, 49, 54]⟩

theorem spec_one : PSpec (bs twoTo64) false [0, 0, 1] 0 := by
  refine Or.inr (Or.inr ⟨by decide +kernel, by decide +kernel, rfl, by decide +kernel, ⟨by decide, by decide⟩, by decide +kernel⟩)
theorem spec_zero : PSpec (bs ⟨#[45, 48]⟩) false [] 15 := Or.inl ⟨by decide +kernel, rfl, rfl, rfl⟩

theorem parse_ex1 (w : World) : Calls Tryd.prog 6 #[.string twoTo64] w (NumPost false [0, 0, 1] 0 w) := by
  refine (parse_any twoTo64 w (by decide)).mono ?_
  rintro e w' ⟨v, neg, xs, err, rfl, ⟨A, c, rfl, hc, hr, hl⟩, hp, hb⟩
  obtain ⟨rfl, rfl, rfl⟩ := hp.uniq spec_one
  exact ⟨A, c, rfl, hc, hr, hb, hl⟩
theorem parse_ex2 (w : World) : Calls Tryd.prog 6 #[.string ⟨#[45, 48]⟩] w (NumPost false [] 15 w) := by
  refine (parse_any ⟨#[45, 48]⟩ w (by decide)).mono ?_
  rintro e w' ⟨v, neg, xs, err, rfl, ⟨A, c, rfl, hc, hr, hl⟩, hp, hb⟩
  obtain ⟨rfl, rfl, rfl⟩ := hp.uniq spec_zero
  exact ⟨A, c, rfl, hc, hr, hb, hl⟩

theorem text_spec : TextOf false [0, 0, 1] twoTo64 :=
  Or.inr (Or.inr ⟨by decide, by decide +kernel, twoTo64, ⟨[6, 1, 6, 1, 5, 5, 9, 0, 7, 3, 7, 0, 4, 4, 7, 6, 4, 4, 8, 1], ⟨by decide, by decide⟩, by decide +kernel, by decide +kernel⟩, rfl⟩)
theorem text_ex (A : Option Addr) (c B : Nat) (w : World) (h : Reads w B A 3 (u32s [0, 0, 1])) (hB : B ≤ w.heap.size) (hc : 3 ≤ c) :
    Calls Tryd.prog 8 #[.agg #[.bool false, .slice A 3 c]] w fun e w' => e = .returned (.string twoTo64) ∧ Below w.heap.size w w' := by
  refine (text_any false A 3 c B [0, 0, 1] w h hB (by decide) hc (by decide)).mono ?_
  rintro e w' ⟨t, rfl, ht, hb⟩
  rw [ht.uniq text_spec]
  exact ⟨rfl, hb⟩

theorem add_ex (A1 A2 : Option Addr) (c1 c2 B : Nat) (w : World) (h1 : Reads w B A1 3 (u32s [0, 0, 1])) (h2 : Reads w B A2 1 (u32s [1])) (hB : B ≤ w.heap.size) :
    Calls Tryd.prog 14 #[.agg #[.bool false, .slice A1 3 c1], .agg #[.bool true, .slice A2 1 c2]] w (NumPost false [4294967295, 4294967295] 0 w) :=
  add_pos_neg A1 A2 3 1 c1 c2 B [0, 0, 1] [1] w h1 h2 hB (by decide) (by decide) (by decide) (by decide) (by decide) (by decide) (by decide)

end Go.Proofs.YtckkbeknjipddaaDoor
