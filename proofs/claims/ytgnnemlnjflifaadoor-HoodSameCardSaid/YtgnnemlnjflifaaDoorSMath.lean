/- Plain mathematics of the eight symmetries: composition, images of positions. -/
import Derived.Test.YtgnnemlnjflifaaDoorMem
namespace Go.Proofs.YtgnnemlnjflifaaDoor

/-- the composition of two numbers from 0 to 7 -/
def comp (a b : Nat) : Nat := if b < 4 then (if a < 4 then (a + b) % 4 else 4 + (a - 4 + b) % 4) else (if a < 4 then 4 + (b - 4 + 4 - a) % 4 else (b - 4 + 8 - a) % 4)
theorem comp_lt : ∀ a, a < 8 → ∀ b, b < 8 → comp a b < 8 := by decide
theorem comp_zero : ∀ a, a < 8 → comp a 0 = a := by decide
theorem zero_comp : ∀ a, a < 8 → comp 0 a = a := by decide
theorem comp_assoc : ∀ a, a < 8 → ∀ b, b < 8 → ∀ c, c < 8 → comp (comp a b) c = comp a (comp b c) := by decide +kernel

/-- the number of a symmetry -/
def md (k : Int) : Nat := (k % 8).toNat
theorem md_lt (k : Int) : md k < 8 := by unfold md; omega


/-- the image of a position under a symmetry -/
def turnX (k : Nat) (x y : Int) : Int := match k with | 0 => x | 1 => -y | 2 => -x | 3 => y | 4 => -x | 5 => -y | 6 => x | _ => y
def turnY (k : Nat) (x y : Int) : Int := match k with | 0 => y | 1 => x | 2 => -y | 3 => -x | 4 => y | 5 => -x | 6 => -y | _ => x
theorem eight {P : Nat → Prop} (h0 : P 0) (h1 : P 1) (h2 : P 2) (h3 : P 3) (h4 : P 4) (h5 : P 5) (h6 : P 6) (h7 : P 7) (k : Nat) (h : k < 8) : P k := by
  match k, h with
  | 0, _ => exact h0
  | 1, _ => exact h1
  | 2, _ => exact h2
  | 3, _ => exact h3
  | 4, _ => exact h4
  | 5, _ => exact h5
  | 6, _ => exact h6
  | 7, _ => exact h7
  | k + 8, h => omega

end Go.Proofs.YtgnnemlnjflifaaDoor
