/- Plain facts on a writer's bytes. -/
import Derived.Test.YtekjhomjonfgfaaNew
import Derived.StillTailTactics
import Derived.Laws.ShiftsVar
namespace Go.Proofs.Ytekjhomjonfgfaa
open Go.RowKit

def i8s (l : List Int) : List Value := l.map (Value.int .u8)
theorem i8s_len (l : List Int) : (i8s l).length = l.length := by simp [i8s]
theorem i8s_append (l : List Int) (z : Int) : i8s l ++ [Value.int .u8 z] = i8s (l ++ [z]) := by simp [i8s]
theorem i8s_set (l : List Int) (k : Nat) (z : Int) : (i8s l).set k (.int .u8 z) = i8s (l.set k z) := by simp [i8s, List.map_set]
theorem i8s_at (l : List Int) (k : Nat) (h : k < l.length) : (i8s l)[k]? = some (.int .u8 (l.getD k 0)) := by simp [i8s, List.getD, h]
theorem i8s_one (l : List Int) : ∀ u ∈ i8s l, u.oneCell' = true := by
  intro u hu
  simp only [i8s, List.mem_map] at hu
  obtain ⟨z, _, rfl⟩ := hu
  rfl

/-- one more bit at the end of the u bits that the bytes hold -/
def room (zs : List Int) (u : Nat) : List Int := if u % 8 = 0 then zs ++ [0] else zs
def putB (zs : List Int) (u b : Nat) : List Int := (room zs u).set (u / 8) (bits .or .u8 ((room zs u).getD (u / 8) 0) ((b * 2 ^ (7 - u % 8) : Nat) : Int))
def packF (zs : List Int) (u : Nat) : List Nat → List Int
  | [] => zs
  | b :: bs => packF (putB zs u b) (u + 1) bs
def pack (l : List Nat) : List Int := packF [] 0 l
theorem packF_snoc (l : List Nat) (b : Nat) (zs : List Int) (u : Nat) : packF zs u (l ++ [b]) = putB (packF zs u l) (u + l.length) b := by
  induction l generalizing zs u with
  | nil => rfl
  | cons x l ih =>
    simp only [List.cons_append, packF, List.length_cons]
    rw [ih]
    congr 1
    omega
theorem pack_snoc (l : List Nat) (b : Nat) : pack (l ++ [b]) = putB (pack l) l.length b := by
  unfold pack
  rw [packF_snoc, Nat.zero_add]
theorem room_len (zs : List Int) (u : Nat) (h : zs.length = (u + 7) / 8) : (room zs u).length = u / 8 + 1 := by
  unfold room
  split
  · simp; omega
  · omega
theorem pack_len (l : List Nat) : (pack l).length = (l.length + 7) / 8 := by
  have h : ∀ n (l : List Nat), l.length = n → (pack l).length = (n + 7) / 8 := by
    intro n
    induction n with
    | zero =>
      intro l hl
      obtain rfl := List.eq_nil_of_length_eq_zero hl
      rfl
    | succ n ih =>
      intro l hl
      obtain ⟨l', b, rfl⟩ : ∃ l' b, l = l' ++ [b] := ⟨l.dropLast, l.getLast (by intro e; subst e; cases hl), (List.dropLast_concat_getLast _).symm⟩
      simp at hl
      rw [pack_snoc, putB, List.length_set, room_len _ _ (by rw [ih l' hl, hl]), hl]
      omega
  exact h _ l rfl

/-- the first i of the m binary digits of v, the highest first -/
def digs (v m i : Nat) : List Nat := (List.range i).map fun j => v / 2 ^ (m - 1 - j) % 2
theorem digs_len (v m i : Nat) : (digs v m i).length = i := by simp [digs]
theorem digs_succ (v m i : Nat) : digs v m (i + 1) = digs v m i ++ [v / 2 ^ (m - 1 - i) % 2] := by simp [digs, List.range_succ]

/-- the writer in block g has just the bits l; its row lies at base or above -/
def Wr (w : World) (base g : Nat) (l : List Nat) : Prop := ∃ A c, Blk w g 32 #[.slice A (pack l).length c, .int .i64 (l.length : Nat)] ∧ w.ownsRow base 5 1 (.slice A (pack l).length c) (pack l).length (i8s (pack l))

/-- only block g and what lies at base or above has changed -/
structure Touch (base g : Nat) (w w' : World) : Prop where
  os : w'.os = w.os
  tape : w'.tape = w.tape
  output : w'.output = w.output
  size : w.heap.size ≤ w'.heap.size
  block : ∀ k, k < base → k ≠ g → w'.heap[k]? = w.heap[k]?
section
variable {base g : Nat} {w w' w'' : World}
theorem Touch.refl (base g : Nat) (w : World) : Touch base g w w := ⟨rfl, rfl, rfl, Nat.le_refl _, fun _ _ _ => rfl⟩
theorem Touch.trans (h : Touch base g w w') (h' : Touch base g w' w'') : Touch base g w w'' :=
  ⟨h'.os.trans h.os, h'.tape.trans h.tape, h'.output.trans h.output, Nat.le_trans h.size h'.size, fun k hk hg => (h'.block k hk hg).trans (h.block k hk hg)⟩
theorem Touch.of_below (h : Below base w w') : Touch base g w w' := ⟨h.os, h.tape, h.output, h.size, fun k hk _ => h.block k hk⟩
theorem Touch.set_ (h : Touch base g w w') {p : Addr} (hp : p.block = g ∨ base ≤ p.block) (v : Value) : Touch base g w (w'.setCell p v) :=
  ⟨h.os, h.tape, h.output, by have := h.size; simpa [World.setCell] using this, fun k hk hg => (Below.heap_setCell w' p v k (by rcases hp with hp | hp <;> omega)).trans (h.block k hk hg)⟩
theorem Touch.drew (h : Touch base g w w') : Touch base g w w'.drew := ⟨h.os, h.tape, h.output, h.size, h.block⟩
theorem Touch.below (h : Touch base g w w') {B : Nat} (hb : B ≤ base) (hg : B ≤ g) : Below B w w' := ⟨h.os, h.tape, h.output, h.size, fun k hk => h.block k (by omega) (by omega)⟩
end
theorem own_type {w : World} {base g n c : Nat} {e t : TypeId} {A : Option Addr} {xs : List Value} {cs : Array Value} (h : w.ownsRow base e 1 (.slice A n c) n xs) (hb : Blk w g t cs) (hne : e ≠ t) : ∀ ad, A = some ad → ad.block ≠ g := by
  intro ad hA hg
  rcases h.2 with ⟨h1, _⟩ | ⟨g', cap, cur, h1, _, h2, _⟩
  · subst hA; cases h1
  · subst hA
    injection h1 with h1
    injection h1 with h1
    subst h1
    simp only at hg
    subst hg
    unfold Blk at hb
    rw [hb] at h2
    injection h2 with h2
    injection h2 with _ h3
    exact hne h3.symm
/-- a row stays owned where its block is as it was -/
theorem own_same {w w' : World} {base : Nat} {e : TypeId} {A : Option Addr} {n c : Nat} {xs : List Value} (h : w.ownsRow base e 1 (.slice A n c) n xs) (hk : ∀ ad, A = some ad → base ≤ ad.block → ad.block < w.heap.size → w'.heap[ad.block]? = w.heap[ad.block]?) : w'.ownsRow base e 1 (.slice A n c) n xs := by
  refine ⟨h.1, ?_⟩
  rcases h.2 with h1 | ⟨g', cap, cur, h1, h2, h3, h4⟩
  · exact .inl h1
  · refine .inr ⟨g', cap, cur, h1, h2, ?_, h4⟩
    injection h1 with h1
    have := hk _ h1 h2 (Array.getElem?_eq_some_iff.1 h3).1
    rw [this]; exact h3
end Go.Proofs.Ytekjhomjonfgfaa
