/- Plain mathematics of the eight symmetries: composition, the group that a list generates, images in a box. -/
import Derived.Test.YthjamghemmanfaaDoorMem
namespace Go.Proofs.YthjamghemmanfaaDoor

/-- the composition of two numbers from 0 to 7 -/
def comp (a b : Nat) : Nat := if b < 4 then (if a < 4 then (a + b) % 4 else 4 + (a - 4 + b) % 4) else (if a < 4 then 4 + (b - 4 + 4 - a) % 4 else (b - 4 + 8 - a) % 4)
theorem comp_lt : ∀ a, a < 8 → ∀ b, b < 8 → comp a b < 8 := by decide
theorem comp_zero : ∀ a, a < 8 → comp a 0 = a := by decide
theorem zero_comp : ∀ a, a < 8 → comp 0 a = a := by decide
theorem comp_assoc : ∀ a, a < 8 → ∀ b, b < 8 → ∀ c, c < 8 → comp (comp a b) c = comp a (comp b c) := by decide +kernel

/-- the number of a symmetry -/
def md (k : Int) : Nat := (k % 8).toNat
theorem md_lt (k : Int) : md k < 8 := by unfold md; omega

/-- what a list of numbers generates: what some of them, one after the other, lead to -/
def Gen (l : List Nat) (k : Nat) : Prop := ∃ path : List Nat, (∀ s ∈ path, s ∈ l) ∧ path.foldl comp 0 = k
theorem Gen.zero {l : List Nat} : Gen l 0 := ⟨[], by simp, rfl⟩
theorem Gen.step {l : List Nat} {x s : Nat} (h : Gen l x) (hs : s ∈ l) : Gen l (comp x s) := by
  obtain ⟨path, hp, rfl⟩ := h
  refine ⟨path ++ [s], fun a ha => ?_, by simp⟩
  rw [List.mem_append] at ha
  rcases ha with ha | ha
  · exact hp a ha
  · simp at ha; subst ha; exact hs
theorem gen_along {l : List Nat} {P : Nat → Prop} (h1 : ∀ x s, Gen l x → P x → s ∈ l → P (comp x s)) : ∀ (path : List Nat) (x : Nat), Gen l x → P x → (∀ s ∈ path, s ∈ l) → P (path.foldl comp x)
  | [], _, _, hx, _ => hx
  | s :: path, x, hg, hx, hp => gen_along h1 path (comp x s) (hg.step (hp s (by simp))) (h1 x s hg hx (hp s (by simp))) (fun a ha => hp a (by simp [ha]))
theorem gen_ind {l : List Nat} {P : Nat → Prop} (h0 : P 0) (h1 : ∀ x s, Gen l x → P x → s ∈ l → P (comp x s)) {k : Nat} (h : Gen l k) : P k := by
  obtain ⟨path, hp, rfl⟩ := h
  exact gen_along h1 path 0 Gen.zero h0 hp
theorem Gen.lt {l : List Nat} (hl : ∀ s ∈ l, s < 8) {x : Nat} (h : Gen l x) : x < 8 :=
  gen_ind (P := fun x => x < 8) (by decide) (fun _ _ _ ih hs => comp_lt _ ih _ (hl _ hs)) h
theorem Gen.one {l : List Nat} (hl : ∀ s ∈ l, s < 8) {s : Nat} (h : s ∈ l) : Gen l s := by
  have := Gen.step Gen.zero h
  rwa [zero_comp _ (hl _ h)] at this
theorem Gen.comp {l : List Nat} (hl : ∀ s ∈ l, s < 8) {x y : Nat} (hx : Gen l x) (hy : Gen l y) : Gen l (comp x y) := by
  refine gen_ind (P := fun y => Gen l (_root_.Go.Proofs.YthjamghemmanfaaDoor.comp x y)) ?_ (fun y s hg ih hs => ?_) hy
  · rw [comp_zero _ (hx.lt hl)]; exact hx
  · show Gen l (_root_.Go.Proofs.YthjamghemmanfaaDoor.comp x (_root_.Go.Proofs.YthjamghemmanfaaDoor.comp y s))
    rw [← comp_assoc _ (hx.lt hl) _ (Gen.lt hl hg) _ (hl _ hs)]
    exact ih.step hs

/-- the group, in ascending order -/
noncomputable def grp (l : List Nat) : List Nat := (List.range 8).filter fun k => @decide (Gen l k) (Classical.propDecidable _)
theorem mem_grp {l : List Nat} (hl : ∀ s ∈ l, s < 8) {k : Nat} : k ∈ grp l ↔ Gen l k := by
  unfold grp
  rw [List.mem_filter, List.mem_range, @decide_eq_true_iff _ (Classical.propDecidable _)]
  exact ⟨fun h => h.2, fun h => ⟨h.lt hl, h⟩⟩
theorem grp_lt {l : List Nat} {k : Nat} (h : k ∈ grp l) : k < 8 := by
  unfold grp at h
  rw [List.mem_filter, List.mem_range] at h
  exact h.1
theorem grp_zero (l : List Nat) : 0 ∈ grp l := by
  unfold grp
  rw [List.mem_filter, List.mem_range, @decide_eq_true_iff _ (Classical.propDecidable _)]
  exact ⟨by decide, Gen.zero⟩
theorem grp_len (l : List Nat) : 1 ≤ (grp l).length ∧ (grp l).length ≤ 8 := by
  refine ⟨List.length_pos_of_mem (grp_zero l), ?_⟩
  unfold grp
  have := List.length_filter_le (fun k => @decide (Gen l k) (Classical.propDecidable _)) (List.range 8)
  simpa using this
theorem grp_sorted (l : List Nat) : (grp l).Pairwise (· < ·) := by
  unfold grp
  exact List.Pairwise.filter _ List.pairwise_lt_range
/-- a list of numbers below 8 that is closed from the right and holds 0 and only what is generated: just the group's members -/
theorem gen_of_closed {l g : List Nat} (h0 : 0 ∈ g) (hc : ∀ x ∈ g, ∀ s ∈ l, comp x s ∈ g) {k : Nat} (h : Gen l k) : k ∈ g := by
  exact gen_ind (P := fun k => k ∈ g) h0 (fun x s _ ih hs => hc _ ih _ hs) h

/-- two ascending lists with the same members are one -/
theorem sorted_eq : ∀ (a b : List Nat), a.Pairwise (· < ·) → b.Pairwise (· < ·) → (∀ k, k ∈ a ↔ k ∈ b) → a = b
  | [], [], _, _, _ => rfl
  | [], y :: b, _, _, h => absurd ((h y).2 (by simp)) (by simp)
  | x :: a, [], _, _, h => absurd ((h x).1 (by simp)) (by simp)
  | x :: a, y :: b, ha, hb, h => by
    rw [List.pairwise_cons] at ha hb
    have e : x = y := by
      have h1 := (h x).1 (by simp)
      have h2 := (h y).2 (by simp)
      rw [List.mem_cons] at h1 h2
      rcases h1 with h1 | h1
      · exact h1
      · rcases h2 with h2 | h2
        · exact h2.symm
        · have := ha.1 _ h2; have := hb.1 _ h1; omega
    subst e
    congr 1
    refine sorted_eq a b ha.2 hb.2 fun k => ?_
    have hk := h k
    rw [List.mem_cons, List.mem_cons] at hk
    constructor
    · intro hm
      rcases hk.1 (Or.inr hm) with rfl | h'
      · exact absurd (ha.1 _ hm) (by omega)
      · exact h'
    · intro hm
      rcases hk.2 (Or.inr hm) with rfl | h'
      · exact absurd (hb.1 _ hm) (by omega)
      · exact h'

/-- a list without repetition of numbers below n is no longer than n -/
theorem nodup_le : ∀ (n : Nat) (l : List Nat), l.Nodup → (∀ k ∈ l, k < n) → l.length ≤ n
  | 0, l, _, h => by
    cases l with
    | nil => simp
    | cons x l => exact absurd (h x (by simp)) (by omega)
  | n + 1, l, hn, h => by
    have h1 := nodup_le n (l.erase n) (hn.erase n) (fun k hk => by
      have h2 := h k (List.mem_of_mem_erase hk)
      have h3 : k ≠ n := fun e => by subst e; exact (List.Nodup.not_mem_erase hn) hk
      omega)
    have h4 := List.length_erase (a := n) (l := l)
    split at h4 <;> omega

/-- the image of a position under a symmetry -/
def turnX (k : Nat) (x y : Int) : Int := match k with | 0 => x | 1 => -y | 2 => -x | 3 => y | 4 => -x | 5 => -y | 6 => x | _ => y
def turnY (k : Nat) (x y : Int) : Int := match k with | 0 => y | 1 => x | 2 => -y | 3 => -x | 4 => y | 5 => -x | 6 => -y | _ => x
/-- the same within the box from (0, 0) whose last position is (p, q) -/
def imgX (k : Nat) (p q x y : Nat) : Nat := match k with | 0 => x | 1 => q - y | 2 => p - x | 3 => y | 4 => p - x | 5 => q - y | 6 => x | _ => y
def imgY (k : Nat) (p q x y : Nat) : Nat := match k with | 0 => y | 1 => x | 2 => q - y | 3 => p - x | 4 => y | 5 => p - x | 6 => q - y | _ => x
theorem eight {P : Nat → Prop} (h0 : P 0) (h1 : P 1) (h2 : P 2) (h3 : P 3) (h4 : P 4) (h5 : P 5) (h6 : P 6) (h7 : P 7) (k : Nat) (h : k < 8) : P k := by
  match k, h with
  | 0, _ => exact h0
  | 1, _ => exact h1
  | 2, _ => exact h2
  | 3, _ => exact h3
  | 4, _ => exact h4
  | 5, _ => exact h5
  | 6, _ => exact h6
  | 7, _ => exact h7
  | k + 8, h => omega

/-- a symmetry keeps a box's shape -/
def keeps (k p q : Nat) : Prop := k % 2 = 0 ∨ p = q
theorem img_in (k p q x y : Nat) (hk : k < 8) (h : keeps k p q) (hx : x ≤ p) (hy : y ≤ q) : imgX k p q x y ≤ p ∧ imgY k p q x y ≤ q := by
  unfold keeps at h
  revert h
  refine eight (P := fun k => k % 2 = 0 ∨ p = q → imgX k p q x y ≤ p ∧ imgY k p q x y ≤ q) ?_ ?_ ?_ ?_ ?_ ?_ ?_ ?_ k hk <;> intro h <;> simp only [imgX, imgY] <;> omega
theorem turn_img (k p q x y : Nat) (hk : k < 8) (hx : x ≤ p) (hy : y ≤ q) : turnX k x y - min 0 (turnX k p q) = imgX k p q x y ∧ turnY k x y - min 0 (turnY k p q) = imgY k p q x y := by
  refine eight (P := fun k => turnX k x y - min 0 (turnX k p q) = imgX k p q x y ∧ turnY k x y - min 0 (turnY k p q) = imgY k p q x y) ?_ ?_ ?_ ?_ ?_ ?_ ?_ ?_ k hk <;> simp only [turnX, turnY, imgX, imgY] <;> omega
theorem img_comp (a b p q x y : Nat) (ha : a < 8) (hb : b < 8) (h1 : keeps a p q) (h2 : keeps b p q) (hx : x ≤ p) (hy : y ≤ q) :
    imgX b p q (imgX a p q x y) (imgY a p q x y) = imgX (comp a b) p q x y ∧ imgY b p q (imgX a p q x y) (imgY a p q x y) = imgY (comp a b) p q x y := by
  unfold keeps at h1 h2
  have ca : a = 0 ∨ a = 1 ∨ a = 2 ∨ a = 3 ∨ a = 4 ∨ a = 5 ∨ a = 6 ∨ a = 7 := by omega
  have cb : b = 0 ∨ b = 1 ∨ b = 2 ∨ b = 3 ∨ b = 4 ∨ b = 5 ∨ b = 6 ∨ b = 7 := by omega
  rcases ca with rfl | rfl | rfl | rfl | rfl | rfl | rfl | rfl <;> rcases cb with rfl | rfl | rfl | rfl | rfl | rfl | rfl | rfl <;> simp [imgX, imgY, comp] <;> omega
end Go.Proofs.YthjamghemmanfaaDoor
