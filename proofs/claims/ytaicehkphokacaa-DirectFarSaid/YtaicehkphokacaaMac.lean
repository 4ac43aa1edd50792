/- A sweep over the positions that read a cell of a pattern, and what it finds. -/
import Derived.Test.YtaicehkphokacaaMab
namespace Go.Proofs.Ytaicehkphokacaa

/-- the number of elements of an ascending list ahead of a number -/
def cnt : List Int → Int → Nat
  | [], _ => 0
  | x :: r, z => if x < z then cnt r z + 1 else 0
/-- the number behind all positions -/
def BY : Int := 8796134965298
def gN (N : List Int) (i : Nat) : Int := N.getD i BY
/-- ascending, below the number behind all -/
def Asc (N : List Int) : Prop := N.Pairwise (· < ·) ∧ ∀ x ∈ N, x < BY
theorem cnt_le : ∀ (N : List Int) (z : Int), cnt N z ≤ N.length
  | [], _ => Nat.le_refl _
  | x :: r, z => by
    rw [cnt]
    split
    · have := cnt_le r z; simp; omega
    · exact Nat.zero_le _
theorem cnt_lt : ∀ (N : List Int) (z : Int) (i : Nat), i < cnt N z → gN N i < z
  | [], _, _, h => absurd h (Nat.not_lt_zero _)
  | x :: r, z, i, h => by
    rw [cnt] at h
    split at h
    · rename_i hx
      cases i with
      | zero => simpa [gN] using hx
      | succ i =>
        have := cnt_lt r z i (by omega)
        simpa [gN] using this
    · omega
theorem cnt_ge : ∀ {N : List Int}, Asc N → ∀ (z : Int) (i : Nat), z ≤ BY → cnt N z ≤ i → z ≤ gN N i
  | [], _, z, i, hz, _ => by simpa [gN] using hz
  | x :: r, hA, z, i, hz, h => by
    obtain ⟨h1, h2⟩ := hA
    rw [List.pairwise_cons] at h1
    have hr : Asc r := ⟨h1.2, fun y hy => h2 y (List.mem_cons_of_mem _ hy)⟩
    rw [cnt] at h
    split at h
    · cases i with
      | zero => omega
      | succ i =>
        have := cnt_ge hr z i hz (by omega)
        simpa [gN] using this
    · rename_i hx
      cases i with
      | zero => simp [gN]; omega
      | succ i =>
        have : x ≤ gN r i := by
          unfold gN
          rw [List.getD_eq_getElem?_getD]
          cases he : r[i]? with
          | none => have := h2 x (by simp); simp [BY] at this ⊢; omega
          | some y =>
            have := h1.1 y (List.mem_of_getElem? he)
            simp; omega
        have e : gN (x :: r) (i + 1) = gN r i := by simp [gN]
        omega
/-- the number is found, or not -/
theorem cnt_succ {N : List Int} (hA : Asc N) {z : Int} (hz : z < BY) : cnt N (z + 1) = if gN N (cnt N z) = z then cnt N z + 1 else cnt N z := by
  have key : ∀ y : Int, ∀ i, i ≤ N.length → (∀ j, j < i → gN N j < y) → (y ≤ gN N i) → y ≤ BY → cnt N y = i := fun y i hi h1 h2 hy => by
    rcases Nat.lt_trichotomy (cnt N y) i with h | h | h
    · have := h1 _ h
      have := cnt_ge hA y (cnt N y) hy (Nat.le_refl _)
      omega
    · exact h
    · have := cnt_lt N y i h
      omega
  split
  · rename_i h
    have hl : cnt N z < N.length := by
      rcases Nat.lt_or_ge (cnt N z) N.length with h' | h'
      · exact h'
      · unfold gN at h
        rw [List.getD_eq_getElem?_getD, List.getElem?_eq_none h'] at h
        simp at h
        omega
    refine key _ _ hl (fun j hj => ?_) ?_ (by omega)
    · rcases Nat.lt_or_ge j (cnt N z) with h' | h'
      · have := cnt_lt N z j h'; omega
      · obtain rfl : j = cnt N z := by omega
        omega
    · have hge := cnt_ge hA z (cnt N z + 1) (by omega) (by omega)
      rcases Nat.lt_or_ge (cnt N z + 1) N.length with h' | h'
      · have hp := hA.1
        rw [List.pairwise_iff_getElem] at hp
        have := hp (cnt N z) (cnt N z + 1) hl h' (by omega)
        have e1 : gN N (cnt N z) = N[cnt N z] := by simp [gN, List.getD_eq_getElem?_getD, hl]
        have e2 : gN N (cnt N z + 1) = N[cnt N z + 1] := by simp [gN, List.getD_eq_getElem?_getD, h']
        omega
      · have e2 : gN N (cnt N z + 1) = BY := by unfold gN; rw [List.getD_eq_getElem?_getD, List.getElem?_eq_none h']; rfl
        omega
  · rename_i h
    refine key _ _ (cnt_le N z) (fun j hj => ?_) ?_ (by omega)
    · have := cnt_lt N z j hj; omega
    · have := cnt_ge hA z (cnt N z) (by omega) (Nat.le_refl _); omega
theorem cnt_between {N : List Int} (hA : Asc N) {z y : Int} (h1 : z ≤ y) (h2 : y ≤ gN N (cnt N z)) (hy : y ≤ BY) : cnt N y = cnt N z := by
  rcases Nat.lt_trichotomy (cnt N y) (cnt N z) with h | h | h
  · have := cnt_lt N z _ h
    have := cnt_ge hA y _ hy (Nat.le_refl _)
    omega
  · exact h
  · have := cnt_lt N y _ h
    omega
/-- the state of the cell with a number -/
def stA (N S : List Int) (z : Int) : Int := if gN N (cnt N z) = z then S.getD (cnt N z) 0 else 0
/-- the next position that reads a cell, from a position on -/
def nxp (N : List Int) (os : List Int) (z : Int) : Int := os.foldl (fun a o => min a (gN N (cnt N (z + o)) - o)) BY
theorem foldl_min_le (f : Int → Int) : ∀ (os : List Int) (a : Int), os.foldl (fun a o => min a (f o)) a ≤ a ∧ ∀ o ∈ os, os.foldl (fun a o => min a (f o)) a ≤ f o
  | [], a => ⟨Int.le_refl _, fun o h => by cases h⟩
  | x :: r, a => by
    obtain ⟨h1, h2⟩ := foldl_min_le f r (min a (f x))
    refine ⟨by simp only [List.foldl_cons]; omega, fun o ho => ?_⟩
    simp only [List.foldl_cons]
    rcases List.mem_cons.1 ho with rfl | ho
    · omega
    · exact h2 o ho
theorem foldl_min_ge (f : Int → Int) (b : Int) : ∀ (os : List Int) (a : Int), b ≤ a → (∀ o ∈ os, b ≤ f o) → b ≤ os.foldl (fun a o => min a (f o)) a
  | [], a, h, _ => h
  | x :: r, a, h, h2 => by
    simp only [List.foldl_cons]
    exact foldl_min_ge f b r _ (by have := h2 x (by simp); omega) fun o ho => h2 o (List.mem_cons_of_mem _ ho)
theorem nxp_le (N os : List Int) (z : Int) : nxp N os z ≤ BY ∧ ∀ o ∈ os, nxp N os z ≤ gN N (cnt N (z + o)) - o := foldl_min_le _ os BY
theorem nxp_ge {N : List Int} (hA : Asc N) {os : List Int} {z : Int} (hz : z ≤ BY) (ho : ∀ o ∈ os, z + o ≤ BY) : z ≤ nxp N os z :=
  foldl_min_ge _ z os BY hz fun o h => by have := cnt_ge hA (z + o) (cnt N (z + o)) (ho o h) (Nat.le_refl _); omega
theorem cnt_nxp {N : List Int} (hA : Asc N) {os : List Int} {z y : Int} (hz : z ≤ y) (hy : y ≤ nxp N os z) {o : Int} (ho : o ∈ os) (hb : y + o ≤ BY) : cnt N (y + o) = cnt N (z + o) := by
  have := (nxp_le N os z).2 o ho
  exact cnt_between hA (by omega) (by omega) hb
/-- between two positions that read a cell no cell is read -/
theorem st_between {N S : List Int} (hA : Asc N) {os : List Int} {z y : Int} (hz : z ≤ y) (hy : y < nxp N os z) {o : Int} (ho : o ∈ os) (hb : y + o ≤ BY) : stA N S (y + o) = 0 := by
  have h1 := cnt_nxp hA hz (by omega) ho hb
  have := (nxp_le N os z).2 o ho
  unfold stA
  rw [h1, if_neg (by omega)]
/-- the positions with a state other than 0, in order -/
def res (F : Nat → Int) : Nat → List (Nat × Int)
  | 0 => []
  | z + 1 => if F z = 0 then res F z else res F z ++ [(z, F z)]
theorem res_skip {F : Nat → Int} {z : Nat} : ∀ (d : Nat), (∀ y, z ≤ y → y < z + d → F y = 0) → res F (z + d) = res F z
  | 0, _ => rfl
  | d + 1, h => by
    rw [← Nat.add_assoc, res, if_pos (h (z + d) (by omega) (by omega))]
    exact res_skip d fun y h1 h2 => h y h1 (by omega)
theorem mem_res {F : Nat → Int} {p : Nat × Int} : ∀ {z : Nat}, p ∈ res F z ↔ p.1 < z ∧ F p.1 = p.2 ∧ p.2 ≠ 0
  | 0 => by simp [res]
  | z + 1 => by
    rw [res]
    split
    · rename_i h0
      rw [mem_res]
      constructor
      · rintro ⟨h1, h2, h3⟩; exact ⟨by omega, h2, h3⟩
      · rintro ⟨h1, h2, h3⟩
        refine ⟨?_, h2, h3⟩
        rcases Nat.lt_or_ge p.1 z with h | h
        · exact h
        · have e : p.1 = z := by omega
          rw [e] at h2; omega
    · rename_i h0
      rw [List.mem_append, mem_res, List.mem_singleton]
      constructor
      · rintro (⟨h1, h2, h3⟩ | h)
        · exact ⟨by omega, h2, h3⟩
        · subst h; exact ⟨by simp, rfl, h0⟩
      · rintro ⟨h1, h2, h3⟩
        rcases Nat.lt_or_ge p.1 z with h | h
        · exact .inl ⟨h, h2, h3⟩
        · have e : p.1 = z := by omega
          right
          exact Prod.ext e (by rw [← h2, e])
theorem res_asc (F : Nat → Int) : ∀ z, (res F z).Pairwise fun a b => a.1 < b.1
  | 0 => List.Pairwise.nil
  | z + 1 => by
    rw [res]
    split
    · exact res_asc F z
    · rw [List.pairwise_append]
      refine ⟨res_asc F z, List.pairwise_singleton _ _, fun a ha b hb => ?_⟩
      have h1 := (mem_res.1 ha).1
      rw [List.mem_singleton] at hb
      subst hb
      exact h1
/-- two strictly ordered lists with the same members -/
theorem asc_ext {α : Type} (lt : α → α → Prop) (irr : ∀ a, ¬ lt a a) (tr : ∀ a b, lt a b → ¬ lt b a) : ∀ (l k : List α), l.Pairwise lt → k.Pairwise lt → (∀ x, x ∈ l ↔ x ∈ k) → l = k
  | [], [], _, _, _ => rfl
  | [], y :: k, _, _, h => absurd ((h y).2 (by simp)) (by simp)
  | x :: l, [], _, _, h => absurd ((h x).1 (by simp)) (by simp)
  | x :: l, y :: k, hl, hk, h => by
    rw [List.pairwise_cons] at hl hk
    have e : x = y := by
      have h1 := (h x).1 (by simp)
      have h2 := (h y).2 (by simp)
      rcases List.mem_cons.1 h1 with h1 | h1
      · exact h1
      · rcases List.mem_cons.1 h2 with h2 | h2
        · exact h2.symm
        · exact absurd (hl.1 y h2) (tr _ _ (hk.1 x h1))
    subst e
    rw [asc_ext lt irr tr l k hl.2 hk.2 fun z => ?_]
    constructor
    · intro hz
      rcases List.mem_cons.1 ((h z).1 (List.mem_cons_of_mem _ hz)) with rfl | h'
      · exact absurd (hl.1 z hz) (irr z)
      · exact h'
    · intro hz
      rcases List.mem_cons.1 ((h z).2 (List.mem_cons_of_mem _ hz)) with rfl | h'
      · exact absurd (hk.1 z hz) (irr z)
      · exact h'
/-- members that differ are at most as many as there are candidates -/
theorem nodup_le {α : Type} [BEq α] [LawfulBEq α] : ∀ (l c : List α), l.Nodup → (∀ x ∈ l, x ∈ c) → l.length ≤ c.length
  | [], _, _, _ => Nat.zero_le _
  | x :: l, c, hn, h => by
    rw [List.nodup_cons] at hn
    have hx := h x (by simp)
    have h1 := nodup_le l (c.erase x) hn.2 fun y hy => (List.mem_erase_of_ne (fun (e : y = x) => hn.1 (e ▸ hy))).2 (h y (List.mem_cons_of_mem _ hy))
    rw [List.length_erase_of_mem hx] at h1
    have := List.length_pos_of_mem hx
    simp
    omega
/-- the number of a position -/
def nmb (x y : Int) : Int := (y + 1048578) * 2097157 + x + 1048578
def plx (z : Int) : Int := z % 2097157 - 1048578
def ply (z : Int) : Int := z / 2097157 - 1048578
def okc (c : Int) : Prop := -1048576 ≤ c ∧ c ≤ 1048576
instance (c : Int) : Decidable (okc c) := by unfold okc; exact inferInstance
theorem nmb_place (z : Int) : nmb (plx z) (ply z) = z := by unfold nmb plx ply; omega
theorem place_nmb {x y : Int} (hx : -1048578 ≤ x ∧ x ≤ 1048578) : plx (nmb x y) = x ∧ ply (nmb x y) = y := by unfold nmb plx ply; omega
/-- the order of cells -/
def bef (a b : C3) : Prop := a.2.1 < b.2.1 ∨ (a.2.1 = b.2.1 ∧ a.1 < b.1)
instance (a b : C3) : Decidable (bef a b) := by unfold bef; exact inferInstance
theorem bef_irr (a : C3) : ¬ bef a a := by unfold bef; omega
theorem bef_as (a b : C3) (h : bef a b) : ¬ bef b a := by unfold bef at *; omega
theorem bef_tr {a b c : C3} (h : bef a b) (k : bef b c) : bef a c := by unfold bef at *; omega
theorem bef_nmb {a b : C3} (ha : okc a.1) (hb : okc b.1) : bef a b ↔ nmb a.1 a.2.1 < nmb b.1 b.2.1 := by unfold bef nmb okc at *; omega
theorem bef_place {z y : Int} (s t : Int) (h : z < y) : bef (plx z, ply z, s) (plx y, ply y, t) := by unfold bef plx ply; simp only; omega
/-- a valid pattern -/
structure PatOK (p : List C3) : Prop where
  ok : ∀ c ∈ p, okc c.1 ∧ okc c.2.1 ∧ 1 ≤ c.2.2 ∧ c.2.2 < 8
  asc : p.Pairwise bef
def nums (p : List C3) : List Int := p.map fun c => nmb c.1 c.2.1
def sts (p : List C3) : List Int := p.map fun c => c.2.2
theorem nmb_lt {x y : Int} (hx : okc x) (hy : okc y) : 4194316 ≤ nmb x y ∧ nmb x y < 4398067482649 := by unfold nmb okc at *; omega
theorem PatOK.ascN {p : List C3} (h : PatOK p) : Asc (nums p) := by
  constructor
  · unfold nums
    rw [List.pairwise_map]
    exact h.asc.imp_of_mem fun {a b} ha hb hab => (bef_nmb (h.ok a ha).1 (h.ok b hb).1).1 hab
  · intro x hx
    unfold nums at hx
    rw [List.mem_map] at hx
    obtain ⟨c, hc, rfl⟩ := hx
    have := (nmb_lt (h.ok c hc).1 (h.ok c hc).2.1).2
    unfold BY
    omega
theorem cnt_at {N : List Int} (hA : Asc N) {i : Nat} (hi : i < N.length) : cnt N N[i] = i := by
  have e : gN N i = N[i] := by simp [gN, List.getD_eq_getElem?_getD, hi]
  have hb := hA.2 _ (List.getElem_mem hi)
  rcases Nat.lt_trichotomy (cnt N N[i]) i with h | h | h
  · have h1 := cnt_ge hA N[i] _ (by omega) (Nat.le_refl _)
    have hp := hA.1
    rw [List.pairwise_iff_getElem] at hp
    have hc : cnt N N[i] < N.length := by omega
    have h2 := hp _ _ hc hi h
    have e2 : gN N (cnt N N[i]) = N[cnt N N[i]] := by simp [gN, List.getD_eq_getElem?_getD, hc]
    omega
  · exact h
  · have := cnt_lt N _ _ h
    omega
theorem stA_mem {p : List C3} (h : PatOK p) {c : C3} (hc : c ∈ p) : stA (nums p) (sts p) (nmb c.1 c.2.1) = c.2.2 := by
  obtain ⟨i, hi, rfl⟩ := List.getElem_of_mem hc
  have hl : i < (nums p).length := by simpa [nums] using hi
  have e : (nums p)[i] = nmb p[i].1 p[i].2.1 := by simp [nums]
  have hk := cnt_at h.ascN hl
  rw [e] at hk
  unfold stA
  rw [hk, if_pos (by simp [gN, nums, List.getD_eq_getElem?_getD, hi])]
  simp [sts, List.getD_eq_getElem?_getD, hi]
theorem stA_no {p : List C3} {z : Int} (hz : z < BY) (hn : ∀ c ∈ p, nmb c.1 c.2.1 ≠ z) : stA (nums p) (sts p) z = 0 := by
  unfold stA
  split
  · rename_i h
    exfalso
    obtain ⟨i, hi⟩ : ∃ i, cnt (nums p) z = i := ⟨_, rfl⟩
    rw [hi] at h
    rcases Nat.lt_or_ge i p.length with h' | h'
    · refine hn _ (List.getElem_mem h') ?_
      rw [← h]
      simp [gN, nums, List.getD_eq_getElem?_getD, h']
    · have : gN (nums p) i = BY := by unfold gN; rw [List.getD_eq_getElem?_getD, List.getElem?_eq_none (by simpa [nums] using h')]; rfl
      omega
  · rfl
theorem stA_ne {p : List C3} (h : PatOK p) {z : Int} (hz : z < BY) (hn : stA (nums p) (sts p) z ≠ 0) : ∃ c ∈ p, nmb c.1 c.2.1 = z ∧ stA (nums p) (sts p) z = c.2.2 := by
  by_cases hx : ∃ c ∈ p, nmb c.1 c.2.1 = z
  · obtain ⟨c, hc, rfl⟩ := hx
    exact ⟨c, hc, rfl, stA_mem h hc⟩
  · exact absurd (stA_no hz fun c hc e => hx ⟨c, hc, e⟩) hn
/-- an offset -/
def OffOk (o : Int) : Prop := ∃ dx dy : Int, o = dy * 2097157 + dx ∧ -2 ≤ dx ∧ dx ≤ 2 ∧ -2 ≤ dy ∧ dy ≤ 2
/-- far from each other: no position sees both -/
theorem far_off {a b : C3} (ha : okc a.1 ∧ okc a.2.1) (hb : okc b.1 ∧ okc b.2.1) {o o' z : Int} (ho : OffOk o) (ho' : OffOk o') (h1 : nmb a.1 a.2.1 = z + o) (h2 : nmb b.1 b.2.1 = z + o') :
    -4 ≤ a.1 - b.1 ∧ a.1 - b.1 ≤ 4 ∧ -4 ≤ a.2.1 - b.2.1 ∧ a.2.1 - b.2.1 ≤ 4 := by
  obtain ⟨dx, dy, rfl, q1, q2, q3, q4⟩ := ho
  obtain ⟨ex, ey, rfl, r1, r2, r3, r4⟩ := ho'
  unfold nmb okc at *
  omega
theorem off_bd {o : Int} (h : OffOk o) : -4194316 ≤ o ∧ o ≤ 4194316 := by
  obtain ⟨dx, dy, rfl, q1, q2, q3, q4⟩ := h
  omega
/-- the new state of each position -/
def FT (g : List Int → Int) (os : List Int) (p : List C3) (z : Nat) : Int := g (os.map fun o => stA (nums p) (sts p) ((z : Int) + o))
/-- all positions -/
def PS : Nat := 4398067482649
section
variable {g : List Int → Int} {os : List Int} {a b c p : List C3}
theorem map_zero {α : Type} (os : List α) (f : α → Int) (h : ∀ o ∈ os, f o = 0) : os.map f = List.replicate os.length 0 := by
  rw [List.eq_replicate_iff]
  refine ⟨by simp, fun b hb => ?_⟩
  rw [List.mem_map] at hb
  obtain ⟨o, ho, rfl⟩ := hb
  exact h o ho
/-- a position that sees no cell -/
theorem FT_none (hq : g (List.replicate os.length 0) = 0) {z : Nat} (h : ∀ o ∈ os, stA (nums p) (sts p) ((z : Int) + o) = 0) : FT g os p z = 0 := by
  unfold FT
  rw [map_zero os _ h, hq]
/-- patterns far from each other, each position by itself -/
theorem FT_far (hq : g (List.replicate os.length 0) = 0) (ho : ∀ o ∈ os, OffOk o) (ha : PatOK a) (hb : PatOK b) (hc : PatOK c) (hm : ∀ x, x ∈ c ↔ x ∈ a ∨ x ∈ b)
    (hf : ∀ x ∈ a, ∀ y ∈ b, ¬ (-4 ≤ x.1 - y.1 ∧ x.1 - y.1 ≤ 4 ∧ -4 ≤ x.2.1 - y.2.1 ∧ x.2.1 - y.2.1 ≤ 4)) {z : Nat} (hz : z < PS) :
    (FT g os c z = FT g os a z ∧ FT g os b z = 0) ∨ (FT g os c z = FT g os b z ∧ FT g os a z = 0) := by
  have bd : ∀ o ∈ os, (z : Int) + o < BY := fun o h => by have := off_bd (ho o h); unfold BY PS at *; omega
  by_cases hs : ∃ o ∈ os, stA (nums b) (sts b) ((z : Int) + o) ≠ 0
  · right
    obtain ⟨o, h1, h2⟩ := hs
    obtain ⟨y, hy, e1, _⟩ := stA_ne hb (bd o h1) h2
    have h0 : ∀ o' ∈ os, ∀ x ∈ a, nmb x.1 x.2.1 ≠ (z : Int) + o' := fun o' h' x hx e => by
      obtain ⟨q1, q2, _⟩ := ha.ok x hx
      obtain ⟨r1, r2, _⟩ := hb.ok y hy
      exact hf x hx y hy (far_off ⟨q1, q2⟩ ⟨r1, r2⟩ (ho o' h') (ho o h1) e e1)
    refine ⟨?_, FT_none hq fun o' h' => stA_no (bd o' h') (h0 o' h')⟩
    unfold FT
    congr 1
    apply List.map_congr_left
    intro o' h'
    by_cases hx : ∃ y ∈ b, nmb y.1 y.2.1 = (z : Int) + o'
    · obtain ⟨y', hy', e'⟩ := hx
      rw [← e', stA_mem hb hy', stA_mem hc ((hm y').2 (.inr hy'))]
    · rw [stA_no (bd o' h') fun y hy e => hx ⟨y, hy, e⟩, stA_no (bd o' h') fun y hy e => by
        rcases (hm y).1 hy with h | h
        · exact h0 o' h' y h e
        · exact hx ⟨y, h, e⟩]
  · left
    have h0 : ∀ o' ∈ os, stA (nums b) (sts b) ((z : Int) + o') = 0 := fun o' h' => Decidable.byContradiction fun h => hs ⟨o', h', h⟩
    refine ⟨?_, FT_none hq h0⟩
    unfold FT
    congr 1
    apply List.map_congr_left
    intro o' h'
    by_cases hx : ∃ y ∈ a, nmb y.1 y.2.1 = (z : Int) + o'
    · obtain ⟨y', hy', e'⟩ := hx
      rw [← e', stA_mem ha hy', stA_mem hc ((hm y').2 (.inl hy'))]
    · rw [stA_no (bd o' h') fun y hy e => hx ⟨y, hy, e⟩, stA_no (bd o' h') fun y hy e => by
        rcases (hm y).1 hy with h | h
        · exact hx ⟨y, h, e⟩
        · have := h0 o' h'
          rw [← e, stA_mem hb h] at this
          have := (hb.ok y h).2.2.1
          omega]
/-- the next generation as numbers -/
def nxt (g : List Int → Int) (os : List Int) (p : List C3) : List (Nat × Int) := res (FT g os p) PS
/-- all of its positions are valid -/
def Vld (l : List (Nat × Int)) : Prop := ∀ e ∈ l, okc (plx (e.1 : Int)) ∧ okc (ply (e.1 : Int))
instance (l : List (Nat × Int)) : Decidable (Vld l) := by unfold Vld; exact inferInstance
/-- .. as cells -/
def cls (l : List (Nat × Int)) : List C3 := l.map fun e => (plx (e.1 : Int), ply (e.1 : Int), e.2)
theorem nxt_far (hq : g (List.replicate os.length 0) = 0) (ho : ∀ o ∈ os, OffOk o) (ha : PatOK a) (hb : PatOK b) (hc : PatOK c) (hm : ∀ x, x ∈ c ↔ x ∈ a ∨ x ∈ b)
    (hf : ∀ x ∈ a, ∀ y ∈ b, ¬ (-4 ≤ x.1 - y.1 ∧ x.1 - y.1 ≤ 4 ∧ -4 ≤ x.2.1 - y.2.1 ∧ x.2.1 - y.2.1 ≤ 4)) (e : Nat × Int) : e ∈ nxt g os c ↔ e ∈ nxt g os a ∨ e ∈ nxt g os b := by
  unfold nxt
  rw [mem_res, mem_res, mem_res]
  constructor
  · rintro ⟨h1, h2, h3⟩
    rcases FT_far hq ho ha hb hc hm hf h1 with ⟨k1, k2⟩ | ⟨k1, k2⟩
    · exact .inl ⟨h1, by rw [← k1]; exact h2, h3⟩
    · exact .inr ⟨h1, by rw [← k1]; exact h2, h3⟩
  · rintro (⟨h1, h2, h3⟩ | ⟨h1, h2, h3⟩)
    · rcases FT_far hq ho ha hb hc hm hf h1 with ⟨k1, k2⟩ | ⟨k1, k2⟩
      · exact ⟨h1, by rw [k1]; exact h2, h3⟩
      · omega
    · rcases FT_far hq ho ha hb hc hm hf h1 with ⟨k1, k2⟩ | ⟨k1, k2⟩
      · omega
      · exact ⟨h1, by rw [k1]; exact h2, h3⟩
/-- not in both -/
theorem nxt_apart (hq : g (List.replicate os.length 0) = 0) (ho : ∀ o ∈ os, OffOk o) (ha : PatOK a) (hb : PatOK b) (hc : PatOK c) (hm : ∀ x, x ∈ c ↔ x ∈ a ∨ x ∈ b)
    (hf : ∀ x ∈ a, ∀ y ∈ b, ¬ (-4 ≤ x.1 - y.1 ∧ x.1 - y.1 ≤ 4 ∧ -4 ≤ x.2.1 - y.2.1 ∧ x.2.1 - y.2.1 ≤ 4)) (e f : Nat × Int) (h1 : e ∈ nxt g os a) (h2 : f ∈ nxt g os b) : e.1 ≠ f.1 := fun h => by
  unfold nxt at h1 h2
  rw [mem_res] at h1 h2
  rw [h] at h1
  rcases FT_far hq ho ha hb hc hm hf h2.1 with ⟨k1, k2⟩ | ⟨k1, k2⟩ <;> omega
theorem cls_asc (l : List (Nat × Int)) (h : l.Pairwise fun a b => a.1 < b.1) : (cls l).Pairwise bef := by
  unfold cls
  rw [List.pairwise_map]
  exact h.imp fun {a b} hab => bef_place _ _ (by omega)
/-- at most as many as offsets times cells -/
theorem nxt_len (hq : g (List.replicate os.length 0) = 0) (ho : ∀ o ∈ os, OffOk o) (hp : PatOK p) : (nxt g os p).length ≤ p.length * os.length := by
  have h1 : ((nxt g os p).map fun e => e.1).Nodup := by
    have := res_asc (FT g os p) PS
    unfold List.Nodup
    rw [List.pairwise_map]
    exact this.imp fun {a b} h => by omega
  have h2 := nodup_le ((nxt g os p).map fun e => e.1) (p.flatMap fun c => os.map fun o => (nmb c.1 c.2.1 - o).toNat) h1 fun x hx => by
    rw [List.mem_map] at hx
    obtain ⟨e, he, rfl⟩ := hx
    unfold nxt at he
    rw [mem_res] at he
    obtain ⟨e1, e2, e3⟩ := he
    have : ∃ o ∈ os, stA (nums p) (sts p) ((e.1 : Int) + o) ≠ 0 := Decidable.byContradiction fun hn => e3 (by rw [← e2]; exact FT_none hq fun o h => Decidable.byContradiction fun h' => hn ⟨o, h, h'⟩)
    obtain ⟨o, o1, o2⟩ := this
    obtain ⟨c, hc, e4, _⟩ := stA_ne hp (by have := off_bd (ho o o1); unfold BY PS at *; omega) o2
    rw [List.mem_flatMap]
    exact ⟨c, hc, List.mem_map.2 ⟨o, o1, by omega⟩⟩
  rw [List.length_map] at h2
  refine Nat.le_trans h2 ?_
  clear h1 h2
  induction p with
  | nil => simp
  | cons x r ih =>
    have ih := ih ⟨fun c h => hp.ok c (List.mem_cons_of_mem _ h), (List.pairwise_cons.1 hp.asc).2⟩
    simp only [List.flatMap_cons, List.length_append, List.length_map, List.length_cons] at ih ⊢
    rw [Nat.succ_mul]
    omega
end
/-- a cell put into a list in order, behind those at its position -/
def insC : List C3 → C3 → List C3
  | [], c => [c]
  | x :: r, c => if bef c x then c :: x :: r else x :: insC r c
theorem mem_insC {c x : C3} : ∀ {p : List C3}, x ∈ insC p c ↔ x = c ∨ x ∈ p
  | [] => by simp [insC]
  | y :: r => by
    rw [insC]
    split
    · simp
    · rw [List.mem_cons, mem_insC, List.mem_cons]
      constructor
      · rintro (h | h | h)
        · exact .inr (.inl h)
        · exact .inl h
        · exact .inr (.inr h)
      · rintro (h | h | h)
        · exact .inr (.inl h)
        · exact .inl h
        · exact .inr (.inr h)
theorem insC_len {c : C3} : ∀ (p : List C3), (insC p c).length = p.length + 1
  | [] => rfl
  | y :: r => by
    rw [insC]
    split
    · simp
    · simp [insC_len r]
/-- the same position -/
def sp (a b : C3) : Prop := a.1 = b.1 ∧ a.2.1 = b.2.1
theorem insC_asc {c : C3} : ∀ {p : List C3}, p.Pairwise bef → (∀ x ∈ p, ¬ sp x c) → (insC p c).Pairwise bef
  | [], _, _ => List.pairwise_singleton _ _
  | y :: r, h, hn => by
    rw [List.pairwise_cons] at h
    rw [insC]
    split
    · rename_i hb
      rw [List.pairwise_cons, List.pairwise_cons]
      refine ⟨fun x hx => ?_, h.1, h.2⟩
      rcases List.mem_cons.1 hx with rfl | hx
      · exact hb
      · exact bef_tr hb (h.1 x hx)
    · rename_i hb
      rw [List.pairwise_cons]
      refine ⟨fun x hx => ?_, insC_asc h.2 fun x hx => hn x (List.mem_cons_of_mem _ hx)⟩
      rcases mem_insC.1 hx with rfl | hx
      · have := hn y (by simp)
        unfold sp bef at *
        omega
      · exact h.1 x hx
/-- all cells put in -/
def frm (l : List C3) : List C3 := l.foldl insC []
theorem frm_go : ∀ (l p : List C3), p.Pairwise bef → (∀ x ∈ p, ∀ y ∈ l, ¬ sp x y) → l.Pairwise (fun x y => ¬ sp x y) → (l.foldl insC p).Pairwise bef ∧ (∀ x, x ∈ l.foldl insC p ↔ x ∈ l ∨ x ∈ p) ∧ (l.foldl insC p).length = l.length + p.length
  | [], p, h, _, _ => ⟨h, fun x => by simp, by simp⟩
  | c :: r, p, h, hp, hl => by
    rw [List.pairwise_cons] at hl
    obtain ⟨h1, h2, h3⟩ := frm_go r (insC p c) (insC_asc h fun x hx => hp x hx c (by simp)) (fun x hx y hy => by
      rcases mem_insC.1 hx with rfl | hx
      · exact hl.1 y hy
      · exact hp x hx y (List.mem_cons_of_mem _ hy)) hl.2
    rw [List.foldl_cons]
    refine ⟨h1, fun x => ?_, ?_⟩
    · rw [h2, mem_insC, List.mem_cons]
      constructor
      · rintro (h | h | h)
        · exact .inl (.inr h)
        · exact .inl (.inl h)
        · exact .inr h
      · rintro ((h | h) | h)
        · exact .inr (.inl h)
        · exact .inl h
        · exact .inr (.inr h)
    · rw [h3, insC_len, List.length_cons]
      omega
theorem frm_ok {l : List C3} (hl : l.Pairwise (fun x y => ¬ sp x y)) : (frm l).Pairwise bef ∧ (∀ x, x ∈ frm l ↔ x ∈ l) ∧ (frm l).length = l.length := by
  obtain ⟨h1, h2, h3⟩ := frm_go l [] List.Pairwise.nil (fun x hx => by cases hx) hl
  exact ⟨h1, fun x => by rw [frm, h2]; simp, by rw [frm, h3]; simp⟩
theorem bef_sp {a b : C3} (h : bef a b) : ¬ sp a b := by unfold bef sp at *; omega
/-- two lists in order that have no position in common -/
theorem app_sp {a b : List C3} (ha : a.Pairwise bef) (hb : b.Pairwise bef) (h : ∀ x ∈ a, ∀ y ∈ b, ¬ sp x y) : (a ++ b).Pairwise (fun x y => ¬ sp x y) := by
  rw [List.pairwise_append]
  exact ⟨ha.imp bef_sp, hb.imp bef_sp, h⟩
end Go.Proofs.Ytaicehkphokacaa
