/- Plain mathematics of orbits, and the walk of firstImage. -/
import Derived.Test.YthjamghemmanfaaDoorWithin
import Derived.Test.YthjamghemmanfaaDoorHas
namespace Go.Proofs.YthjamghemmanfaaDoor
open Go.RowKit

/-- the number of a position's image -/
def val (k p q x y : Nat) : Nat := imgY k p q x y * (p + 1) + imgX k p q x y
/-- the least of a start and the images' numbers -/
def mn (G : List Nat) (s p q x y : Nat) : Nat := G.foldl (fun a k => min a (val k p q x y)) s
theorem mn_snoc (G : List Nat) (k s p q x y : Nat) : mn (G ++ [k]) s p q x y = min (mn G s p q x y) (val k p q x y) := by simp [mn]
theorem mn_take {G : List Nat} {i : Nat} (h : i < G.length) (s p q x y : Nat) : mn (G.take (i + 1)) s p q x y = min (mn (G.take i) s p q x y) (val (G.getD i 0) p q x y) := by
  rw [List.take_succ_eq_append_getElem h, mn_snoc]
  congr 2
  rw [List.getD_eq_getElem?_getD, List.getElem?_eq_getElem h]; rfl
theorem mn_le_start (G : List Nat) (p q x y : Nat) : ∀ s, mn G s p q x y ≤ s := by
  induction G with
  | nil => intro s; exact Nat.le_refl _
  | cons k G ih => intro s; exact Nat.le_trans (ih _) (Nat.min_le_left _ _)
theorem mn_le {G : List Nat} {k : Nat} (p q x y : Nat) : ∀ s, k ∈ G → mn G s p q x y ≤ val k p q x y := by
  induction G with
  | nil => intro s h; cases h
  | cons a G ih =>
    intro s h
    rw [List.mem_cons] at h
    rcases h with rfl | h
    · exact Nat.le_trans (mn_le_start G p q x y _) (Nat.min_le_right _ _)
    · exact ih _ h
theorem mn_in (G : List Nat) (p q x y : Nat) : ∀ s, mn G s p q x y = s ∨ ∃ k ∈ G, mn G s p q x y = val k p q x y := by
  induction G with
  | nil => intro s; exact Or.inl rfl
  | cons a G ih =>
    intro s
    have e : mn (a :: G) s p q x y = mn G (min s (val a p q x y)) p q x y := rfl
    rcases ih (min s (val a p q x y)) with h | ⟨k, hk, h⟩
    · rcases Nat.le_total s (val a p q x y) with h2 | h2
      · left; rw [e, h]; omega
      · right; exact ⟨a, by simp, by rw [e, h]; omega⟩
    · right; exact ⟨k, by simp [hk], by rw [e, h]⟩
theorem val_zero (p q x y : Nat) : val 0 p q x y = y * (p + 1) + x := rfl
theorem val_lt {k p q x y : Nat} (hk : k < 8) (h : keeps k p q) (hx : x ≤ p) (hy : y ≤ q) : val k p q x y < (p + 1) * (q + 1) := by
  obtain ⟨h1, h2⟩ := img_in k p q x y hk h hx hy
  unfold val
  have := Nat.mul_le_mul_right (p + 1) h2
  have e : (p + 1) * (q + 1) = q * (p + 1) + (p + 1) := by rw [Nat.mul_comm, Nat.add_mul, Nat.one_mul]
  omega
/-- the start does not matter where 0 is among the symmetries -/
theorem mn_start {G : List Nat} (h0 : 0 ∈ G) (p q x y s : Nat) (hs : y * (p + 1) + x ≤ s) : mn G s p q x y = mn G (y * (p + 1) + x) p q x y := by
  have a1 := mn_le (G := G) p q x y s h0
  have a2 := mn_le (G := G) p q x y (y * (p + 1) + x) h0
  rw [val_zero] at a1 a2
  rcases mn_in G p q x y s with h | ⟨k, hk, h⟩
  · have b1 : mn G (y * (p + 1) + x) p q x y ≥ y * (p + 1) + x := by
      rcases mn_in G p q x y (y * (p + 1) + x) with h' | ⟨k', hk', h'⟩
      · omega
      · have := mn_le (G := G) p q x y s hk'; omega
    omega
  · have b1 := mn_le (G := G) p q x y (y * (p + 1) + x) hk
    rcases mn_in G p q x y (y * (p + 1) + x) with h' | ⟨k', hk', h'⟩
    · omega
    · have := mn_le (G := G) p q x y s hk'; omega
/-- the first number of the orbit of position number i -/
def orb (G : List Nat) (p q i : Nat) : Nat := mn G i p q (i % (p + 1)) (i / (p + 1))
theorem div_mod_at {W x y : Nat} (hx : x < W) : (y * W + x) % W = x ∧ (y * W + x) / W = y := by
  rw [Nat.mul_comm, Nat.mul_add_mod, Nat.mod_eq_of_lt hx, Nat.mul_add_div (by omega), Nat.div_eq_of_lt hx, Nat.add_zero]
  exact ⟨rfl, rfl⟩
theorem orb_at (G : List Nat) {p q x y : Nat} (hx : x ≤ p) : orb G p q (y * (p + 1) + x) = mn G (y * (p + 1) + x) p q x y := by
  obtain ⟨h1, h2⟩ := div_mod_at (W := p + 1) (x := x) (y := y) (by omega)
  unfold orb; rw [h1, h2]
theorem orb_le (G : List Nat) (p q i : Nat) : orb G p q i ≤ i := mn_le_start _ _ _ _ _ _
/-- the first number is its own orbit's first -/
theorem orb_orb {G : List Nat} {p q i : Nat} (h0 : 0 ∈ G) (h8 : ∀ k ∈ G, k < 8) (hk : ∀ k ∈ G, keeps k p q) (hc : ∀ a ∈ G, ∀ b ∈ G, comp a b ∈ G) (hi : i < (p + 1) * (q + 1)) : orb G p q (orb G p q i) = orb G p q i := by
  obtain ⟨x, y, hx, hy, rfl⟩ : ∃ x y, x ≤ p ∧ y ≤ q ∧ i = y * (p + 1) + x := by
    refine ⟨i % (p + 1), i / (p + 1), by have := Nat.mod_lt i (show 0 < p + 1 by omega); omega, ?_, ?_⟩
    · have := Nat.div_lt_of_lt_mul hi; omega
    · have := Nat.div_add_mod i (p + 1); rw [Nat.mul_comm]; omega
  rw [orb_at G hx]
  have key : ∀ g, g ∈ G → mn G (y * (p + 1) + x) p q x y = val g p q x y → orb G p q (val g p q x y) = val g p q x y := by
    intro g hg he
    obtain ⟨h1, h2⟩ := img_in g p q x y (h8 g hg) (hk g hg) hx hy
    have e1 : val g p q x y = imgY g p q x y * (p + 1) + imgX g p q x y := rfl
    rw [e1, orb_at G h1, ← e1]
    refine Nat.le_antisymm (mn_le_start _ _ _ _ _ _) ?_
    rcases mn_in G p q (imgX g p q x y) (imgY g p q x y) (val g p q x y) with h | ⟨k, hk', h⟩
    · omega
    · rw [h]
      obtain ⟨c1, c2⟩ := img_comp g k p q x y (h8 g hg) (h8 k hk') (hk g hg) (hk k hk') hx hy
      have : val k p q (imgX g p q x y) (imgY g p q x y) = val (comp g k) p q x y := by unfold val; rw [c1, c2]
      rw [this, ← he]
      exact mn_le _ _ _ _ _ (hc g hg k hk')
  rcases mn_in G p q x y (y * (p + 1) + x) with h | ⟨k, hk', h⟩
  · have := key 0 h0 (by rw [h, val_zero])
    rw [val_zero] at this
    rw [h]; exact this
  · rw [h]; exact key k hk' h

set_option maxRecDepth 100000 in
set_option maxHeartbeats 2000000 in
theorem first_any (A : Option Addr) (m c B W H p q x y : Nat) (G : List Nat) (w : World) (hR : Reads w B A m (ints G)) (hB : B ≤ w.heap.size) (hm : m ≤ 8) (hG : ∀ k ∈ G, k < 8) (hM : Mat w) (hW : W = p + 1) (hH : H = q + 1) (hp : p ≤ 255) (hq : q ≤ 255) (hx : x ≤ p) (hy : y ≤ q) (hk : ∀ k ∈ G, keeps k p q) :
    Calls Tryd.prog 16 #[.slice A m c, .agg #[.int .i64 0, .int .i64 0, .int .i64 (W : Nat), .int .i64 (H : Nat)], .agg #[.int .i64 (x : Nat), .int .i64 (y : Nat)]] w fun e w' => e = .returned (.int .i64 (mn G (W * H) p q x y : Nat)) ∧ Below w.heap.size w w' := by
  have hlen := ints_len hR
  obtain ⟨S, hS⟩ : ∃ S, S = W * H := ⟨_, rfl⟩
  have hS2 : S ≤ 65536 := by rw [hS]; exact Nat.mul_le_mul (show W ≤ 256 by omega) (show H ≤ 256 by omega)
  have hSe : (W : Int) * (H : Int) = (S : Int) := by rw [hS]; simp
  rw [← hS]
  have HWI := Lib.hid (fun (k : Nat) (w : World) (hk : k < 8) hM => by have := within_any (k : Int) W H p q x y w hM hW hH hp hq hx hy; rwa [md_nat k hk] at this)
  obtain ⟨K4, K5, B6⟩ := two_blk w #[.int .i64 0, .int .i64 0, .int .i64 (W : Nat), .int .i64 (H : Nat)] #[.int .i64 (x : Nat), .int .i64 (y : Nat)] 35 30
  have HK4 := Lib.hid K4
  have HK5 := Lib.hid K5
  have HB6 := Lib.hid B6
  have HM := Lib.hid hM
  have HR := Lib.hid hR
  have HLN := Lib.hid hlen
  have HG := Lib.hid hG
  have HKE := Lib.hid hk
  have HW := Lib.hid hW
  have hW2 : W ≤ 256 := by omega
  have HS := Lib.hid hS
  clear K4 K5 B6 hM hR hlen hG hk hW hH hS
  go_enter Tryd.func16, Tryd.ntmps16
  go_wp2
  clear hSe
  go_loopw [7, 18] (fun fv iv wr => ∃ (i f : Nat), i ≤ m ∧ iv = .int .i64 (i : Int) ∧ fv = .int .i64 (f : Int) ∧ f = mn (G.take i) S p q x y ∧ f ≤ S ∧ Blk wr w.heap.size 35 #[.int .i64 0, .int .i64 0, .int .i64 (W : Nat), .int .i64 (H : Nat)] ∧ Blk wr (w.heap.size + 1) 30 #[.int .i64 (x : Nat), .int .i64 (y : Nat)] ∧ Below w.heap.size w wr) (fun _ iv _ => m - (intOf iv).toNat)
  case atStart => exact ⟨0, S, Nat.zero_le _, rfl, rfl, rfl, Nat.le_refl _, HK4.out, HK5.out, HB6.out⟩
  case round =>
    obtain ⟨i, f, him, rfl, rfl, hf, hfS, k4, k5, hbel⟩ := hrel
    have HF := Lib.hid hf
    have D4 := Lib.hid k4
    have D5 := Lib.hid k5
    have DB := Lib.hid hbel
    clear hf k4 k5 hbel HK4 HK5 HB6
    by_cases hlt : i < m
    · have hs : w.heap.size ≤ wr.heap.size := DB.out.size
      obtain ⟨ad, rfl, hadb, hcz⟩ := ints_at (HR.out.below (DB.out.mono hB)) hlt
      have hmem := getD_mem (show i < G.length by have := HLN.out; omega)
      have hk8 := HG.out _ hmem
      have hke := HKE.out _ hmem
      obtain ⟨k, hkk⟩ : ∃ k, k = G.getD i 0 := ⟨_, rfl⟩
      have HT := Lib.hid (mn_take (show i < G.length by have := HLN.out; omega) S p q x y)
      rw [← hkk] at hcz hk8 hke HT
      have WI := Lib.hid (HWI.out k wr hk8 (HM.out.below DB.out HM.out.1))
      obtain ⟨i1, i2⟩ := img_in k p q x y hk8 hke hx hy
      obtain ⟨r, hr⟩ : ∃ r, r = imgY k p q x y * W := ⟨_, rfl⟩
      have hr2 : r ≤ 65536 := by rw [hr]; exact Nat.mul_le_mul (show imgY k p q x y ≤ 256 by omega) (show W ≤ 256 from hW2)
      have hre : (imgY k p q x y : Int) * (W : Int) = (r : Int) := by rw [hr]; simp
      have HV := Lib.hid (show val k p q x y = r + imgX k p q x y by unfold val; rw [hr, HW.out])
      generalize imgX k p q x y = ix at *
      generalize imgY k p q x y = iy at *
      obtain ⟨c0, c1, c2, c3, c4⟩ := D4.out.four
      obtain ⟨e0, e1, e2, e3, e4⟩ := D5.out.two
      have HRR := Lib.hid hr
      clear hkk hmem hke hr
      go_upto_region 6 with (go_at_call 13; (with_reducible refine WI.out.mono ?_); rintro e w2 ⟨rfl, hb⟩; have E4 := Lib.hid ((D4.out.below' hb).alloc (.cells #[.int .i64 (ix : Nat), .int .i64 (iy : Nat)] 30)); have E5 := Lib.hid ((D5.out.below' hb).alloc (.cells #[.int .i64 (ix : Nat), .int .i64 (iy : Nat)] 30)); have bb := DB.out.trans (hb.mono DB.out.size); have EB := Lib.hid (bb.alloc bb.size (.cells #[.int .i64 (ix : Nat), .int .i64 (iy : Nat)] 30)); have E7 := Lib.hid (Blk.new w2 30 #[.int .i64 (ix : Nat), .int .i64 (iy : Nat)]); clear hb bb)
      obtain ⟨s7, hs7⟩ : ∃ s7, s7 = w2.heap.size := ⟨_, rfl⟩
      rw [← hs7] at E7
      rw [← hs7]
      clear hs7 c0 c1 c2 c3 c4 e0 e1 e2 e3 e4 hcz
      generalize w2.alloc (.cells #[.int .i64 (ix : Nat), .int .i64 (iy : Nat)] 30) = w4 at E4 E5 E7 EB ⊢
      obtain ⟨c0, c1, c2, c3, c4⟩ := E4.out.four
      obtain ⟨e0, e1, e2, e3, e4⟩ := E7.out.two
      go_wp2
      all_goals
        go_roundw
        case rel =>
          have hf := HF.out
          have ht := HT.out
          have hv := HV.out
          rw [hv, ← hf] at ht
          refine ⟨i + 1, min f (r + ix), by omega, by go_num, ?_, ht.symm, by omega, E4.out, E5.out, EB.out⟩
          congr 1; omega
        case measure => simp [intOf]; omega
    · obtain rfl : i = m := by omega
      go_wp2
      go_ret
      have hf := HF.out
      rw [List.take_of_length_le (by have := HLN.out; omega)] at hf
      subst hf
      exact ⟨rfl, DB.out⟩
end Go.Proofs.YthjamghemmanfaaDoor
