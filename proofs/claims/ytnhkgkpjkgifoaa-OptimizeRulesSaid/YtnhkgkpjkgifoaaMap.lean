/- The tests of one position: collected over circuitOf's first closure. -/
import Derived.Test.YtnhkgkpjkgifoaaMao
namespace Go.Proofs.Ytnhkgkpjkgifoaa
open Go.RowKit

theorem coF_len2 (M : Nat → List C3 → Int × List C3) (q : Nat) (hM : ∀ k gs, (M k gs).2.length ≤ gs.length + q) (gs : List C3) : ∀ j, (coF M j gs).2.length ≤ gs.length + j * q
  | 0 => by simp [coF]
  | j + 1 => by
    have h1 := coF_len2 M q hM gs j
    have h2 := hM j (coF M j gs).2
    rw [coF, Nat.succ_mul]
    simp only
    omega
theorem teF_len (I : Int) (nots : List Int) (b i s : Nat) (gs : List C3) : (teF I nots b i s gs).2.length = gs.length + (b - 1) := by
  rw [teF, chF_len]; simp [tr]
theorem tsF_len (I : Int) (nots : List Int) (b st : Nat) (gs : List C3) : ∀ i, (tsF I nots b st i gs).2.length ≤ gs.length + i * (st * (b - 1))
  | 0 => by simp [tsF]
  | i + 1 => by
    have h1 := tsF_len I nots b st gs i
    have h2 := coF_len2 (fun s g => teF I nots b i s g) (b - 1) (fun k g => by rw [teF_len]; exact Nat.le_refl _) (tsF I nots b st i gs).2 st
    rw [tsF, Nat.succ_mul]
    simp only
    omega
set_option maxRecDepth 100000 in
set_option maxHeartbeats 4000000 in
theorem pos_any {lb : Nat} {w2 : World} {N n b st cH cN : Nat} {AH AN AO : Option Addr} {cO W0 i : Nat} {AG : Option Addr} {cG : Nat} {A : Option Addr} {bl : List Nat} {m : Nat} {gs : List C3} {w : World}
    (h : tsB lb w2 N n b st cH cN AH AN AO cO W0 i AG cG A bl m gs w) (hi : i < n) (hN : n * b = N) (hN1 : N ≤ 120) (hn : n ≤ 40) (hb1 : 1 ≤ b) (hb3 : b ≤ 3) (hs8 : st ≤ 8) (hsz : lb + 1 ≤ w.heap.size)
    (W : World) (hbl : Below (w.heap.size + 1) (w.alloc (.cells #[.int .i64 (i : Int)] 3)) W) :
    Calls Try.prog 59 #[.int .i64 (st : Int), .func (.func 60) #[] #[.pointer (some ⟨lb, 0, none⟩), .pointer (some ⟨w.heap.size, 0, none⟩)]] W fun e w' => ∃ g A', e = .returned (.slice (some ⟨g, 0, none⟩) st st) ∧ Blk w' g 3 (il (coF (fun s g => teF (N : Int) (n1L N N) b i s g) st gs).1).toArray ∧ w.heap.size + 1 ≤ g ∧ GSt lb (lb + 1) (N : Int) ⟨.slice none 0 0, .int .i64 (st : Int), .slice AH n cH, .slice AN m cN, .int .i64 (b : Int), .slice AO N cO, .slice AG i cG, .slice none 0 0⟩ w' A' (coF (fun s g => teF (N : Int) (n1L N N) b i s g) st gs).2 ∧ Fr (gb lb A) w (gb lb A') w' := by
  have hK := (Blk.new w 3 #[.int .i64 (i : Int)])
  have hF : Fr (gb lb A) w (gb lb A) (w.alloc (.cells #[.int .i64 (i : Int)] 3)) := Fr.alloc _ _ _
  have hz : (w.alloc (.cells #[.int .i64 (i : Int)] 3)).heap.size = w.heap.size + 1 := by simp
  have hFW := hF.trans (Fr.of_below (G := gb lb A) (by rw [hz]; exact hbl))
  have hKW : Blk W w.heap.size 3 #[.int .i64 (i : Int)] := hK.below hbl (by omega)
  have hSW : GSt lb (lb + 1) (N : Int) ⟨.slice none 0 0, .int .i64 (st : Int), .slice AH n cH, .slice AN m cN, .int .i64 (b : Int), .slice AO N cO, .slice AG i cG, .slice none 0 0⟩ W A gs := by
    refine h.st_.keep (G := fun _ => False) (G' := fun _ => False) (Fr.of_below (G := fun _ => False) ?_) (fun h => h) (fun _ _ h => h)
    exact ((Below.refl _ w).alloc (Nat.le_refl _) _).trans (hbl.mono (by omega))
  have hON : ∀ k, ob AO k → ¬ gb lb A k := fun k hb hg => by
    rcases hg with hg | hg
    · have := (ob_ge h.nots k hb).1
      omega
    · obtain ⟨c, _, ho⟩ := h.st_
      exact own_ne2 ho h.nots (by decide) (ob_own.1 hg) (ob_own.1 hb)
  have hOW : W.ownsRow (lb + 1) 3 1 (.slice AO N cO) N (il (n1L N N)) := hFW.row h.nots (fun g hg => hON g (ob_own.2 hg))
  have hWs : w.heap.size + 1 ≤ W.heap.size := by have := hbl.size; rw [hz] at this; exact this
  have hgl : gs.length ≤ 760 := by
    have h1 := tsF_len (N : Int) (n1L N N) b st (g1L N) i
    rw [h.gates, g1L_len] at h1
    have h2 : st * (b - 1) ≤ 8 * 2 := Nat.mul_le_mul hs8 (by omega)
    have h3 : i * (st * (b - 1)) ≤ 40 * 16 := Nat.mul_le_mul (by omega) h2
    omega
  have hib : i * b + b ≤ N := by
    rw [← hN, ← Nat.succ_mul]
    exact Nat.mul_le_mul_right _ hi
  refine (collected_any 60 #[.pointer (some ⟨lb, 0, none⟩), .pointer (some ⟨w.heap.size, 0, none⟩)] (enters_of Try.func60 (by kernel_rfl) rfl) lb (lb + 1) (N : Int) ⟨.slice none 0 0, .int .i64 (st : Int), .slice AH n cH, .slice AN m cN, .int .i64 (b : Int), .slice AO N cO, .slice AG i cG, .slice none 0 0⟩ (fun s g => teF (N : Int) (n1L N N) b i s g) st W A gs hSW (Nat.lt_succ_self _) (by omega) (by omega) (fun s w' A' G' hs hS hF' => ?_)).mono fun e w' ⟨g, A', he, hk, hg, hS, hf⟩ => ⟨g, A', he, hk, by omega, hS, hFW.trans hf⟩
  have hnA : ¬ gb lb A w.heap.size := fun e => by
    rcases e with e | e
    · omega
    · obtain ⟨c, _, ho⟩ := h.st_
      have := (ob_ge ho _ e).2
      omega
  have hc2 := coF_len2 (fun s g => teF (N : Int) (n1L N N) b i s g) (b - 1) (fun k g => by rw [teF_len]; exact Nat.le_refl _) gs s
  have hc3 : s * (b - 1) ≤ 8 * 2 := Nat.mul_le_mul (by omega) (by omega)
  have hO' := hF'.row hOW (fun g hg => hON g (ob_own.2 hg))
  exact ci1_any lb (lb + 1) (N : Int) _ b i s N cO w.heap.size AO (n1L N N) w' A' _ hS (Nat.lt_succ_self _) (by have := hF'.size; omega) (by omega) (by omega) (by omega) rfl rfl
    (Reads.of_own hO') (fun ad had hg => by
      have hb : ob AO ad.block := by rw [had]; rfl
      rcases hg with hg | hg
      · have := (ob_ge hO' _ hb).1
        omega
      · obtain ⟨c, _, ho⟩ := hS
        exact own_ne2 ho hO' (by decide) (ob_own.1 hg) (ob_own.1 hb))
    hib (by omega) (by omega) hb1 hb3 ((hF'.blk hKW hnA).cell 0 |>.trans rfl)
theorem tsF_rows (I : Int) (nots : List Int) (b st : Nat) (gs : List C3) : ∀ i, (tsF I nots b st i gs).1.length = i
  | 0 => rfl
  | i + 1 => by rw [tsF, List.length_append, tsF_rows I nots b st gs i]; rfl
theorem getD_app {α : Type} (l : List α) (x d : α) (p n : Nat) (hl : l.length = n) : (p < n → (l ++ [x]).getD p d = l.getD p d) ∧ (l ++ [x]).getD n d = x := by
  subst hl
  refine ⟨fun hp => ?_, ?_⟩
  · simp [List.getD_eq_getElem?_getD, List.getElem?_append_left hp]
  · simp [List.getD_eq_getElem?_getD]
/-- what a position more leaves -/
theorem pos_step {lb : Nat} {w2 : World} {N n b st cH cN : Nat} {AH AN AO : Option Addr} {cO W0 i : Nat} {AG : Option Addr} {cG : Nat} {A A' : Option Addr} {bl : List Nat} {m : Nat} {gs : List C3} {w wa w5 : World} {g g' c' : Nat}
    (h : tsB lb w2 N n b st cH cN AH AN AO cO W0 i AG cG A bl m gs w) (hW0 : lb + 1 ≤ W0)
    (hk : Blk wa g 3 (il (coF (fun s g => teF (N : Int) (n1L N N) b i s g) st gs).1).toArray) (hg : w.heap.size + 1 ≤ g)
    (hS : GSt lb (lb + 1) (N : Int) ⟨.slice none 0 0, .int .i64 (st : Int), .slice AH n cH, .slice AN m cN, .int .i64 (b : Int), .slice AO N cO, .slice AG i cG, .slice none 0 0⟩ wa A' (coF (fun s g => teF (N : Int) (n1L N N) b i s g) st gs).2) (hf : Fr (gb lb A) w (gb lb A') wa)
    (hown : w5.ownsRow (lb + 1) 26 1 (.slice (some ⟨g', 0, none⟩) (i + 1) c') (i + 1) (rv st bl ++ [.slice (some ⟨g, 0, none⟩) st st])) (F8 : Fr (ob AG) wa (ob (some ⟨g', 0, none⟩)) w5) :
    tsB lb w2 N n b st cH cN AH AN AO cO W0 (i + 1) (some ⟨g', 0, none⟩) c' A' (bl ++ [g]) m (coF (fun s g => teF (N : Int) (n1L N N) b i s g) st gs).2 (w5.setCell ⟨lb, 8, none⟩ (.slice (some ⟨g', 0, none⟩) (i + 1) c')) := by
  have hsz := h.size
  have hwa := hf.size
  have hT : ∀ k, ob AG k → ¬ gb lb A k := fun k hb hg => by
    rcases hg with hg | hg
    · have := (ob_ge h.tests k hb).1
      omega
    · obtain ⟨c, _, ho⟩ := h.st_
      exact own_ne2 ho h.tests (by decide) (ob_own.1 hg) (ob_own.1 hb)
  have hO : ∀ k, ob AO k → ¬ gb lb A k := fun k hb hg => by
    rcases hg with hg | hg
    · have := (ob_ge h.nots k hb).1
      omega
    · obtain ⟨c, _, ho⟩ := h.st_
      exact own_ne2 ho h.nots (by decide) (ob_own.1 hg) (ob_own.1 hb)
  have hTa := hf.row h.tests (fun k hk => hT k (ob_own.2 hk))
  have hOa := hf.row h.nots (fun k hk => hO k (ob_own.2 hk))
  have hlG : ¬ ob AG lb := fun e => by have := (ob_ge hTa _ e).1; omega
  have S5 := hS.keep F8 hlG (fun k hA e => by
    obtain ⟨c, _, ho⟩ := hS
    exact own_ne2 ho hTa (by decide) (ob_own.1 hA) (ob_own.1 e))
  have hO5 := F8.row hOa (fun k hk e => own_ne2 hTa hOa (by decide) (ob_own.1 e) hk)
  have hbl : bl.length = i := by have := h.tests.1; simpa [rv] using this
  obtain ⟨q1, q2⟩ := getD_app bl g 0 i i hbl
  have hrl := tsF_rows (N : Int) (n1L N N) b st (g1L N) i
  refine ⟨?_, S5.setg (Nat.lt_succ_self _) _, S5.rowSet (Nat.lt_succ_self _) hO5 8 _, ?_, fun p hp => ?_, ?_, ?_⟩
  · rw [tsF, h.gates]
  · have := S5.rowSet (Nat.lt_succ_self _) hown 8 (.slice (some ⟨g', 0, none⟩) (i + 1) c')
    rw [show rv st (bl ++ [g]) = rv st bl ++ [.slice (some ⟨g, 0, none⟩) st st] by simp [rv]]
    exact this
  · rw [tsF, h.gates]
    simp only
    by_cases hpi : p < i
    · rw [(getD_app bl g 0 p i hbl).1 hpi, (getD_app _ _ [] p i hrl).1 hpi]
      obtain ⟨hb, hw0⟩ := h.rows p hpi
      have h1 := hf.blk hb (fun e => by
        rcases e with e | e
        · omega
        · obtain ⟨c, _, ho⟩ := h.st_
          exact own_ob_ne ho hb (by decide) e)
      have h2 := F8.blk h1 (fun e => own_ob_ne hTa h1 (by decide) e)
      exact ⟨h2.far (by show bl.getD p 0 ≠ lb; omega) _, hw0⟩
    · obtain rfl : p = i := by omega
      rw [q2, (getD_app _ _ [] p p hrl).2]
      have h2 := F8.blk hk (fun e => own_ob_ne hTa hk (by decide) e)
      exact ⟨h2.far (by show g ≠ lb; omega) _, by omega⟩
  · refine (h.low.trans ((hf.below (B := lb) (fun k hk => ?_) (by omega)).trans (F8.below (B := lb) (fun k hk => Nat.le_of_succ_le (ob_ge hTa k hk).1) (by omega)))).setCell (p := ⟨lb, 8, none⟩) (Nat.le_refl _) _
    rcases hk with hk | hk
    · omega
    · obtain ⟨c, _, ho⟩ := h.st_
      exact Nat.le_of_succ_le (ob_ge ho k hk).1
  · have := F8.size
    simp [World.setCell]
    omega
end Go.Proofs.Ytnhkgkpjkgifoaa
