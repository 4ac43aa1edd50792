/- The walk of slices.SortFunc on positions by point.Compare, at every length: by the library's own contract of the sort. -/
import Derived.Test.YtbcihgimflljoaaGreatDoorLays
import Derived.Test.YtbcihgimflljoaaGreatDoorPerm
import Derived.LoopN
import Derived.Shelf.SlSortCmp.WholeK
namespace Go.Proofs.YtbcihgimflljoaaGreatDoor
open Go.RowKit

/-- a position's values -/
abbrev en (x : P2) : List Value := [.int .i64 x.1, .int .i64 x.2]
theorem en_one (x : P2) : ∀ v ∈ en x, v.oneCell' = true := fun v hv => by
  simp at hv
  rcases hv with rfl | rfl <;> rfl
theorem cmp_lays (g size : Nat) (w : World) : CmpLays Tryz.prog 29 #[] en 2 pc g 0 size w :=
  fun _ _ _ _ x y => pcompare_grow x.1 x.2 y.1 y.2 _
theorem cmp_enters : ∀ args w, (callFunc 29 args).run Tryz.prog w = .ok (.enter 29 args) w := enters_of Tryz.func29 (by kernel_rfl) rfl
theorem lt_swo : Go.Sort.SWO (ltOf pc) := pc_swo

/-- what the sort leaves turns nothing below the row -/
theorem sorted_below {g : Nat} {w w' : World} {d : Array P2} (hg : g < w.heap.size) (h : SWK en 2 w g 0 d w') : Below g w w' := by
  obtain ⟨n, os, rfl⟩ := h
  refine ⟨rfl, rfl, rfl, ?_, fun b hb => ?_⟩
  · show w.heap.size ≤ (Go.Sort.grow (Go.Sort.putRowK en 2 (Go.Sort.ahead w n) g 0 d) os).heap.size
    rw [Go.Sort.size_grow, Go.Sort.size_putRowK]
    exact Nat.le_add_right _ _
  · show (((w.heap.modify g _) ++ os)[b]?) = _
    rw [Array.getElem?_append_left (by simp; omega), Array.getElem?_modify, if_neg (by omega)]
theorem bits_len (n : Nat) (w : World) (hn : n ≤ 1000000) : Calls Tryz.prog 132 #[.int .u64 (n : Int)] w fun e w' => e = .returned (.int .i64 (Lib.bitLen n : Nat)) ∧ w' = w := by
  have h := Any.bits_Len (SlLaysF0.n15.bits (P := Tryz.prog) (ρ := sortRen) { sortLays with }) (n : Int) w (by omega) (by omega)
  rwa [Int.toNat_natCast] at h

theorem pdq_any (g c l : Nat) (d : Array P2) (w : World) (hH : Go.Sort.HoldsK en 2 w g 0 d) (hg : g < w.heap.size) (hn : d.size ≤ 1000000) (hl : l < 4611686018427387904) :
    Calls Tryz.prog 131 #[.slice (some ⟨g, 0, none⟩) d.size c, .int .i64 0, .int .i64 (d.size : Nat), .int .i64 (l : Nat), .func (.func 29) #[] #[]] w
      fun e w' => e = .returned (.tuple #[]) ∧ ∃ d', Go.Sort.PermIn 0 d.size d d' ∧ Go.Sort.SortedIn (ltOf pc) 0 d.size d' ∧ SWK en 2 w g 0 d' w' := by
  have h := AnyQ.pdqsortCmpFunc_all sortLays 2 Tryz.isAgg35 Tryz.sizeOf35 en pc 29 #[] lt_swo g 0 c d w cmp_enters (cmp_lays g d.size w)
    ⟨fun _ => rfl, en_one, hH, hg⟩ (d.size + 1) 0 d.size l d w (by omega) rfl (SWK.start hH) (Nat.zero_le _) (Nat.le_refl _) (by omega) hl (Or.inl rfl)
  have hs := Go.Sort.pdq_sorts (ltOf pc) lt_swo d 0 d.size l true true (Nat.zero_le _) (Nat.le_refl _) (Or.inl rfl)
  exact h.mono fun e w' ⟨he, hw⟩ => ⟨he, _, hs.1, hs.2, hw⟩

/-- a row of the call's own holds its positions -/
theorem holds_of_own {w : World} {base g n c : Nat} {e : TypeId} {f : Nat → P2} (h : w.ownsRow base e 2 (.slice (some ⟨g, 0, none⟩) n c) n (cells2 f n)) : Go.Sort.HoldsK en 2 w g 0 (lst f n).toArray := by
  intro j hj
  have hs : (lst f n).toArray.size = n := by simp [lst_len]
  rw [Go.Sort.size_flatK, hs] at hj
  rw [Go.Sort.get_flatK _ _ _ _ (by rw [hs]; exact hj)]
  have hq : j / 2 < n := by omega
  have hl := cells2_len f n
  obtain ⟨c1, c2⟩ := cells2_at f n (j / 2) hq
  have hd : (lst f n).toArray[j / 2]! = f (j / 2) := by
    rw [getElem!_pos _ _ (by rw [hs]; exact hq)]
    simp [lst_get]
  rw [hd, Nat.zero_add]
  refine ⟨?_, h.frozenAt j⟩
  rw [h.cellAt j (by omega)]
  have hm : j % 2 = 0 ∨ j % 2 = 1 := by omega
  rcases hm with hm | hm
  · rw [show j = j / 2 * 2 by omega, c1]
    rw [show (j / 2 * 2) / 2 = j / 2 by omega, show (j / 2 * 2) % 2 = 0 by omega]; rfl
  · rw [show j = j / 2 * 2 + 1 by omega, c2]
    rw [show (j / 2 * 2 + 1) / 2 = j / 2 by omega, show (j / 2 * 2 + 1) % 2 = 1 by omega]; rfl
/-- .. and a row that holds positions reads as them -/
theorem reads_of_holds {w : World} {g : Nat} {d : Array P2} (hg : g < w.heap.size) (h : Go.Sort.HoldsK en 2 w g 0 d) : QReads w w.heap.size (some ⟨g, 0, none⟩) d.size (fun k => d[k]!) := fun _ => by
  refine ⟨g, 0, rfl, hg, fun k hk => ?_⟩
  have h0 := (h.cell (i := k) (c := 0) hk (by omega)).1
  have h1 := (h.cell (i := k) (c := 1) hk (by omega)).1
  exact ⟨h0, h1⟩

set_option maxHeartbeats 1000000 in
/-- a row of the call's own, sorted -/
theorem sortf_any (g c n base : Nat) (e : TypeId) (f : Nat → P2) (w : World) (h : w.ownsRow base e 2 (.slice (some ⟨g, 0, none⟩) n c) n (cells2 f n)) (hn : n ≤ 1000000) (hap : ∀ i j, i < j → j < n → f i ≠ f j) :
    Calls Tryz.prog 102 #[.slice (some ⟨g, 0, none⟩) n c, .func (.func 29) #[] #[]] w fun e w' =>
      e = .returned (.tuple #[]) ∧ ∃ f', QReads w' w'.heap.size (some ⟨g, 0, none⟩) n f' ∧ (lst f' n).Perm (lst f n) ∧ Up f' n ∧ Below g w w' := by
  have hs : (lst f n).toArray.size = n := by simp [lst_len]
  have hg := (h.lt g rfl).2
  have hH := holds_of_own h
  have hp := fun l hl => pdq_any g c l (lst f n).toArray w hH hg (by omega) hl
  rw [hs] at hp
  have key : ∀ (d' : Array P2) (w' : World), Go.Sort.PermIn 0 n (lst f n).toArray d' → Go.Sort.SortedIn (ltOf pc) 0 n d' → SWK en 2 w g 0 d' w' →
      ∃ f', QReads w' w'.heap.size (some ⟨g, 0, none⟩) n f' ∧ (lst f' n).Perm (lst f n) ∧ Up f' n ∧ Below g w w' := by
    intro d' w' h1 h2 h3
    obtain ⟨p1, _, p3⟩ := h1
    have hs' : d'.size = n := by rw [p1, hs]
    have hR := reads_of_holds (h3.lt hg) (h3.holds hg hH p1)
    rw [hs'] at hR
    have hL : lst (fun k => d'[k]!) n = d'.toList := by
      apply List.ext_getElem
      · simp [lst_len, hs']
      · intro i h1 h2
        rw [lst_get]
        rw [getElem!_pos _ _ (by rw [lst_len] at h1; omega)]
        simp
    have hP : (lst (fun k => d'[k]!) n).Perm (lst f n) := by
      rw [hL]
      have e1 : d'.extract 0 n = d' := by rw [← hs']; simp
      have e2 : (lst f n).toArray.extract 0 n = (lst f n).toArray := by
        have := Array.extract_size (xs := (lst f n).toArray)
        rwa [hs] at this
      rw [e1, e2] at p3
      simpa using p3
    refine ⟨_, hR, hP, fun i j hij hj => ?_, sorted_below hg h3⟩
    have h4 := h2 i j (Nat.zero_le _) hij hj
    have h5 := apart_perm hP hap i j hij hj
    have h6 : ¬ pc d'[j]! d'[i]! < 0 := by simpa [ltOf] using h4
    show pc d'[i]! d'[j]! < 0
    have h7 := pc_gt d'[i]! d'[j]!
    have h8 := pc_zero d'[i]! d'[j]!
    have h5' : d'[i]! ≠ d'[j]! := h5
    have h9 : pc d'[i]! d'[j]! ≠ 0 := fun e => h5' (h8.1 e)
    clear h8 h5
    omega
  have B := bits_len n
  have hl : Lib.bitLen n < 4611686018427387904 := Nat.lt_of_le_of_lt (Lib.bitLen_le n 62 (by omega) (by omega)) (by omega)
  have hp := Lib.hid (hp _ hl)
  generalize Lib.bitLen n = l at B hp hl
  have B := Lib.hid (fun w => B w hn)
  have wr : IntKind.u64.wrap (n : Int) = n := by simp [IntKind.wrap, IntKind.bits, IntKind.signed]; omega
  have key := Lib.hid key
  clear hH hap h
  go_enter Tryz.func102, Tryz.ntmps102
  go_wp2_with (first | (go_at_call 132; (with_reducible refine (B.out _).mono ?_); rintro e w' ⟨rfl, rfl⟩) | (go_at_call 131; (with_reducible refine hp.out.mono ?_); rintro e w' ⟨rfl, d', h1, h2, h3⟩; have K := Lib.hid (key.out d' w' h1 h2 h3); clear h1 h2 h3))
  go_end0
  exact ⟨rfl, K.out⟩
end Go.Proofs.YtbcihgimflljoaaGreatDoor
