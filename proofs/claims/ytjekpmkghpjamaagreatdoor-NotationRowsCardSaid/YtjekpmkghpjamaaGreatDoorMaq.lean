/- The walks of Moore, Neumann and Hex at the examples. -/
/- Plain mathematics: turned neighbourhoods. -/
import Derived.Test.YtjekpmkghpjamaaGreatDoorMab
import Derived.Test.YtjekpmkghpjamaaGreatDoorMag
import Derived.Test.YtjekpmkghpjamaaGreatDoorMaf
import Derived.Below
import Derived.BigQuiet
import Derived.Deep.AppendLies
import Derived.Deep.CutRange
import Derived.Deep.Draws
import Derived.Deep.QuietTactic
import Derived.IntWalk
import Derived.Laws.OwnMore
import Derived.Laws.Rows
import Derived.Lib.Hide
import Derived.LoopN
import Derived.OwnWalk
import Derived.Shelf.Abstract
import Derived.Sort.Statements
import Derived.StillTail
import Derived.StillTailTactics
import Derived.Test.YtjekpmkghpjamaaGreatDoorRows
import Derived.WalkKit
import Derived.Test.YtjekpmkghpjamaaGreatDoorMaa
import Derived.Test.YtjekpmkghpjamaaGreatDoorMak
import Derived.Test.YtjekpmkghpjamaaGreatDoorMae
import Derived.Test.YtjekpmkghpjamaaGreatDoorMap
import Derived.Carry
import Derived.Deep.RegionHeldLaw
import Derived.Deep.RegionLaw
import Derived.DeepKeys4
import Derived.Laws.BitsLemmas
import Derived.Laws.MakeOwn
import Derived.Maps.OwnOps
namespace Go.Proofs.YtjekpmkghpjamaaGreatDoor
open Go.RowKit
/-- what the predicates say -/
def pdM (_ : P2) : Bool := true
/-- the usual neighbourhoods -/
def M1 : List P2 := (lst (sq 1 3) 9).filter pdM
def M2 : List P2 := (lst (sq 2 5) 25).filter pdM
theorem moore_any (r : Int) (n N m : Nat) (w : World) (h1 : 0 ≤ r) (h2 : r ≤ 2) (hn : 2 * r + 1 = (n : Int)) (hN : n * n = N) (hm : ((lst (sq r n) N).filter pdM).length = m) :
    Calls Tryz.prog 71 #[.int .i64 r] w fun e w' => ∃ A c, e = .returned (.slice A m c) ∧ QReads w' w'.heap.size A m (lf ((lst (sq r n) N).filter pdM)) ∧ Below w.heap.size w w' := by
  have C := Lib.hid (collect_any r n N 123 #[] pdM w h1 h2 hn hN (enters_of Tryz.func123 (by kernel_rfl) rfl) (fun x y w1 _ _ _ _ _ => fnMoore_any x y w1))
  subst hm
  clear hn hN
  go_enter Tryz.func71, Tryz.ntmps71
  go_wp2_with (go_at_call 122; (with_reducible refine C.out.mono ?_); rintro e w' ⟨A, c, l, rfl, hl, hr, hb⟩; have R := Lib.hid (QReads.of_list hr); have HL := Lib.hid hl; have HB := Lib.hid hb; clear hr hb hl)
  go_ret
  have hl := HL.out
  subst hl
  exact ⟨A, c, rfl, R.out, HB.out⟩
end Go.Proofs.YtjekpmkghpjamaaGreatDoor
namespace Go.Proofs.YtjekpmkghpjamaaGreatDoor
open Go.RowKit
/-- the offsets of a square -/
def M0 : List P2 := (lst (sq 0 1) 1).filter pdM
def MR (r : Int) : List P2 := if r = 0 then M0 else if r = 1 then M1 else M2
theorem mooreR {r : Int} (h1 : 0 ≤ r) (h2 : r ≤ 2) (w : World) : Calls Tryz.prog 71 #[.int .i64 r] w fun e w' => ∃ A c, e = .returned (.slice A (MR r).length c) ∧ QReads w' w'.heap.size A (MR r).length (lf (MR r)) ∧ Below w.heap.size w w' := by
  obtain rfl | rfl | rfl : r = 0 ∨ r = 1 ∨ r = 2 := by omega
  · exact moore_any 0 1 1 _ w (by omega) (by omega) (by omega) (by omega) rfl
  · exact moore_any 1 3 9 _ w (by omega) (by omega) (by omega) (by omega) rfl
  · exact moore_any 2 5 25 _ w (by omega) (by omega) (by omega) (by omega) rfl
theorem M0_up : M0.Pairwise fun a b => pc a b < 0 := by decide +kernel
theorem M1_up : M1.Pairwise fun a b => pc a b < 0 := by decide +kernel
theorem M2_up : M2.Pairwise fun a b => pc a b < 0 := by decide +kernel
theorem M0_in : ∀ p ∈ M0, (-0 ≤ p.1 ∧ p.1 ≤ 0) ∧ (-0 ≤ p.2 ∧ p.2 ≤ (0 : Int)) := by decide +kernel
theorem M1_in : ∀ p ∈ M1, (-1 ≤ p.1 ∧ p.1 ≤ 1) ∧ (-1 ≤ p.2 ∧ p.2 ≤ (1 : Int)) := by decide +kernel
theorem M2_in : ∀ p ∈ M2, (-2 ≤ p.1 ∧ p.1 ≤ 2) ∧ (-2 ≤ p.2 ∧ p.2 ≤ (2 : Int)) := by decide +kernel
theorem MR_up {r : Int} : (MR r).Pairwise fun a b => pc a b < 0 := by
  unfold MR
  split
  · exact M0_up
  · split
    · exact M1_up
    · exact M2_up
theorem MR_len {r : Int} : (MR r).length ≤ 25 := by
  unfold MR
  split
  · decide +kernel
  · split
    · decide +kernel
    · decide +kernel
theorem mem_MR {r : Int} (h1 : 0 ≤ r) (h2 : r ≤ 2) {p : P2} : p ∈ MR r ↔ (-r ≤ p.1 ∧ p.1 ≤ r) ∧ (-r ≤ p.2 ∧ p.2 ≤ r) := by
  obtain ⟨x, y⟩ := p
  obtain rfl | rfl | rfl : r = 0 ∨ r = 1 ∨ r = 2 := by omega
  · refine ⟨fun h => M0_in _ h, fun h => ?_⟩
    simp only at h
    obtain rfl : x = 0 := by omega
    obtain rfl : y = 0 := by omega
    decide +kernel
  · refine ⟨fun h => M1_in _ h, fun h => ?_⟩
    simp only at h
    obtain rfl | rfl | rfl : x = -1 ∨ x = 0 ∨ x = 1 := by omega
    all_goals
      obtain rfl | rfl | rfl : y = -1 ∨ y = 0 ∨ y = 1 := by omega
      all_goals decide +kernel
  · refine ⟨fun h => M2_in _ h, fun h => ?_⟩
    simp only at h
    obtain rfl | rfl | rfl | rfl | rfl : x = -2 ∨ x = -1 ∨ x = 0 ∨ x = 1 ∨ x = 2 := by omega
    all_goals
      obtain rfl | rfl | rfl | rfl | rfl : y = -2 ∨ y = -1 ∨ y = 0 ∨ y = 1 ∨ y = 2 := by omega
      all_goals decide +kernel
/-- the image -/
def tn (m : Nat) (p : P2) : P2 := (turnX m p.1 p.2, turnY m p.1 p.2)
theorem tn_iv {m : Nat} (h : m < 8) (p : P2) : tn (iv m) (tn m p) = p ∧ tn m (tn (iv m) p) = p := by
  obtain ⟨x, y⟩ := p
  match m, h with
  | 0, _ | 1, _ | 2, _ | 3, _ | 4, _ | 5, _ | 6, _ | 7, _ => simp [tn, iv, turnX, turnY]
theorem tn_bd {m : Nat} (h : m < 8) {p : P2} {b : Int} : ((-b ≤ p.1 ∧ p.1 ≤ b) ∧ (-b ≤ p.2 ∧ p.2 ≤ b)) → ((-b ≤ (tn m p).1 ∧ (tn m p).1 ≤ b) ∧ (-b ≤ (tn m p).2 ∧ (tn m p).2 ≤ b)) := fun ⟨⟨a1, a2⟩, a3, a4⟩ => by
  obtain ⟨b1, b2, b3, b4⟩ := turn_bd m p.1 p.2 b h a1 a2 a3 a4
  exact ⟨⟨b1, b2⟩, b3, b4⟩
theorem pc_trans {a b c : P2} (h1 : pc a b < 0) (h2 : pc b c < 0) : pc a c < 0 := by rw [pc_lt] at *; omega
theorem pc_irr {a : P2} : ¬ pc a a < 0 := by rw [pc_lt]; omega
/-- the offsets of a right neighbourhood ascend -/
theorem Hd.up {f : Nat → P2} {n : Nat} (h : Hd f n) : ∀ {i j : Nat}, i < j → j < n → pc (f i) (f j) < 0 := by
  intro i j hij hj
  induction j with
  | zero => omega
  | succ j ih =>
    have h1 := h.2.2 j (by omega)
    rcases Nat.lt_or_ge i j with q | q
    · exact pc_trans (ih q (by omega)) h1
    · obtain rfl : i = j := by omega
      exact h1
theorem Hd.inj {f : Nat → P2} {n : Nat} (h : Hd f n) {i j : Nat} (hi : i < n) (hj : j < n) (e : f i = f j) : i = j := by
  rcases Nat.lt_trichotomy i j with q | q | q
  · have := h.up q hj
    rw [e] at this
    exact absurd this pc_irr
  · exact q
  · have := h.up q hi
    rw [e] at this
    exact absurd this pc_irr
theorem Hd.list {f : Nat → P2} {n : Nat} (h : Hd f n) : (lst f n).Pairwise fun a b => pc a b < 0 := by
  rw [lst, List.pairwise_map]
  refine List.Pairwise.imp_of_mem ?_ (List.pairwise_lt_range (n := n))
  intro a b ha hb hab
  exact h.up hab (List.mem_range.1 hb)
theorem up_nodup {l : List P2} (h : l.Pairwise fun a b => pc a b < 0) : l.Nodup := by
  rw [List.nodup_iff_pairwise_ne]
  exact h.imp fun hab e => by subst e; exact pc_irr hab
theorem nodup_len {l l' : List P2} : l.Nodup → (∀ x ∈ l, x ∈ l') → l.length ≤ l'.length := by
  induction l generalizing l' with
  | nil => intro _ _; simp
  | cons a l ih =>
    intro hd h
    obtain ⟨h1, h2⟩ := List.nodup_cons.1 hd
    have ha := h a (by simp)
    have := ih (l' := l'.erase a) h2 fun x hx => (List.mem_erase_of_ne (fun e => h1 (by rw [← e]; exact hx))).2 (h x (by simp [hx]))
    rw [List.length_erase_of_mem ha] at this
    have := List.length_pos_of_mem ha
    simp only [List.length_cons]
    omega
theorem px_some {f : Nat → P2} {n : Nat} (h : Hd f n) {i : Nat} (hi : i < n) : px f n (f i) = (i : Int) := by
  unfold px
  refine fx_some hi (fun j hj => ?_) (by simp)
  simp only [decide_eq_false_iff_not]
  exact fun e => by have := h.inj (by omega) hi e; omega
theorem px_none {f : Nat → P2} {n : Nat} {a : P2} (h : ∀ i, i < n → f i ≠ a) : px f n a = -1 := fx_none fun i hi => by simpa using h i hi
theorem px_mem {f : Nat → P2} {n : Nat} (h : Hd f n) {a : P2} : 0 ≤ px f n a ↔ a ∈ lst f n := by
  constructor
  · intro hp
    refine Classical.byContradiction fun hn => ?_
    have : px f n a = -1 := px_none fun i hi e => hn (lst_mem.2 ⟨i, hi, e⟩)
    omega
  · intro hm
    obtain ⟨i, hi, rfl⟩ := lst_mem.1 hm
    rw [px_some h hi]; omega
theorem rd_le {f : Nat → P2} : ∀ {n i : Nat}, i < n → (-(rd f n) ≤ (f i).1 ∧ (f i).1 ≤ rd f n) ∧ (-(rd f n) ≤ (f i).2 ∧ (f i).2 ≤ rd f n) := by
  intro n
  induction n with
  | zero => intro i hi; omega
  | succ n ih =>
    intro i hi
    unfold rd ab
    rcases Nat.lt_or_ge i n with q | q
    · have := ih q; omega
    · obtain rfl : i = n := by omega
      omega

/-- the turned offsets -/
def imgs (f : Nat → P2) (n m : Nat) : List P2 := (MR (rd f n)).filter fun p => decide (0 ≤ px f n (tn (iv m) p))
def orgs (f : Nat → P2) (n m : Nat) : List Int := (imgs f n m).map fun p => px f n (tn (iv m) p)
section
variable {f : Nat → P2} {n m : Nat}
theorem mem_imgs (h : Hd f n) (hm : m < 8) {p : P2} : p ∈ imgs f n m ↔ tn (iv m) p ∈ lst f n := by
  have hr := rd_bd f n h.2.1
  rw [imgs, List.mem_filter, mem_MR hr.1 hr.2]
  simp only [decide_eq_true_iff, px_mem h]
  refine ⟨fun h => h.2, fun hp => ⟨?_, hp⟩⟩
  obtain ⟨i, hi, e⟩ := lst_mem.1 hp
  have := tn_bd hm (rd_le (f := f) (n := n) hi)
  rw [e, (tn_iv hm p).2] at this
  exact this
theorem imgs_up : (imgs f n m).Pairwise fun a b => pc a b < 0 := MR_up.filter _
theorem imgs_len (h : Hd f n) (hm : m < 8) : (imgs f n m).length = n := by
  apply Nat.le_antisymm
  · have := nodup_len (l := (imgs f n m).map (tn (iv m))) (l' := lst f n) ?_ ?_
    · simpa [lst_len] using this
    · rw [List.nodup_iff_pairwise_ne, List.pairwise_map]
      have := up_nodup (imgs_up (f := f) (n := n) (m := m))
      rw [List.nodup_iff_pairwise_ne] at this
      refine this.imp fun hne e => hne ?_
      rename_i a b
      rw [← (tn_iv hm a).2, e, (tn_iv hm b).2]
    · intro x hx
      obtain ⟨p, hp, rfl⟩ := List.mem_map.1 hx
      exact (mem_imgs h hm).1 hp
  · have := nodup_len (l := (lst f n).map (tn m)) (l' := imgs f n m) ?_ ?_
    · simpa [lst_len] using this
    · rw [List.nodup_iff_pairwise_ne, List.pairwise_map]
      have := up_nodup h.list
      rw [List.nodup_iff_pairwise_ne] at this
      refine this.imp fun hne e => hne ?_
      rename_i a b
      rw [← (tn_iv hm a).1, e, (tn_iv hm b).1]
    · intro x hx
      obtain ⟨p, hp, rfl⟩ := List.mem_map.1 hx
      rw [mem_imgs h hm, (tn_iv hm p).1]
      exact hp
theorem lf_get {l : List P2} {i : Nat} (h : i < l.length) : lf l i = l[i] := by simp [lf, h]
theorem lf_mem {l : List P2} {i : Nat} (h : i < l.length) : lf l i ∈ l := by rw [lf_get h]; exact List.getElem_mem h
theorem imgs_hd (h : Hd f n) (hm : m < 8) : Hd (lf (imgs f n m)) n := by
  have hl := imgs_len h hm
  have hr := rd_bd f n h.2.1
  refine ⟨h.1, fun i hi => ?_, fun i hi => ?_⟩
  · have h1 := lf_mem (l := imgs f n m) (i := i) (by omega)
    have h2 := (mem_MR hr.1 hr.2).1 (List.mem_filter.1 h1).1
    omega
  · rw [lf_get (by omega), lf_get (by omega)]
    exact List.pairwise_iff_getElem.1 imgs_up i (i + 1) (by omega) (by omega) (by omega)
theorem orgs_len (h : Hd f n) (hm : m < 8) : (orgs f n m).length = n := by rw [orgs, List.length_map, imgs_len h hm]
/-- where each comes from -/
theorem orgs_at (h : Hd f n) (hm : m < 8) {j : Nat} (hj : j < n) : ∃ i, i < n ∧ ig (orgs f n m) j = (i : Int) ∧ f i = tn (iv m) (lf (imgs f n m) j) ∧ tn m (f i) = lf (imgs f n m) j := by
  have hl := imgs_len h hm
  have h1 := lf_mem (l := imgs f n m) (i := j) (by omega)
  obtain ⟨i, hi, e⟩ := lst_mem.1 ((mem_imgs h hm).1 h1)
  refine ⟨i, hi, ?_, e, by rw [e, (tn_iv hm _).2]⟩
  have : ig (orgs f n m) j = px f n (tn (iv m) (lf (imgs f n m) j)) := by
    rw [lf_get (by omega)]
    simp [ig, orgs, show j < (imgs f n m).length by omega]
  rw [this, ← e, px_some h hi]
/-- a permutation gives an order -/
def rhoOf (n : Nat) (os : List Int) (x : Int) : Nat := n - os.idxOf ((n : Int) - x)
def lamOf (n : Nat) (os : List Int) (l : Nat) : Int := (n : Int) - ig os (n - l)
theorem idxOf_ig {os : List Int} (hd : os.Nodup) {j : Nat} (hj : j < os.length) : os.idxOf (ig os j) = j := by
  have : ig os j = os[j] := by simp [ig, hj]
  rw [this]
  exact List.Nodup.idxOf_getElem hd j hj
theorem ord_of {os : List Int} (hl : os.length = n) (hd : os.Nodup) (hb : ∀ x ∈ os, 0 ≤ x ∧ x < (n : Int)) : Ord n os (rhoOf n os) (lamOf n os) ∧ ∀ i : Int, 0 ≤ i → i < (n : Int) → i ∈ os := by
  have all : ∀ i : Int, 0 ≤ i → i < (n : Int) → i ∈ os := fun i h1 h2 => by
    refine Classical.byContradiction fun hn => ?_
    have := length_le_of_lt n ((i :: os).map Int.toNat) ?_ ?_
    · simp at this; omega
    · rw [List.nodup_iff_pairwise_ne, List.pairwise_map]
      have hc : (i :: os).Nodup := List.nodup_cons.2 ⟨hn, hd⟩
      rw [List.nodup_iff_pairwise_ne] at hc
      refine List.Pairwise.imp_of_mem ?_ hc
      intro a b ha hb' hne e
      have ba : 0 ≤ a := by
        rcases List.mem_cons.1 ha with rfl | ha
        · exact h1
        · exact (hb a ha).1
      have bb : 0 ≤ b := by
        rcases List.mem_cons.1 hb' with rfl | hb'
        · exact h1
        · exact (hb b hb').1
      omega
    · intro x hx
      obtain ⟨a, ha, rfl⟩ := List.mem_map.1 hx
      rcases List.mem_cons.1 ha with rfl | ha
      · omega
      · have := hb a ha; omega
  refine ⟨⟨hl, fun _ _ _ => rfl, fun l h1 h2 => ?_, fun x h1 h2 => ?_⟩, all⟩
  · have hj : n - l < os.length := by omega
    have := hb _ (ig_mem hj)
    refine ⟨by unfold lamOf; omega, by unfold lamOf; omega, ?_⟩
    unfold rhoOf lamOf
    rw [show (n : Int) - ((n : Int) - ig os (n - l)) = ig os (n - l) by omega, idxOf_ig hd hj]
    omega
  · have hm := all ((n : Int) - x) (by omega) (by omega)
    have hi := List.idxOf_lt_length_of_mem hm
    refine ⟨by unfold rhoOf; omega, by unfold rhoOf; omega, ?_⟩
    unfold rhoOf lamOf
    rw [show n - (n - os.idxOf ((n : Int) - x)) = os.idxOf ((n : Int) - x) by omega]
    have : ig os (os.idxOf ((n : Int) - x)) = (n : Int) - x := by
      simp [ig, hi]
    omega
theorem orgs_nodup (h : Hd f n) (hm : m < 8) : (orgs f n m).Nodup := by
  rw [List.nodup_iff_pairwise_ne, List.pairwise_iff_getElem]
  intro i j hi hj hij e
  have hl := orgs_len h hm
  have hl2 := imgs_len h hm
  obtain ⟨a, ha, e1, _, e2⟩ := orgs_at h hm (j := i) (by omega)
  obtain ⟨b, hb, e3, _, e4⟩ := orgs_at h hm (j := j) (by omega)
  have q1 : ig (orgs f n m) i = (orgs f n m)[i] := by simp [ig, hi]
  have q2 : ig (orgs f n m) j = (orgs f n m)[j] := by simp [ig, hj]
  have : a = b := by omega
  subst this
  have := (imgs_hd h hm).inj (i := i) (j := j) (by omega) (by omega) (by rw [← e2, ← e4])
  omega
theorem orgs_bd (h : Hd f n) (hm : m < 8) : ∀ x ∈ orgs f n m, 0 ≤ x ∧ x < (n : Int) := fun x hx => by
  obtain ⟨j, hj, rfl⟩ := mem_ig hx
  rw [orgs_len h hm] at hj
  obtain ⟨i, hi, e, _⟩ := orgs_at h hm hj
  omega
end
end Go.Proofs.YtjekpmkghpjamaaGreatDoor
