/- Plain mathematics: the two walks as ways to find elements. -/
/- Plain mathematics: what is planted means what the tree means; Turn, back, and Reduce. -/
/- The walks of Radius and of Index of positions. -/
/- Plain mathematics: the tree with a node in front of the others is valid, and has the same values. -/
import Derived.Test.YtjekpmkghpjamaaGreatDoorMak
import Derived.Test.YtjekpmkghpjamaaGreatDoorMaj
import Derived.Test.YtjekpmkghpjamaaGreatDoorMab
import Derived.Test.YtjekpmkghpjamaaGreatDoorMae
import Derived.Test.YtjekpmkghpjamaaGreatDoorMan
import Derived.Test.YtjekpmkghpjamaaGreatDoorMao
import Derived.Test.YtjekpmkghpjamaaGreatDoorMag
import Derived.Below
import Derived.BigQuiet
import Derived.Carry
import Derived.Deep.AppendLies
import Derived.Deep.CutRange
import Derived.Deep.Draws
import Derived.Deep.QuietTactic
import Derived.Deep.RegionHeldLaw
import Derived.Deep.RegionLaw
import Derived.DeepKeys4
import Derived.IntWalk
import Derived.Laws.MakeOwn
import Derived.Laws.OwnMore
import Derived.Laws.Rows
import Derived.Lib.Hide
import Derived.LoopN
import Derived.Maps.OwnOps
import Derived.OwnWalk
import Derived.Shelf.Abstract
import Derived.Sort.Statements
import Derived.StillTail
import Derived.StillTailTactics
import Derived.Test.YtjekpmkghpjamaaGreatDoorRows
import Derived.WalkKit
import Derived.Test.YtjekpmkghpjamaaGreatDoorMaa
import Derived.Test.YtjekpmkghpjamaaGreatDoorMac
import Derived.Test.YtjekpmkghpjamaaGreatDoorMah
namespace Go.Proofs.YtjekpmkghpjamaaGreatDoor
open Go.RowKit
/-- levels, descending -/
def dl : Nat → List Int
  | 0 => []
  | n + 1 => ((n + 1 : Nat) : Int) :: dl n
theorem mem_dl {n : Nat} {x : Int} : x ∈ dl n ↔ 1 ≤ x ∧ x ≤ (n : Int) := by
  induction n with
  | zero => simp [dl]; omega
  | succ n ih => simp only [dl, List.mem_cons, ih]; omega
theorem dl_nodup (n : Nat) : (dl n).Nodup := by
  induction n with
  | zero => exact List.nodup_nil
  | succ n ih =>
    refine List.nodup_cons.2 ⟨fun h => ?_, ih⟩
    have := mem_dl.1 h
    omega
/-- an environment by levels -/
def eI {sn : Nat} (e : Env sn) (x : Int) : Nat := (e x.toNat).val
theorem eI_lt {sn : Nat} (e : Env sn) (x : Int) : eI e x < sn := (e x.toNat).isLt
def DN (sn : Nat) (L : List Ndv) (l : Nat) (n : Int) (φ : Env sn → Int) : Prop := Wf sn L (dl l) n ∧ ∀ e, φ e = fv sn L (dl l) n (eI e)
/-- a permutation of the positions, seen by levels -/
structure Ord (N : Nat) (os : List Int) (ρ : Int → Nat) (lam : Nat → Int) : Prop where
  len : os.length = N
  lamIs : ∀ l, 1 ≤ l → l ≤ N → lam l = (N : Int) - ig os (N - l)
  lamIn : ∀ l, 1 ≤ l → l ≤ N → 1 ≤ lam l ∧ lam l ≤ (N : Int) ∧ ρ (lam l) = l
  rho : ∀ x : Int, 1 ≤ x → x ≤ (N : Int) → 1 ≤ ρ x ∧ ρ x ≤ N ∧ lam (ρ x) = x
/-- the levels that are left -/
def lsB (N : Nat) (ρ : Int → Nat) (l : Nat) : List Int := (dl N).filter fun x => decide (ρ x ≤ l)
section
variable {N : Nat} {os : List Int} {ρ : Int → Nat} {lam : Nat → Int}
theorem mem_lsB {l : Nat} {x : Int} : x ∈ lsB N ρ l ↔ (1 ≤ x ∧ x ≤ (N : Int)) ∧ ρ x ≤ l := by simp [lsB, mem_dl]
theorem lsB_nodup (l : Nat) : (lsB N ρ l).Nodup := (dl_nodup N).filter _
theorem lsB_all (o : Ord N os ρ lam) : lsB N ρ N = dl N := List.filter_eq_self.2 fun x hx => by
  have := mem_dl.1 hx
  simpa using (o.rho x this.1 this.2).2.1
theorem lsB_zero (o : Ord N os ρ lam) : lsB N ρ 0 = [] := List.filter_eq_nil_iff.2 fun x hx => by
  have := mem_dl.1 hx
  have := (o.rho x this.1 this.2).1
  simp; omega
theorem lsB_erase (o : Ord N os ρ lam) {l : Nat} (hl : l + 1 ≤ N) : (lsB N ρ (l + 1)).erase (lam (l + 1)) = lsB N ρ l := by
  rw [List.Nodup.erase_eq_filter (lsB_nodup _), lsB, List.filter_filter, lsB]
  refine List.filter_congr fun x hx => ?_
  have hx := mem_dl.1 hx
  obtain ⟨r1, r2, r3⟩ := o.rho x hx.1 hx.2
  obtain ⟨l1, l2, l3⟩ := o.lamIn (l + 1) (by omega) hl
  by_cases h : ρ x ≤ l
  · have : x ≠ lam (l + 1) := fun e => by rw [e, l3] at h; omega
    have h2 : ρ x ≤ l + 1 := by omega
    simp [h, h2, this]
  · by_cases h2 : ρ x ≤ l + 1
    · have e : ρ x = l + 1 := by omega
      have h3 : x = lam (l + 1) := by rw [← e, r3]
      have h4 : (x != lam (l + 1)) = false := by simp [h3]
      simp [h, h4]
    · simp [h, h2]
theorem lsB_mem (o : Ord N os ρ lam) {l : Nat} (hl : l + 1 ≤ N) : lam (l + 1) ∈ lsB N ρ (l + 1) := by
  obtain ⟨l1, l2, l3⟩ := o.lamIn (l + 1) (by omega) hl
  exact mem_lsB.2 ⟨⟨l1, l2⟩, by omega⟩
theorem lsB_len (o : Ord N os ρ lam) : ∀ l, l ≤ N → (lsB N ρ l).length = l
  | 0, _ => by rw [lsB_zero o]; rfl
  | l + 1, hl => by
    have h1 := List.length_erase_of_mem (lsB_mem o hl)
    rw [lsB_erase o hl, lsB_len o l (by omega)] at h1
    have := List.length_pos_of_mem (lsB_mem o hl)
    omega
end
def eR {sn : Nat} (ρ : Int → Nat) (e : Env sn) (x : Int) : Nat := (e (ρ x)).val
theorem eR_lt {sn : Nat} (ρ : Int → Nat) (e : Env sn) (x : Int) : eR ρ e x < sn := (e (ρ x)).isLt
def DR (sn N : Nat) (ρ : Int → Nat) (s : List Ndv × Mem) (l : Nat) (n : Int) (φ : Env sn → Int) : Prop := l ≤ N ∧ Wf sn s.1 (lsB N ρ l) n ∧ ∀ e, φ e = fv sn s.1 (lsB N ρ l) n (eR ρ e)
/-- the nodes of a reduced tree that reads the positions in another order -/
def sysR {sn N : Nat} (hs : 0 < sn) (hs8 : sn ≤ 8) {os : List Int} {ρ : Int → Nat} {lam : Nat → Int} (o : Ord N os ρ lam) (hN : N ≤ 40) : Sys sn N 2147483647 (elR sn os) where
  I := fun s => s.1.Nodup ∧ Kn sn ρ s.1 s.2
  le := fun s s' => s.1 <+: s'.1
  D := fun s l n φ => DR sn N ρ s l n φ
  sz := fun s => s.1.length + sn
  cost := fun l => An (l - 1)
  refl := fun _ => List.prefix_refl _
  trans := fun h h' => h.trans h'
  mono := fun h d => ⟨d.1, d.2.1.grow h, fun e => by rw [d.2.2 e, fv_grow h (eR_lt ρ e) d.2.1]⟩
  inj := fun {s l n n' φ} hI h h' => by
    refine Wf.inj hs hI.1 (lsB_nodup l) h.2.1 h'.2.1 fun e he => ?_
    have h1 := h.2.2 (fun x => ⟨e (lam x), he _⟩)
    have h2 := h'.2.2 (fun x => ⟨e (lam x), he _⟩)
    have hc : ∀ n, fv sn s.1 (lsB N ρ l) n (eR ρ (fun x => (⟨e (lam x), he _⟩ : Fin sn))) = fv sn s.1 (lsB N ρ l) n e := fun n => fv_congr fun x hx => by
      have hx := (mem_lsB.1 hx).1
      simp only [eR]
      rw [(o.rho x hx.1 hx.2).2.2]
    rw [hc] at h1 h2
    exact h1.symm.trans h2
  fn := fun {s l l' n φ φ'} hI h h' => by
    have := Wf.levels hs h.2.1 h'.2.1
    have hl : l = l' := by rw [← lsB_len o l h.1, this, lsB_len o l' h'.1]
    subst hl
    exact ⟨rfl, funext fun e => by rw [h.2.2, h'.2.2]⟩
  zero := fun h => by
    obtain ⟨_, h1, h2⟩ := h
    rw [lsB_zero o] at h1 h2
    exact ⟨h1.1, h1.2, fun e => h2 e⟩
  ok := fun {s l n φ} hI h hl hc => by
    obtain ⟨L, K⟩ := s
    obtain ⟨h0, h1, h2⟩ := h
    simp only at h1 h2 hc hI
    have hidx : (lsB N ρ (l + 1)).idxOf (lam (l + 1)) ≤ l := by
      have := List.idxOf_lt_length_of_mem (lsB_mem o hl)
      rw [lsB_len o _ hl] at this
      omega
    have hAn := An_mono hidx
    have hl1 : An (l + 1 - 1) = An l := by rw [Nat.add_sub_cancel]
    rw [hl1] at hc
    obtain ⟨R, L', K', e1, e2, e3, e4, e5, e6⟩ := exam_ok (ρ := ρ) (p := lam (l + 1)) hs hs8 40 (lsB N ρ (l + 1)) n L K (by rw [lsB_len o _ hl]; omega) (lsB_nodup _) h1 (lsB_mem o hl) (fun q hq => by
        rw [(o.lamIn (l + 1) (by omega) hl).2.2]; exact (mem_lsB.1 hq).2) (fun x hx y hy e => by
        have hx := (mem_lsB.1 hx).1
        have hy := (mem_lsB.1 hy).1
        rw [← (o.rho x hx.1 hx.2).2.2, e, (o.rho y hy.1 hy.2).2.2]) hI.1 hI.2 (by omega)
    refine ⟨R, (L', K'), ?_, ⟨e3, e4⟩, e2, by rw [e5.1]; exact hs8, by simp only [hl1]; omega, fun j => ⟨by omega, ?_, fun e => ?_⟩⟩
    · unfold elR
      rw [o.len, ← o.lamIs (l + 1) (by omega) hl]
      exact e1
    · have := (e5.2.1 j j.isLt).1
      rw [lsB_erase o hl] at this
      exact this
    · have := (e5.2.1 j j.isLt).2 (eR ρ e) (eR_lt ρ e)
      rw [lsB_erase o hl] at this
      simp only
      rw [this, h2, ← fv_grow e2 (eR_lt ρ _) h1]
      refine fv_congr fun x hx => ?_
      have hx := (mem_lsB.1 hx).1
      simp only [eR, eup, upd]
      by_cases hxl : x = lam (l + 1)
      · rw [if_pos hxl, hxl, (o.lamIn (l + 1) (by omega) hl).2.2, if_pos rfl]
      · rw [if_neg hxl, if_neg (fun q => hxl (by rw [← (o.rho x hx.1 hx.2).2.2, q]))]
theorem Vn_nine : Vn (fun l => An (l - 1)) 9 ≤ 200000000 := by decide +kernel
theorem Vn_mono {c : Nat → Nat} {n m : Nat} (h : n ≤ m) : Vn c n ≤ Vn c m := by
  induction m with
  | zero =>
    obtain rfl : n = 0 := by omega
    exact Nat.le_refl _
  | succ m ih =>
    rcases Nat.lt_or_ge n (m + 1) with q | q
    · have := ih (by omega)
      simp only [Vn]; omega
    · obtain rfl : n = m + 1 := by omega
      exact Nat.le_refl _
end Go.Proofs.YtjekpmkghpjamaaGreatDoor
namespace Go.Proofs.YtjekpmkghpjamaaGreatDoor
open Go.RowKit
/-- what a list of nodes leads to, from a node down -/
def tvx {sn : Nat} (nx : Nat → List Int) : Nat → Int → Env sn → Int
  | 0, i, _ => i
  | l + 1, i, e => tvx nx l (ig (nx i.toNat) (e (l + 1))) e
theorem tv_tvx {sn : Nat} (out : List (Int × List Int)) : ∀ (l : Nat) (i : Int) (e : Env sn), tv out l i e = tvx (nxO out) l i e
  | 0, _, _ => rfl
  | l + 1, i, e => tv_tvx out l _ e
/-- the meaning of a tree -/
def Phi {sn : Nat} (T : Tr) (e : Env sn) : Int := tvx T.nx T.n ((T.m - 1 : Nat) : Int) e

theorem plant_ok {sn : Nat} {T : Tr} (hT : Rt T) (hst : T.st = (sn : Int)) : ∀ (i : Nat), i ≤ T.m → ∃ nums L, plantF (sn : Int) T.lv T.nx i [] = some (nums, L) ∧ nums.length = i ∧ L.Nodup ∧ L.length ≤ i ∧ ∀ k, k < i → Wf sn L (dl (T.lv k).toNat) (ig nums k) ∧ ∀ e : Env sn, fv sn L (dl (T.lv k).toNat) (ig nums k) (eI e) = tvx T.nx (T.lv k).toNat (k : Int) e
  | 0, _ => ⟨[], [], rfl, rfl, List.nodup_nil, Nat.le_refl _, fun k hk => absurd hk (by omega)⟩
  | i + 1, hi => by
    obtain ⟨nums, L, p1, p2, p3, p4, p5⟩ := plant_ok hT hst i (by omega)
    obtain ⟨n1, n2, n3, n4⟩ := hT.nd i (by omega)
    have s1 := hT.s1
    have s2 := hT.s2
    have m2 := hT.m2
    have hlen : (T.nx i).length = sn := by omega
    obtain ⟨r, L', a1, a2, a3, a4, a5⟩ := addF_ok (sn := sn) (n := pn (T.lv i) nums (T.nx i) (T.nx i).length) p3 (by omega)
    obtain ⟨l, hl⟩ : ∃ l : Nat, T.lv i = ((l + 1 : Nat) : Int) := ⟨(T.lv i).toNat - 1, by omega⟩
    have hgr : ∀ k, k < i → ig (nums ++ [r]) k = ig nums k := fun k hk => by simp [ig, List.getD, List.getElem?_append_left (show k < nums.length by omega)]
    have hgl : ig (nums ++ [r]) i = r := by simp [ig, List.getD, p2]
    have hcell : ∀ s, s < sn → ig (pn (T.lv i) nums (T.nx i) (T.nx i).length).r s = pv (T.lv i) nums (ig (T.nx i) s) := fun s hs => by
      have h1 : s < (T.nx i).length := by omega
      have h2 : s < (((T.nx i).take (T.nx i).length).map (pv (T.lv i) nums)).length := by rw [List.length_map, List.take_length]; exact h1
      show (((T.nx i).take (T.nx i).length).map (pv (T.lv i) nums) ++ List.replicate (8 - (T.nx i).length) 0).getD s 0 = _
      rw [List.getD, List.getElem?_append_left h2]
      simp [ig, h1]
    have hzero : ∀ s, sn ≤ s → ig (pn (T.lv i) nums (T.nx i) (T.nx i).length).r s = 0 := fun s hs => by
      have h2 : (((T.nx i).take (T.nx i).length).map (pv (T.lv i) nums)).length ≤ s := by rw [List.length_map, List.take_length]; omega
      show (((T.nx i).take (T.nx i).length).map (pv (T.lv i) nums) ++ List.replicate (8 - (T.nx i).length) 0).getD s 0 = _
      rw [List.getD, List.getElem?_append_right h2, List.getElem?_replicate]
      split <;> rfl
    have hchild : ∀ s, s < sn → Wf sn L (dl l) (pv (T.lv i) nums (ig (T.nx i) s)) ∧ ∀ e : Env sn, fv sn L (dl l) (pv (T.lv i) nums (ig (T.nx i) s)) (eI e) = tvx T.nx l (ig (T.nx i) s) e := fun s hs => by
      obtain ⟨e1, e2, e3⟩ := n4 s (by omega)
      by_cases h1 : 1 < T.lv i
      · obtain ⟨e4, e5⟩ := e3 h1
        simp only [pv, if_pos h1]
        obtain ⟨q1, q2⟩ := p5 (ig (T.nx i) s).toNat (by omega)
        have hll : (T.lv (ig (T.nx i) s).toNat).toNat = l := by rw [e5]; omega
        rw [hll, show (((ig (T.nx i) s).toNat : Nat) : Int) = ig (T.nx i) s by omega] at q2
        rw [hll] at q1
        exact ⟨q1, q2⟩
      · have h2 : T.lv i = 1 := by omega
        obtain rfl : l = 0 := by omega
        simp only [pv, if_neg h1]
        have := e2 h2
        exact ⟨⟨e1, by omega⟩, fun e => rfl⟩
    refine ⟨nums ++ [r], L', ?_, by simp [p2], a3, by omega, fun k hk => ?_⟩
    · simp only [plantF, p1, Option.bind_some, a1]
    · rcases Nat.lt_or_ge k i with h | h
      · rw [hgr k h]
        obtain ⟨q1, q2⟩ := p5 k h
        exact ⟨q1.grow a2, fun e => by rw [fv_grow a2 (eI_lt e) q1]; exact q2 e⟩
      · obtain rfl : k = i := by omega
        rw [hgl, hl]
        simp only [Int.toNat_natCast, dl]
        have hW : Wf sn L' (((l + 1 : Nat) : Int) :: dl l) r := by
          refine ⟨_, a5, hl, pn_len (Nat.le_refl _) (by omega), fun s hs => ?_, hzero⟩
          rw [hcell s hs]
          exact (hchild s hs).1.grow a2
        refine ⟨hW, fun e => ?_⟩
        simp only [fv, a5, tvx, Int.toNat_natCast]
        have hee : eI e ((l + 1 : Nat) : Int) = (e (l + 1)).val := by simp [eI]
        rw [hee, hcell _ (e (l + 1)).isLt, fv_grow a2 (eI_lt e) (hchild _ (e (l + 1)).isLt).1]
        exact (hchild _ (e (l + 1)).isLt).2 e
/-- the whole tree is planted -/
theorem plant_all {sn : Nat} {T : Tr} (hT : Rt T) (hst : T.st = (sn : Int)) : ∃ nums L, plantF (sn : Int) T.lv T.nx T.m [] = some (nums, L) ∧ L.Nodup ∧ L.length ≤ T.m ∧ DN sn L T.n (ig nums (T.m - 1)) (Phi T) := by
  obtain ⟨nums, L, p1, p2, p3, p4, p5⟩ := plant_ok hT hst T.m (Nat.le_refl _)
  have m1 := hT.m1
  obtain ⟨q1, q2⟩ := p5 (T.m - 1) (by omega)
  rw [hT.top, Int.toNat_natCast] at q1 q2
  exact ⟨nums, L, p1, p3, p4, q1, fun e => (q2 e).symm⟩
/-- the environment that another order gives -/
def eT {sn : Nat} (ρ : Int → Nat) (e : Env sn) : Env sn := fun x => e (ρ (x : Int))
theorem DR_of {sn N : Nat} {L : List Ndv} {os : List Int} {ρ : Int → Nat} {lam : Nat → Int} (o : Ord N os ρ lam) {n : Int} {φ : Env sn → Int} (h : DN sn L N n φ) (K : Mem) : DR sn N ρ (L, K) N n (fun e => φ (eT ρ e)) := by
  refine ⟨Nat.le_refl _, by rw [lsB_all o]; exact h.1, fun e => ?_⟩
  rw [lsB_all o]
  show φ (eT ρ e) = _
  rw [h.2]
  refine fv_congr fun x hx => ?_
  have := mem_dl.1 hx
  simp only [eI, eT, eR]
  rw [show ((x.toNat : Nat) : Int) = x by omega]
/-- the root is the last node -/
theorem visit_root {σ : Type} {sn : Nat} {el : σ → Int → Nat → Option (List Int × σ)} {l : Nat} {n r : Int} {s : σ} {S' : Wk σ} (h : visitF sn el (l + 1) n ⟨s, [], []⟩ = some (r, S')) : 1 ≤ S'.out.length ∧ r = ((S'.out.length - 1 : Nat) : Int) := by
  simp only [visitF, List.lookup, List.length_nil] at h
  rw [if_neg (by omega)] at h
  cases he : el s n (l + 1) with
  | none => rw [he] at h; cases h
  | some p =>
    obtain ⟨own, e⟩ := p
    rw [he] at h
    simp only [Option.bind_some] at h
    cases hr : rowF (visitF sn el l) (own.take sn) (⟨e, [], []⟩ : Wk σ) with
    | none => rw [hr] at h; cases h
    | some q =>
      obtain ⟨next, S2⟩ := q
      rw [hr] at h
      simp only [Option.bind_some, Option.some.injEq, Prod.mk.injEq] at h
      obtain ⟨rfl, rfl⟩ := h
      simp
theorem length_le_of_lt : ∀ (m : Nat) (l : List Nat), l.Nodup → (∀ x ∈ l, x < m) → l.length ≤ m
  | 0, l, _, h => by
    cases l with
    | nil => simp
    | cons a l => have := h a (by simp); omega
  | m + 1, l, hd, h => by
    have h1 := length_le_of_lt m (l.erase m) (hd.erase m) (fun x hx => by
      have h2 := h x (List.mem_of_mem_erase hx)
      have h3 : x ≠ m := fun e => by
        subst e
        exact (List.Nodup.not_mem_erase hd) hx
      omega)
    by_cases hm : m ∈ l
    · have := List.length_erase_of_mem hm
      omega
    · rw [List.erase_of_not_mem hm] at h1
      omega
/-- a tree of finished nodes -/
def trO (sn n : Nat) (f : Nat → P2) (out : List (Int × List Int)) : Tr := ⟨(sn : Int), n, f, out.length, lvO out, nxO out⟩
theorem rt_out {sn n : Nat} {f : Nat → P2} {out : List (Int × List Int)} {r : Int} (h1 : 2 ≤ sn) (h2 : sn ≤ 8) (hd : Hd f n) (hn : Nok sn n out) (hl1 : 1 ≤ out.length) (hl2 : out.length ≤ 4096) (hr : r = ((out.length - 1 : Nat) : Int)) (hv : Vi sn out n r) : Rt (trO sn n f out) := by
  refine ⟨by show (2 : Int) ≤ (sn : Int); omega, by show (sn : Int) ≤ 8; omega, hd, hl1, hl2, fun i hi => ?_, ?_⟩
  · obtain ⟨l, q1, q2, q3, q4⟩ := hn i hi
    refine ⟨by show 1 ≤ lvO out i; omega, by show lvO out i ≤ (n : Int); omega, by show ((nxO out i).length : Int) = (sn : Int); omega, fun s hs => ?_⟩
    have hs : s < sn := by
      have : s < (nxO out i).length := hs
      omega
    obtain ⟨v1, v2⟩ := q4 s hs
    show El (sn : Int) (lvO out) i (lvO out i) (ig (nxO out i) s)
    rw [q2]
    cases l with
    | zero => exact ⟨v1.1, fun _ => v1.2, fun h => absurd h (by simp)⟩
    | succ l =>
      obtain ⟨w1, w2, w3⟩ := v1
      exact ⟨w1, fun h => by omega, fun _ => ⟨v2 (by omega), by rw [w3]; omega⟩⟩
  · obtain ⟨n', rfl⟩ : ∃ n', n = n' + 1 := ⟨n - 1, by have := hd.1.1; omega⟩
    obtain ⟨_, _, v3⟩ := hv
    rw [hr, Int.toNat_natCast] at v3
    exact v3
theorem turn_walk {sn : Nat} {T : Tr} {nums : List Int} {L : List Ndv} {os : List Int} {ρ : Int → Nat} {lam : Nat → Int} (o : Ord T.n os ρ lam) (h9 : T.n ≤ 9) (hT : Rt T) (hst : T.st = (sn : Int)) (hL : L.Nodup) (hD : DN sn L T.n (ig nums (T.m - 1)) (Phi T)) (hl : L.length ≤ T.m) :
    ∃ r S', visitF sn (elR sn os) T.n (ig nums (T.m - 1)) ⟨(L, []), [], []⟩ = some (r, S') ∧ 1 ≤ S'.out.length ∧ r = ((S'.out.length - 1 : Nat) : Int) ∧ (S'.out.length ≤ 4096 → Nok sn T.n S'.out ∧ Vi sn S'.out T.n r ∧ ∀ e : Env sn, tvx (nxO S'.out) T.n r e = Phi T (eT ρ e)) := by
  have s1 := hT.s1
  have s2 := hT.s2
  have m2 := hT.m2
  have hd := hT.hd.1.1
  have hV : Vn (fun l => An (l - 1)) T.n ≤ 200000000 := Nat.le_trans (Vn_mono h9) Vn_nine
  obtain ⟨r, S', w1, _, _, _, w5, _, _, w8⟩ := walk_ok (A := sysR (by omega) (by omega) o (by omega)) (by omega) (by omega) T.n (Nat.le_refl _) (ig nums (T.m - 1)) _ ⟨(L, []), [], []⟩ ⟨hL, fun n R h => by simp at h⟩ (DR_of o hD []) (by
    show L.length + sn + Vn (fun l => An (l - 1)) T.n ≤ 2147483647
    omega) ⟨rfl, List.nodup_nil, by simp⟩
  obtain ⟨n', hn'⟩ : ∃ n', T.n = n' + 1 := ⟨T.n - 1, by omega⟩
  have hroot := visit_root (by rw [hn'] at w1; exact w1)
  refine ⟨r, S', w1, hroot.1, hroot.2, fun h4 => ?_⟩
  obtain ⟨o1, o2, o3⟩ := w8 h4 ⟨fun k hk => absurd hk (by simp), fun n i h => by simp at h⟩
  exact ⟨o1.1, o2, fun e => by rw [← tv_tvx]; exact o3 e⟩
end Go.Proofs.YtjekpmkghpjamaaGreatDoor
namespace Go.Proofs.YtjekpmkghpjamaaGreatDoor
open Go.RowKit
/-- the radius of the first n offsets -/
def rd (f : Nat → P2) : Nat → Int
  | 0 => 0
  | n + 1 => max (rd f n) (max (ab (f n).1) (ab (f n).2))
theorem rd_bd (f : Nat → P2) (n : Nat) (h : ∀ i, i < n → -2 ≤ (f i).1 ∧ (f i).1 ≤ 2 ∧ -2 ≤ (f i).2 ∧ (f i).2 ≤ 2) : 0 ≤ rd f n ∧ rd f n ≤ 2 := by
  induction n with
  | zero => simp [rd]
  | succ n ih =>
    have h1 := ih fun i hi => h i (by omega)
    have h2 := h n (by omega)
    unfold rd ab
    omega

theorem run_max3 {P : Program} (w : World) (ts : Array TypeId) (t : TypeId) (k : IntKind) (x y z : Int) : (Builtin.max_ ts t #[.int k x, .int k y, .int k z]).run P w = .ok (.int k (max x (max y z))) w := by
  have e : (if z > (if y > x then y else x) then z else (if y > x then y else x)) = max x (max y z) := by
    split <;> split at * <;> omega
  simp [Builtin.max_, Builtin.max2, e]
set_option maxRecDepth 100000 in
set_option maxHeartbeats 2000000 in
theorem radius_any (A : Option Addr) (n c : Nat) (f : Nat → P2) (w : World) (h : QReads w w.heap.size A n f) (hd : Hd f n) :
    Calls Tryz.prog 99 #[.slice A n c] w fun e w' => e = .returned (.int .i64 (rd f n)) ∧ Below w.heap.size w w' := by
  have RI := Lib.hid (hright_any A n c f w h hd)
  obtain ⟨⟨hn1, hn2⟩, hin, hup⟩ := hd
  have H := Lib.hid h
  have HI := Lib.hid hin
  clear h hin hup
  go_enter Tryz.func99, Tryz.ntmps99
  go_wp2_with (go_at_call 98; (with_reducible refine RI.out.mono ?_); rintro e w1 ⟨rfl, hb⟩; have B1 := Lib.hid hb; clear hb)
  go_loopw [3, 11] (fun rv iv wr => ∃ j : Nat, j ≤ n ∧ rv = .int .i64 (rd f j) ∧ iv = .int .i64 (j : Int) ∧ Below w.heap.size w wr) (fun _ iv _ => n - (intOf iv).toNat)
  case atStart => exact ⟨0, Nat.zero_le _, rfl, rfl, B1.out⟩
  case round =>
    obtain ⟨j, hj, rfl, rfl, hbel⟩ := hrel
    have R := H.out.below hbel
    have HB := Lib.hid hbel
    by_cases hjn : j < n
    · obtain ⟨g1, o1, rfl, hb1, hc1⟩ := R (by omega)
      have c1 := hc1 j hjn
      have hgw : g1 < wr.heap.size := Nat.lt_of_lt_of_le hb1 hbel.size
      have hx4 := HI.out j hjn
      have hr := rd_bd f j (fun i hi => HI.out i (by omega))
      clear hbel
      have hs : rd f (j + 1) = max (rd f j) (max (ab (f j).1) (ab (f j).2)) := rfl
      generalize f j = x at c1 hx4 hs
      obtain ⟨x1, x2⟩ := x
      obtain ⟨c10, c11⟩ := c1
      simp only at c10 c11 hx4 hs
      have S1 := Lib.hid (fun w => size_any x1 w (by omega) (by omega))
      have S2 := Lib.hid (fun w => size_any x2 w (by omega) (by omega))
      have b1 : 0 ≤ ab x1 ∧ ab x1 ≤ 2 := by unfold ab; omega
      have b2 : 0 ≤ ab x2 ∧ ab x2 ≤ 2 := by unfold ab; omega
      generalize rd f j = r at hr hs ⊢
      generalize ab x1 = s1 at S1 b1 hs
      generalize ab x2 = s2 at S2 b2 hs
      have hm : ∀ (w : World) (ts : Array TypeId) (t : TypeId), (Builtin.max_ ts t #[.int .i64 r, .int .i64 s1, .int .i64 s2]).run Tryz.prog w = .ok (.int .i64 (rd f (j + 1))) w := fun w ts t => by rw [hs]; exact run_max3 w ts t .i64 r s1 s2
      obtain ⟨r', hr'⟩ : ∃ r', r' = rd f (j + 1) := ⟨_, rfl⟩
      rw [← hr'] at hm
      have HR' := Lib.hid hr'
      clear hr'
      have B7 := Lib.hid (HB.out.alloc HB.out.size (.cells #[.int .i64 x1, .int .i64 x2] 140))
      clear hc1 R hx4 hs
      go_wp2_with fail
      go_quiet (first | (go_at_call 125; exact Calls.quiet_of_same ((S1.out _).mono fun _ _ h => ⟨h.1, h.2.symm⟩)) | (go_at_call 125; exact Calls.quiet_of_same ((S2.out _).mono fun _ _ h => ⟨h.1, h.2.symm⟩)))
      all_goals go_wp2
      all_goals go_roundw
      case rel => exact ⟨j + 1, by omega, by rw [HR'.out], by go_num, below_drewN B7.out _⟩
      case measure => simp [intOf]; omega
    · obtain rfl : j = n := by omega
      clear R hbel
      go_wp2
      go_ret
      exact ⟨rfl, HB.out⟩

set_option maxRecDepth 100000 in
set_option maxHeartbeats 2000000 in
theorem pindex_any (A : Option Addr) (n c : Nat) (f : Nat → P2) (u v : Int) (w : World) (h : QReads w w.heap.size A n f) (hn : n ≤ 1000) :
    Calls Tryz.prog 100 #[.slice A n c, .agg #[.int .i64 u, .int .i64 v]] w fun e w' => e = .returned (.int .i64 (px f n (u, v))) ∧ Below w.heap.size w w' := by
  have H := Lib.hid h
  have K0 := Lib.hid (Blk.new w 140 #[.int .i64 u, .int .i64 v])
  have B0 := Lib.hid ((Below.refl w.heap.size w).alloc (Nat.le_refl _) (.cells #[.int .i64 u, .int .i64 v] 140))
  clear h
  go_enter Tryz.func100, Tryz.ntmps100
  go_wp2_with fail
  generalize w.alloc (.cells #[.int .i64 u, .int .i64 v] 140) = w0 at K0 B0 ⊢
  go_wp2
  go_loopw [8] (fun iv wr => ∃ j : Nat, j ≤ n ∧ iv = .int .i64 (j : Int) ∧ (∀ i, i < j → f i ≠ (u, v)) ∧ Below w0.heap.size w0 wr) (fun iv _ => n - (intOf iv).toNat)
  case atStart => exact ⟨0, Nat.zero_le _, rfl, fun i hi => absurd hi (by omega), Below.refl _ _⟩
  case round =>
    obtain ⟨j, hj, rfl, hno, hbel⟩ := hrel
    have HB := Lib.hid (B0.out.trans (hbel.mono B0.out.size))
    have HX := Lib.hid hbel
    have HN := Lib.hid hno
    obtain ⟨k0, k1, k2, k3, k4⟩ := (K0.out.below hbel K0.out.lt).two
    clear hno hbel
    by_cases hjn : j < n
    · obtain ⟨g1, o1, rfl, hb1, hc1⟩ := H.out.below HB.out (by omega)
      obtain ⟨c0, c1⟩ := hc1 j hjn
      clear hc1
      obtain ⟨⟨x, y⟩, hx⟩ : ∃ x, x = f j := ⟨_, rfl⟩
      rw [← hx] at c0 c1
      simp only at c0 c1
      by_cases he : (x, y) = (u, v)
      · have HF := Lib.hid (show px f n (u, v) = (j : Int) from fx_some hjn (fun i hi => decide_eq_false (HN.out i hi)) (decide_eq_true (by rw [← hx]; exact he)))
        obtain ⟨rfl, rfl⟩ : x = u ∧ y = v := by injection he with h1 h2; exact ⟨h1, h2⟩
        clear hx he
        go_wp2_with fail
        go_quiet (fail)
        go_wp2
        go_ret
        exact ⟨ret_int HF.out.symm, below_drewN HB.out _⟩
      · have HS := Lib.hid (show ∀ i, i < j + 1 → f i ≠ (u, v) from fun i hi => by
          by_cases e : i < j
          · exact HN.out i e
          · obtain rfl : i = j := by omega
            rw [← hx]; exact he)
        clear hx
        by_cases e1 : u = x
        · subst e1
          have e2 : (v == y) = false := by rw [beq_eq_false_iff_ne]; intro e; exact he (by rw [e])
          clear he
          go_wp2_with fail
          go_quiet (fail)
          go_wp2
          go_roundw
          case rel => exact ⟨j + 1, by omega, by go_num, HS.out, below_drewN HX.out _⟩
          case measure => simp [intOf]; omega
        · have e1 : (u == x) = false := by rw [beq_eq_false_iff_ne]; intro e; exact e1 (by rw [e])
          clear he
          go_wp2_with fail
          go_quiet (fail)
          go_wp2
          go_roundw
          case rel => exact ⟨j + 1, by omega, by go_num, HS.out, below_drewN HX.out _⟩
          case measure => simp [intOf]; omega
    · obtain rfl : j = n := by omega
      have HF := Lib.hid (show px f j (u, v) = -1 from fx_none fun i hi => decide_eq_false (HN.out i hi))
      go_wp2
      go_ret
      exact ⟨ret_int HF.out.symm, HB.out⟩
end Go.Proofs.YtjekpmkghpjamaaGreatDoor
namespace Go.Proofs.YtjekpmkghpjamaaGreatDoor
open Go.RowKit
/-- the elements of a moved node -/
def mx (l : Int) (X : List Int) : List Int := X.map fun k => if 1 < l then k + 1 else k
/-- its levels -/
def lu (lv : Nat → Int) : Nat → Int
  | 0 => 1
  | k + 1 => lv k
/-- its elements -/
def xu (S : Nat) (lv : Nat → Int) (nx : Nat → List Int) : Nat → List Int
  | 0 => List.replicate S 0
  | k + 1 => mx (lv k) (nx k)
/-- the tree with a node in front -/
def up (T : Tr) : Tr := ⟨T.st, T.n, T.f, T.m + 1, lu T.lv, xu T.st.toNat T.lv T.nx⟩
end Go.Proofs.YtjekpmkghpjamaaGreatDoor
